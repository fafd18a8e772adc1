import Derived.Test.YtbhccdedcoajmaaGreatDoorPEndAM
import Derived.Deep.DeepCutAuto
import Derived.Deep.CutBlock
namespace Go.Proofs.YtbhccdedcoajmaaGreatDoor
open Go.RowKit

set_option maxRecDepth 10000 in
set_option maxHeartbeats 1000000 in
theorem rRead_any (s : ByteArray) (w : World) (hs : s.size ≤ 70000) :
    Calls Tryz.prog 44 #[.string s] w fun e w' => ∃ v, e = .returned v ∧ RReadT w s v w' := by
  obtain ⟨i0, hi, z0, z1, z2⟩ := info_parts Tryz.info115
  obtain ⟨j0, hj0, v0, v1, v2⟩ := info_parts Tryz.info117
  obtain ⟨o1, ho1⟩ : ∃ o, o = Obj.cells #[.int .i64 0, .slice none 0 0, .slice none 0 0] 110 := ⟨_, rfl⟩
  obtain ⟨o2, ho2⟩ : ∃ o, o = Obj.cells #[.string s, .int .i64 0, .bool true] 158 := ⟨_, rfl⟩
  have hB0 : Below w.heap.size w ((w.alloc o1).alloc o2) := ((Below.refl _ _).alloc (Nat.le_refl _) _).alloc (by simp) _
  have hR0 : Rd ((w.alloc o1).alloc o2) (w.heap.size + 1) s 0 true := by
    have := heap_alloc_new (w.alloc o1) o2
    rw [show (w.alloc o1).heap.size = w.heap.size + 1 by simp] at this
    unfold Rd
    rw [this, ho2]
    rfl
  have hz0 : ((w.alloc o1).alloc o2).heap.size = w.heap.size + 2 := by simp
  have hres : ((w.alloc o1).alloc o2).heap[w.heap.size]? = some (.cells #[.int .i64 0, .slice none 0 0, .slice none 0 0] 110 (0, 0)) := by
    rw [(((Below.refl (w.alloc o1).heap.size (w.alloc o1)).alloc (Nat.le_refl _) o2).block _ (by simp)), heap_alloc_new, ho1]
  have HTX := hide (text_any (w.heap.size + 1) 0 3 s true ((w.alloc o1).alloc o2) hs (Nat.zero_le _) hR0)
  have HRES : Hid (∀ W, ((w.alloc o1).alloc o2).grownBy W (some (w.heap.size + 1)) → W.heap[w.heap.size]? = some (.cells #[.int .i64 0, .slice none 0 0, .slice none 0 0] 110 (0, 0)) ∧ Below w.heap.size w W ∧ w.heap.size + 2 ≤ W.heap.size) := by
    intro W hW
    exact ⟨(hW.block _ (by omega) (by simp)).trans hres, hB0.grown hW (by omega) (fun k hk => by simp at hk; omega), by have := hW.size; omega⟩
  rw [ho1, ho2] at HTX HRES
  clear hB0 hR0 hz0 ho1 ho2 hres
  go_enter Tryz.func44, Tryz.ntmps44
  go_wp2_with fail
  refine HTX.out.mono ?_
  rintro e w1 ⟨t, p1, ok1, rfl, hR1, hS1, hv1, _, hg1⟩
  have HR1 := hide hR1
  have HS1 := hide hS1
  have HV1 := hide hv1
  have HG1 := hide hg1
  have hp1 := hS1.le (Nat.zero_le _)
  clear hR1 hS1 hv1 hg1 HTX
  go_wp2_with fail
  refine (must_any (w.heap.size + 1) p1 s ok1 _ w1 HR1.out).mono ?_
  rintro e w2 ⟨rfl, hR2, hg2⟩
  generalize hok2 : (ok1 && _) = ok2 at hR2
  have HOK2 : Hid ((ok2 = true → ok1 = true ∧ t = ⟨#[66, 65, 84]⟩) ∧ (ok2 = false → ok1 = false ∨ t ≠ ⟨#[66, 65, 84]⟩)) := by
    refine ⟨fun h => ?_, fun h => ?_⟩
    · rw [h, Bool.and_eq_true] at hok2
      refine ⟨hok2.1, ?_⟩
      have := hok2.2
      rw [Lib.toList_data, beq_iff_eq] at this
      exact nums_inj (by unfold nums; rw [this])
    · rw [h, Bool.and_eq_false_iff] at hok2
      refine hok2.imp id fun h e => ?_
      subst e
      rw [Lib.toList_data] at h
      simp at h
  obtain ⟨hres2, hb2, hz2⟩ := HRES.out w2 (HG1.out.trans hg2)
  obtain ⟨g, hg⟩ : ∃ g, g = w2.heap.size := ⟨_, rfl⟩
  have hSt : RSt w (w2.alloc (.cells #[.int .i64 0, .slice none 0 0, .slice none 0 0] 110)) g s p1 ok2 0 (.slice none 0 0) (.slice none 0 0) := by
    have hba : Below w2.heap.size w2 (w2.alloc (.cells #[.int .i64 0, .slice none 0 0, .slice none 0 0] 110)) := (Below.refl _ _).alloc (Nat.le_refl _) _
    refine ⟨below_all hb2 hba, by omega, (hba.block _ (by omega)).trans hres2, (hba.block _ (by omega)).trans hR2, ?_⟩
    rw [hg]; exact heap_alloc_new _ _
  have HST := hide hSt
  have HNU := hide (number_any (w.heap.size + 1) p1 1 s ok2 _ hs hp1 (by omega) hSt.rd)
  clear hok2 hR2 hg2 hres2 hb2 HRES HG1 HR1
  go_wp2_with fail
  rw [← hg]
  refine HNU.out.mono ?_
  rintro e w3 ⟨n, p3, ok3, rfl, hR3, hS3, hv3, hd0, hd1, hg3⟩
  obtain ⟨n, rfl⟩ : ∃ m : Nat, n = m := ⟨n.toNat, by omega⟩
  have hn : n < 256 := by omega
  have HSa := hide (HST.out.read hg3 hR3)
  have HS3 := hide hS3
  have HV3 := hide hv3
  have hp3 := hS3.le hp1
  have hrd := HSa.out.rd
  clear hR3 hS3 hv3 hd0 hd1 hg3 HNU HST hSt hg hz2
  have HMU := hide (fun b => must_any (w.heap.size + 1) p3 s ok3 b w3 hrd)
  clear hrd
  go_upto_region 6 with fail
  go_cut [7] (fun v7 wc => v7 = .int .u64 (n : Int) ∧ ∃ ok5, Hid (RSt w wc g s p3 ok5 0 (.slice none 0 0) (.slice none 0 0)) ∧ Hid ((ok5 = true → HeadOk s n ∧ p3 = 4) ∧ (ok5 = false → readL (nums s) = none)))
  case first =>
    by_cases hn1 : 1 ≤ n
    all_goals
      go_wp2_with fail
      refine (HMU.out _).mono ?_
      rintro e w5 ⟨rfl, hR5, hg5⟩
      obtain ⟨ok5, h5, h5y, h5n⟩ : ∃ ok5, Rd w5 (w.heap.size + 1) s p3 ok5 ∧ (ok5 = true → ok3 = true ∧ 1 ≤ n ∧ n ≤ 64) ∧ (ok5 = false → ok3 = false ∨ ¬ (1 ≤ n ∧ n ≤ 64)) := by
        refine ⟨_, hR5, fun h => ?_, fun h => ?_⟩
        · first
          | (simp at h; exact ⟨h.1, hn1, by omega⟩)
          | (simp at h; done)
        · cases ok3 with
          | false => exact .inl rfl
          | true =>
            right
            simp at h
            omega
      have HSb := hide (HSa.out.read hg5 h5)
      have HHD : Hid ((ok5 = true → HeadOk s n ∧ p3 = 4) ∧ (ok5 = false → readL (nums s) = none)) := head_sem HS1.out HV1.out HOK2.out HS3.out HV3.out h5y h5n
      clear hR5 hg5 h5 h5y h5n HMU HSa
      go_wp2_with fail
      go_meet
      exact ⟨rfl, ok5, HSb.out, HHD.out⟩
  case rest =>
    clear HSa HMU HOK2 HS1 HV1 HS3 HV3
    obtain ⟨rfl, ok5, HSb, HHD⟩ := hcut
    obtain ⟨x1, x2, x0, xf⟩ := HSb.out.c1
    have HSc := hide (HSb.out.set 0 (.int .i64 n) rfl)
    have HNU := hide (number_any (w.heap.size + 1) p3 1 s ok5 _ hs hp3 (by omega) HSc.out.rd)
    go_wp2_with fail
    refine HNU.out.mono ?_
    rintro e w6 ⟨m, p6, ok6, rfl, hR6, hS6, hv6, hd0, hd1, hg6⟩
    obtain ⟨m, rfl⟩ : ∃ k : Nat, m = k := ⟨m.toNat, by omega⟩
    have hm : m < 256 := by omega
    have HSd := hide (HSc.out.read hg6 hR6)
    have HS6 := hide hS6
    have HV6 := hide hv6
    have hp6 := hS6.le hp3
    clear hR6 hS6 hv6 hd0 hd1 hg6 HNU HSc HSb x0 x1 x2 xf
    go_wp2_with fail
    refine (must_any (w.heap.size + 1) p6 s ok6 _ w6 HSd.out.rd).mono ?_
    rintro e w7 ⟨rfl, hR7, hg7⟩
    have e7 : (ok6 && decide ((m : Int) ≤ 8)) = (ok6 && decide (m ≤ 8)) := by congr 1; simp; omega
    have h7 : Rd w7 (w.heap.size + 1) s p6 (ok6 && decide (m ≤ 8)) := by rw [← e7]; exact hR7
    have HSe := hide (HSd.out.read hg7 h7)
    have HFS := hide (files_sem hp3 HS6.out HV6.out)
    clear hR7 hg7 h7 HSd e7
    obtain ⟨all, hall⟩ : ∃ all, all = ((filesP ((nums s).drop p3)).bind fun q => basisP q.1 false [] q.2) := ⟨_, rfl⟩
    have HALL := hide hall
    have HST1 : Hid (((ok6 && decide (m ≤ 8)) = true → ok5 = true ∧ all = (basisP m false [] ((nums s).drop p6)).map fun q => ([] ++ q.1, q.2)) ∧ ((ok6 && decide (m ≤ 8)) = false → ok5 = false ∨ all = none)) := by
      refine ⟨fun h => ⟨(HFS.out.1 h).1, ?_⟩, fun h => (HFS.out.2 h).imp id fun e => by rw [hall, e]; rfl⟩
      rw [hall, (HFS.out.1 h).2]
      simp
    clear hall HFS
    generalize (ok6 && decide (m ≤ 8)) = ok7 at *
    go_upto_block 0 with fail
    go_cut [9, 10] (fun v9 _ wc => ∃ (q : Nat) (okr : Bool) (es : List (ByteArray × Nat × Int)) (last : ByteArray) (bv : Value), v9 = .string last ∧ q ≤ s.size ∧ es.length ≤ 255 ∧ Hid (RSt w wc g s q okr n bv (.slice none 0 0)) ∧ Hid (wc.ownsRow (g + 1) 115 3 bv es.length (entCells es)) ∧ Hid ((okr = true → HeadOk s n ∧ es.length ≤ 8 ∧ ((filesP ((nums s).drop 4)).bind fun q => basisP q.1 false [] q.2) = some (es.map entV, (nums s).drop q)) ∧ (okr = false → readL (nums s) = none)))
    case first =>
      go_wp2_with fail
      go_loopw [9, 10] (fun v9 v10 wr => ∃ (k q : Nat) (okr : Bool) (es : List (ByteArray × Nat × Int)) (last : ByteArray) (bv : Value), k ≤ m ∧ v10 = .int .u64 k ∧ v9 = .string last ∧ Hid (es.length = k) ∧ Hid (q ≤ s.size) ∧ Hid (k = 0 → nums last = []) ∧ Hid (RSt w wr g s q okr n bv (.slice none 0 0)) ∧ Hid (wr.ownsRow (g + 1) 115 3 bv k (entCells es)) ∧
        Hid ((okr = true → ok5 = true ∧ all = (basisP (m - k) false (nums last) ((nums s).drop q)).map fun q => (es.map entV ++ q.1, q.2)) ∧ (okr = false → ok5 = false ∨ all = none))) (fun _ v10 _ => m - (intOf v10).toNat)
      case atStart => exact ⟨0, p6, _, [], ⟨#[]⟩, .slice none 0 0, Nat.zero_le _, rfl, rfl, rfl, hp6, (fun _ => nums_empty), HSe.out, World.ownsRow_nil _ _ _ _, HST1.out⟩
      case round =>
        clear HSe HST1
        obtain ⟨k, q, okr, es, last, bv, hk, rfl, rfl, HEL, HQ, HLA, HSr, HOr, HEr⟩ := hrel
        have c2 := HSr.out.rd.c2
        by_cases hgo : k < m ∧ okr = true
        · obtain ⟨hlt, rfl⟩ := hgo
          have HEN := hide (fun b => rentry_any (w.heap.size + 1) q s last b true wr hs HQ.out HSr.out.rd)
          go_wp2_with fail
          refine (HEN.out _).mono ?_
          rintro e w8 ⟨nm, sz, dg, q2, ok2, rfl, hR8, hq2, hnm, hz0', hz1', hdg0, hdg1, hyes, hno, hg8⟩
          have hfl : ∀ l, entryP ((k : Int) == 0) (nums last) l = entryP false (nums last) l := by
            intro l
            by_cases h0 : k = 0
            · subst h0
              rw [HLA.out rfl]
              exact entry_first [] l
            · rw [show ((k : Int) == 0) = false by simp; omega]
          obtain ⟨z, rfl⟩ : ∃ z : Nat, sz = z := ⟨sz.toNat, by omega⟩
          have HS8 := hide (HSr.out.read hg8 hR8)
          have hlo := HS8.out.lo
          have hg8l := HS8.out.lt
          have HO8 := hide (row_kept HOr.out hg8 (by omega))
          have HQ2 := hide hq2
          have HE8 : Hid ((ok2 = true → ok5 = true ∧ all = (basisP (m - (k + 1)) false (nums nm) ((nums s).drop q2)).map fun q => ((es ++ [(nm, z, dg)]).map entV ++ q.1, q.2)) ∧ (ok2 = false → ok5 = false ∨ all = none)) := by
            have h3 := HEr.out.1 (by first | rfl | trivial)
            refine ⟨fun h => ⟨h3.1, ?_⟩, fun h => ?_⟩
            · have h2 := (hyes h).2
              rw [hfl] at h2
              rw [h3.2, show m - k = (m - (k + 1)) + 1 by omega, basis_step, h2]
              simp only [Option.bind_some, Option.map_map]
              congr 1
              funext q
              simp [entV]
            · have h2 := (hno h).resolve_left (by simp)
              rw [hfl] at h2
              right
              rw [h3.2, show m - k = (m - (k + 1)) + 1 by omega, basis_step, h2]; rfl
          obtain ⟨x1, x2, x0, xf⟩ := HS8.out.c1
          have HEL1 := hide HEL.out
          have HE9 := hide HE8.out
          have hgne : g ≠ w8.heap.size := by omega
          clear hR8 hq2 hg8 hyes hno HEN hfl hz0' c2 x2 x0
          go_wp2_with (at_builtin; refine wpList_append_own_at _ rfl (.tmp 66) (.tmp 68) 107 rfl (g + 1) 115 i0 (.agg #[.string ⟨#[]⟩, .int .i64 0, .int .u64 0]) 3 32 Tryz.underlying107 hi z0 z1 z2 rfl (by decide) _ k (entCells es) rfl ((HO8.out.alloc _).alloc _) ⟨w8.heap.size + 1, 0, none⟩ 1 1 [.string nm, .int .i64 z, .int .u64 dg] rfl rfl ?ka ?kb ?kc ?kd ?ke ?kf)
          case ka =>
            intro j y hy
            match j, hy with
            | 0, hy => simp at hy; subst hy; simp [Addr.add]
            | 1, hy => simp at hy; subst hy; simp [Addr.add]
            | 2, hy => simp at hy; subst hy; simp [Addr.add]
          case kb => intro y hy; simp at hy; rcases hy with rfl | rfl | rfl <;> rfl
          case kc => unfold maxLen; omega
          case kd => omega
          case ke => simp; omega
          case kf =>
            intro v9 w9 hown9 hgrow9 _ _
            obtain ⟨va, vn, vc, rfl⟩ := row_slice hown9
            have hgg := ((World.grownBy_alloc w8 (.cells #[.string nm, .int .i64 z, .int .u64 dg] 115) bv.ownBlock).trans (World.grownBy_alloc _ _ _)).trans hgrow9
            have HS9 := hide (HS8.out.grow hgg (fun j hj => (HO8.out.lt j hj).1))
            obtain ⟨y1, y2, y0, yf⟩ := HS9.out.c1
            have k0 : w9.cell? ⟨w8.heap.size, 0, none⟩ = some (.string nm) := by
              refine hgrow9.cell ?_ (fun e => ?_)
              · rw [World.cell?_alloc_lt _ _ _ (by simp)]; exact cell_new rfl rfl
              · have := (HO8.out.lt _ e.symm).2; simp at this
            have HSX := hide (HS9.out.set 1 (.slice va vn vc) rfl)
            have HOX : Hid ((w9.setCell ⟨g, 1, none⟩ (.slice va vn vc)).ownsRow (g + 1) 115 3 (.slice va vn vc) (k + 1) (entCells (es ++ [(nm, z, dg)]))) := by
              rw [entCells_snoc]
              exact row_kept hown9 (setCell_grown _) (by omega)
            have HEL3 : Hid ((es ++ [(nm, z, dg)]).length = k + 1) := by show _ = _; simp [HEL1.out]
            clear hown9 hgrow9 hgg y2 y0 x1 xf HE8 HEr HOr HSr HLA HEL hlo
            have hgne' : w8.heap.size ≠ g := Ne.symm hgne
            clear hg8l
            go_wp2_with fail
            go_roundw
            case rel => exact ⟨k + 1, q2, ok2, _, nm, .slice va vn vc, by omega, by go_num, rfl, HEL3.out, HQ2.out, (fun h => by omega), HSX.out, HOX.out, HE9.out⟩
            case measure => simp [intOf]; omega
        · have HEX : Hid ((okr = true → HeadOk s n ∧ es.length ≤ 8 ∧ ((filesP ((nums s).drop 4)).bind fun q => basisP q.1 false [] q.2) = some (es.map entV, (nums s).drop q)) ∧ (okr = false → readL (nums s) = none)) := by
            refine ⟨fun h => ?_, fun h => ?_⟩
            · obtain rfl : k = m := by
                have : ¬ k < m := fun h' => hgo ⟨h', h⟩
                omega
              obtain ⟨h5, h6⟩ := HEr.out.1 h
              obtain ⟨h7, h8⟩ := HHD.out.1 h5
              rw [HALL.out, h8, Nat.sub_self] at h6
              have h9 : ((filesP ((nums s).drop 4)).bind fun q => basisP q.1 false [] q.2) = some (es.map entV, (nums s).drop q) := by rw [h6]; simp [basisP]
              exact ⟨h7, by simpa using files_basis_len h9, h9⟩
            · rcases HEr.out.2 h with h5 | h5
              · exact HHD.out.2 h5
              · cases ok5 with
                | false => exact HHD.out.2 rfl
                | true =>
                  obtain ⟨h7, h8⟩ := HHD.out.1 rfl
                  rw [HALL.out, h8] at h5
                  exact read_no_basis h5
          have hel : es.length ≤ 255 := by have := HEL.out; omega
          have HOE : Hid (wr.ownsRow (g + 1) 115 3 bv es.length (entCells es)) := by rw [HEL.out]; exact HOr.out
          rcases Nat.lt_or_ge k m with hlt | hge
          · have hokf : okr = false := by
              cases okr with
              | false => rfl
              | true => exact absurd ⟨hlt, rfl⟩ hgo
            rw [hokf] at c2
            clear hgo HEr HLA hokf
            go_wp2_with fail
            go_meet
            exact ⟨q, _, es, last, bv, rfl, HQ.out, hel, HSr.out, HOE.out, HEX.out⟩
          · clear hgo HEr HLA
            go_wp2_with fail
            go_meet
            exact ⟨q, _, es, last, bv, rfl, HQ.out, hel, HSr.out, HOE.out, HEX.out⟩
    case rest =>
      clear HSe HST1 HALL HHD
      obtain ⟨q, okb, es, lastb, bv, rfl, hqb, hel, HSf, HOf, HXf⟩ := hcut
      have hlo := HSf.out.lo
      have HNU := hide (number_any (w.heap.size + 1) q 1 s okb wc hs hqb (by omega) HSf.out.rd)
      go_wp2_with fail
      refine HNU.out.mono ?_
      rintro e w10 ⟨mt, p10, ok10, rfl, hR10, hS10, hv10, hd0, hd1, hg10⟩
      obtain ⟨mt, rfl⟩ : ∃ k : Nat, mt = k := ⟨mt.toNat, by omega⟩
      have hmt : mt < 256 := by omega
      have HSg := hide (HSf.out.read hg10 hR10)
      have HOg := hide (row_kept HOf.out hg10 (by omega))
      have HS10 := hide hS10
      have HV10 := hide hv10
      have hp10 := hS10.le hqb
      clear hR10 hS10 hv10 hd0 hd1 hg10 HNU HSf HOf
      go_wp2_with fail
      refine (must_any (w.heap.size + 1) p10 s ok10 _ w10 HSg.out.rd).mono ?_
      rintro e w11 ⟨rfl, hR11, hg11⟩
      have e11 : (ok10 && decide ((mt : Int) ≤ 8)) = (ok10 && decide (mt ≤ 8)) := by congr 1; simp; omega
      have h11 : Rd w11 (w.heap.size + 1) s p10 (ok10 && decide (mt ≤ 8)) := by rw [← e11]; exact hR11
      have HSh := hide (HSg.out.read hg11 h11)
      have HOh := hide (row_kept HOg.out hg11 (by omega))
      have HFS := hide (files_sem hqb HS10.out HV10.out)
      clear hR11 hg11 h11 HSg HOg e11 HS10 HV10
      obtain ⟨all, hall⟩ : ∃ all, all = ((filesP ((nums s).drop q)).bind fun q => targetsP (es.map entV) n q.1 false [] q.2) := ⟨_, rfl⟩
      have HALL := hide hall
      have HST2 : Hid (((ok10 && decide (mt ≤ 8)) = true → okb = true ∧ all = (targetsP (es.map entV) n mt false [] ((nums s).drop p10)).map fun q => ([] ++ q.1, q.2)) ∧ ((ok10 && decide (mt ≤ 8)) = false → okb = false ∨ all = none)) := by
        refine ⟨fun h => ⟨(HFS.out.1 h).1, ?_⟩, fun h => (HFS.out.2 h).imp id fun e => by rw [hall, e]; rfl⟩
        rw [hall, (HFS.out.1 h).2]
        simp
      clear hall HFS
      generalize (ok10 && decide (mt ≤ 8)) = ok11 at *
      obtain ⟨h0, hh0⟩ : ∃ h0, h0 = w11.heap.size := ⟨_, rfl⟩
      have HBK : Hid (∀ k, bv.ownBlock = some k → k < h0) := fun k hk => by rw [hh0]; exact (HOh.out.lt k hk).2
      have hgh : g < h0 := by rw [hh0]; exact HSh.out.lt
      have HFAC : Hid (okb = true → (∀ e ∈ es, e.2.1 ≤ 300) ∧ 1 ≤ n ∧ n ≤ 64) := by
        intro hok
        obtain ⟨hh, _, hb⟩ := HXf.out.1 hok
        simp only [Option.bind_eq_some_iff] at hb
        obtain ⟨u, _, hb⟩ := hb
        have h2 := basis_facts _ _ _ _ _ hb
        refine ⟨fun e he => ?_, hh.2.2.2.1, hh.2.2.2.2⟩
        have := (h2.1 (entV e) (List.mem_map_of_mem he)).1
        have e1 : (entV e).size = ((e.2.1 : Nat) : Int) := rfl
        rw [e1] at this
        omega
      obtain ⟨ea, ec, rfl, hec, _⟩ := El_of_row HOh.out
      have HH0 : Hid (h0 ≤ w11.heap.size) := by show _ ≤ _; omega
      clear hh0
      go_upto_block 2 with fail
      go_cut [9, 12] (fun _ _ wc => ∃ (q2 : Nat) (okr : Bool) (xs : List Tg) (tv : Value), q2 ≤ s.size ∧ Hid (RSt w wc g s q2 okr n (.slice ea es.length ec) tv) ∧ Hid (wc.ownsRow (g + 1) 115 3 (.slice ea es.length ec) es.length (entCells es)) ∧ Hid (wc.ownsRow h0 117 4 tv xs.length (tgCells xs)) ∧ Hid (∀ x ∈ xs, RTg wc h0 x) ∧ Hid ((okr = true → HeadOk s n ∧ es.length ≤ 8 ∧ ((filesP ((nums s).drop 4)).bind fun q => basisP q.1 false [] q.2) = some (es.map entV, (nums s).drop q) ∧ xs.length ≤ 8 ∧ ((filesP ((nums s).drop q)).bind fun q => targetsP (es.map entV) n q.1 false [] q.2) = some (xs.map tgV, (nums s).drop q2)) ∧ (okr = false → readL (nums s) = none)))
      case first =>
        go_wp2_with fail
        go_loopw [9, 12] (fun v9 v12 wr => ∃ (k q2 : Nat) (okr : Bool) (xs : List Tg) (last : ByteArray) (lst : List Int) (tv : Value), k ≤ mt ∧ v12 = .int .u64 k ∧ v9 = .string last ∧ Hid (xs.length = k) ∧ Hid (q2 ≤ s.size) ∧ Hid ((k = 0 → lst = []) ∧ (0 < k → lst = nums last)) ∧ Hid (RSt w wr g s q2 okr n (.slice ea es.length ec) tv) ∧ Hid (wr.ownsRow (g + 1) 115 3 (.slice ea es.length ec) es.length (entCells es)) ∧ Hid (wr.ownsRow h0 117 4 tv k (tgCells xs)) ∧ Hid (h0 ≤ wr.heap.size ∧ (∀ x ∈ xs, RTg wr h0 x) ∧ ∀ x ∈ xs, ∀ k, tv.ownBlock = some k → k < x.lo ∨ x.hi ≤ k) ∧
          Hid ((okr = true → okb = true ∧ all = (targetsP (es.map entV) n (mt - k) false lst ((nums s).drop q2)).map fun q => (xs.map tgV ++ q.1, q.2)) ∧ (okr = false → okb = false ∨ all = none))) (fun _ v12 _ => mt - (intOf v12).toNat)
        case atStart => exact ⟨0, p10, _, [], lastb, [], .slice none 0 0, Nat.zero_le _, rfl, rfl, rfl, hp10, ⟨fun _ => rfl, fun h => by omega⟩, HSh.out, HOh.out, World.ownsRow_nil _ _ _ _, ⟨HH0.out, fun x hx => by simp at hx, fun x hx => by simp at hx⟩, HST2.out⟩
        case round =>
          clear HSh HST2 HOh HH0
          obtain ⟨k, q2, okr, xs, last, lst, tv, hk, rfl, rfl, HXL, HQ, HLA, HSr, HOr, HTr, HXr, HEr⟩ := hrel
          have c2 := HSr.out.rd.c2
          by_cases hgo : k < mt ∧ okr = true
          · obtain ⟨hlt, rfl⟩ := hgo
            have HEN := hide (fun b => rentry_any (w.heap.size + 1) q2 s last b true wr hs HQ.out HSr.out.rd)
            go_wp2_with fail
            refine (HEN.out _).mono ?_
            rintro e w20 ⟨nm, sz, dg, q3, ok3, rfl, hR20, hq3, hnm, hz0', hz1', hdg0, hdg1, hyes, hno, hg20⟩
            have hfl : ∀ l, entryP ((k : Int) == 0) (nums last) l = entryP false lst l := by
              intro l
              by_cases h0 : k = 0
              · subst h0
                rw [HLA.out.1 rfl]
                exact entry_first _ l
              · rw [HLA.out.2 (by omega), show ((k : Int) == 0) = false by simp; omega]
            obtain ⟨z, rfl⟩ : ∃ z : Nat, sz = z := ⟨sz.toNat, by omega⟩
            have HENT : Hid ((ok3 = true → entryP false lst ((nums s).drop q2) = some (⟨nums nm, z, dg⟩, (nums s).drop q3)) ∧ (ok3 = false → entryP false lst ((nums s).drop q2) = none)) := by
              refine ⟨fun h => ?_, fun h => ?_⟩
              · have := (hyes h).2
                rwa [hfl] at this
              · have := (hno h).resolve_left (by simp)
                rwa [hfl] at this
            have HS20 := hide (HSr.out.read hg20 hR20)
            have HO20 := hide (row_kept HOr.out hg20 (by omega))
            have HT20 := hide (row_kept HTr.out hg20 (by omega))
            have HX20 : Hid (h0 ≤ w20.heap.size ∧ ∀ x ∈ xs, RTg w20 h0 x) := ⟨Nat.le_trans HXr.out.1 hg20.size, fun x hx => (HXr.out.2.1 x hx).grown hg20 (fun k hk => by simp at hk; have := (HXr.out.2.1 x hx).low; omega)⟩
            have HTL : Hid (∀ j, tv.ownBlock = some j → h0 ≤ j ∧ j < w20.heap.size) := fun j hj => HT20.out.lt j hj
            have HXA : Hid (∀ x ∈ xs, ∀ k, tv.ownBlock = some k → k < x.lo ∨ x.hi ≤ k) := HXr.out.2.2
            have HQ3 := hide hq3
            have HE2 : Hid (okb = true ∧ all = (targetsP (es.map entV) n (mt - k) false lst ((nums s).drop q2)).map fun q => (xs.map tgV ++ q.1, q.2)) := HEr.out.1 (by first | rfl | trivial)
            clear hR20 hq3 hyes hno hg20 HEN hfl c2 HSr HOr HTr HXr HEr HLA HQ
            obtain ⟨o, ho⟩ : ∃ o, o = Obj.cells #[.string nm, .int .i64 z, .int .u64 dg] 115 := ⟨_, rfl⟩
            have hx0 : (w20.alloc o).cell? ⟨w20.heap.size, 0, none⟩ = some (.string nm) := by rw [ho]; exact cell_new rfl rfl
            have hx1 : (w20.alloc o).cell? ⟨w20.heap.size, 1, none⟩ = some (.int .i64 z) := by rw [ho]; exact cell_new rfl rfl
            have hx2 : (w20.alloc o).cell? ⟨w20.heap.size, 2, none⟩ = some (.int .u64 dg) := by rw [ho]; exact cell_new rfl rfl
            have HA : Hid (Below w20.heap.size w20 (w20.alloc o)) := (Below.refl _ _).alloc (Nat.le_refl _) _
            have hcg : (w20.alloc o).cell? ⟨g, 1, none⟩ = some (.slice ea es.length ec) := (HA.out.cell (p := ⟨g, 1, none⟩) HS20.out.lt).trans HS20.out.c1.1
            rw [ho] at hx0 hx1 hx2 HA hcg
            clear ho
            go_wp2_with fail
            generalize hWA : w20.alloc (.cells #[.string nm, .int .i64 z, .int .u64 dg] 115) = wa at *
            clear hWA
            have hxb : w20.heap.size < wa.heap.size := World.block_lt_of_cell? wa _ hx0
            have hgb : g < wa.heap.size := World.block_lt_of_cell? wa _ hcg
            have HC0 := hide hx0
            have HC1 := hide hx1
            have HC2 := hide hx2
            have HCG := hide hcg
            clear hx0 hx1 hx2 hcg
            go_loopw [14, 15] (fun v14 v15 wi => ∃ j : Nat, j ≤ es.length ∧ v15 = .int .i64 j ∧ v14 = .int .i64 (sizeN (es.take j) nm : Nat) ∧ Hid (Below wa.heap.size wa wi)) (fun _ v15 _ => es.length - (intOf v15).toNat)
            case atStart => exact ⟨0, Nat.zero_le _, rfl, rfl, Below.refl _ _⟩
            case round =>
              obtain ⟨j, hj, rfl, rfl, HBi⟩ := hrel
              have HB2 : Hid (Below w20.heap.size w20 wr) := below_all HA.out HBi.out
              have hcg := (HBi.out.cell (p := ⟨g, 1, none⟩) hgb).trans HCG.out
              by_cases hjl : j < es.length
              · obtain ⟨ge, rfl, hge, d0, d1, d2⟩ := ent_cells (ownsRow_below HO20.out HB2.out) j hjl
                have hx0 := (HBi.out.cell (p := ⟨w20.heap.size, 0, none⟩) hxb).trans HC0.out
                have hte := text_eq es[j].1 nm
                have HSZ := hide (sizeN_step (nm := nm) hjl)
                clear d2
                generalize es[j].1 = a at *
                generalize es[j].2.1 = za at *
                by_cases hh : nums a = nums nm
                · rw [decide_eq_true hh] at hte
                  rw [if_pos hh] at HSZ
                  clear hh
                  go_wp2_with fail
                  go_quiet (fail)
                  go_wp2_with fail
                  go_roundw
                  case rel => exact ⟨j + 1, by omega, by go_num, by rw [HSZ.out], below_drewN HBi.out _⟩
                  case measure => simp [intOf]; omega
                · rw [decide_eq_false hh] at hte
                  rw [if_neg hh] at HSZ
                  clear hh
                  go_wp2_with fail
                  go_quiet (fail)
                  go_wp2_with fail
                  go_roundw
                  case rel => exact ⟨j + 1, by omega, by go_num, by rw [HSZ.out], below_drewN HBi.out _⟩
                  case measure => simp [intOf]; omega
              · have htk : es.take j = es := List.take_of_length_le (by omega)
                rw [htk]
                have HSi := hide (HS20.out.new HB2.out)
                have hcb := HSi.out.c1.2.2.1
                have HTK := hide (rtokens_gen (w.heap.size + 1) q3 (sizeN es nm) n s ok3 wr hs HQ3.out HSi.out.rd (fun _ => ⟨sizeN_le nm (HFAC.out HE2.out.1).1, (HFAC.out HE2.out.1).2⟩))
                have HOi := hide (ownsRow_below HO20.out HB2.out)
                have HTi := hide (ownsRow_below HT20.out HB2.out)
                have HXi : Hid (∀ x ∈ xs, RTg wr h0 x) := fun x hx => (HX20.out.2 x hx).below HB2.out
                have hwi : w20.heap.size < wr.heap.size := Nat.lt_of_lt_of_le hxb HBi.out.size
                have hx0 := (HBi.out.cell (p := ⟨w20.heap.size, 0, none⟩) hxb).trans HC0.out
                have hx1 := (HBi.out.cell (p := ⟨w20.heap.size, 1, none⟩) hxb).trans HC1.out
                have hx2 := (HBi.out.cell (p := ⟨w20.heap.size, 2, none⟩) hxb).trans HC2.out
                have HSF : Hid ((sizeOfL (es.map entV) (nums nm)).toNat = sizeN es nm) := by show _ = _; rw [sizeN_cast]; rfl
                have hgw : g < w20.heap.size := HS20.out.lt
                clear htk HO20 HT20 HS20 HC0 HC1 HC2 HCG HA HB2
                generalize hzn : sizeN es nm = old at *
                clear hzn
                go_wp2_with fail
                refine HTK.out.mono ?_
                rintro e w21 ⟨tkv, sm, rfl, q4, ok4, ps, hR21, hq4, hRR, hby, hpl, hsm, hyes4, hno4, hg21⟩
                obtain ⟨ta, tn, tc, rfl⟩ := row_slice hRR.row
                have y0 := hg21.cell hx0 (by simp; omega)
                have y1 := hg21.cell hx1 (by simp; omega)
                have y2 := hg21.cell hx2 (by simp; omega)
                have HS21 := hide (HSi.out.read hg21 hR21)
                have HTGa : Hid (RTg w21 h0 ⟨(nm, z, dg), .slice ta tn tc, ps, wr.heap.size, w21.heap.size⟩) := ⟨by have := HX20.out.1; show h0 ≤ wr.heap.size; omega, hRR.toRT hby⟩
                have HG21 := hide hg21
                have HQ4 := hide hq4
                have HTOK : Hid ((ok4 = true → ok3 = true ∧ ((numP 2 ((nums s).drop q3)).bind fun q => toksP old n q.1.toNat q.2) = some (ps.map Prod.fst, (nums s).drop q4) ∧ ((ps.map Prod.fst).map (madeP old n)).sum = sm) ∧ (ok4 = false → ok3 = false ∨ ((numP 2 ((nums s).drop q3)).bind fun q => toksP old n q.1.toNat q.2) = none)) := ⟨hyes4, hno4⟩
                clear hx0 hx1 hx2 hR21 hq4 hRR hby hpl hyes4 hno4 hg21 HTK hcb hcg
                go_wp2_with fail
                refine (must_any (w.heap.size + 1) q4 s ok4 _ w21 HS21.out.rd).mono ?_
                rintro e w22 ⟨rfl, hR22, hg22⟩
                obtain ⟨ok5, h5, HOK5⟩ : ∃ ok5, Rd w22 (w.heap.size + 1) s q4 ok5 ∧ Hid ((ok5 = true → ok4 = true ∧ sm = z) ∧ (ok5 = false → ok4 = false ∨ sm ≠ z)) := by
                  refine ⟨_, hR22, fun h => ?_, fun h => ?_⟩
                  · simp at h; exact ⟨h.1, by omega⟩
                  · cases ok4 with
                    | false => exact .inl rfl
                    | true => right; simp at h; omega
                have hg2 := HG21.out.trans hg22
                have HS22 := hide (HS21.out.read hg22 h5)
                have HO22 := hide (row_kept HOi.out hg2 (by omega))
                have HT22 := hide (row_kept HTi.out hg2 (by omega))
                have HX22 : Hid (∀ x ∈ xs, RTg w22 h0 x) := fun x hx => (HXi.out x hx).grown hg2 (fun k hk => by simp at hk; have := (HXi.out x hx).low; omega)
                have HTG : Hid (RTg w22 h0 ⟨(nm, z, dg), .slice ta tn tc, ps, wr.heap.size, w21.heap.size⟩) := HTGa.out.grown hg22 (fun k hk => by simp at hk; left; show k < wr.heap.size; omega)
                have x0 := hg22.cell y0 (by simp; omega)
                have x1 := hg22.cell y1 (by simp; omega)
                have x2 := hg22.cell y2 (by simp; omega)
                have hw21 : wr.heap.size ≤ w21.heap.size := HG21.out.size
                have hw22 : w21.heap.size ≤ w22.heap.size := hg22.size
                have HE5 : Hid ((ok5 = true → okb = true ∧ all = (targetsP (es.map entV) n (mt - (k + 1)) false (nums nm) ((nums s).drop q4)).map fun q => ((xs ++ [(⟨(nm, z, dg), .slice ta tn tc, ps, wr.heap.size, w21.heap.size⟩ : Tg)]).map tgV ++ q.1, q.2)) ∧ (ok5 = false → okb = false ∨ all = none)) := by
                  have hst : all = (targetsP (es.map entV) n ((mt - (k + 1)) + 1) false lst ((nums s).drop q2)).map fun q => (xs.map tgV ++ q.1, q.2) := by rw [HE2.out.2, show mt - k = (mt - (k + 1)) + 1 by omega]
                  refine ⟨fun h => ⟨HE2.out.1, ?_⟩, fun h => .inr ?_⟩
                  · obtain ⟨h4, hz⟩ := HOK5.out.1 h
                    obtain ⟨h3, htk, hsum⟩ := HTOK.out.1 h4
                    rw [hst, targets_step, HENT.out.1 h3]
                    simp only [Option.bind_some]
                    rw [HSF.out, tokensP_eq, htk]
                    simp only [Option.bind_some]
                    rw [if_pos (by rw [hsum, hz])]
                    simp only [Option.bind_some, Option.map_map]
                    congr 1
                    funext q
                    simp [tgV, entV]
                  · rw [hst, targets_step]
                    cases hk3 : ok3 with
                    | false => rw [HENT.out.2 hk3]; rfl
                    | true =>
                      rw [HENT.out.1 hk3]
                      simp only [Option.bind_some]
                      rw [HSF.out, tokensP_eq]
                      rcases HOK5.out.2 h with h4 | hz
                      · rcases HTOK.out.2 h4 with h6 | h6
                        · rw [hk3] at h6; cases h6
                        · rw [h6]; rfl
                      · cases hk4 : ok4 with
                        | false =>
                          rcases HTOK.out.2 hk4 with h6 | h6
                          · rw [hk3] at h6; cases h6
                          · rw [h6]; rfl
                        | true =>
                          obtain ⟨_, htk, hsum⟩ := HTOK.out.1 hk4
                          rw [htk]
                          simp only [Option.bind_some]
                          rw [if_neg (by rw [hsum]; intro e; exact hz (by omega))]
                          rfl
                obtain ⟨x1', xg2, x0', xf⟩ := HS22.out.c1
                have HXL1 := hide HXL.out
                clear hR22 hg22 hg2 h5 y0 y1 y2 HTGa HG21 HS21 HOi HTi HXi HSi HBi x1' x0' HENT HTOK HOK5 HSF HE2
                go_wp2_with (at_builtin; refine wpList_append_own_at _ rfl (.tmp 134) (.tmp 138) 108 rfl h0 117 j0 (.agg #[.string ⟨#[]⟩, .int .i64 0, .int .u64 0, .slice none 0 0]) 4 56 Tryz.underlying108 hj0 v0 v1 v2 rfl (by decide) _ k (tgCells xs) rfl (HT22.out.alloc _) ⟨w22.heap.size, 0, none⟩ 1 1 [.string nm, .int .i64 z, .int .u64 dg, .slice ta tn tc] rfl rfl ?ka ?kb ?kc ?kd ?ke ?kf)
                case ka =>
                  intro j y hy
                  match j, hy with
                  | 0, hy => simp at hy; subst hy; simp [Addr.add]
                  | 1, hy => simp at hy; subst hy; simp [Addr.add]
                  | 2, hy => simp at hy; subst hy; simp [Addr.add]
                  | 3, hy => simp at hy; subst hy; simp [Addr.add]
                case kb => intro y hy; simp at hy; rcases hy with rfl | rfl | rfl | rfl <;> rfl
                case kc => unfold maxLen; omega
                case kd => omega
                case ke => have := HX20.out.1; simp; omega
                case kf =>
                  intro v9 w9 hown9 hgrow9 _ hloc9
                  obtain ⟨va, vn, vc, rfl⟩ := row_slice hown9
                  have hgg := (World.grownBy_alloc w22 (.cells #[.string nm, .int .i64 z, .int .u64 dg, .slice ta tn tc] 117) tv.ownBlock).trans hgrow9
                  have HS9 := hide (HS22.out.grow hgg (fun j hj => by have := (HTL.out j hj).1; omega))
                  obtain ⟨y1, y2, y0, yf⟩ := HS9.out.c1
                  have HO9 : Hid (w9.ownsRow (g + 1) 115 3 (.slice ea es.length ec) es.length (entCells es)) := by
                    refine HO22.out.kept hgg ?_
                    cases hb : (Value.slice ea es.length ec).ownBlock with
                    | none => exact .inl rfl
                    | some k => exact .inr (fun e => by have h1 := HBK.out k hb; have h2 := (HTL.out k e.symm).1; omega)
                  have hat : (Value.slice va vn vc).ownBlock = tv.ownBlock ∨ (Value.slice va vn vc).ownBlock = some (w22.heap.size + 1) := by simpa using hloc9
                  have HX9 : Hid (∀ x ∈ xs ++ [(⟨(nm, z, dg), .slice ta tn tc, ps, wr.heap.size, w21.heap.size⟩ : Tg)], RTg w9 h0 x) := by
                    intro x hx
                    rcases List.mem_append.1 hx with h | h
                    · exact (HX22.out x h).grown hgg (HXA.out x h)
                    · simp at h; subst h
                      exact HTG.out.grown hgg (fun j hj => .inl (by have := (HTL.out j hj).2; show j < wr.heap.size; omega))
                  have HXB : Hid (∀ x ∈ xs ++ [(⟨(nm, z, dg), .slice ta tn tc, ps, wr.heap.size, w21.heap.size⟩ : Tg)], ∀ k, (Value.slice va vn vc).ownBlock = some k → k < x.lo ∨ x.hi ≤ k) := by
                    intro x hx j hj
                    rcases List.mem_append.1 hx with h | h
                    · rcases hat with e | e
                      · exact HXA.out x h j (e ▸ hj)
                      · right
                        have : w22.heap.size + 1 = j := by rw [e] at hj; simpa using hj
                        have := (HX22.out x h).rt.1
                        omega
                    · simp at h; subst h
                      rcases hat with e | e
                      · left
                        have := (HTL.out j (e ▸ hj)).2
                        show j < wr.heap.size
                        omega
                      · right
                        have : w22.heap.size + 1 = j := by rw [e] at hj; simpa using hj
                        show w21.heap.size ≤ j
                        omega
                  have HSX := hide (HS9.out.set 2 (.slice va vn vc) rfl)
                  have HOX : Hid ((w9.setCell ⟨g, 2, none⟩ (.slice va vn vc)).ownsRow (g + 1) 115 3 (.slice ea es.length ec) es.length (entCells es)) := row_kept HO9.out (setCell_grown _) (by omega)
                  have HTX : Hid ((w9.setCell ⟨g, 2, none⟩ (.slice va vn vc)).ownsRow h0 117 4 (.slice va vn vc) (k + 1) (tgCells (xs ++ [(⟨(nm, z, dg), .slice ta tn tc, ps, wr.heap.size, w21.heap.size⟩ : Tg)]))) := by
                    rw [tgCells_snoc]
                    exact row_kept hown9 (setCell_grown _) hgh
                  have HXX : Hid (h0 ≤ (w9.setCell ⟨g, 2, none⟩ (.slice va vn vc)).heap.size ∧ (∀ x ∈ xs ++ [(⟨(nm, z, dg), .slice ta tn tc, ps, wr.heap.size, w21.heap.size⟩ : Tg)], RTg (w9.setCell ⟨g, 2, none⟩ (.slice va vn vc)) h0 x) ∧ ∀ x ∈ xs ++ [(⟨(nm, z, dg), .slice ta tn tc, ps, wr.heap.size, w21.heap.size⟩ : Tg)], ∀ k, (Value.slice va vn vc).ownBlock = some k → k < x.lo ∨ x.hi ≤ k) := by
                    refine ⟨?_, fun x hx => (HX9.out x hx).grown (setCell_grown _) (fun k hk => ?_), HXB.out⟩
                    · have h1 := HX20.out.1
                      have h2 := hgg.size
                      have h3 := (setCell_grown (w := w9) (g := g) (j := 2) (.slice va vn vc)).size
                      omega
                    · simp at hk
                      have := (HX9.out x hx).low
                      omega
                  have HXL3 : Hid ((xs ++ [(⟨(nm, z, dg), .slice ta tn tc, ps, wr.heap.size, w21.heap.size⟩ : Tg)]).length = k + 1) := by show _ = _; simp [HXL1.out]
                  clear hown9 hgrow9 hloc9 hgg hat y1 y0 HX9 HXB HO9 HS9 HS22 HO22 HT22 HX22 HTG x0 x1 x2 xf xg2
                  go_wp2_with fail
                  go_roundw
                  case rel => exact ⟨k + 1, q4, ok5, _, nm, nums nm, .slice va vn vc, by omega, by go_num, rfl, HXL3.out, HQ4.out, ⟨fun h => by omega, fun _ => rfl⟩, HSX.out, HOX.out, HTX.out, HXX.out, HE5.out⟩
                  case measure => simp [intOf]; omega
          · have HEX : Hid ((okr = true → HeadOk s n ∧ es.length ≤ 8 ∧ ((filesP ((nums s).drop 4)).bind fun q => basisP q.1 false [] q.2) = some (es.map entV, (nums s).drop q) ∧ xs.length ≤ 8 ∧ ((filesP ((nums s).drop q)).bind fun q => targetsP (es.map entV) n q.1 false [] q.2) = some (xs.map tgV, (nums s).drop q2)) ∧ (okr = false → readL (nums s) = none)) := by
              refine ⟨fun h => ?_, fun h => ?_⟩
              · obtain rfl : k = mt := by
                  have : ¬ k < mt := fun h' => hgo ⟨h', h⟩
                  omega
                obtain ⟨h5, h6⟩ := HEr.out.1 h
                obtain ⟨h7, h8, h9⟩ := HXf.out.1 h5
                rw [HALL.out, Nat.sub_self] at h6
                have h10 : ((filesP ((nums s).drop q)).bind fun q => targetsP (es.map entV) n q.1 false [] q.2) = some (xs.map tgV, (nums s).drop q2) := by rw [h6]; simp [targetsP]
                exact ⟨h7, h8, h9, by simpa using files_targets_len h10, h10⟩
              · rcases HEr.out.2 h with h5 | h5
                · exact HXf.out.2 h5
                · cases okb with
                  | false => exact HXf.out.2 rfl
                  | true =>
                    obtain ⟨h7, h8, h9⟩ := HXf.out.1 rfl
                    rw [HALL.out] at h5
                    exact read_no_targets h7.2.2.1 h9 h5
            have HTE : Hid (wr.ownsRow h0 117 4 tv xs.length (tgCells xs)) := by rw [HXL.out]; exact HTr.out
            rcases Nat.lt_or_ge k mt with hlt | hge
            · have hokf : okr = false := by
                cases okr with
                | false => rfl
                | true => exact absurd ⟨hlt, rfl⟩ hgo
              rw [hokf] at c2
              clear hgo HEr HLA hokf
              go_wp2_with fail
              go_meet
              exact ⟨q2, _, xs, tv, HQ.out, HSr.out, HOr.out, HTE.out, HXr.out.2.1, HEX.out⟩
            · clear hgo HEr HLA
              go_wp2_with fail
              go_meet
              exact ⟨q2, _, xs, tv, HQ.out, HSr.out, HOr.out, HTE.out, HXr.out.2.1, HEX.out⟩
      case rest =>
        clear HSh HST2 HALL HOh HH0
        obtain ⟨q2, okr, xs, tv, hq2, HSk, HOk, HTk, HXk, HFk⟩ := hcut
        obtain ⟨tva, tvn, tvc, rfl⟩ := row_slice HTk.out
        cases okr with
        | false =>
          have HN := hide (HFk.out.2 rfl)
          have c2 := HSk.out.rd.c2
          have hgr := HSk.out.res
          have k0 : wc.cell? ⟨w.heap.size, 0, none⟩ = some (.int .i64 0) := cell_row hgr rfl
          have k1 : wc.cell? ⟨w.heap.size, 1, none⟩ = some (.slice none 0 0) := cell_row hgr rfl
          have k2 : wc.cell? ⟨w.heap.size, 2, none⟩ = some (.slice none 0 0) := cell_row hgr rfl
          have kf : ∀ j, wc.frozen? ⟨w.heap.size, j, none⟩ = false := fun j => frozen_of_row _ _ _ _ _ hgr
          clear hgr
          go_wp2_with fail
          refine bodyPost_ret (v := .tuple #[.agg #[.int .i64 0, .slice none 0 0, .slice none 0 0], .bool false]) (by simp [results, Tryz.results44, go_sem, k0, k1, k2]) rfl ⟨_, rfl, _, _, _, _, rfl, ?_⟩
          exact ⟨⟨_, _, _, rfl⟩, ⟨_, _, _, rfl⟩, below_set3 HSk.out.below (Nat.le_refl _) _ _ _, (fun h => by cases h), fun _ => HN.out⟩
        | true =>
          have HF := hide (HFk.out.1 rfl)
          have c1 := HSk.out.rd.c1
          have c2 := HSk.out.rd.c2
          have HD := hide (rdigest_any (s.extract 0 q2) (by simp [ByteArray.size_extract]; omega) wc)
          have HDE : Hid (digestOf (nums (s.extract 0 q2)) = digestOf ((nums s).take q2)) := by show _ = _; rw [nums_extract, List.drop_zero, Nat.sub_zero]
          obtain ⟨D, hD⟩ : ∃ D, D = digestOf (nums (s.extract 0 q2)) := ⟨_, rfl⟩
          rw [← hD] at HD HDE
          clear hD
          go_wp2_with fail
          refine HD.out.mono ?_
          rintro e w30 ⟨rfl, hw⟩
          obtain rfl := hw.symm
          have HNU := hide (number_any (w.heap.size + 1) q2 8 s true wc hs hq2 (by omega) HSk.out.rd)
          clear c1 c2
          go_wp2_with fail
          refine HNU.out.mono ?_
          rintro e w31 ⟨own, p31, ok31, rfl, hR31, hS31, hv31, ho0, ho1, hg31⟩
          have HSl := hide (HSk.out.read hg31 hR31)
          have HOl := hide (row_kept HOk.out hg31 (by omega))
          have HTl := hide (row_kept HTk.out hg31 (by omega))
          have HXl : Hid (∀ x ∈ xs, RTg w31 h0 x) := fun x hx => (HXk.out x hx).grown hg31 (fun k hk => by simp at hk; have := (HXk.out x hx).low; omega)
          have HST := hide hS31
          have HVA := hide hv31
          have c1 := hR31.c1
          have c2 := hR31.c2
          have hgr := HSl.out.res
          have k0 : w31.cell? ⟨w.heap.size, 0, none⟩ = some (.int .i64 0) := cell_row hgr rfl
          have k1 : w31.cell? ⟨w.heap.size, 1, none⟩ = some (.slice none 0 0) := cell_row hgr rfl
          have k2 : w31.cell? ⟨w.heap.size, 2, none⟩ = some (.slice none 0 0) := cell_row hgr rfl
          have kf : ∀ j, w31.frozen? ⟨w.heap.size, j, none⟩ = false := fun j => frozen_of_row _ _ _ _ _ hgr
          have HNO : Hid (¬ EndOk s q2 → readL (nums s) = none) := fun h => read_no_end HF.out.1.2.2.1 HF.out.2.2.1 HF.out.2.2.2.2 hq2 h
          clear hgr hR31 hS31 hv31 hg31 HNU HSk HOk HTk HXk HFk HD
          cases ok31 with
          | false =>
            have HN : Hid (readL (nums s) = none) := HNO.out (fun h => by
              rcases HST.out with ⟨_, _, _, e⟩ | ⟨_, _, e | e⟩
              · cases e
              · cases e
              · have := h.1; omega)
            go_wp2_with fail
            refine bodyPost_ret (v := .tuple #[.agg #[.int .i64 0, .slice none 0 0, .slice none 0 0], .bool false]) (by simp [results, Tryz.results44, go_sem, k0, k1, k2]) rfl ⟨_, rfl, _, _, _, _, rfl, ?_⟩
            exact ⟨⟨_, _, _, rfl⟩, ⟨_, _, _, rfl⟩, below_set3 HSl.out.below (Nat.le_refl _) _ _ _, (fun h => by cases h), fun _ => HN.out⟩
          | true =>
            have HP : Hid (q2 + 8 ≤ s.size ∧ p31 = q2 + 8) := by
              rcases HST.out with ⟨_, a, b, _⟩ | ⟨e, _⟩
              · exact ⟨a, b⟩
              · cases e
            have HV := hide (HVA.out rfl)
            by_cases hod : own = D
            · by_cases hpe : p31 = s.size
              · subst hod
                have HE : Hid (EndOk s q2) := ⟨by have := HP.out; omega, by rw [← HV.out, HDE.out]⟩
                obtain ⟨n1, n2, n0, nf⟩ := HSl.out.c1
                have hne : g ≠ w.heap.size := by omega
                have hpe' : ((p31 : Nat) : Int) = (s.size : Int) := by omega
                clear hpe
                go_wp2_with fail
                refine bodyPost_ret (v := .tuple #[.agg #[.int .i64 n, .slice ea es.length ec, .slice tva tvn tvc], .bool true]) (by simp [results, Tryz.results44, go_sem, k0, k1, k2]) rfl ⟨_, rfl, _, _, _, _, rfl, ?_⟩
                obtain ⟨hh, h8, hb, hx8, ht⟩ := HF.out
                refine ⟨⟨_, _, _, rfl⟩, ⟨_, _, _, rfl⟩, below_set3 HSl.out.below (Nat.le_refl _) _ _ _, fun _ => ⟨es, xs, ⟨⟨g + 1, own_setR HOl.out (by omega) _ _ _⟩, h8, ⟨h0, own_setR HTl.out (by omega) _ _ _⟩, hx8, h0, fun x hx => (HXl.out x hx).set3 (by omega) _ _ _⟩, ?_⟩, fun h => by cases h⟩
                exact parts_read hh.1 hh.2.1 hh.2.2.1 hh.2.2.2.1 hh.2.2.2.2 hb ht HE.out
              · have HN : Hid (readL (nums s) = none) := HNO.out (fun h => hpe (by have := HP.out; have := h.1; omega))
                subst hod
                have hpe' : ¬ ((p31 : Nat) : Int) = (s.size : Int) := by omega
                clear hpe
                go_wp2_with fail
                refine bodyPost_ret (v := .tuple #[.agg #[.int .i64 0, .slice none 0 0, .slice none 0 0], .bool false]) (by simp [results, Tryz.results44, go_sem, k0, k1, k2]) rfl ⟨_, rfl, _, _, _, _, rfl, ?_⟩
                exact ⟨⟨_, _, _, rfl⟩, ⟨_, _, _, rfl⟩, below_set3 HSl.out.below (Nat.le_refl _) _ _ _, (fun h => by cases h), fun _ => HN.out⟩
            · have HN : Hid (readL (nums s) = none) := HNO.out (fun h => hod (by rw [HV.out, HDE.out]; exact h.2))
              go_wp2_with fail
              refine bodyPost_ret (v := .tuple #[.agg #[.int .i64 0, .slice none 0 0, .slice none 0 0], .bool false]) (by simp [results, Tryz.results44, go_sem, k0, k1, k2]) rfl ⟨_, rfl, _, _, _, _, rfl, ?_⟩
              exact ⟨⟨_, _, _, rfl⟩, ⟨_, _, _, rfl⟩, below_set3 HSl.out.below (Nat.le_refl _) _ _ _, (fun h => by cases h), fun _ => HN.out⟩
end Go.Proofs.YtbhccdedcoajmaaGreatDoor
