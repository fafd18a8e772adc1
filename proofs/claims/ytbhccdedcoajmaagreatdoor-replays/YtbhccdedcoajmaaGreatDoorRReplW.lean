import Derived.Test.YtbhccdedcoajmaaGreatDoorRMirWM
import Derived.Test.YtbhccdedcoajmaaGreatDoorLListM
import Derived.Test.YtbhccdedcoajmaaGreatDoorRReadW
import Derived.Test.YtbhccdedcoajmaaGreatDoorPMakeA
import Derived.Test.YtbhccdedcoajmaaGreatDoorPMkM
namespace Go.Proofs.YtbhccdedcoajmaaGreatDoor
open Go.RowKit

/-- what the reference's Replay tells of a mirror that is up -/
def RRpQ (w : World) (r : Nat) (T N : Value) (room : Int) (fs : List (ByteArray × ByteArray)) (s : ByteArray) (c : Int) (v : Value) (w' : World) : Prop :=
  ∃ (k : Int) (nm : ByteArray), v = .tuple #[.int .i64 k, .string nm] ∧
  match replayS fs (nums s) room with
  | .error q => k = q.1 ∧ nums nm = q.2 ∧ Below w.heap.size w w'
  | .ok l => nm = ⟨#[]⟩ ∧ w.grownBy w' (some r) ∧ ∃ (gs : List (ByteArray × ByteArray)) (T' : Value), gs.map (fun p => (nums p.1, nums p.2)) = l ∧ w'.ownsRow w.heap.size 54 2 T' gs.length (flCells gs) ∧
      ((1 ≤ c ∧ c ≤ l.length + 2 ∧ k = 12 ∧ RMb w' r T room true T) ∨ (c = l.length + 3 ∧ k = 12 ∧ RMb w' r T room true T') ∨ ((c < 1 ∨ l.length + 3 < c) ∧ k = 0 ∧ RMb w' r T' room false N))
theorem tl_open {w : World} {base : Nat} {tv : Value} {xs : List Tg} (h : w.ownsRow base 117 4 tv xs.length (tgCells xs)) : ∃ ta tc, tv = .slice ta xs.length tc ∧ xs.length ≤ tc ∧ ∀ i (hi : i < xs.length), ∃ gt, ta = some ⟨gt, 0, none⟩ ∧ gt < w.heap.size ∧ w.cell? ⟨gt, i * 4, none⟩ = some (.string xs[i].ent.1) ∧ w.cell? ⟨gt, i * 4 + 1, none⟩ = some (.int .i64 xs[i].ent.2.1) ∧ w.cell? ⟨gt, i * 4 + 2, none⟩ = some (.int .u64 xs[i].ent.2.2) ∧ w.cell? ⟨gt, i * 4 + 3, none⟩ = some xs[i].v := by
  rcases h.2 with ⟨hv, h0⟩ | ⟨gt, cap, cur, hv, _, hgt, h1, _⟩
  · exact ⟨none, 0, by rw [hv, h0], by omega, fun i hi => by omega⟩
  · refine ⟨some ⟨gt, 0, none⟩, cap, hv, h1, fun i hi => ⟨gt, rfl, (Array.getElem?_eq_some_iff.1 hgt).1, ?_⟩⟩
    obtain ⟨e0, e1, e2, e3⟩ := tgCells_at xs i hi
    have hc := h.cells (g := gt) (by rw [hv]; rfl)
    simp only [add_at] at hc
    exact ⟨hc _ _ e0, hc _ _ e1, hc _ _ e2, hc _ _ e3⟩
theorem targets_size {bas : List EntL} {B : Nat} : ∀ (n : Nat) (last l : List Int) (q : List (EntL × List Tok) × List Int), targetsP bas B n false last l = some q → ∀ x ∈ q.1, x.1.size ≤ 300
  | 0, last, l, q, h => by
    simp only [targetsP, Option.some.injEq] at h
    subst h
    intro x hx; simp at hx
  | n + 1, last, l, q, h => by
    unfold targetsP at h
    simp only [Option.bind_eq_bind, Option.bind_eq_some_iff] at h
    obtain ⟨a, ha, b, hb1, c, hc, h⟩ := h
    split at h
    · simp only [Option.bind_eq_some_iff] at h
      obtain ⟨d, hd, h⟩ := h
      cases h
      intro x hx
      rcases List.mem_cons.1 hx with rfl | hx
      · exact (entry_facts (last := last) (l := l) (l' := a.2) (e := a.1) (by rw [ha])).1
      · exact targets_size n _ _ _ hd x hx
    · cases h
theorem sizes_take (l : List (EntL × List Tok)) (k : Nat) (h : k < l.length) : sizesL (l.take (k + 1)) = sizesL (l.take k) + l[k].1.size := by
  unfold sizesL
  rw [List.take_succ_eq_append_getElem h, List.map_append, List.sum_append]
  simp

set_option maxRecDepth 10000 in
set_option maxHeartbeats 2000000 in
theorem rreplay_up (r : Nat) (T : Value) (Na : Option Addr) (Nn Nc : Nat) (room c : Int) (fs : List (ByteArray × ByteArray)) (s : ByteArray) (w : World) (hM : RMb w r T room false (.slice Na Nn Nc)) (_h0 : 0 ≤ room) (_h1 : room ≤ 1048576) (hs : s.size ≤ 70000) (hF : Fl w T fs) (hT : TreeOk fs) (hc0 : -9223372036854775808 ≤ c) (hc1 : c ≤ 9223372036854775807) :
    Calls Tryz.prog 30 #[.pointer (some ⟨r, 0, none⟩), .string s, .int .i64 c] w fun e w' => ∃ v, e = .returned v ∧ RRpQ w r T (.slice Na Nn Nc) room fs s c v w' := by
  obtain ⟨i0, hi, z0, z1, z2⟩ := info_parts Tryz.info54
  have c2 : w.cell? ⟨r, 2, none⟩ = some (.bool false) := cell_row hM rfl
  have hlt := hM.lt
  have h8 := hT.len
  obtain ⟨Ta, Tc, rfl, hTc, hTcell⟩ := hF
  have HFl : Hid (Fl w (.slice Ta fs.length Tc) fs) := ⟨Ta, Tc, rfl, hTc, hTcell⟩
  have HM := hide hM
  have HT := hide hT
  clear hTcell hM hT
  have HRR := hide (rRead_any s w hs)
  go_enter Tryz.func30, Tryz.ntmps30
  go_wp2_with fail
  refine HRR.out.mono ?_
  rintro e w1 ⟨v1, rfl, bl, bv, tv, ok, rfl, ⟨ba, bn, bc, rfl⟩, ⟨ta, tn, tc, rfl⟩, hb1, hyes, hno⟩
  obtain ⟨o1, ho1⟩ : ∃ o, o = Obj.cells #[.int .i64 bl, .slice ba bn bc, .slice ta tn tc] 110 := ⟨_, rfl⟩
  have hba : Below w1.heap.size w1 (w1.alloc o1) := (Below.refl _ _).alloc (Nat.le_refl _) _
  have HB1 : Hid (Below w.heap.size w (w1.alloc o1)) := below_all hb1 hba
  have HBA := hide hba
  have x0 : (w1.alloc o1).cell? ⟨w1.heap.size, 0, none⟩ = some (.int .i64 bl) := by rw [ho1]; exact cell_new rfl rfl
  have x1 : (w1.alloc o1).cell? ⟨w1.heap.size, 1, none⟩ = some (.slice ba bn bc) := by rw [ho1]; exact cell_new rfl rfl
  have x2 : (w1.alloc o1).cell? ⟨w1.heap.size, 2, none⟩ = some (.slice ta tn tc) := by rw [ho1]; exact cell_new rfl rfl
  have hw1 : w.heap.size ≤ w1.heap.size := hb1.size
  rw [ho1] at HB1 HBA x0 x1 x2
  clear hba hb1 ho1 HRR
  cases ok with
  | false =>
    have HNO := hide (hno rfl)
    clear hno hyes x0 x1 x2
    go_wp2_with fail
    go_ret2
    refine ⟨_, rfl, _, _, rfl, ?_⟩
    unfold replayS
    rw [HNO.out]
    exact ⟨rfl, rfl, HB1.out⟩
  | true =>
    obtain ⟨es, xs, ⟨⟨be, hoe⟩, he8, ⟨bx, hox⟩, hx8, ⟨bt, hxk⟩⟩, hread⟩ := hyes rfl
    clear hno hyes
    have HOE : Hid (w1.ownsRow be 115 3 (.slice ba bn bc) es.length (entCells es)) := hoe
    obtain ⟨ta', tc', e1, htc, htcell⟩ := tl_open hox
    have HREAD := hide hread
    obtain ⟨rfl, rfl, rfl⟩ : ta = ta' ∧ tn = xs.length ∧ tc = tc' := by simpa using e1
    have HTC := hide htcell
    have HXK := hide hxk
    have hbl : 1 ≤ bl ∧ bl ≤ 64 := by
      obtain ⟨_, _, _, a, b, _⟩ := read_parts hread
      exact ⟨a, b⟩
    obtain ⟨B, rfl⟩ : ∃ B : Nat, bl = B := ⟨bl.toNat, by omega⟩
    have hB1 : 1 ≤ B := by omega
    have hB2 : B ≤ 64 := by omega
    clear hoe hox htcell hxk hread e1 hbl
    generalize hWS : w1.alloc (.cells #[.int .i64 B, .slice ba bn bc, .slice ta xs.length tc] 110) = wS at *
    have hwS : w1.heap.size < wS.heap.size := World.block_lt_of_cell? wS _ x0
    have hrS : r < wS.heap.size := by omega
    have t0 : wS.cell? ⟨r, 0, none⟩ = some (.slice Ta fs.length Tc) := (HB1.out.cell (p := ⟨r, 0, none⟩) hlt).trans (cell_row HM.out rfl)
    have HDF : Hid (∀ W, Below wS.heap.size wS W → Calls Tryz.prog 45 #[.slice Ta fs.length Tc, .slice ba bn bc] W fun e w' => ∃ v, e = .returned v ∧ DifV fs (es.map entV) v ∧ Below W.heap.size W w') := fun W hW =>
      differs_any _ _ fs es be W h8 (fun p hp => (HT.out.sizes p hp).2) (HFl.out.below (below_all HB1.out hW)) he8 (ownsRow_below HOE.out (below_all HBA.out hW))
    have X0 := hide x0
    have X2 := hide x2
    have HWS := hide hWS
    clear x0 x2 hWS
    go_wp2_with fail
    rw [HWS.out]
    go_region_held3 (fun w' => w'.cell? ⟨r, 0, none⟩ = some (.slice Ta fs.length Tc) ∧ w'.cell? ⟨w1.heap.size, 1, none⟩ = some (.slice ba bn bc))
      (first | exact ⟨t0, x1⟩ | exact ⟨p0, p1⟩)
      ((go_at_call 45; refine (HDF.out _ ((Below.refl wS.heap.size wS).drew)).mono ?_; rintro e w2 ⟨v2, rfl, ⟨nm, other, rfl, hdq⟩, hb2'⟩; have hb2 : Below wS.heap.size wS w2 := ((Below.refl wS.heap.size wS).drew).trans hb2'; have p0 := (hb2.cell (p := ⟨r, 0, none⟩) hrS).trans t0; have p1 := (hb2.cell (p := ⟨w1.heap.size, 1, none⟩) hwS).trans x1))
    have HRS : Hid (replayS fs (nums s) room = replayL fs ⟨B, es.map entV, xs.map tgV⟩ room) := by show _ = _; unfold replayS; rw [HREAD.out]
    have HB2 : Hid (Below w.heap.size w w2) := below_all HB1.out hb2
    have HB2' := hide hb2
    have HBA2 : Hid (Below w1.heap.size w1 w2) := below_all HBA.out hb2
    have hw2 : wS.heap.size ≤ w2.heap.size := hb2.size
    have hwS2 : w1.heap.size < w2.heap.size := by omega
    have hrS2 : r < w2.heap.size := by omega
    unfold DifQ at hdq
    cases hbad : basisBad fs (es.map entV) with
    | some x =>
      rw [hbad] at hdq
      obtain ⟨hnm, rfl⟩ := hdq
      have HNM := hide hnm
      have HBAD := hide hbad
      clear hnm hbad p0 p1 hb2 hb2' t0 x1
      go_wp2_with fail
      go_ret2
      refine ⟨_, rfl, _, _, rfl, ?_⟩
      rw [HRS.out]
      unfold replayL
      simp only
      rw [HBAD.out]
      exact ⟨rfl, HNM.out, HB2.out⟩
    | none =>
      rw [hbad] at hdq
      obtain ⟨_, rfl⟩ := hdq
      have HMK : Hid (∀ x ∈ xs, (∀ t ∈ x.ps.map Prod.fst, Held t) ∧ (x.ps.map Prod.fst).length ≤ 65535 ∧ ∃ d, applyGo (findL (fs.map filOf) (nums x.ent.1)) B [] (x.ps.map Prod.fst) = .ok d) := by
        intro x hx
        have h9 := make_ok HREAD.out HT.out hbad (tgV x) (List.mem_map_of_mem hx)
        simp only [Int.toNat_natCast] at h9
        exact h9
      have HRL : Hid (replayS fs (nums s) room = if room < sizesL (xs.map tgV) then .error (10, []) else match makeGo fs B (xs.map tgV) with | .error n => .error (11, n) | .ok l => .ok l) := by
        show _ = _
        rw [HRS.out]
        unfold replayL
        simp only
        rw [hbad, Int.toNat_natCast]
        rfl
      have y2 : w2.cell? ⟨w1.heap.size, 2, none⟩ = some (.slice ta xs.length tc) := (hb2.cell (p := ⟨w1.heap.size, 2, none⟩) hwS).trans X2.out
      have y0 : w2.cell? ⟨w1.heap.size, 0, none⟩ = some (.int .i64 B) := (hb2.cell (p := ⟨w1.heap.size, 0, none⟩) hwS).trans X0.out
      have m1 : w2.cell? ⟨r, 1, none⟩ = some (.int .i64 room) := (HB2.out.cell (p := ⟨r, 1, none⟩) hlt).trans (cell_row HM.out rfl)
      have HTZ : Hid (∀ k (hk : k < xs.length), ∃ gt, ta = some ⟨gt, 0, none⟩ ∧ gt < w2.heap.size ∧ w2.cell? ⟨gt, k * 4, none⟩ = some (.string xs[k].ent.1) ∧ w2.cell? ⟨gt, k * 4 + 1, none⟩ = some (.int .i64 xs[k].ent.2.1) ∧ w2.cell? ⟨gt, k * 4 + 2, none⟩ = some (.int .u64 xs[k].ent.2.2) ∧ w2.cell? ⟨gt, k * 4 + 3, none⟩ = some xs[k].v) := by
        intro k hk
        obtain ⟨gt, e0, hg, a0, a1, a2, a3⟩ := HTC.out k hk
        exact ⟨gt, e0, Nat.lt_of_lt_of_le hg HBA2.out.size, (HBA2.out.cell (p := ⟨gt, _, none⟩) hg).trans a0, (HBA2.out.cell (p := ⟨gt, _, none⟩) hg).trans a1, (HBA2.out.cell (p := ⟨gt, _, none⟩) hg).trans a2, (HBA2.out.cell (p := ⟨gt, _, none⟩) hg).trans a3⟩
      have HSZ : Hid (∀ k (hk : k < xs.length), xs[k].ent.2.1 ≤ 300 ∧ sizesL ((xs.map tgV).take (k + 1)) = sizesL ((xs.map tgV).take k) + (xs[k].ent.2.1 : Int)) := by
        intro k hk
        refine ⟨?_, ?_⟩
        · obtain ⟨_, _, _, _, _, l1, l2, _, q2, _⟩ := read_parts HREAD.out
          simp only [Option.bind_eq_some_iff] at q2
          obtain ⟨u, hu, q2⟩ := q2
          have := (targets_size _ _ _ _ q2 (tgV xs[k]) (List.mem_map_of_mem (List.getElem_mem hk)))
          have h9 : ((xs[k].ent.2.1 : Nat) : Int) ≤ 300 := this
          omega
        · rw [sizes_take _ _ (by rw [List.length_map]; exact hk), List.getElem_map]
          rfl
      clear hbad p0 p1 hb2 hb2' t0 x1 HTC
      go_wp2_with fail
      go_loop [12, 13] (fun v12 v13 => ∃ (k z : Nat), k ≤ xs.length ∧ v13 = .int .i64 k ∧ v12 = .int .i64 z ∧ z ≤ 300 * k ∧ Hid (sizesL ((xs.map tgV).take k) = (z : Int))) (fun _ v13 => xs.length - (intOf v13).toNat)
      case atStart => exact ⟨0, 0, Nat.zero_le _, rfl, rfl, Nat.le_refl _, (rfl : _ = _)⟩
      case round =>
        obtain ⟨k, z, hk, rfl, rfl, hz, HZ⟩ := hrel
        by_cases hlx : k < xs.length
        · obtain ⟨gt, rfl, hgt, a0, a1, a2, a3⟩ := HTZ.out k hlx
          obtain ⟨hsz1, hsz2⟩ := HSZ.out k hlx
          have HS2 := hide hsz2
          have hwz : IntKind.i64.wrap ((z : Int) + (xs[k].ent.2.1 : Int)) = ((z + xs[k].ent.2.1 : Nat) : Int) := by rw [IntKind.wrap_i64] <;> omega
          clear hsz2 a0 a2 a3
          go_wp2_with fail
          go_round
          case rel => exact ⟨k + 1, z + xs[k].ent.2.1, by omega, by go_num, by first | rfl | go_num, by omega, (show _ = _ by rw [HS2.out, HZ.out]; omega)⟩
          case measure => simp [intOf]; omega
        · have hkx : k = xs.length := by omega
          have HSUM : Hid (sizesL (xs.map tgV) = (z : Int)) := by
            show _ = _
            rw [← HZ.out, List.take_of_length_le (by rw [List.length_map]; omega)]
          clear HZ hkx
          by_cases hrm : room < (z : Int)
          · go_wp2_with fail
            go_ret2
            refine ⟨_, rfl, _, _, rfl, ?_⟩
            rw [HRL.out, HSUM.out, if_pos hrm]
            exact ⟨rfl, rfl, HB2.out⟩
          · have HRM : Hid (replayS fs (nums s) room = match makeGo fs B (xs.map tgV) with | .error n => .error (11, n) | .ok l => .ok l) := by
              show _ = _
              rw [HRL.out, HSUM.out, if_neg hrm]
            go_wp2_with fail
            clear HSUM HRL HSZ hz
            go_loopw [14, 15] (fun v14 v15 wr => ∃ (k : Nat) (gs : List (ByteArray × ByteArray)), k ≤ xs.length ∧ v15 = .int .i64 k ∧ gs.length = k ∧ Hid (wr.ownsRow w2.heap.size 54 2 v14 gs.length (flCells gs)) ∧ Hid (makeGo fs B (xs.map tgV) = (makeGo fs B ((xs.drop k).map tgV)).map (gs.map (fun p => (nums p.1, nums p.2)) ++ ·)) ∧ Hid (Below w2.heap.size w2 wr)) (fun _ v15 _ => xs.length - (intOf v15).toNat)
            case atStart =>
              refine ⟨0, [], Nat.zero_le _, rfl, rfl, World.ownsRow_nil _ _ _ _, ?_, Below.refl _ _⟩
              rw [List.drop_zero]
              show _ = Except.map (fun x => [] ++ x) _
              cases makeGo fs B (xs.map tgV) <;> rfl
            case round =>
              obtain ⟨k, gs, hk, rfl, hgl, HOW, HMG, HBr⟩ := hrel
              have z2' := (HBr.out.cell (p := ⟨w1.heap.size, 2, none⟩) hwS2).trans y2
              by_cases hlx : k < xs.length
              · obtain ⟨gt, rfl, hgt, a0, a1, a2, a3⟩ := HTZ.out k hlx
                have d0 := (HBr.out.cell (p := ⟨gt, k * 4, none⟩) hgt).trans a0
                have d1 := (HBr.out.cell (p := ⟨gt, k * 4 + 1, none⟩) hgt).trans a1
                have d2 := (HBr.out.cell (p := ⟨gt, k * 4 + 2, none⟩) hgt).trans a2
                have d3 := (HBr.out.cell (p := ⟨gt, k * 4 + 3, none⟩) hgt).trans a3
                have HMG2 : Hid (makeGo fs B (xs.map tgV) = (makeGo fs B (tgV xs[k] :: (xs.drop (k + 1)).map tgV)).map (gs.map (fun p => (nums p.1, nums p.2)) ++ ·)) := by
                  show _ = _
                  rw [HMG.out, List.drop_eq_getElem_cons hlx]; rfl
                have hxk := HXK.out _ (List.getElem_mem hlx)
                obtain ⟨hheld, hlen, dd, happ⟩ := HMK.out _ (List.getElem_mem hlx)
                clear HMG a0 a1 a2 a3
                obtain ⟨x, hx⟩ : ∃ x, x = xs[k] := ⟨_, rfl⟩
                rw [← hx] at HMG2 d0 d1 d2 d3 hxk hheld hlen happ
                clear hx
                obtain ⟨⟨a, z, d⟩, xv, xps, xlo, xhi⟩ := x
                simp only at d0 d1 d2 d3 hheld hlen happ
                have hRT : RT w1 xlo xhi xv (xps.map Prod.fst) := hxk.rt
                obtain ⟨va, vc, rfl, h5⟩ := hRT.2 w1 hRT.1 (fun _ _ _ => rfl)
                clear h5
                generalize htn : (xps.map Prod.fst).length = tn at *
                obtain ⟨o, hoo⟩ : ∃ o, o = Obj.cells #[.string a, .int .i64 z, .int .u64 d, .slice va tn vc] 117 := ⟨_, rfl⟩
                have e0 : (wr.alloc o).cell? ⟨wr.heap.size, 0, none⟩ = some (.string a) := by rw [hoo]; exact cell_new rfl rfl
                have e2 : (wr.alloc o).cell? ⟨wr.heap.size, 2, none⟩ = some (.int .u64 d) := by rw [hoo]; exact cell_new rfl rfl
                have e3 : (wr.alloc o).cell? ⟨wr.heap.size, 3, none⟩ = some (.slice va tn vc) := by rw [hoo]; exact cell_new rfl rfl
                have hba : Below wr.heap.size wr (wr.alloc o) := (Below.refl _ _).alloc (Nat.le_refl _) _
                have HBW : Hid (Below w2.heap.size w2 (wr.alloc o)) := below_all HBr.out hba
                have HOA := hide (ownsRow_below HOW.out hba)
                have hrb := hrS2
                have r0 : (wr.alloc o).cell? ⟨r, 0, none⟩ = some (.slice Ta fs.length Tc) := (HBW.out.cell (p := ⟨r, 0, none⟩) hrb).trans ((HB2.out.cell (p := ⟨r, 0, none⟩) hlt).trans (cell_row HM.out rfl))
                have b0 : (wr.alloc o).cell? ⟨w1.heap.size, 0, none⟩ = some (.int .i64 B) := (HBW.out.cell (p := ⟨w1.heap.size, 0, none⟩) hwS2).trans y0
                have hwr2 : w2.heap.size ≤ wr.heap.size := HBr.out.size
                have HHE := hide hheld
                have hlen2 : tn ≤ 65535 := hlen
                have HRTb : Hid (∀ W, Below (wr.alloc o).heap.size (wr.alloc o) W → RT W xlo xhi (.slice va tn vc) (xps.map Prod.fst)) := fun W hW => hRT.below (below_all HBA2.out (below_all HBW.out hW))
                have HFI : Hid (∀ W, Below (wr.alloc o).heap.size (wr.alloc o) W → Calls Tryz.prog 39 #[.slice Ta fs.length Tc, .string a] W fun e w' => e = .returned (.tuple #[.string ((foundOf fs a).getD ⟨#[]⟩), .bool (foundOf fs a).isSome]) ∧ Below W.heap.size W w') := fun W hW => rfind_any _ fs a W (by omega) (HFl.out.below (below_all HB2.out (below_all HBW.out hW)))
                have hf3 : ((foundOf fs a).getD ⟨#[]⟩).size ≤ 300 := by
                  unfold foundOf
                  cases h : fs.find? fun q => decide (nums q.1 = nums a) with
                  | none => exact Nat.zero_le _
                  | some q => exact (HT.out.sizes q (List.mem_of_find?_eq_some h)).2
                rw [found_findL] at happ
                have HAPP := hide happ
                have HDD : Hid (Bytes dd ∧ dd.length ≤ 300) := apply_small (nums_bytes _) (xps.map Prod.fst) [] dd (fun t ht => (hheld t ht).1) (fun z hz => by cases hz) (by simp) happ
                have HFE : Hid (findL (fs.map filOf) (nums a) = nums ((foundOf fs a).getD ⟨#[]⟩)) := found_findL fs a
                generalize (foundOf fs a).getD ⟨#[]⟩ = fd at *
                generalize (foundOf fs a).isSome = fi at *
                have HTN := hide htn
                rw [hoo] at e0 e2 e3 HBW HOA r0 b0 HRTb HFI
                clear hba hoo hxk hheld hlen happ hRT htn
                go_wp2_with fail
                generalize hWB : wr.alloc (.cells #[.string a, .int .i64 z, .int .u64 d, .slice va tn vc] 117) = wb at *
                clear hWB d0 d1 d2 d3 z2'
                have hTb : wr.heap.size < wb.heap.size := World.block_lt_of_cell? wb _ e0
                have hrb2 : r < wb.heap.size := by omega
                go_region_held3 (fun w' => w'.cell? ⟨r, 0, none⟩ = some (.slice Ta fs.length Tc) ∧ w'.cell? ⟨wr.heap.size, 0, none⟩ = some (.string a))
                  (first | exact ⟨r0, e0⟩ | exact ⟨p0, p1⟩)
                  ((go_at_call 39; refine (HFI.out _ ((Below.refl wb.heap.size wb).drew)).mono ?_; rintro e w3 ⟨rfl, hb3'⟩; have hb3 : Below wb.heap.size wb w3 := ((Below.refl wb.heap.size wb).drew).trans hb3'; have p0 := (hb3.cell (p := ⟨r, 0, none⟩) hrb2).trans r0; have p1 := (hb3.cell (p := ⟨wr.heap.size, 0, none⟩) hTb).trans e0))
                have HB3 : Hid (Below w2.heap.size w2 w3) := below_all HBW.out hb3
                have HO3 := hide (ownsRow_below HOA.out hb3)
                have HAP : Hid (Calls Tryz.prog 46 #[.string fd, .slice va tn vc, .int .i64 B] w3 fun e w' => e = .returned (.tuple #[.string (bytesOf dd), .int .i64 0]) ∧ Below w3.heap.size w3 w') := by
                  refine (rapply_read fd B xlo xhi _ (xps.map Prod.fst) w3 hB1 hB2 hf3 (HRTb.out _ hb3) (by rw [HTN.out]; omega) HHE.out).mono ?_
                  rintro e w' ⟨v, e0, rfl, hq, hb⟩
                  rw [HAPP.out] at hq
                  obtain ⟨rfl, rfl⟩ := hq
                  exact ⟨rfl, hb⟩
                have q3 := (hb3.cell (p := ⟨wr.heap.size, 3, none⟩) hTb).trans e3
                have q2 := (hb3.cell (p := ⟨wr.heap.size, 2, none⟩) hTb).trans e2
                have hw1b : w1.heap.size < wb.heap.size := by omega
                have q0 := (hb3.cell (p := ⟨w1.heap.size, 0, none⟩) hw1b).trans b0
                have hTb3 : wr.heap.size < w3.heap.size := Nat.lt_of_lt_of_le hTb hb3.size
                clear hb3 hb3' p0 r0 e0 e2 e3 b0 HRTb HFI HOA HBW HBr HOW HHE
                go_wp2_with fail
                refine HAP.out.mono ?_
                rintro e w4 ⟨rfl, hb4⟩
                have hdd : (bytesOf dd).size ≤ 300 := by have h9 := congrArg List.length (nums_bytesOf HDD.out.1); rw [nums_length] at h9; have := HDD.out.2; omega
                have HDG : Hid (Calls Tryz.prog 35 #[.string (bytesOf dd)] w4 fun e w' => e = .returned (.int .u64 (digestOf dd)) ∧ w' = w4) := by
                  have h9 := rdigest_any (bytesOf dd) (by omega) w4
                  rw [nums_bytesOf HDD.out.1] at h9
                  exact h9
                have HB4 : Hid (Below w2.heap.size w2 w4) := below_all HB3.out hb4
                have HO4 := hide (ownsRow_below HO3.out hb4)
                have s1 := (hb4.cell (p := ⟨wr.heap.size, 0, none⟩) hTb3).trans p1
                have s2 := (hb4.cell (p := ⟨wr.heap.size, 2, none⟩) hTb3).trans q2
                have hw4 : w2.heap.size ≤ w4.heap.size := HB4.out.size
                clear hb4 p1 q2 q3 q0 HAP HB3 HO3
                have HNB : Hid (nums (bytesOf dd) = dd) := nums_bytesOf HDD.out.1
                go_wp2_with fail
                refine HDG.out.mono ?_
                rintro e w5 ⟨rfl, hw5⟩
                obtain rfl := hw5.symm
                clear hw5 HDG
                by_cases hdg : digestOf dd = d
                · subst hdg
                  have HMG3 : Hid (makeGo fs B (xs.map tgV) = (makeGo fs B ((xs.drop (k + 1)).map tgV)).map ((gs ++ [(a, bytesOf dd)]).map (fun p => (nums p.1, nums p.2)) ++ ·)) := by
                    show _ = _
                    rw [HMG2.out]
                    have h7 : makeGo fs B (tgV ⟨⟨a, z, digestOf dd⟩, .slice va tn vc, xps, xlo, xhi⟩ :: (xs.drop (k + 1)).map tgV) = (makeGo fs B ((xs.drop (k + 1)).map tgV)).map ((nums a, dd) :: ·) := by
                      rw [makeGo]
                      simp only [tgV, entV]
                      rw [HFE.out, HAPP.out]
                      simp only [if_true]
                    rw [h7]
                    cases makeGo fs B ((xs.drop (k + 1)).map tgV) with
                    | error e => rfl
                    | ok l => simp [Except.map, HNB.out]
                  clear HMG2 HAPP
                  go_wp2_with (at_builtin; refine wpList_append_own_at _ rfl (.tmp 110) (.tmp 116) 27 rfl w2.heap.size 54 i0 (.agg #[.string ⟨#[]⟩, .string ⟨#[]⟩]) 2 32 Tryz.underlying27 hi z0 z1 z2 rfl (by decide) _ gs.length (flCells gs) rfl (HO4.out.alloc _) ⟨w4.heap.size, 0, none⟩ 1 1 [.string a, .string (bytesOf dd)] rfl rfl ?ka ?kb ?kc ?kd ?ke ?kf)
                  case ka =>
                    intro j x hj
                    match j, hj with
                    | 0, hj => simp at hj; subst hj; simp [Addr.add]
                    | 1, hj => simp at hj; subst hj; simp [Addr.add]
                  case kb => intro x hx; simp at hx; rcases hx with rfl | rfl <;> rfl
                  case kc => unfold maxLen; omega
                  case kd => omega
                  case ke => simp; omega
                  case kf =>
                    intro v' w6 hown6 hgrow6 hv6 hloc6
                    have HO6 : Hid (w6.ownsRow w2.heap.size 54 2 v' (gs ++ [(a, bytesOf dd)]).length (flCells (gs ++ [(a, bytesOf dd)]))) := by
                      show World.ownsRow _ _ _ _ _ _ _
                      rw [flCells_snoc, List.length_append, hgl]
                      exact hown6
                    have HB6 : Hid (Below w2.heap.size w2 w6) := HB4.out.grown ((World.grownBy_alloc w4 _ _).trans hgrow6) hw4 (fun j hj => (HO4.out.lt j hj).1)
                    clear hown6 hgrow6 hv6 hloc6
                    go_wp2_with fail
                    go_roundw
                    case rel => exact ⟨k + 1, gs ++ [(a, bytesOf dd)], by omega, by go_num, by simp [hgl], HO6.out, HMG3.out, HB6.out⟩
                    case measure => simp [intOf]; omega
                · have HER : Hid (replayS fs (nums s) room = .error (11, nums a)) := by
                    show _ = _
                    rw [HRM.out, HMG2.out]
                    have h7 : makeGo fs B (tgV ⟨⟨a, z, d⟩, .slice va tn vc, xps, xlo, xhi⟩ :: (xs.drop (k + 1)).map tgV) = .error (nums a) := by
                      rw [makeGo]
                      simp only [tgV, entV]
                      rw [HFE.out, HAPP.out]
                      show (if digestOf dd = d then _ else _) = _
                      rw [if_neg hdg]
                    rw [h7]
                    rfl
                  clear HMG2 HAPP HRM
                  go_wp2_with fail
                  go_quiet (fail)
                  go_wp2_with fail
                  go_ret2
                  refine ⟨_, rfl, _, _, rfl, ?_⟩
                  rw [HER.out]
                  exact ⟨rfl, rfl, below_all HB2.out (below_drewN HB4.out _)⟩
              · have hkx : k = xs.length := by omega
                subst hkx
                obtain ⟨ga, gc, rfl⟩ : ∃ ga gc, u14 = .slice ga gs.length gc := by
                  rcases HOW.out.2 with ⟨h7, h9⟩ | ⟨g, cap, cur, h7, _⟩
                  · exact ⟨none, 0, by rw [h7, h9]⟩
                  · exact ⟨_, cap, h7⟩
                have HOK : Hid (replayS fs (nums s) room = .ok (gs.map (fun p => (nums p.1, nums p.2)))) := by
                  show _ = _
                  rw [HRM.out, HMG.out, List.drop_of_length_le (Nat.le_refl _)]
                  simp [makeGo, Except.map]
                have HLL : Hid ((gs.map (fun p => (nums p.1, nums p.2))).length = xs.length) := by show _ = _; rw [List.length_map]; exact hgl
                have HBW : Hid (Below w.heap.size w wr) := below_all HB2.out HBr.out
                have hRM := HM.out.below HBW.out
                have HRM' := hide hRM
                have r0 : wr.cell? ⟨r, 0, none⟩ = some (.slice Ta fs.length Tc) := cell_row hRM rfl
                have r2 : wr.cell? ⟨r, 2, none⟩ = some (.bool false) := cell_row hRM rfl
                have r3 : wr.cell? ⟨r, 3, none⟩ = some (.slice Na Nn Nc) := cell_row hRM rfl
                have rz : ∀ j, wr.frozen? ⟨r, j, none⟩ = false := fun j => frozen_of_row _ _ _ _ _ hRM
                have HG : Hid (w.grownBy wr (some r)) := grown_below HBW.out
                have HOB : Hid (wr.ownsRow w.heap.size 54 2 (.slice ga gs.length gc) gs.length (flCells gs)) := ownsRow_base HOW.out HB2.out.size
                clear hRM HMG HRM HOW HXK HTZ HMK HREAD HRS HBr hwS hrS hwS2 hrS2 X0 X2 y0
                rcases Int.lt_or_le c 1 with hlo | hlo
                · go_wp2_with fail
                  go_ret2
                  refine ⟨_, rfl, _, _, rfl, ?_⟩
                  rw [HOK.out]
                  refine ⟨rfl, HG.out.trans (setCell_grown _), gs, _, rfl, ownsRow_setCell_below HOB.out hlt _, .inr (.inr ⟨.inl hlo, rfl, ?_⟩)⟩
                  rw [hgl]
                  exact heap_setCell_same _ _ 0 _ _ _ HRM'.out
                · rcases Int.lt_or_le ((xs.length : Int) + 3) c with hhi | hhi
                  · go_wp2_with fail
                    go_ret2
                    refine ⟨_, rfl, _, _, rfl, ?_⟩
                    rw [HOK.out]
                    refine ⟨rfl, HG.out.trans (setCell_grown _), gs, _, rfl, ownsRow_setCell_below HOB.out hlt _, .inr (.inr ⟨.inr (by rw [HLL.out]; exact hhi), rfl, ?_⟩)⟩
                    rw [hgl]
                    exact heap_setCell_same _ _ 0 _ _ _ HRM'.out
                  · rcases Int.lt_or_le ((xs.length : Int) + 2) c with hmid | hmid
                    · go_wp2_with fail
                      go_ret2
                      refine ⟨_, rfl, _, _, rfl, ?_⟩
                      rw [HOK.out]
                      refine ⟨rfl, ((HG.out.trans (setCell_grown _)).trans (setCell_grown _)).trans (setCell_grown _), gs, _, rfl, ownsRow_setCell_below (ownsRow_setCell_below (ownsRow_setCell_below HOB.out hlt _) hlt _) hlt _, .inr (.inl ⟨by rw [HLL.out]; omega, rfl, ?_⟩)⟩
                      have h1 := heap_setCell_same _ _ 2 _ _ (.bool true) HRM'.out
                      have h2 := heap_setCell_same _ _ 3 _ _ (.slice Ta fs.length Tc) h1
                      rw [hgl]
                      exact heap_setCell_same _ _ 3 _ _ _ h2
                    · go_wp2_with fail
                      go_ret2
                      refine ⟨_, rfl, _, _, rfl, ?_⟩
                      rw [HOK.out]
                      refine ⟨rfl, (HG.out.trans (setCell_grown _)).trans (setCell_grown _), gs, _, rfl, ownsRow_setCell_below (ownsRow_setCell_below HOB.out hlt _) hlt _, .inl ⟨hlo, by rw [HLL.out]; exact hmid, rfl, ?_⟩⟩
                      have h1 := heap_setCell_same _ _ 2 _ _ (.bool true) HRM'.out
                      exact heap_setCell_same _ _ 3 _ _ (.slice Ta fs.length Tc) h1
end Go.Proofs.YtbhccdedcoajmaaGreatDoor
