import Derived.Test.YtbhccdedcoajmaaGreatDoorDiffM
import Derived.Deep.RegionHeld3
import Derived.Lib.SlBytesConst
import Derived.ArgAppend
namespace Go.Proofs.YtbhccdedcoajmaaGreatDoor
open Go.RowKit

theorem cell_newF {w : World} {cs : Array Value} {t : TypeId} {fz : Nat × Nat} {j : Nat} {v : Value} (h : cs[j]? = some v) : (w.alloc (.cells cs t fz)).cell? ⟨w.heap.size, j, none⟩ = some v := cell_row (heap_alloc_new w _) h

set_option maxRecDepth 10000 in
set_option maxHeartbeats 1000000 in
theorem addN_first (b : Nat) (x : Int) (w : World) (hx0 : 0 ≤ x) (hx1 : x < 256) (c0 : w.cell? ⟨b, 0, none⟩ = some (.int .u8 66)) (c1 : w.cell? ⟨b, 1, none⟩ = some (.int .u8 65)) (c2 : w.cell? ⟨b, 2, none⟩ = some (.int .u8 84)) :
    Calls Tryz.prog 119 #[.slice (some ⟨b, 0, none⟩) 3 3, .int .i64 1, .int .u64 x] w fun e w' => ∃ v', e = .returned v' ∧ w'.ownsRow w.heap.size 5 1 v' [66, 65, 84, x].length (u8s [66, 65, 84, x]) ∧ Below w.heap.size w w' := by
  obtain ⟨j0, hj, y0, y1, y2⟩ := info_parts Tryz.info5
  have HC : Hid (∀ o j u, ([Value.int .u8 66, .int .u8 65, .int .u8 84] : List Value)[j]? = some u → (w.alloc o).cell? ⟨b, 0 + j, none⟩ = some u) := by
    intro o j u hju
    have hb1 : Below w.heap.size w (w.alloc o) := (Below.refl _ _).alloc (Nat.le_refl _) _
    have hbl : b < w.heap.size := World.block_lt_of_cell? w _ c0
    match j, hju with
    | 0, h => simp at h; subst h; exact (hb1.cell (p := ⟨b, 0, none⟩) hbl).trans c0
    | 1, h => simp at h; subst h; exact (hb1.cell (p := ⟨b, 1, none⟩) hbl).trans c1
    | 2, h => simp at h; subst h; exact (hb1.cell (p := ⟨b, 2, none⟩) hbl).trans c2
  have hxm : x % 256 = x := by omega
  clear c0 c1 c2
  go_enter Tryz.func119, Tryz.ntmps119
  go_wp2_with fail
  go_loopw [0, 7] (fun v0 v7 wr => (v0 = .slice (some ⟨b, 0, none⟩) 3 3 ∧ v7 = .int .i64 0 ∧ wr = w) ∨ (v7 = .int .i64 (-1) ∧ Hid (wr.ownsRow w.heap.size 5 1 v0 [66, 65, 84, x].length (u8s [66, 65, 84, x]) ∧ Below w.heap.size w wr))) (fun _ v7 _ => ((intOf v7) + 1).toNat)
  case atStart => exact .inl ⟨rfl, rfl, rfl⟩
  case round =>
    rcases hrel with ⟨rfl, rfl, rfl⟩ | ⟨rfl, HX⟩
    · go_wp2_with (at_builtin; refine wpList_append_arg _ rfl (.tmp 14) (.tmp 20) 38 rfl 5 j0 (.int .u8 0) 1 1 Tryz.underlying38 hj y0 y1 y2 rfl (by decide) b 0 3 3 [.int .u8 66, .int .u8 65, .int .u8 84] rfl rfl ?k2 ⟨wr.heap.size, 0, none⟩ 1 1 [.int .u8 x] rfl rfl ?k3 ?k4 ?k5 ?k6 ?k7 ?k8 ?k9)
      case k2 => exact HC.out _
      case k3 =>
        intro j u hju
        match j, hju with
        | 0, hju => simp at hju; subst hju; simp [Addr.add]
      case k4 => intro u hu; simp at hu; subst hu; rfl
      case k5 => intro h; omega
      case k6 => unfold maxLen; omega
      case k7 => omega
      case k9 =>
        intro v1 w1 hown hgrow
        have HX : Hid (w1.ownsRow wr.heap.size 5 1 v1 [66, 65, 84, x].length (u8s [66, 65, 84, x]) ∧ Below wr.heap.size wr w1) := by
          refine ⟨ownsRow_base hown (by simp), ?_⟩
          exact ((Below.refl _ _).alloc (Nat.le_refl _) _).grown hgrow (by simp) (fun j hj => by cases hj)
        clear hown hgrow
        go_wp2_with fail
        go_roundw
        case rel => exact .inr ⟨rfl, HX.out⟩
        case measure => simp [intOf]
    · go_wp2_with fail
      go_ret
      exact ⟨_, rfl, HX.out.1, HX.out.2⟩

set_option maxRecDepth 10000 in
set_option maxHeartbeats 4000000 in
theorem precord_ok (vs vr : Value) (fs fr : List (ByteArray × ByteArray)) (B : Nat) (w : World) (hB1 : 1 ≤ B) (hB2 : B ≤ 64) (hTs : TreeOk fs) (hTr : TreeOk fr) (hFs : Af w vs fs) (hFr : Af w vr fr)
    (hck : Calls Tryz.prog 118 #[vs, vr, .int .i64 B] w fun e w' => e = .returned .nilIface ∧ Below w.heap.size w w') :
    Calls Tryz.prog 83 #[vs, vr, .int .i64 B] w fun e w' => ∃ v, e = .returned (.tuple #[v, .nilIface]) ∧ w'.ownsRow w.heap.size 5 1 v (recordL (fs.map filOf) (fr.map filOf) B).length (u8s (recordL (fs.map filOf) (fr.map filOf) B)) ∧ Below w.heap.size w w' := by
  have h8 := hTs.len
  have g8 := hTr.len
  have hfs := hTs.sizes
  have hfr := hTr.sizes
  have HCK := hide hck
  clear hck hTs hTr
  have HFR := hide hFr
  obtain ⟨vra, rcap, rfl, hrc, hrcell⟩ := hFr
  obtain ⟨vsa, scap, rfl, hsc, hscell⟩ := hFs
  obtain ⟨pre, hpre⟩ : ∃ pre : Nat → List Int, pre = fun k => 66 :: 65 :: 84 :: (B : Int) :: (fr.length : Int) :: (((fr.map filOf).take k).flatMap entryL) := ⟨_, rfl⟩
  have HP0 : Hid (pre 0 = [66, 65, 84, (B : Int), (fr.length : Int)]) := by rw [hpre]; rfl
  have hps : ∀ k (hk : k < fr.length), pre (k + 1) = pre k ++ entryL (filOf fr[k]) := by
    intro k hk
    rw [hpre]
    simp only [List.cons_append]
    rw [List.take_succ_eq_append_getElem (by simpa using hk), List.flatMap_append]
    simp
  have HPL : Hid (∀ k, k ≤ 8 → (pre k).length ≤ 1000) := by
    intro k hk
    have := flat_len (f := entryL) (c := 23) ((fr.map filOf).take k) (fun x hx => by
      obtain ⟨p, hp, rfl⟩ := List.mem_map.1 (List.mem_of_mem_take hx)
      exact entryL_len (by rw [show (filOf p).name = nums p.1 from rfl, nums_length]; exact (hfr p hp).1))
    have hl : ((fr.map filOf).take k).length ≤ 8 := by rw [List.length_take]; omega
    have := Nat.mul_le_mul_left 23 hl
    rw [hpre]
    simp only [List.length_cons]
    show _ ≤ _
    omega
  have HRC : Hid (∀ i, i < fr.length → ∃ (g : Nat) (nm : ByteArray) (zs : List Int) (b cp : Nat), vra = some ⟨g, 0, none⟩ ∧ g < w.heap.size ∧ w.cell? ⟨g, i * 2, none⟩ = some (.string nm) ∧ w.cell? ⟨g, i * 2 + 1, none⟩ = some (.slice (some ⟨b, 0, none⟩) zs.length cp) ∧ pre (i + 1) = pre i ++ entryL ⟨nums nm, zs⟩ ∧ nm.size ≤ 12 ∧ zs.length ≤ 300 ∧ Bytes zs ∧ b < w.heap.size ∧ ∀ k (h : k < zs.length), w.cell? ⟨b, 0 + k, none⟩ = some (.int .u8 zs[k])) := by
    intro i hi
    obtain ⟨g, b, cp, e, hg, c0, c1, hb, hcp, hc⟩ := hrcell i hi
    exact ⟨g, _, _, b, cp, e, hg, c0, by rw [nums_length]; exact c1, hps i hi, (hfr _ (List.getElem_mem hi)).1, by rw [nums_length]; exact (hfr _ (List.getElem_mem hi)).2, nums_bytes _, hb, hc⟩
  obtain ⟨mid, hmid⟩ : ∃ mid : Nat → List Int, mid = fun k => pre fr.length ++ ((fs.length : Int) :: ((fs.map filOf).take k).flatMap (targetL (fr.map filOf) B)) := ⟨_, rfl⟩
  have HSC : Hid (∀ i, i < fs.length → ∃ (g : Nat) (nm : ByteArray) (zs : List Int) (b cp : Nat), vsa = some ⟨g, 0, none⟩ ∧ g < w.heap.size ∧ w.cell? ⟨g, i * 2, none⟩ = some (.string nm) ∧ w.cell? ⟨g, i * 2 + 1, none⟩ = some (.slice (some ⟨b, 0, none⟩) zs.length cp) ∧ mid (i + 1) = mid i ++ targetL (fr.map filOf) B ⟨nums nm, zs⟩ ∧ nm.size ≤ 12 ∧ zs.length ≤ 300 ∧ Bytes zs ∧ b < w.heap.size ∧ zs.length ≤ cp ∧ ∀ k (h : k < zs.length), w.cell? ⟨b, 0 + k, none⟩ = some (.int .u8 zs[k])) := by
    intro i hi
    obtain ⟨g, b, cp, e, hg, c0, c1, hb, hcp, hc⟩ := hscell i hi
    refine ⟨g, _, nums fs[i].2, b, cp, e, hg, c0, by rw [nums_length]; exact c1, ?_, (hfs _ (List.getElem_mem hi)).1, by rw [nums_length]; exact (hfs _ (List.getElem_mem hi)).2, nums_bytes _, hb, by rw [nums_length]; exact hcp, hc⟩
    rw [hmid]
    show pre fr.length ++ ((fs.length : Int) :: ((fs.map filOf).take (i + 1)).flatMap (targetL (fr.map filOf) B)) = (pre fr.length ++ ((fs.length : Int) :: ((fs.map filOf).take i).flatMap (targetL (fr.map filOf) B))) ++ targetL (fr.map filOf) B ⟨nums fs[i].1, nums fs[i].2⟩
    rw [List.take_succ_eq_append_getElem (by simpa using hi), List.flatMap_append, List.append_assoc, List.cons_append, List.getElem_map, List.flatMap_cons, List.flatMap_nil, List.append_nil]
    rfl
  have HM0 : Hid (mid 0 = pre fr.length ++ [(fs.length : Int)]) := by rw [hmid]; rfl
  have hmn : mid fs.length = bodyL (fs.map filOf) (fr.map filOf) B := by
    rw [hmid, hpre]
    unfold bodyL
    simp only [List.take_of_length_le (l := fs.map filOf) (i := fs.length) (by simp), List.take_of_length_le (l := fr.map filOf) (i := fr.length) (by simp), List.length_map]
    simp
  have HMN := hide hmn
  clear hmn
  have hfound : ∀ nm, ((foundOf fr nm).getD ⟨#[]⟩).size ≤ 300 := by
    intro nm
    unfold foundOf
    cases h : fr.find? fun p => decide (nums p.1 = nums nm) with
    | none => exact Nat.zero_le _
    | some p => exact (hfr p (List.mem_of_find?_eq_some h)).2
  have HFOUND := hide hfound
  have htgt : ∀ p ∈ fs, (targetL (fr.map filOf) B (filOf p)).length ≤ 1525 ∧ Bytes (targetL (fr.map filOf) B (filOf p)) := by
    intro p hp
    refine targetL_ok hB1 (by rw [show (filOf p).name = nums p.1 from rfl, nums_length]; exact (hfs p hp).1) (nums_bytes _) (by rw [show (filOf p).data = nums p.2 from rfl, nums_length]; exact (hfs p hp).2) (nums_bytes _) ?_
    rw [show (filOf p).name = nums p.1 from rfl, found_findL, nums_length]
    exact hfound _
  have HML : Hid (∀ k, k ≤ 8 → (mid k).length ≤ 14000) := by
    intro k hk
    have h1 := flat_len (f := targetL (fr.map filOf) B) (c := 1525) ((fs.map filOf).take k) (fun x hx => by
      obtain ⟨p, hp, rfl⟩ := List.mem_map.1 (List.mem_of_mem_take hx)
      exact (htgt p hp).1)
    have hl : ((fs.map filOf).take k).length ≤ 8 := by rw [List.length_take]; omega
    have := Nat.mul_le_mul_left 1525 hl
    have := HPL.out fr.length g8
    rw [hmid]
    simp only [List.length_cons, List.length_append]
    show _ ≤ _
    omega
  have HMB : Hid (Bytes (mid fs.length)) := by
    show Bytes _
    rw [hmid, hpre]
    refine bytes_app (bytes_cons (by omega) (bytes_cons (by omega) (bytes_cons (by omega) (bytes_cons (by omega) (bytes_cons (by omega) (bytes_flat fun x hx => ?_)))))) (bytes_cons (by omega) (bytes_flat fun x hx => ?_))
    · obtain ⟨p, hp, rfl⟩ := List.mem_map.1 (List.mem_of_mem_take hx)
      exact bytes_entry (by rw [show (filOf p).name = nums p.1 from rfl, nums_length]; exact (hfr p hp).1) (nums_bytes _)
    · obtain ⟨p, hp, rfl⟩ := List.mem_map.1 (List.mem_of_mem_take hx)
      exact (htgt p hp).2
  clear htgt
  clear hrcell hscell hps hmid hfound
  have hBm : (B : Int) % 18446744073709551616 = (B : Int) := by omega
  have hrm : (fr.length : Int) % 18446744073709551616 = (fr.length : Int) := by omega
  have hsm : (fs.length : Int) % 18446744073709551616 = (fs.length : Int) := by omega
  clear hpre
  have HREC : Hid (recordL (fs.map filOf) (fr.map filOf) B = mid fs.length ++ putN 8 (digestOf (mid fs.length))) := by rw [HMN.out]; rfl
  clear hfs hfr
  generalize hRF : fr.map filOf = rf at *
  have HRF := hide hRF
  clear hRF
  generalize hNR : fr.length = nr at *
  generalize hNS : fs.length = ns at *
  have HNR := hide hNR
  clear hNR hNS
  go_enter Tryz.func83, Tryz.ntmps83
  go_wp2_with fail
  refine HCK.out.mono ?_
  rintro e w1 ⟨rfl, hb0⟩
  have HB0 := hide hb0
  clear HCK hb0
  have hsame := Lib.run_convert_bytes_const (P := Tryz.prog) w1 38 5 #[.int .u8 66, .int .u8 65, .int .u8 84] 3 3 Tryz.underlying38 Tryz.underlying5
  have HB1 : Hid (Below w.heap.size w (w1.alloc (.cells #[.int .u8 66, .int .u8 65, .int .u8 84] 5 (3, 3 + 1)))) := HB0.out.alloc HB0.out.size _
  have HC0 : Hid ((w1.alloc (.cells #[.int .u8 66, .int .u8 65, .int .u8 84] 5 (3, 3 + 1))).cell? ⟨w1.heap.size, 0, none⟩ = some (.int .u8 66) ∧ (w1.alloc (.cells #[.int .u8 66, .int .u8 65, .int .u8 84] 5 (3, 3 + 1))).cell? ⟨w1.heap.size, 1, none⟩ = some (.int .u8 65) ∧ (w1.alloc (.cells #[.int .u8 66, .int .u8 65, .int .u8 84] 5 (3, 3 + 1))).cell? ⟨w1.heap.size, 2, none⟩ = some (.int .u8 84)) := ⟨cell_newF rfl, cell_newF rfl, cell_newF rfl⟩
  go_wp2_with fail
  clear hsame
  refine (addN_first _ (B : Int) _ (by omega) (by omega) HC0.out.1 HC0.out.2.1 HC0.out.2.2).mono ?_
  rintro e w2 ⟨v2, rfl, ho2, hb2⟩
  have HB2 : Hid (Below w.heap.size w w2) := below_all HB1.out hb2
  have HO2 : Hid (w2.ownsRow w.heap.size 5 1 v2 [66, 65, 84, (B : Int)].length (u8s [66, 65, 84, (B : Int)])) := ownsRow_base ho2 HB1.out.size
  clear ho2 hb2 HC0
  go_wp2_with fail
  refine (addN_any w.heap.size 1 v2 _ (nr : Int) w2 (by omega) (by omega) (by omega) (by simp) HB2.out.size HO2.out).mono ?_
  rintro e w3 ⟨v3, rfl, ho3, hb3, _⟩
  have HB3 : Hid (Below w.heap.size w w3) := HB2.out.trans hb3
  have HO3 : Hid (w3.ownsRow w.heap.size 5 1 v3 (pre 0).length (u8s (pre 0))) := by
    have h := ho3
    rw [putN_one (by omega) (by omega)] at h
    rw [HP0.out]
    exact h
  clear ho3 hb3 HO2 HB2 HP0 HB1 HB0
  go_wp2_with fail
  go_loopw [9, 35] (fun v9 v35 wx => ∃ k : Nat, k ≤ nr ∧ v35 = .int .i64 k ∧ Hid (wx.ownsRow w.heap.size 5 1 v9 (pre k).length (u8s (pre k))) ∧ Hid (Below w.heap.size w wx)) (fun _ v35 _ => nr - (intOf v35).toNat)
  case atStart => exact ⟨0, Nat.zero_le _, rfl, HO3.out, HB3.out⟩
  case round =>
    clear HO3 HB3
    obtain ⟨k, hk, rfl, HOr, HBr⟩ := hrel
    by_cases hlt : k < nr
    · obtain ⟨g, nm, zs, b, cp, rfl, hg, c0, c1, hpk, hn12, hz300, hzb, hbl, hcz⟩ := HRC.out k hlt
      have d0 := (HBr.out.cell (p := ⟨g, k * 2, none⟩) hg).trans c0
      have d1 := (HBr.out.cell (p := ⟨g, k * 2 + 1, none⟩) hg).trans c1
      have HPK := hide hpk
      have hpl := HPL.out k (by omega)
      have HCALL := hide (fun o => addEntry_any w.heap.size u9 (pre k) nm zs b cp (wr.alloc o) (by omega) hz300 hzb (by omega) (by have := HBr.out.size; simp; omega) (HOr.out.alloc o) (by have := HBr.out.size; simp; omega) (fun j hj => by have := (HOr.out.lt j hj).1; omega) (cells_below hcz (HBr.out.alloc HBr.out.size o)))
      have HBA : Hid (∀ o, Below w.heap.size w (wr.alloc o)) := fun o => HBr.out.alloc HBr.out.size o
      clear c0 c1 hpk hcz hzb
      go_wp2_with fail
      refine (HCALL.out _).mono ?_
      rintro e w5 ⟨v5, rfl, ho5, hb5, _⟩
      have HO5 : Hid (w5.ownsRow w.heap.size 5 1 v5 (pre (k + 1)).length (u8s (pre (k + 1)))) := by rw [HPK.out]; exact ho5
      have HB5 : Hid (Below w.heap.size w w5) := (HBA.out _).trans hb5
      clear ho5 hb5
      go_wp2_with fail
      go_roundw
      case rel => exact ⟨k + 1, by omega, by go_num, HO5.out, HB5.out⟩
      case measure => simp [intOf]; omega
    · have hkn : k = nr := by omega
      subst hkn
      have hpl := HPL.out k (by omega)
      go_wp2_with fail
      refine (addN_any w.heap.size 1 u9 (pre k) (ns : Int) wr (by omega) (by omega) (by omega) (by omega) HBr.out.size HOr.out).mono ?_
      rintro e w4 ⟨v4, rfl, ho4, hb4, _⟩
      have HB4 : Hid (Below w.heap.size w w4) := HBr.out.trans hb4
      have HO4 : Hid (w4.ownsRow w.heap.size 5 1 v4 (mid 0).length (u8s (mid 0))) := by
        have h := ho4
        rw [putN_one (by omega) (by omega)] at h
        rw [HM0.out]
        exact h
      clear ho4 hb4 HOr HBr HM0 HRC
      go_wp2_with fail
      go_loopw [9, 50] (fun v9 v50 wx => ∃ q : Nat, q ≤ ns ∧ v50 = .int .i64 q ∧ Hid (wx.ownsRow w.heap.size 5 1 v9 (mid q).length (u8s (mid q))) ∧ Hid (Below w.heap.size w wx)) (fun _ v50 _ => ns - (intOf v50).toNat)
      case atStart => exact ⟨0, Nat.zero_le _, rfl, HO4.out, HB4.out⟩
      case round =>
        clear HO4 HB4
        obtain ⟨q, hq, rfl, HOq, HBq⟩ := hrel
        by_cases hqt : q < ns
        · obtain ⟨g, nm, zs, b, cp, rfl, hg, c0, c1, hmq, hn12, hz300, hzb, hbl, hzc, hcz⟩ := HSC.out q hqt
          have d0 := (HBq.out.cell (p := ⟨g, q * 2, none⟩) hg).trans c0
          have d1 := (HBq.out.cell (p := ⟨g, q * 2 + 1, none⟩) hg).trans c1
          have HMQ := hide hmq
          have hml := HML.out q (by omega)
          have HCZ := hide hcz
          have HZB := hide hzb
          have hfo := HFOUND.out nm
          obtain ⟨bs, hbs⟩ : ∃ bs, bs = (foundOf fr nm).getD ⟨#[]⟩ := ⟨_, rfl⟩
          have HDATA : Hid (∀ W, Below w.heap.size w W → Calls Tryz.prog 122 #[.slice vra k rcap, .string nm] W fun e w' => ∃ va b2 cp2, e = .returned (.slice va (nums bs).length cp2) ∧ DataAt W va b2 cp2 (nums bs) ∧ Below W.heap.size W w') := by
            intro W hb
            have := tdata_any (.slice vra fr.length rcap) fr nm W (by have := HNR.out; omega) (by have := HFR.out; rw [← HNR.out] at this; exact this.below hb)
            rw [HNR.out, ← hbs] at this
            exact this
          rw [← hbs] at hfo
          have HDIFF : Hid (∀ W va b2 cp2, Below w.heap.size w W → DataAt W va b2 cp2 (nums bs) → Calls Tryz.prog 121 #[.slice va (nums bs).length cp2, .slice (some ⟨b, 0, none⟩) zs.length cp, .int .i64 B] W fun e w' => ∃ v ps, e = .returned (.tuple #[v, .nilIface]) ∧ TokRow w' W.heap.size v ps ∧ ps.map Prod.fst = diffOf (nums bs) zs B ∧ Below W.heap.size W w') := by
            intro W va b2 cp2 hb hat
            exact diff_opt va b2 0 cp2 B (nums bs) hat.1 b 0 cp zs W hB1 hB2 (by rw [nums_length]; exact hfo) hat.2.1 (nums_bytes _) hz300 hzc HZB.out (Nat.lt_of_lt_of_le hbl hb.size) hat.2.2 (cells_below HCZ.out hb)
          obtain ⟨o, ho⟩ : ∃ o, o = Obj.cells #[.string nm, .slice (some ⟨b, 0, none⟩) zs.length cp] 69 := ⟨_, rfl⟩
          have hx0 : (wr.alloc o).cell? ⟨wr.heap.size, 0, none⟩ = some (.string nm) := by rw [ho]; exact cell_new rfl rfl
          have hx1 : (wr.alloc o).cell? ⟨wr.heap.size, 1, none⟩ = some (.slice (some ⟨b, 0, none⟩) zs.length cp) := by rw [ho]; exact cell_new rfl rfl
          have HBA : Hid (Below w.heap.size w (wr.alloc o).drew) := (HBq.out.alloc HBq.out.size o).drew
          have HOA : Hid ((wr.alloc o).drew.ownsRow w.heap.size 5 1 u9 (mid q).length (u8s (mid q))) := ownsRow_below (HOq.out.alloc o) (Below.refl _ _).drew
          have HWL : Hid (wr.heap.size < (wr.alloc o).drew.heap.size) := by show _ < _; simp
          rw [ho] at hx0 hx1 HBA HOA HWL
          clear ho c0 c1 hmq hcz hzb
          have HBS := hide hbs
          clear hbs
          go_wp2_with fail
          clear d0 d1
          generalize hWA : wr.alloc (.cells #[.string nm, .slice (some ⟨b, 0, none⟩) zs.length cp] 69) = wa at *
          clear hWA
          go_region_held3 (fun w' => w'.cell? ⟨wr.heap.size, 0, none⟩ = some (.string nm) ∧ w'.cell? ⟨wr.heap.size, 1, none⟩ = some (.slice (some ⟨b, 0, none⟩) zs.length cp))
            (first | exact ⟨hx0, hx1⟩ | exact ⟨(hb2.cell (p := ⟨wr.heap.size, 0, none⟩) HWL.out).trans hx0, (hb2.cell (p := ⟨wr.heap.size, 1, none⟩) HWL.out).trans hx1⟩ | exact ⟨(hb3.cell (p := ⟨wr.heap.size, 0, none⟩) (Nat.lt_of_lt_of_le HWL.out hb2.size)).trans ((hb2.cell (p := ⟨wr.heap.size, 0, none⟩) HWL.out).trans hx0), (hb3.cell (p := ⟨wr.heap.size, 1, none⟩) (Nat.lt_of_lt_of_le HWL.out hb2.size)).trans ((hb2.cell (p := ⟨wr.heap.size, 1, none⟩) HWL.out).trans hx1)⟩)
            ((first | (go_at_call 122; refine (HDATA.out _ HBA.out).mono ?_; rintro e w2 ⟨va, b2, cp2, rfl, hat, hb2⟩) | (go_at_call 121; refine (HDIFF.out _ _ _ _ (below_all HBA.out hb2) (hat.below hb2)).mono ?_; rintro e w3 ⟨tv, ps, rfl, ht, hps, hb3⟩)))
          have HB3 : Hid (Below w.heap.size w w3) := below_all (below_all HBA.out hb2) hb3
          have HO2 : Hid (w2.ownsRow w.heap.size 5 1 u9 (mid q).length (u8s (mid q))) := ownsRow_below HOA.out hb2
          have HO3 : Hid (w3.ownsRow w.heap.size 5 1 u9 (mid q).length (u8s (mid q))) := ownsRow_below HO2.out hb3
          have hy0 := (hb3.cell (p := ⟨wr.heap.size, 0, none⟩) (Nat.lt_of_lt_of_le HWL.out hb2.size)).trans ((hb2.cell (p := ⟨wr.heap.size, 0, none⟩) HWL.out).trans hx0)
          have hy1 := (hb3.cell (p := ⟨wr.heap.size, 1, none⟩) (Nat.lt_of_lt_of_le HWL.out hb2.size)).trans ((hb2.cell (p := ⟨wr.heap.size, 1, none⟩) HWL.out).trans hx1)
          have HT1 : Hid (∀ k, tv.ownBlock = some k → w2.heap.size ≤ k ∧ k < w3.heap.size) := ht.row.lt
          have HT2 : Hid (∀ p ∈ ps, ∀ k, p.2.ownBlock = some k → w2.heap.size ≤ k ∧ k < w3.heap.size) := fun p hp => (ht.data p hp).lt
          have HT3 := hide ht
          have HR3 : Hid (∀ k, u9.ownBlock = some k → k < w2.heap.size ∨ w3.heap.size ≤ k) := fun k hk => .inl (HO2.out.lt k hk).2
          have HPS := hide hps
          clear hb2 hb3 hx0 hx1 ht hps hat
          have HENT := hide (addEntry_any w.heap.size u9 (mid q) nm zs b cp w3 (by omega) hz300 HZB.out (by omega) HB3.out.size HO3.out (Nat.lt_of_lt_of_le hbl HB3.out.size) (fun j hj => by have := (HO3.out.lt j hj).1; omega) (cells_below HCZ.out HB3.out))
          go_wp2_with fail
          refine HENT.out.mono ?_
          rintro e w4 ⟨v4, rfl, ho4, hb4, hg4⟩
          have HB4 : Hid (Below w.heap.size w w4) := HB3.out.trans hb4
          have HR4 : Hid (∀ k, v4.ownBlock = some k → k < w2.heap.size ∨ w3.heap.size ≤ k) := hg4.row (Nat.le_refl _) HR3.out
          have HT4 : Hid (TokRow w4 w2.heap.size tv ps) := HT3.out.grew HT1.out HT2.out HR3.out hg4.1
          have hz4 : w3.heap.size ≤ w4.heap.size := hg4.1.size
          have HO4 := hide ho4
          have hfair := fair_diffOf (zs := nums bs) (ds := zs) hB1 (by rw [nums_length]; exact hfo) HZB.out
          have hfull : Full1 (diffOf (nums bs) zs B) := full1_diffGo (zs := nums bs) (B := B) hB1 zs.length zs [] (Nat.le_refl _) (fun t ht => by simp at ht)
          have e2 : targetL rf B ⟨nums nm, zs⟩ = entryL ⟨nums nm, zs⟩ ++ (putN 2 ((diffOf (findL rf (nums nm)) zs B).length : Int) ++ (diffOf (findL rf (nums nm)) zs B).flatMap tokL) := rfl
          rw [← HRF.out, found_findL, ← HBS.out, ← HPS.out, List.length_map, HRF.out] at e2
          rw [← HPS.out] at hfair hfull
          have hpl2 : ps.length ≤ 300 := by have := hfair.2; rw [List.length_map] at this; omega
          have hel := entryL_len (f := ⟨nums nm, zs⟩) (by rw [nums_length]; exact hn12)
          have HTOK := hide (addTokens_any w.heap.size w2.heap.size w3.heap.size v4 tv ps (mid q ++ entryL ⟨nums nm, zs⟩) w4 HT4.out HT1.out HT2.out HR4.out hz4 (fun p hp => hfair.1 _ (List.mem_map_of_mem hp)) (fun p hp => hfull _ (List.mem_map_of_mem hp)) hpl2 (by rw [List.length_append]; omega) HB4.out.size HO4.out)
          have HE2 : Hid (mid q ++ entryL ⟨nums nm, zs⟩ ++ (putN 2 (ps.length : Int) ++ (ps.map Prod.fst).flatMap tokL) = mid (q + 1)) := by
            show _ = _
            rw [HMQ.out, e2, List.append_assoc]
          clear ho4 hb4 hg4 hfair hfull e2 hel hy0 hy1
          go_wp2_with fail
          refine HTOK.out.mono ?_
          rintro e w5 ⟨v5, rfl, ho5, hb5, _⟩
          rw [HE2.out] at ho5
          have HO5 := hide ho5
          have HB5 : Hid (Below w.heap.size w w5) := HB4.out.trans hb5
          clear ho5 hb5
          go_wp2_with fail
          go_roundw
          case rel => exact ⟨q + 1, by omega, by go_num, HO5.out, HB5.out⟩
          case measure => simp [intOf]; omega
        · have hqn : q = ns := by omega
          subst hqn
          have hml := HML.out q (by omega)
          obtain ⟨g, cp, rfl, hgl⟩ : ∃ g cp, u9 = .slice (some ⟨g, 0, none⟩) (mid q).length cp ∧ g < wr.heap.size := by
            rcases own_shape HOq.out with ⟨_, h⟩ | ⟨g, cp, h, _, hl, _⟩
            · exfalso
              have := HMN.out
              rw [h] at this
              unfold bodyL at this
              cases this
            · exact ⟨g, cp, h, hl⟩
          have HDG := hide (digest_any g 0 cp (mid q) wr (by omega) HMB.out (fun k h => by rw [Nat.zero_add]; exact own_cells HOq.out k h))
          have hdb := digest_bd (mid q)
          go_wp2_with fail
          refine HDG.out.mono ?_
          rintro e w2 ⟨rfl, hw2⟩
          obtain rfl := hw2.symm
          generalize hD : digestOf (mid q) = D at *
          have HD := hide hD
          clear hD
          go_wp2_with fail
          refine (addN_any w.heap.size 8 _ (mid q) D wr (by omega) hdb.1 hdb.2 (by omega) HBq.out.size HOq.out).mono ?_
          rintro e w3 ⟨v3, rfl, ho3, hb3, _⟩
          have HB3 : Hid (Below w.heap.size w w3) := HBq.out.trans hb3
          have HO3 := hide ho3
          clear ho3 hb3
          go_wp2_with fail
          go_ret2
          refine ⟨_, rfl, ?_, HB3.out⟩
          rw [HREC.out]
          exact HO3.out
end Go.Proofs.YtbhccdedcoajmaaGreatDoor
