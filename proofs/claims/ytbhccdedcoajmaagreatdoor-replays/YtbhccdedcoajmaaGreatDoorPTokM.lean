import Derived.Test.YtbhccdedcoajmaaGreatDoorClipM
import Derived.Test.YtbhccdedcoajmaaGreatDoorFairM
import Derived.Test.YtbhccdedcoajmaaGreatDoorPTokenM
namespace Go.Proofs.YtbhccdedcoajmaaGreatDoor
open Go.RowKit

theorem cells_add {w : World} {gd : Nat} {td : List Int} (h : ∀ k (h : k < td.length), w.cell? ⟨gd, k, none⟩ = some (.int .u8 td[k])) : ∀ j x, (u8s td)[j]? = some x → w.cell? (Addr.add ⟨gd, 0, none⟩ j) = some x := by
  intro j x hj
  rcases Nat.lt_or_ge j td.length with hl | hl
  · simp only [u8s, List.getElem?_map, List.getElem?_eq_getElem hl, Option.map_some, Option.some.injEq] at hj
    subst hj
    rw [add_at]
    exact h j hl
  · rw [List.getElem?_eq_none (by simpa [u8s] using hl)] at hj
    cases hj

set_option maxRecDepth 10000 in
set_option maxHeartbeats 1000000 in
theorem addTok_data (base gd cd : Nat) (v : Value) (xs td : List Int) (bk : Int) (w : World) (hL0 : 0 < td.length) (h255 : td.length ≤ 255) (_hcd : td.length ≤ cd) (hl : xs.length ≤ 900000) (hb : base ≤ w.heap.size) (ho : w.ownsRow base 5 1 v xs.length (u8s xs))
    (hgd : gd < w.heap.size) (hfar : ∀ k, v.ownBlock = some k → k ≠ gd) (hd : ∀ k (h : k < td.length), w.cell? ⟨gd, k, none⟩ = some (.int .u8 td[k])) :
    Calls Tryz.prog 149 #[v, .agg #[.int .i64 bk, .int .i64 0, .slice (some ⟨gd, 0, none⟩) td.length cd]] w fun e w' => ∃ v', e = .returned v' ∧ w'.ownsRow base 5 1 v' (xs ++ ([0, (td.length : Int)] ++ td)).length (u8s (xs ++ ([0, (td.length : Int)] ++ td))) ∧ Below base w w' ∧ Grew w w' v v' := by
  obtain ⟨j0, hj, y0, y1, y2⟩ := info_parts Tryz.info5
  have HO := hide ho
  have HFAR := hide hfar
  have HD := hide hd
  clear ho hfar hd
  obtain ⟨o, ho⟩ : ∃ o, o = Obj.cells #[.int .i64 bk, .int .i64 0, .slice (some ⟨gd, 0, none⟩) td.length cd] 100 := ⟨_, rfl⟩
  have HA0 : Hid (Below w.heap.size w (w.alloc o)) := (Below.refl _ _).alloc (Nat.le_refl _) _
  have HB0 : Hid (Below base w (w.alloc o)) := (Below.refl _ _).alloc hb _
  have hk1 : (w.alloc o).cell? ⟨w.heap.size, 1, none⟩ = some (.int .i64 0) := by rw [ho]; exact cell_new rfl rfl
  have hk2 : (w.alloc o).cell? ⟨w.heap.size, 2, none⟩ = some (.slice (some ⟨gd, 0, none⟩) td.length cd) := by rw [ho]; exact cell_new rfl rfl
  have HO0 := hide (HO.out.alloc o)
  have HSZ : Hid ((w.alloc o).heap.size = w.heap.size + 1) := by show _ = _; simp
  have HD0 : Hid (∀ k (h : k < td.length), (w.alloc o).cell? ⟨gd, k, none⟩ = some (.int .u8 td[k])) := fun k h => (HA0.out.cell (p := ⟨gd, k, none⟩) hgd).trans (HD.out k h)
  have HV0 : Hid (∀ k, v.ownBlock = some k → k ≠ w.heap.size) := fun k hk => by have := (HO.out.lt k hk).2; omega
  rw [ho] at HA0 HB0 HO0 HSZ HD0 hk1 hk2
  clear ho
  generalize hwa : w.alloc (.cells #[.int .i64 bk, .int .i64 0, .slice (some ⟨gd, 0, none⟩) td.length cd] 100) = wa at *
  have hmod : (td.length : Int) % 18446744073709551616 = (td.length : Int) := by omega
  go_enter Tryz.func149, Tryz.ntmps149
  go_wp2_with fail
  clear hwa
  refine (addN_any base 1 v xs 0 wa (by omega) (by omega) (by omega) (by omega) (by have := HSZ.out; omega) HO0.out).mono ?_
  rintro e w1 ⟨v1, rfl, ho1, hb1, hg1⟩
  have HV1 := hide (hg1.far (b := w.heap.size) (by have := HSZ.out; omega) HV0.out)
  have HF1 := hide (hg1.far (b := gd) (by have := HSZ.out; omega) HFAR.out)
  have k2 := hg1.cell hk2 HV0.out
  have HD1 : Hid (∀ k (h : k < td.length), w1.cell? ⟨gd, k, none⟩ = some (.int .u8 td[k])) := fun k h => hg1.cell (HD0.out k h) HFAR.out
  have HB1 : Hid (Below base w w1) := HB0.out.trans hb1
  have HG1 := hide hg1
  have HO1 : Hid (w1.ownsRow base 5 1 v1 (xs ++ [0]).length (u8s (xs ++ [0]))) := by
    have h := ho1
    rw [putN_one (by omega) (by omega)] at h
    exact h
  have hws : w.heap.size < w1.heap.size := World.block_lt_of_cell? w1 _ k2
  clear ho1 hb1 hg1 hk1 hk2
  go_wp2_with fail
  refine (addN_any base 1 v1 (xs ++ [0]) (td.length : Int) w1 (by omega) (by omega) (by omega) (by simp; omega) (by have := HB1.out.size; omega) HO1.out).mono ?_
  rintro e w2 ⟨v2, rfl, ho2, hb2, hg2⟩
  have HF2 := hide (hg2.far (b := gd) (by omega) HF1.out)
  have m2 := hg2.cell k2 HV1.out
  have HD2 : Hid (∀ k (h : k < td.length), w2.cell? ⟨gd, k, none⟩ = some (.int .u8 td[k])) := fun k h => hg2.cell (HD1.out k h) HF1.out
  have HB2 : Hid (Below base w w2) := HB1.out.trans hb2
  have HG2 := hide (HG1.out.trans hg2)
  have HO2 : Hid (w2.ownsRow base 5 1 v2 (xs ++ [0, (td.length : Int)]).length (u8s (xs ++ [0, (td.length : Int)]))) := by
    have h := ho2
    rw [putN_one (by omega) (by omega), List.append_assoc] at h
    exact h
  clear ho2 hb2 hg2 k2
  have hnl : (u8s td).length = td.length * 1 := by simp [u8s]
  have hal : (xs ++ [0, (td.length : Int)]).length ≤ 900002 := by simp; omega
  go_wp2_with (at_builtin; refine wpList_append_own_at _ rfl (.tmp 16) (.tmp 18) 38 rfl base 5 j0 (.int .u8 0) 1 1 Tryz.underlying38 hj y0 y1 y2 rfl (by decide) _ (xs ++ [0, (td.length : Int)]).length (u8s (xs ++ [0, (td.length : Int)])) rfl HO2.out ⟨gd, 0, none⟩ td.length cd (u8s td) rfl hnl ?ra ?rb ?rc ?rd ?re ?rf)
  case ra => exact cells_add HD2.out
  case rb => intro y hy; simp [u8s] at hy; obtain ⟨a, _, rfl⟩ := hy; rfl
  case rc => unfold maxLen; omega
  case rd => omega
  case re => have := HB2.out.size; omega
  case rf =>
    intro v3 w3 hown hgrow _ hloc
    have HG3 : Hid (Grew w2 w3 _ v3) := ⟨hgrow, hloc.imp id fun e => ⟨_, Nat.le_refl _, e⟩⟩
    have HB3 : Hid (Below base w w3) := HB2.out.grown HG3.out.1 (by have := HB2.out.size; omega) (fun j hj => (HO2.out.lt j hj).1)
    have HG4 : Hid (Grew w w3 v v3) := (HG2.out.trans HG3.out).below HA0.out
    have HO3 : Hid (w3.ownsRow base 5 1 v3 (xs ++ ([0, (td.length : Int)] ++ td)).length (u8s (xs ++ ([0, (td.length : Int)] ++ td)))) := by
      have e1 : ∀ n cs, w3.ownsRow base 5 1 v3 n cs → n = (xs ++ ([0, (td.length : Int)] ++ td)).length → cs = u8s (xs ++ ([0, (td.length : Int)] ++ td)) → w3.ownsRow base 5 1 v3 (xs ++ ([0, (td.length : Int)] ++ td)).length (u8s (xs ++ ([0, (td.length : Int)] ++ td))) := by rintro n cs h rfl rfl; exact h
      exact e1 _ _ hown (by simp <;> omega) (by simp [u8s])
    clear hown hgrow hloc
    go_wp2_with fail
    go_ret
    exact ⟨_, rfl, HO3.out, HB3.out, HG4.out⟩

set_option maxRecDepth 10000 in
set_option maxHeartbeats 1000000 in
theorem addTok_copy (base : Nat) (v u : Value) (xs : List Int) (bk ct : Int) (w : World) (hb0 : 0 ≤ bk) (hb1 : bk ≤ 65535) (hc0 : 0 < ct) (hc1 : ct ≤ 255) (hl : xs.length ≤ 900000) (hb : base ≤ w.heap.size) (ho : w.ownsRow base 5 1 v xs.length (u8s xs)) :
    Calls Tryz.prog 149 #[v, .agg #[.int .i64 bk, .int .i64 ct, u]] w fun e w' => ∃ v', e = .returned v' ∧ w'.ownsRow base 5 1 v' (xs ++ ([1] ++ (putN 2 bk ++ [ct]))).length (u8s (xs ++ ([1] ++ (putN 2 bk ++ [ct])))) ∧ Below base w w' ∧ Grew w w' v v' := by
  have HO := hide ho
  clear ho
  obtain ⟨o, ho⟩ : ∃ o, o = Obj.cells #[.int .i64 bk, .int .i64 ct, u] 100 := ⟨_, rfl⟩
  have HA0 : Hid (Below w.heap.size w (w.alloc o)) := (Below.refl _ _).alloc (Nat.le_refl _) _
  have HB0 : Hid (Below base w (w.alloc o)) := (Below.refl _ _).alloc hb _
  have hk0 : (w.alloc o).cell? ⟨w.heap.size, 0, none⟩ = some (.int .i64 bk) := by rw [ho]; exact cell_new rfl rfl
  have hk1 : (w.alloc o).cell? ⟨w.heap.size, 1, none⟩ = some (.int .i64 ct) := by rw [ho]; exact cell_new rfl rfl
  have HO0 := hide (HO.out.alloc o)
  have HSZ : Hid ((w.alloc o).heap.size = w.heap.size + 1) := by show _ = _; simp
  have HV0 : Hid (∀ k, v.ownBlock = some k → k ≠ w.heap.size) := fun k hk => by have := (HO.out.lt k hk).2; omega
  rw [ho] at HA0 HB0 HO0 HSZ hk0 hk1
  clear ho
  generalize hwa : w.alloc (.cells #[.int .i64 bk, .int .i64 ct, u] 100) = wa at *
  have hmod : bk % 18446744073709551616 = bk := by omega
  have hmod2 : ct % 18446744073709551616 = ct := by omega
  have hct : (ct == 0) = false := by simp; omega
  go_enter Tryz.func149, Tryz.ntmps149
  go_wp2_with fail
  clear hwa
  refine (addN_any base 1 v xs 1 wa (by omega) (by omega) (by omega) (by omega) (by have := HSZ.out; omega) HO0.out).mono ?_
  rintro e w1 ⟨v1, rfl, ho1, hb1', hg1⟩
  have HV1 := hide (hg1.far (b := w.heap.size) (by have := HSZ.out; omega) HV0.out)
  have k0 := hg1.cell hk0 HV0.out
  have k1 := hg1.cell hk1 HV0.out
  have HB1 : Hid (Below base w w1) := HB0.out.trans hb1'
  have HG1 := hide hg1
  have HO1 : Hid (w1.ownsRow base 5 1 v1 (xs ++ [1]).length (u8s (xs ++ [1]))) := by
    have h := ho1
    rw [putN_one (by omega) (by omega)] at h
    exact h
  have hws : w.heap.size < w1.heap.size := World.block_lt_of_cell? w1 _ k0
  clear ho1 hb1' hg1 hk0 hk1
  go_wp2_with fail
  refine (addN_any base 2 v1 (xs ++ [1]) bk w1 (by omega) (by omega) (by omega) (by simp; omega) (by have := HB1.out.size; omega) HO1.out).mono ?_
  rintro e w2 ⟨v2, rfl, ho2, hb2, hg2⟩
  have m1 := hg2.cell k1 HV1.out
  have HB2 : Hid (Below base w w2) := HB1.out.trans hb2
  have HG2 := hide (HG1.out.trans hg2)
  have HO2 := hide ho2
  clear ho2 hb2 hg2 k0 k1
  have hal : (xs ++ [1] ++ putN 2 bk).length ≤ 1000000 := by rw [List.length_append, putN_length]; simp; omega
  go_wp2_with fail
  refine (addN_any base 1 v2 (xs ++ [1] ++ putN 2 bk) ct w2 (by omega) (by omega) (by omega) hal (by have := HB2.out.size; omega) HO2.out).mono ?_
  rintro e w3 ⟨v3, rfl, ho3, hb3, hg3⟩
  have HB3 : Hid (Below base w w3) := HB2.out.trans hb3
  have HG4 : Hid (Grew w w3 v v3) := (HG2.out.trans hg3).below HA0.out
  have HO3 : Hid (w3.ownsRow base 5 1 v3 (xs ++ ([1] ++ (putN 2 bk ++ [ct]))).length (u8s (xs ++ ([1] ++ (putN 2 bk ++ [ct]))))) := by
    have h := ho3
    rw [putN_one (by omega) (by omega), List.append_assoc, List.append_assoc] at h
    exact h
  clear ho3 hb3 hg3
  go_wp2_with fail
  go_ret
  exact ⟨_, rfl, HO3.out, HB3.out, HG4.out⟩
end Go.Proofs.YtbhccdedcoajmaaGreatDoor
namespace Go.Proofs.YtbhccdedcoajmaaGreatDoor
open Go.RowKit

set_option maxRecDepth 10000 in
set_option maxHeartbeats 2000000 in
theorem addTokens_any (base bT TT : Nat) (v tv : Value) (ps : List (Tok × Value)) (xs : List Int) (w : World) (hT : TokRow w bT tv ps) (h1 : ∀ k, tv.ownBlock = some k → bT ≤ k ∧ k < TT) (h2 : ∀ p ∈ ps, ∀ k, p.2.ownBlock = some k → bT ≤ k ∧ k < TT) (hrow : ∀ k, v.ownBlock = some k → k < bT ∨ TT ≤ k) (hTT : TT ≤ w.heap.size)
    (hfair : ∀ p ∈ ps, Fair p.1) (hfull : ∀ p ∈ ps, p.1.count = 0 → 0 < p.1.data.length) (hlen : ps.length ≤ 300) (hl : xs.length ≤ 100000) (hb : base ≤ w.heap.size) (ho : w.ownsRow base 5 1 v xs.length (u8s xs)) :
    Calls Tryz.prog 123 #[v, tv] w fun e w' => ∃ v', e = .returned v' ∧ w'.ownsRow base 5 1 v' (xs ++ (putN 2 (ps.length : Int) ++ (ps.map Prod.fst).flatMap tokL)).length (u8s (xs ++ (putN 2 (ps.length : Int) ++ (ps.map Prod.fst).flatMap tokL))) ∧ Below base w w' ∧ Grew w w' v v' := by
  obtain ⟨va, cap, rfl, hcap, hopen⟩ := hT.opened
  have HT := hide hT
  have HT1 := hide h1
  have HT2 := hide h2
  have HRW := hide hrow
  have HO := hide ho
  obtain ⟨acc, hacc⟩ : ∃ acc : Nat → List Int, acc = fun j => xs ++ (putN 2 (ps.length : Int) ++ ((ps.map Prod.fst).take j).flatMap tokL) := ⟨_, rfl⟩
  have HA0 : Hid (acc 0 = xs ++ putN 2 (ps.length : Int)) := by show _ = _; rw [hacc]; simp
  have HAN : Hid (acc ps.length = xs ++ (putN 2 (ps.length : Int) ++ (ps.map Prod.fst).flatMap tokL)) := by
    show _ = _
    rw [hacc]
    simp only [List.take_of_length_le (l := ps.map Prod.fst) (i := ps.length) (by simp)]
  have HAL : Hid (∀ j, (acc j).length ≤ 200000) := by
    intro j
    have h := flat_len (f := tokL) (c := 257) ((ps.map Prod.fst).take j) (fun x hx => by
      obtain ⟨p, hp, rfl⟩ := List.mem_map.1 (List.mem_of_mem_take hx)
      exact tokL_len (hfair p hp))
    have hl2 : ((ps.map Prod.fst).take j).length ≤ 300 := by rw [List.length_take, List.length_map]; omega
    have := Nat.mul_le_mul_left 257 hl2
    rw [hacc]
    simp only [List.length_append, putN_length]
    show _ ≤ _
    omega
  have HJ : Hid (∀ j, j < ps.length → ∃ (t : Tok) (u : Value) (g : Nat), va = some ⟨g, 0, none⟩ ∧ Fair t ∧ (t.count = 0 → 0 < t.data.length) ∧ acc (j + 1) = acc j ++ tokL t ∧ (∀ k, u.ownBlock = some k → bT ≤ k ∧ k < TT) ∧ ∀ W, TokRow W bT (.slice va ps.length cap) ps → W.cell? ⟨g, j * 3, none⟩ = some (.int .i64 t.block) ∧ W.cell? ⟨g, j * 3 + 1, none⟩ = some (.int .i64 t.count) ∧ W.cell? ⟨g, j * 3 + 2, none⟩ = some u ∧ W.ownsRow bT 5 1 u t.data.length (u8s t.data)) := by
    intro j hj
    obtain ⟨g, rfl, _⟩ := hopen j hj
    have hm : ps[j] ∈ ps := List.getElem_mem hj
    refine ⟨ps[j].1, ps[j].2, g, rfl, hfair _ hm, hfull _ hm, ?_, h2 _ hm, fun W hW => ?_⟩
    · rw [hacc]
      simp only []
      rw [List.take_succ_eq_append_getElem (by simpa using hj), List.flatMap_append, List.getElem_map, List.flatMap_cons, List.flatMap_nil, List.append_nil]
      simp only [List.append_assoc]
    · obtain ⟨z0, z1, z2⟩ := hW.cells j hj
      exact ⟨z0, z1, z2, hW.data _ (List.getElem_mem hj)⟩
  clear hT h1 h2 hrow ho hfair hfull hopen hacc
  generalize hM : ps.length = m at *
  have HMM := hide hM
  clear hM
  have hmod : (m : Int) % 18446744073709551616 = (m : Int) := by omega
  go_enter Tryz.func123, Tryz.ntmps123
  go_wp2_with fail
  refine (addN_any base 2 v xs (m : Int) w (by omega) (by omega) (by omega) (by omega) hb HO.out).mono ?_
  rintro e w1 ⟨v1, rfl, ho1, hb1, hg1⟩
  have HO1 : Hid (w1.ownsRow base 5 1 v1 (acc 0).length (u8s (acc 0))) := by rw [HA0.out]; exact ho1
  have HB1 := hide hb1
  have HG1 := hide hg1
  have HR1 : Hid (∀ k, v1.ownBlock = some k → k < bT ∨ TT ≤ k) := hg1.row hTT HRW.out
  have HK1 : Hid (TokRow w1 bT (.slice va m cap) ps) := HT.out.grew HT1.out HT2.out HRW.out hg1.1
  clear ho1 hb1 hg1
  go_wp2_with fail
  go_loopw [0, 14] (fun v0 v14 wx => ∃ j : Nat, j ≤ m ∧ v14 = .int .i64 j ∧ Hid (wx.ownsRow base 5 1 v0 (acc j).length (u8s (acc j))) ∧ Hid (Below base w wx) ∧ Hid (Grew w wx v v0) ∧ Hid (TokRow wx bT (.slice va m cap) ps) ∧ Hid (∀ k, v0.ownBlock = some k → k < bT ∨ TT ≤ k)) (fun _ v14 _ => m - (intOf v14).toNat)
  case atStart => exact ⟨0, Nat.zero_le _, rfl, HO1.out, HB1.out, HG1.out, HK1.out, HR1.out⟩
  case round =>
    clear HO1 HB1 HG1 HK1 HR1 HA0 HT HRW HO
    obtain ⟨j, hjm, rfl, HOx, HBx, HGx, HKx, HRx⟩ := hrel
    have hZx : TT ≤ wr.heap.size := Nat.le_trans hTT HGx.out.1.size
    have hbx : base ≤ wr.heap.size := Nat.le_trans hb HGx.out.1.size
    by_cases hjt : j < m
    · obtain ⟨t, u, gt, rfl, hft, hfl, hst, hub, hcl⟩ := HJ.out j hjt
      obtain ⟨_, hf2, hf3, hf4, hf5, hf6⟩ := hft
      obtain ⟨x0, x1, x2, x3⟩ := hcl _ HKx.out
      have hal := HAL.out j
      have HST := hide hst
      have HX3 := hide x3
      have HUB := hide hub
      have HA : Hid (∀ o, Below wr.heap.size wr (wr.alloc o)) := fun o => (Below.refl _ _).alloc (Nat.le_refl _) _
      have HOA : Hid (∀ o, (wr.alloc o).ownsRow base 5 1 u0 (acc j).length (u8s (acc j))) := fun o => HOx.out.alloc o
      clear hst hcl x3 hub
      have HNEXT : Hid (∀ (o : Obj) (v2 : Value) (w2 : World), w2.ownsRow base 5 1 v2 (acc (j + 1)).length (u8s (acc (j + 1))) → Below base (wr.alloc o) w2 → Grew (wr.alloc o) w2 u0 v2 → Below base w w2 ∧ Grew w w2 v v2 ∧ TokRow w2 bT (.slice (some ⟨gt, 0, none⟩) m cap) ps ∧ ∀ k, v2.ownBlock = some k → k < bT ∨ TT ≤ k) := by
        intro o v2 w2 _ hb2 hg2
        have hg3 : Grew wr w2 u0 v2 := hg2.below (HA.out o)
        exact ⟨HBx.out.trans (((HA.out o).mono hbx).trans hb2), HGx.out.trans hg3, HKx.out.grew HT1.out HT2.out HRx.out hg3.1, hg3.row hZx HRx.out⟩
      by_cases hc0 : t.count = 0
      · rw [hc0] at x1
        have hL0 := hfl hc0
        obtain ⟨gd, cd, rfl, hgl, hgd⟩ : ∃ gd cd, u = .slice (some ⟨gd, 0, none⟩) t.data.length cd ∧ gd < wr.heap.size ∧ t.data.length ≤ cd := by
          rcases own_shape HX3.out with ⟨_, h⟩ | ⟨gd, cd, h, _, hlt, h1, _⟩
          · rw [h] at hL0; simp at hL0
          · exact ⟨gd, cd, h, hlt, h1⟩
        have htl : tokL t = [0, (t.data.length : Int)] ++ t.data := by unfold tokL; rw [if_pos hc0]; rfl
        rw [htl] at HST
        have HFA : Hid (∀ k, u0.ownBlock = some k → k ≠ gd) := fun k hk => by
          have := HUB.out gd rfl
          have := HRx.out k hk
          omega
        have HCE : Hid (∀ o k (h : k < t.data.length), (wr.alloc o).cell? ⟨gd, k, none⟩ = some (.int .u8 t.data[k])) := fun o k h => ((HA.out o).cell (p := ⟨gd, k, none⟩) hgl).trans (own_cells HX3.out k h)
        have HCALL := hide (fun o => addTok_data base gd cd u0 (acc j) t.data t.block (wr.alloc o) hL0 hf2 hgd (by omega) (by simp; omega) (HOA.out o) (by simp; omega) HFA.out (HCE.out o))
        clear htl
        go_wp2_with fail
        refine (HCALL.out _).mono ?_
        rintro e w2 ⟨v2, rfl, ho2, hb2, hg2⟩
        rw [← HST.out] at ho2
        have HY := hide (HNEXT.out _ _ _ ho2 hb2 hg2)
        have HO2 := hide ho2
        clear ho2 hb2 hg2
        go_wp2_with fail
        go_roundw
        case rel => exact ⟨j + 1, by omega, by go_num, HO2.out, HY.out.1, HY.out.2.1, HY.out.2.2.1, HY.out.2.2.2⟩
        case measure => simp [intOf]; omega
      · have htl : tokL t = [1] ++ (putN 2 t.block ++ [t.count]) := by unfold tokL; rw [if_neg hc0]; rfl
        rw [htl] at HST
        obtain ⟨da, dn, dc, rfl⟩ : ∃ da dn dc, u = .slice da dn dc := by
          rcases own_shape HX3.out with ⟨h, _⟩ | ⟨g2, dc, h, _⟩
          · exact ⟨_, _, _, h⟩
          · exact ⟨_, _, _, h⟩
        have HCALL := hide (fun o => addTok_copy base u0 (.slice da dn dc) (acc j) t.block t.count (wr.alloc o) (by omega) (by omega) (by omega) (by omega) (by omega) (by simp; omega) (HOA.out o))
        clear htl
        go_wp2_with fail
        refine (HCALL.out _).mono ?_
        rintro e w2 ⟨v2, rfl, ho2, hb2, hg2⟩
        rw [← HST.out] at ho2
        have HY := hide (HNEXT.out _ _ _ ho2 hb2 hg2)
        have HO2 := hide ho2
        clear ho2 hb2 hg2
        go_wp2_with fail
        go_roundw
        case rel => exact ⟨j + 1, by omega, by go_num, HO2.out, HY.out.1, HY.out.2.1, HY.out.2.2.1, HY.out.2.2.2⟩
        case measure => simp [intOf]; omega
    · have hjn : j = m := by omega
      subst hjn
      have HF : Hid (wr.ownsRow base 5 1 u0 (xs ++ (putN 2 (j : Int) ++ (ps.map Prod.fst).flatMap tokL)).length (u8s (xs ++ (putN 2 (j : Int) ++ (ps.map Prod.fst).flatMap tokL)))) := by rw [← HAN.out]; exact HOx.out
      go_wp2_with fail
      go_ret
      exact ⟨_, rfl, HF.out, HBx.out, HGx.out⟩
end Go.Proofs.YtbhccdedcoajmaaGreatDoor
