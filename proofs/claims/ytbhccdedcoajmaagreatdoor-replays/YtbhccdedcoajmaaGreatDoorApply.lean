import Derived.Test.YtbhccdedcoajmaaGreatDoorDiffAM
import Derived.Test.YtbhccdedcoajmaaGreatDoorPTokenM
import Derived.Deep.RegionHeld3
namespace Go.Proofs.YtbhccdedcoajmaaGreatDoor
open Go.RowKit


set_option maxRecDepth 10000 in
set_option maxHeartbeats 400000 in
theorem fits_any (t : Tok) (da : Option Addr) (dc m n B : Nat) (hm : t.data.length = m) (hm2 : m ≤ 70000) (hn : n ≤ 300) (hB1 : 1 ≤ B) (hB2 : B ≤ 64) (hb : I64 t.block) (hc : I64 t.count) (w : World) :
    Calls Tryz.prog 158 #[.agg #[.int .i64 t.block, .int .i64 t.count, .slice da m dc], .int .i64 n, .int .i64 B] w fun e w' => e = .returned (.bool (fitsB (chunks n B) t)) ∧ Below w.heap.size w w' := by
  have HM : Hid (t.data = [] ↔ m = 0) := by show _ ↔ _; rw [← hm, List.length_eq_zero_iff]
  clear hm
  obtain ⟨hb1, hb2⟩ := hb
  obtain ⟨hc1, hc2⟩ := hc
  have hM := chunks_le (n := n) hB1
  have HCO := hide (fun W => count_any n B hB1 hB2 hn W)
  by_cases hz : t.count = 0
  · go_enter Tryz.func158, Tryz.ntmps158
    go_wp2_with fail
    all_goals go_ret
    all_goals refine ⟨congrArg (fun x => Ending.returned (Value.bool x)) ?_, (Below.refl _ _).alloc (Nat.le_refl _) _⟩
    all_goals
      rw [Bool.eq_iff_iff]
      simp only [fitsB_iff, fitsT, HM.out]
      try simp [hz]
      try omega
  · have hz' : (t.count == 0) = false := by simpa using hz
    have HB1 : Hid (Below w.heap.size w (w.alloc (.cells #[.int .i64 t.block, .int .i64 t.count, .slice da m dc] 100))) := (Below.refl _ _).alloc (Nat.le_refl _) _
    by_cases hd : t.count < 0 ∨ t.block < 0
    · rcases hd with hd | hd
      all_goals
        go_enter Tryz.func158, Tryz.ntmps158
        go_wp2_with fail
        all_goals go_ret
        all_goals refine ⟨congrArg (fun x => Ending.returned (Value.bool x)) ?_, (Below.refl _ _).alloc (Nat.le_refl _) _⟩
        all_goals
          rw [Bool.eq_iff_iff]
          simp only [fitsB_iff, fitsT, HM.out]
          try simp
          try omega
    · obtain ⟨g1, g2⟩ : 0 < t.count ∧ 0 ≤ t.block := by omega
      clear hd
      by_cases hm0 : 0 < m
      · have hmi : ((m : Int) == 0) = false := by simp; omega
        have hx0 : (w.alloc (.cells #[.int .i64 t.block, .int .i64 t.count, .slice da m dc] 100)).cell? ⟨w.heap.size, 0, none⟩ = some (.int .i64 t.block) := cell_new rfl rfl
        have hx1 : (w.alloc (.cells #[.int .i64 t.block, .int .i64 t.count, .slice da m dc] 100)).cell? ⟨w.heap.size, 1, none⟩ = some (.int .i64 t.count) := cell_new rfl rfl
        have hx2 : (w.alloc (.cells #[.int .i64 t.block, .int .i64 t.count, .slice da m dc] 100)).cell? ⟨w.heap.size, 2, none⟩ = some (.slice da m dc) := cell_new rfl rfl
        go_enter Tryz.func158, Tryz.ntmps158
        go_wp2_with fail
        go_quiet (fail)
        go_wp2_with fail
        go_ret
        refine ⟨congrArg (fun x => Ending.returned (Value.bool x)) ?_, below_drewN HB1.out _⟩
        rw [Bool.eq_iff_iff]
        simp only [fitsB_iff, fitsT, HM.out]
        try simp
        try omega
      · obtain rfl : m = 0 := by omega
        clear hm0
        have HWR : Hid (IntKind.i64.wrap ((chunks n B : Int) - t.block) = (chunks n B : Int) - t.block) := by show _ = _; rw [IntKind.wrap_i64] <;> omega
        have hx0 : (w.alloc (.cells #[.int .i64 t.block, .int .i64 t.count, .slice da 0 dc] 100)).cell? ⟨w.heap.size, 0, none⟩ = some (.int .i64 t.block) := cell_new rfl rfl
        have hx1 : (w.alloc (.cells #[.int .i64 t.block, .int .i64 t.count, .slice da 0 dc] 100)).cell? ⟨w.heap.size, 1, none⟩ = some (.int .i64 t.count) := cell_new rfl rfl
        have hx2 : (w.alloc (.cells #[.int .i64 t.block, .int .i64 t.count, .slice da 0 dc] 100)).cell? ⟨w.heap.size, 2, none⟩ = some (.slice da 0 dc) := cell_new rfl rfl
        go_enter Tryz.func158, Tryz.ntmps158
        go_wp2_with fail
        generalize hWA : w.alloc (.cells #[.int .i64 t.block, .int .i64 t.count, .slice da 0 dc] 100) = wa at *
        clear hWA
        go_region_held3 (fun w' => w'.cell? ⟨w.heap.size, 0, none⟩ = some (.int .i64 t.block) ∧ w'.cell? ⟨w.heap.size, 1, none⟩ = some (.int .i64 t.count) ∧ w'.cell? ⟨w.heap.size, 2, none⟩ = some (.slice da 0 dc))
          (exact ⟨hx0, hx1, hx2⟩)
          ((go_at_call 170; refine (HCO.out _).mono ?_; rintro e w2 ⟨rfl, hw2⟩; obtain rfl := hw2.symm))
        go_wp2_with fail
        all_goals go_ret
        all_goals refine ⟨congrArg (fun x => Ending.returned (Value.bool x)) ?_, HB1.out.drew⟩
        all_goals
          rw [Bool.eq_iff_iff]
          simp only [fitsB_iff, decide_eq_true_eq, fitsT, HM.out]
          try simp
          try rw [HWR.out]
          try omega

set_option maxRecDepth 10000 in
set_option maxHeartbeats 400000 in
theorem partOf_data (t : Tok) (u : Value) (h0 : t.count = 0) (v : Value) (B : Int) (w : World) :
    Calls Tryz.prog 159 #[v, .agg #[.int .i64 t.block, .int .i64 t.count, u], .int .i64 B] w fun e w' => e = .returned u ∧ Below w.heap.size w w' := by
  go_enter Tryz.func159, Tryz.ntmps159
  go_wp2_with fail
  go_ret
  exact ⟨rfl, (Below.refl _ _).alloc (Nat.le_refl _) _⟩

set_option maxRecDepth 10000 in
set_option maxHeartbeats 400000 in
theorem span_any (B bk ct n p q : Nat) (u : Value) (_hB1 : 1 ≤ B) (hB2 : B ≤ 64) (hp : p = bk * B) (hq : q = (bk + ct) * B) (hbk : bk ≤ 300) (hct : ct ≤ 300) (_hn : n ≤ 300) (w : World) :
    Calls Tryz.prog 171 #[.agg #[.int .i64 bk, .int .i64 ct, u], .int .i64 n, .int .i64 B] w fun e w' => e = .returned (.tuple #[.int .i64 p, .int .i64 (min q n : Nat)]) ∧ Below w.heap.size w w' := by
  have e1 : (bk : Int) * (B : Int) = (p : Int) := by rw [hp]; simp
  have e2 : ((bk : Int) + (ct : Int)) * (B : Int) = (q : Int) := by rw [hq]; simp
  have hq3 : q ≤ 38400 := by
    rw [hq]
    have := Nat.mul_le_mul (show bk + ct ≤ 600 by omega) hB2
    omega
  have hp3 : p ≤ 38400 := by
    rw [hp]
    have := Nat.mul_le_mul (show bk ≤ 600 by omega) hB2
    omega
  clear hp hq
  by_cases hqn : q ≤ n
  · rw [show min q n = q by omega]
    go_enter Tryz.func171, Tryz.ntmps171
    go_wp2_with fail
    go_quiet (fail)
    go_wp2_with fail
    go_ret2
    exact ⟨rfl, below_drewN ((Below.refl _ _).alloc (Nat.le_refl _) _) _⟩
  · rw [show min q n = n by omega]
    go_enter Tryz.func171, Tryz.ntmps171
    go_wp2_with fail
    go_quiet (fail)
    go_wp2_with fail
    go_ret2
    exact ⟨rfl, below_drewN ((Below.refl _ _).alloc (Nat.le_refl _) _) _⟩

set_option maxRecDepth 10000 in
set_option maxHeartbeats 400000 in
theorem partOf_copy (b off cap B bk ct n p q : Nat) (u : Value) (hB1 : 1 ≤ B) (hB2 : B ≤ 64) (hcap : n ≤ cap) (hp : p = bk * B) (hq : q = (bk + ct) * B) (h0 : 0 < ct) (hbk : bk ≤ 300) (hct : ct ≤ 300) (hn : n ≤ 300) (hpn : p < n) (w : World) :
    Calls Tryz.prog 159 #[.slice (some ⟨b, off, none⟩) n cap, .agg #[.int .i64 bk, .int .i64 ct, u], .int .i64 B] w fun e w' => e = .returned (.slice (some ⟨b, off + p, none⟩) (min q n - p) (min q n - p)) ∧ Below w.heap.size w w' := by
  have HS := hide (fun W => span_any B bk ct n p q u hB1 hB2 hp hq hbk hct hn W)
  have hpq : p < q := by
    rw [hp, hq, Nat.add_mul]
    have := Nat.mul_le_mul h0 hB1
    omega
  have hlo : p < min q n := by omega
  have hhi : min q n ≤ n := by omega
  clear hp hq hpq
  generalize min q n = z at *
  go_enter Tryz.func159, Tryz.ntmps159
  go_wp2_with fail
  refine (HS.out _).mono ?_
  rintro e w' ⟨rfl, hb1⟩
  go_wp2_with fail
  go_ret
  exact ⟨rfl, below_all ((Below.refl _ _).alloc (Nat.le_refl _) _) hb1⟩

set_option maxRecDepth 10000 in
set_option maxHeartbeats 400000 in
theorem apply_bad (v : Option Addr) (n cap : Nat) (tv : Value) (B k : Int) (w : World) (hc : Calls Tryz.prog 157 #[.slice v n cap, .int .i64 B] w fun e w' => e = .returned (.iface 50 (.int .i64 k)) ∧ w' = w) :
    Calls Tryz.prog 135 #[.slice v n cap, tv, .int .i64 B] w fun e w' => e = .returned (.tuple #[.slice none 0 0, .iface 50 (.int .i64 k)]) ∧ w' = w := by
  have HC := hide hc
  clear hc
  go_enter Tryz.func135, Tryz.ntmps135
  go_wp2_with fail
  refine HC.out.mono ?_
  rintro e w' ⟨rfl, rfl⟩
  go_wp2_with fail
  go_ret2
  exact ⟨rfl, rfl⟩

/-- what Apply tells: the bytes, or the kind -/
def Told (w w' : World) (r : Except Int (List Int)) (v e0 : Value) : Prop :=
  match r with
  | .ok made => w'.ownsRow w.heap.size 5 1 v made.length (u8s made) ∧ e0 = .nilIface
  | .error k => v = .slice none 0 0 ∧ e0 = .iface 50 (.int .i64 k)


theorem part_length {zs : List Int} {B bk ct : Nat} (_hB : 1 ≤ B) (hm : bk * B < zs.length) : ((zs.drop (bk * B)).take (ct * B)).length = min ((bk + ct) * B) zs.length - bk * B := by
  rw [List.length_take, List.length_drop, Nat.add_mul]; omega

set_option maxRecDepth 10000 in
set_option maxHeartbeats 2000000 in
theorem apply_opt (vo : Option Addr) (b off cap B : Nat) (zs : List Int) (hvo : 0 < zs.length → vo = some ⟨b, off, none⟩) (base : Nat) (tv : Value) (ps : List (Tok × Value)) (w : World) (hB1 : 1 ≤ B) (hB2 : B ≤ 64) (hm : zs.length ≤ 300) (hcap : zs.length ≤ cap)
    (hc : ∀ k (h : k < zs.length), w.cell? ⟨b, off + k, none⟩ = some (.int .u8 zs[k])) (hT : TokRow w base tv ps) (hl : ps.length ≤ 70000) (hh : ∀ p ∈ ps, Held p.1) :
    Calls Tryz.prog 135 #[.slice vo zs.length cap, tv, .int .i64 B] w fun e w' => ∃ v e0, e = .returned (.tuple #[v, e0]) ∧ Told w w' (applyGo zs B [] (ps.map Prod.fst)) v e0 ∧ Below w.heap.size w w' := by
  obtain ⟨j0, hj, y0, y1, y2⟩ := info_parts Tryz.info5
  obtain ⟨va, tcap, rfl, htc, hcell⟩ := hT.opened
  have HCK := hide (check_ok vo zs.length cap B (by omega) (by omega) hm w)
  have HCO := hide (fun W => count_any zs.length B hB1 hB2 hm W)
  have hM := chunks_le (n := zs.length) hB1
  have HTOK : Hid (∀ i, i < ps.length → ∃ (t : Tok) (g m dc : Nat) (da : Option Addr), va = some ⟨g, 0, none⟩ ∧ g < w.heap.size ∧ Held t ∧ t.data.length = m ∧ m ≤ 255 ∧ w.cell? ⟨g, i * 3, none⟩ = some (.int .i64 t.block) ∧ w.cell? ⟨g, i * 3 + 1, none⟩ = some (.int .i64 t.count) ∧ w.cell? ⟨g, i * 3 + 2, none⟩ = some (.slice da m dc) ∧
      (ps.map Prod.fst).drop i = t :: (ps.map Prod.fst).drop (i + 1) ∧ PartAt w w.heap.size da t.data ∧ (da = none → m = 0 ∧ dc = 0)) := by
    intro i hi
    obtain ⟨g, hv, _, hg, c0, c1, c2⟩ := hcell i hi
    have hH := hh ps[i] (List.getElem_mem hi)
    have hdrop : (ps.map Prod.fst).drop i = ps[i].1 :: (ps.map Prod.fst).drop (i + 1) := by
      rw [List.drop_eq_getElem_cons (by simpa using hi)]; simp
    rcases own_shape (hT.data ps[i] (List.getElem_mem hi)) with ⟨h, hz⟩ | ⟨g2, dc, h, _, hlt, _⟩
    · refine ⟨ps[i].1, g, 0, 0, none, hv, hg, hH, by rw [hz]; rfl, by omega, c0, c1, by rw [c2, h], hdrop, .inl hz, fun _ => ⟨rfl, rfl⟩⟩
    · refine ⟨ps[i].1, g, ps[i].1.data.length, dc, some ⟨g2, 0, none⟩, hv, hg, hH, rfl, hH.2.1, c0, c1, by rw [c2, h], hdrop, .inr ⟨g2, 0, rfl, hlt, fun k hk => ?_⟩, fun h => by cases h⟩
      have := hT.data ps[i] (List.getElem_mem hi)
      rw [h] at this
      rw [Nat.zero_add]
      exact own_cells this k hk
  have HCOPY : Hid (∀ (bk ct : Nat) (u : Value) (W : World), bk + ct ≤ chunks zs.length B → 0 < ct → Calls Tryz.prog 159 #[.slice vo zs.length cap, .agg #[.int .i64 bk, .int .i64 ct, u], .int .i64 B] W fun e w' => e = .returned (.slice (some ⟨b, off + bk * B, none⟩) ((zs.drop (bk * B)).take (ct * B)).length ((zs.drop (bk * B)).take (ct * B)).length) ∧ Below W.heap.size W w') := by
    intro bk ct u W hfit h0
    have hlt : bk * B < zs.length := (lt_chunks hB1).1 (by omega)
    rw [hvo (by omega)]
    have := partOf_copy b off cap B bk ct zs.length (bk * B) ((bk + ct) * B) u hB1 hB2 hcap rfl rfl h0 (by omega) (by omega) hm hlt W
    rw [part_length hB1 hlt]
    exact this
  clear hvo
  have HPC : Hid (∀ (a m : Nat) (W : World), Below w.heap.size w W → ∀ j u, (u8s ((zs.drop a).take m))[j]? = some u → W.cell? ((⟨b, off + a, none⟩ : Addr).add j) = some u) := by
    intro a m W hb j u hj
    have hj' : j < ((zs.drop a).take m).length := by
      rcases Nat.lt_or_ge j ((zs.drop a).take m).length with h | h
      · exact h
      · rw [List.getElem?_eq_none (by simpa [u8s] using h)] at hj; cases hj
    have := cells_part (cells_below hc hb) a m j hj'
    rw [show (u8s ((zs.drop a).take m))[j]? = some (.int .u8 ((zs.drop a).take m)[j]) by simp only [u8s, List.getElem?_map, List.getElem?_eq_getElem hj', Option.map_some]] at hj
    cases hj
    rw [← this]
    simp only [Addr.add]
    split
    · subst_vars; rfl
    · rfl
  have HZL : Hid (∀ bk ct, ((zs.drop (bk * B)).take (ct * B)).length ≤ 300) := fun bk ct => by rw [List.length_take, List.length_drop]; show _ ≤ _; omega
  clear hcell hT hh hc
  have hn300 := hm
  generalize hZ : zs.length = n at *
  have HZ := hide hZ
  clear hZ
  generalize hNT : ps.length = nt at *
  have HNT := hide hNT
  clear hNT
  go_enter Tryz.func135, Tryz.ntmps135
  go_wp2_with fail
  refine HCK.out.mono ?_
  rintro e w1 ⟨rfl, hw1⟩
  obtain rfl := hw1.symm
  go_wp2_with fail
  go_loopw [9, 21] (fun v9 v21 wr => ∃ (k : Nat) (made : List Int), k ≤ nt ∧ v21 = .int .i64 k ∧ Hid (wr.ownsRow w.heap.size 5 1 v9 made.length (u8s made)) ∧ made.length ≤ 300 ∧ Hid (applyGo zs B made ((ps.map Prod.fst).drop k) = applyGo zs B [] (ps.map Prod.fst)) ∧ Hid (Below w.heap.size w wr)) (fun _ v21 _ => nt - (intOf v21).toNat)
  case atStart => exact ⟨0, [], Nat.zero_le _, rfl, World.ownsRow_nil _ _ _ _, Nat.zero_le _, (rfl : _ = _), Below.refl _ _⟩
  case round =>
    obtain ⟨k, made, hk, rfl, HOr, hml, HAr, HBr⟩ := hrel
    by_cases hlt : k < nt
    · obtain ⟨t, g, m, dc, da, rfl, hg, hH, htm, hm255, c0, c1, c2, hdrop, hP, hnil⟩ := HTOK.out k hlt
      obtain ⟨ma, mc, hv9⟩ : ∃ ma mc, u9 = .slice ma made.length mc := by
        rcases own_shape HOr.out with ⟨h, hz⟩ | ⟨g, c2, h, _⟩
        · exact ⟨none, 0, by rw [h, hz]; rfl⟩
        · exact ⟨_, c2, h⟩
      subst hv9
      have d0 := (HBr.out.cell (p := ⟨g, k * 3, none⟩) hg).trans c0
      have d1 := (HBr.out.cell (p := ⟨g, k * 3 + 1, none⟩) hg).trans c1
      have d2 := (HBr.out.cell (p := ⟨g, k * 3 + 2, none⟩) hg).trans c2
      have HH := hide hH
      have HTM := hide htm
      have HDR := hide hdrop
      have HP := hide hP
      have HNIL := hide hnil
      clear c0 c1 c2 hH htm hdrop hP hnil
      have HFI := hide (fun W => fits_any t da dc m n B HTM.out (by omega) (by omega) hB1 hB2 HH.out.2.2.1 HH.out.2.2.2 W)
      generalize hML : made.length = L at *
      have HML := hide hML
      clear hML
      have HCO' := hide (fun W => (HCO.out W))
      go_wp2_with fail
      have hx0 : (wr.alloc (.cells #[.int .i64 t.block, .int .i64 t.count, .slice da m dc] 100)).cell? ⟨wr.heap.size, 0, none⟩ = some (.int .i64 t.block) := cell_new rfl rfl
      have hx1 : (wr.alloc (.cells #[.int .i64 t.block, .int .i64 t.count, .slice da m dc] 100)).cell? ⟨wr.heap.size, 1, none⟩ = some (.int .i64 t.count) := cell_new rfl rfl
      have hx2 : (wr.alloc (.cells #[.int .i64 t.block, .int .i64 t.count, .slice da m dc] 100)).cell? ⟨wr.heap.size, 2, none⟩ = some (.slice da m dc) := cell_new rfl rfl
      have HBA : Hid (Below w.heap.size w (wr.alloc (.cells #[.int .i64 t.block, .int .i64 t.count, .slice da m dc] 100))) := below_all HBr.out ((Below.refl _ _).alloc (Nat.le_refl _) _)
      have HOA : Hid ((wr.alloc (.cells #[.int .i64 t.block, .int .i64 t.count, .slice da m dc] 100)).ownsRow w.heap.size 5 1 (.slice ma L mc) L (u8s made)) := by
        exact HOr.out.alloc _
      have HWL : Hid (wr.heap.size < (wr.alloc (.cells #[.int .i64 t.block, .int .i64 t.count, .slice da m dc] 100)).heap.size) := by show _ < _; simp
      generalize hWA : wr.alloc (.cells #[.int .i64 t.block, .int .i64 t.count, .slice da m dc] 100) = wa at *
      clear hWA
      refine (HFI.out _).mono ?_
      rintro e w3 ⟨rfl, hb3⟩
      have HB3 : Hid (Below w.heap.size w w3) := below_all HBA.out hb3
      have HO3 : Hid (w3.ownsRow w.heap.size 5 1 (.slice ma L mc) L (u8s made)) := ownsRow_below HOA.out hb3
      have hy0 := (hb3.cell (p := ⟨wr.heap.size, 0, none⟩) HWL.out).trans hx0
      have hy1 := (hb3.cell (p := ⟨wr.heap.size, 1, none⟩) HWL.out).trans hx1
      have hy2 := (hb3.cell (p := ⟨wr.heap.size, 2, none⟩) HWL.out).trans hx2
      clear hb3 hx0 hx1 hx2 d0 d1 d2
      by_cases hfit : fitsT (chunks n B) t
      · have HFIT : Hid (fitsT (chunks zs.length B) t) := by rw [HZ.out]; exact hfit
        rw [fitsB_iff.2 hfit]
        clear hfit
        go_wp2_with fail
        by_cases h0 : t.count = 0
        · refine (partOf_data t (.slice da m dc) h0 _ _ _).mono ?_
          rintro e w4 ⟨rfl, hb4⟩
          have HB4 : Hid (Below w.heap.size w w4) := below_all HB3.out hb4
          have HO4 := hide (ownsRow_below HO3.out hb4)
          clear hb4 hy0 hy1 hy2
          by_cases hbig : 300 < L + m
          · go_wp2_with fail
            go_ret2
            refine ⟨_, _, rfl, ?_, HB4.out⟩
            rw [← HAr.out, HDR.out]
            unfold applyGo
            rw [if_pos (fitsB_iff.2 HFIT.out), if_pos (by rw [show partT zs B t = t.data from if_pos h0]; rw [HML.out, HTM.out]; omega)]
            exact ⟨rfl, rfl⟩
          · rcases da with _ | a2
            · have HO4x : Hid (w4.ownsRow w.heap.size 5 1 (.slice ma L mc) made.length (u8s made)) := by rw [HML.out]; exact HO4.out
              obtain ⟨hm0, hdc0⟩ := HNIL.out rfl
              subst hm0 hdc0
              rcases own_shape HO4x.out with ⟨hv, hmd⟩ | ⟨g9, c9, hv, _, _, hle9, _⟩
              · simp only [Value.slice.injEq] at hv
                obtain ⟨rfl, rfl, rfl⟩ := hv
                go_wp2_with fail
                go_roundw
                case rel =>
                  refine ⟨k + 1, made, by omega, by go_num, HO4x.out, by rw [HML.out]; omega, ?_, HB4.out⟩
                  show _ = _
                  rw [← HAr.out, HDR.out]
                  conv => rhs; unfold applyGo
                  have hd0 : t.data = [] := List.length_eq_zero_iff.1 HTM.out
                  rw [if_pos (fitsB_iff.2 HFIT.out), if_neg (by rw [show partT zs B t = t.data from if_pos h0]; rw [HML.out, HTM.out]; omega)]
                  rw [show partT zs B t = t.data from if_pos h0, hd0, List.append_nil]
                case measure => simp [intOf]; omega
              · simp only [Value.slice.injEq] at hv
                obtain ⟨rfl, hL9, rfl⟩ := hv
                have hLc : L ≤ mc := by omega
                clear hL9 hle9
                go_wp2_with fail
                go_roundw
                case rel =>
                  refine ⟨k + 1, made, by omega, by go_num, HO4x.out, by rw [HML.out]; omega, ?_, HB4.out⟩
                  show _ = _
                  rw [← HAr.out, HDR.out]
                  conv => rhs; unfold applyGo
                  have hd0 : t.data = [] := List.length_eq_zero_iff.1 HTM.out
                  rw [if_pos (fitsB_iff.2 HFIT.out), if_neg (by rw [show partT zs B t = t.data from if_pos h0]; rw [HML.out, HTM.out]; omega)]
                  rw [show partT zs B t = t.data from if_pos h0, hd0, List.append_nil]
                case measure => simp [intOf]; omega
            · have HPD : Hid (∀ j x, (u8s t.data)[j]? = some x → w4.cell? (a2.add j) = some x) := by
                intro j x hj
                rcases HP.out with hz | ⟨b2, o2, ha2, hlt2, hcell2⟩
                · rw [hz] at hj; simp [u8s] at hj
                · have hj' : j < t.data.length := by
                    rcases Nat.lt_or_ge j t.data.length with h | h
                    · exact h
                    · rw [List.getElem?_eq_none (by simpa [u8s] using h)] at hj; cases hj
                  simp only [Option.some.injEq] at ha2
                  subst ha2
                  rw [show (u8s t.data)[j]? = some (.int .u8 t.data[j]) by simp only [u8s, List.getElem?_map, List.getElem?_eq_getElem hj', Option.map_some]] at hj
                  cases hj
                  have := (HB4.out.cell (p := ⟨b2, o2 + j, none⟩) hlt2).trans (hcell2 j hj')
                  rw [← this]
                  simp only [Addr.add]
                  split
                  · subst_vars; rfl
                  · rfl
              go_wp2_with (at_builtin; refine wpList_append_own_at _ rfl (.tmp 43) (.tmp 44) 38 rfl w.heap.size 5 j0 (.int .u8 0) 1 1 Tryz.underlying38 hj y0 y1 y2 rfl (by decide) _ L (u8s made) rfl HO4.out a2 m dc (u8s t.data) rfl ?ka ?kb ?kc ?kd ?ke ?kf ?kg)
              case ka => rw [show (u8s t.data).length = m by simp [u8s, HTM.out], Nat.mul_one]
              case kb => intro j x hj; exact HPD.out j x hj
              case kc => intro x hx; simp only [u8s, List.mem_map] at hx; obtain ⟨x, _, rfl⟩ := hx; rfl
              case kd => unfold maxLen; omega
              case ke => omega
              case kf => exact HB4.out.size
              case kg =>
                intro v' w5 hown5 hgrow5 _ _
                have HB5 : Hid (Below w.heap.size w w5) := HB4.out.grown hgrow5 HB4.out.size (fun j hj => (HO4.out.lt j hj).1)
                have HO5 : Hid (w5.ownsRow w.heap.size 5 1 v' (made ++ t.data).length (u8s (made ++ t.data))) := by
                  have e : u8s made ++ (u8s t.data) = u8s (made ++ t.data) := by simp [u8s]
                  have h5 := hown5
                  rw [e] at h5
                  rw [List.length_append, HML.out, HTM.out]
                  exact h5
                clear hown5 hgrow5
                go_wp2_with fail
                go_roundw
                case rel =>
                  refine ⟨k + 1, made ++ t.data, by omega, by go_num, HO5.out, by rw [List.length_append, HML.out, HTM.out]; omega, ?_, HB5.out⟩
                  show _ = _
                  rw [← HAr.out, HDR.out]
                  conv => rhs; unfold applyGo
                  rw [if_pos (fitsB_iff.2 HFIT.out), if_neg (by rw [show partT zs B t = t.data from if_pos h0]; rw [HML.out, HTM.out]; omega)]
                  rw [show partT zs B t = t.data from if_pos h0]
                case measure => simp [intOf]; omega
        · obtain ⟨bk, hbk⟩ : ∃ bk : Nat, t.block = bk := ⟨t.block.toNat, by have := HFIT.out.2.1; omega⟩
          obtain ⟨ct, hct⟩ : ∃ ct : Nat, t.count = ct := ⟨t.count.toNat, by have := HFIT.out.1; omega⟩
          have hct0 : 0 < ct := by omega
          have hle : bk + ct ≤ chunks n B := by have := (HFIT.out.2.2.2 (by omega)).2; rw [HZ.out] at this; omega
          have HPT : Hid (partT zs B t = (zs.drop (bk * B)).take (ct * B)) := by
            show _ = _
            unfold partT
            rw [if_neg h0, hbk, hct]; rfl
          have hcp := HCOPY.out bk ct (.slice da m dc) w3 hle hct0
          have hP3 := HZL.out bk ct
          obtain ⟨P, hPP⟩ : ∃ P, ((zs.drop (bk * B)).take (ct * B)).length = P := ⟨_, rfl⟩
          rw [hPP] at hcp hP3
          have HPP := hide hPP
          have HCP := hide hcp
          rw [hbk, hct]
          clear hcp hPP h0 hbk hct hle
          refine HCP.out.mono ?_
          rintro e w4 ⟨rfl, hb4⟩
          have HB4 : Hid (Below w.heap.size w w4) := below_all HB3.out hb4
          have HO4 := hide (ownsRow_below HO3.out hb4)
          clear hb4 hy0 hy1 hy2
          by_cases hbig : 300 < L + P
          · go_wp2_with fail
            go_ret2
            refine ⟨_, _, rfl, ?_, HB4.out⟩
            rw [← HAr.out, HDR.out]
            unfold applyGo
            rw [if_pos (fitsB_iff.2 HFIT.out), if_pos (by rw [HPT.out]; rw [HML.out, HPP.out]; omega)]
            exact ⟨rfl, rfl⟩
          · go_wp2_with (at_builtin; refine wpList_append_own_at _ rfl (.tmp 43) (.tmp 44) 38 rfl w.heap.size 5 j0 (.int .u8 0) 1 1 Tryz.underlying38 hj y0 y1 y2 rfl (by decide) _ L (u8s made) rfl HO4.out ⟨b, off + bk * B, none⟩ P P (u8s ((zs.drop (bk * B)).take (ct * B))) rfl ?ka ?kb ?kc ?kd ?ke ?kf ?kg)
            case ka => rw [show (u8s ((zs.drop (bk * B)).take (ct * B))).length = P by rw [← HPP.out]; simp [u8s], Nat.mul_one]
            case kb => intro j x hj; exact HPC.out (bk * B) (ct * B) _ HB4.out j x hj
            case kc => intro x hx; simp only [u8s, List.mem_map] at hx; obtain ⟨x, _, rfl⟩ := hx; rfl
            case kd => unfold maxLen; omega
            case ke => omega
            case kf => exact HB4.out.size
            case kg =>
              intro v' w5 hown5 hgrow5 _ _
              have HB5 : Hid (Below w.heap.size w w5) := HB4.out.grown hgrow5 HB4.out.size (fun j hj => (HO4.out.lt j hj).1)
              have HO5 : Hid (w5.ownsRow w.heap.size 5 1 v' (made ++ ((zs.drop (bk * B)).take (ct * B))).length (u8s (made ++ ((zs.drop (bk * B)).take (ct * B))))) := by
                have e : u8s made ++ (u8s ((zs.drop (bk * B)).take (ct * B))) = u8s (made ++ ((zs.drop (bk * B)).take (ct * B))) := by simp [u8s]
                have h5 := hown5
                rw [e] at h5
                rw [List.length_append, HML.out, HPP.out]
                exact h5
              clear hown5 hgrow5
              go_wp2_with fail
              go_roundw
              case rel =>
                refine ⟨k + 1, made ++ (zs.drop (bk * B)).take (ct * B), by omega, by go_num, HO5.out, by rw [List.length_append, HML.out, HPP.out]; omega, ?_, HB5.out⟩
                show _ = _
                rw [← HAr.out, HDR.out]
                conv => rhs; unfold applyGo
                rw [if_pos (fitsB_iff.2 HFIT.out), if_neg (by rw [HPT.out]; rw [HML.out, HPP.out]; omega)]
                rw [HPT.out]
              case measure => simp [intOf]; omega
      · have HFIT : Hid (¬ fitsT (chunks zs.length B) t) := by rw [HZ.out]; exact hfit
        rw [Bool.eq_false_iff.2 (fitsB_not hfit)]
        clear hfit
        go_wp2_with fail
        go_ret2
        refine ⟨_, _, rfl, ?_, HB3.out⟩
        rw [← HAr.out, HDR.out]
        unfold applyGo
        rw [if_neg (fitsB_not HFIT.out)]
        exact ⟨rfl, rfl⟩
    · go_wp2_with fail
      go_ret2
      refine ⟨_, _, rfl, ?_, HBr.out⟩
      have hkn : k = nt := by omega
      have := HAr.out
      rw [hkn, List.drop_of_length_le (by rw [List.length_map, HNT.out]; omega)] at this
      rw [← this]
      exact ⟨HOr.out, rfl⟩
theorem apply_ok (b off cap B : Nat) (zs : List Int) (base : Nat) (tv : Value) (ps : List (Tok × Value)) (w : World) (hB1 : 1 ≤ B) (hB2 : B ≤ 64) (hm : zs.length ≤ 300) (hcap : zs.length ≤ cap)
    (hc : ∀ k (h : k < zs.length), w.cell? ⟨b, off + k, none⟩ = some (.int .u8 zs[k])) (hT : TokRow w base tv ps) (hl : ps.length ≤ 70000) (hh : ∀ p ∈ ps, Held p.1) :
    Calls Tryz.prog 135 #[.slice (some ⟨b, off, none⟩) zs.length cap, tv, .int .i64 B] w fun e w' => ∃ v e0, e = .returned (.tuple #[v, e0]) ∧ Told w w' (applyGo zs B [] (ps.map Prod.fst)) v e0 ∧ Below w.heap.size w w' :=
  apply_opt _ b off cap B zs (fun _ => rfl) base tv ps w hB1 hB2 hm hcap hc hT hl hh
end Go.Proofs.YtbhccdedcoajmaaGreatDoor
