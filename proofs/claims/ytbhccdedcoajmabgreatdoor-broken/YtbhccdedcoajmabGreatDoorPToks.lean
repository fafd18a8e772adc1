import Derived.Test.YtbhccdedcoajmabGreatDoorAlikeM
namespace Go.Proofs.YtbhccdedcoajmabGreatDoor
open Go.RowKit

set_option maxRecDepth 10000 in
set_option maxHeartbeats 2000000 in
theorem addTokens_any (base bT TT : Nat) (v tv : Value) (ps : List (Tok × Value)) (xs : List Int) (w : World) (hT : TokRow w bT tv ps) (h1 : ∀ k, tv.ownBlock = some k → bT ≤ k ∧ k < TT) (h2 : ∀ p ∈ ps, ∀ k, p.2.ownBlock = some k → bT ≤ k ∧ k < TT) (hrow : ∀ k, v.ownBlock = some k → k < bT ∨ TT ≤ k) (hTT : TT ≤ w.heap.size)
    (hfair : ∀ p ∈ ps, Fair p.1) (hfull : ∀ p ∈ ps, p.1.count = 0 → 0 < p.1.data.length) (hlen : ps.length ≤ 300) (hl : xs.length ≤ 100000) (hb : base ≤ w.heap.size) (ho : w.ownsRow base 5 1 v xs.length (u8s xs)) :
    Calls Tryz.prog 66 #[v, tv] w fun e w' => ∃ v', e = .returned v' ∧ w'.ownsRow base 5 1 v' (xs ++ (putN 2 (ps.length : Int) ++ (ps.map Prod.fst).flatMap tokL)).length (u8s (xs ++ (putN 2 (ps.length : Int) ++ (ps.map Prod.fst).flatMap tokL))) ∧ Below base w w' ∧ Grew w w' v v' := by
  obtain ⟨va, cap, rfl, hcap, hopen⟩ := hT.opened
  have HT := hide hT
  have HT1 := hide h1
  have HT2 := hide h2
  have HRW := hide hrow
  have HO := hide ho
  obtain ⟨acc, hacc⟩ : ∃ acc : Nat → List Int, acc = fun j => xs ++ (putN 2 (ps.length : Int) ++ ((ps.map Prod.fst).take j).flatMap tokL) := ⟨_, rfl⟩
  have HA0 : Hid (acc 0 = xs ++ putN 2 (ps.length : Int)) := by show _ = _; rw [hacc]; simp
  have HAN : Hid (acc ps.length = xs ++ (putN 2 (ps.length : Int) ++ (ps.map Prod.fst).flatMap tokL)) := by
    show _ = _
    rw [hacc]
    simp only [List.take_of_length_le (l := ps.map Prod.fst) (i := ps.length) (by simp)]
  have HAL : Hid (∀ j, (acc j).length ≤ 200000) := by
    intro j
    have h := flat_len (f := tokL) (c := 257) ((ps.map Prod.fst).take j) (fun x hx => by
      obtain ⟨p, hp, rfl⟩ := List.mem_map.1 (List.mem_of_mem_take hx)
      exact tokL_len (hfair p hp))
    have hl2 : ((ps.map Prod.fst).take j).length ≤ 300 := by rw [List.length_take, List.length_map]; omega
    have := Nat.mul_le_mul_left 257 hl2
    rw [hacc]
    simp only [List.length_append, putN_length]
    show _ ≤ _
    omega
  have HJ : Hid (∀ j, j < ps.length → ∃ (t : Tok) (u : Value) (g : Nat), va = some ⟨g, 0, none⟩ ∧ Fair t ∧ (t.count = 0 → 0 < t.data.length) ∧ acc (j + 1) = acc j ++ tokL t ∧ (∀ k, u.ownBlock = some k → bT ≤ k ∧ k < TT) ∧ ∀ W, TokRow W bT (.slice va ps.length cap) ps → W.cell? ⟨g, j * 3, none⟩ = some (.int .i64 t.block) ∧ W.cell? ⟨g, j * 3 + 1, none⟩ = some (.int .i64 t.count) ∧ W.cell? ⟨g, j * 3 + 2, none⟩ = some u ∧ W.ownsRow bT 5 1 u t.data.length (u8s t.data)) := by
    intro j hj
    obtain ⟨g, rfl, _⟩ := hopen j hj
    have hm : ps[j] ∈ ps := List.getElem_mem hj
    refine ⟨ps[j].1, ps[j].2, g, rfl, hfair _ hm, hfull _ hm, ?_, h2 _ hm, fun W hW => ?_⟩
    · rw [hacc]
      simp only []
      rw [List.take_succ_eq_append_getElem (by simpa using hj), List.flatMap_append, List.getElem_map, List.flatMap_cons, List.flatMap_nil, List.append_nil]
      simp only [List.append_assoc]
    · obtain ⟨z0, z1, z2⟩ := hW.cells j hj
      exact ⟨z0, z1, z2, hW.data _ (List.getElem_mem hj)⟩
  clear hT h1 h2 hrow ho hfair hfull hopen hacc
  generalize hM : ps.length = m at *
  have HMM := hide hM
  clear hM
  have hmod : (m : Int) % 18446744073709551616 = (m : Int) := by omega
  go_enter Tryz.func66, Tryz.ntmps66
  go_wp2_with fail
  refine (addN_any base 2 v xs (m : Int) w (by omega) (by omega) (by omega) (by omega) hb HO.out).mono ?_
  rintro e w1 ⟨v1, rfl, ho1, hb1, hg1⟩
  have HO1 : Hid (w1.ownsRow base 5 1 v1 (acc 0).length (u8s (acc 0))) := by rw [HA0.out]; exact ho1
  have HB1 := hide hb1
  have HG1 := hide hg1
  have HR1 : Hid (∀ k, v1.ownBlock = some k → k < bT ∨ TT ≤ k) := hg1.row hTT HRW.out
  have HK1 : Hid (TokRow w1 bT (.slice va m cap) ps) := HT.out.grew HT1.out HT2.out HRW.out hg1.1
  clear ho1 hb1 hg1
  go_wp2_with fail
  go_loopw [0, 14] (fun v0 v14 wx => ∃ j : Nat, j ≤ m ∧ v14 = .int .i64 j ∧ Hid (wx.ownsRow base 5 1 v0 (acc j).length (u8s (acc j))) ∧ Hid (Below base w wx) ∧ Hid (Grew w wx v v0) ∧ Hid (TokRow wx bT (.slice va m cap) ps) ∧ Hid (∀ k, v0.ownBlock = some k → k < bT ∨ TT ≤ k)) (fun _ v14 _ => m - (intOf v14).toNat)
  case atStart => exact ⟨0, Nat.zero_le _, rfl, HO1.out, HB1.out, HG1.out, HK1.out, HR1.out⟩
  case round =>
    clear HO1 HB1 HG1 HK1 HR1 HA0 HT HRW HO
    obtain ⟨j, hjm, rfl, HOx, HBx, HGx, HKx, HRx⟩ := hrel
    have hZx : TT ≤ wr.heap.size := Nat.le_trans hTT HGx.out.1.size
    have hbx : base ≤ wr.heap.size := Nat.le_trans hb HGx.out.1.size
    by_cases hjt : j < m
    · obtain ⟨t, u, gt, rfl, hft, hfl, hst, hub, hcl⟩ := HJ.out j hjt
      obtain ⟨_, hf2, hf3, hf4, hf5, hf6⟩ := hft
      obtain ⟨x0, x1, x2, x3⟩ := hcl _ HKx.out
      have hal := HAL.out j
      have HST := hide hst
      have HX3 := hide x3
      have HUB := hide hub
      have HA : Hid (∀ o, Below wr.heap.size wr (wr.alloc o)) := fun o => (Below.refl _ _).alloc (Nat.le_refl _) _
      have HOA : Hid (∀ o, (wr.alloc o).ownsRow base 5 1 u0 (acc j).length (u8s (acc j))) := fun o => HOx.out.alloc o
      clear hst hcl x3 hub
      have HNEXT : Hid (∀ (o : Obj) (v2 : Value) (w2 : World), w2.ownsRow base 5 1 v2 (acc (j + 1)).length (u8s (acc (j + 1))) → Below base (wr.alloc o) w2 → Grew (wr.alloc o) w2 u0 v2 → Below base w w2 ∧ Grew w w2 v v2 ∧ TokRow w2 bT (.slice (some ⟨gt, 0, none⟩) m cap) ps ∧ ∀ k, v2.ownBlock = some k → k < bT ∨ TT ≤ k) := by
        intro o v2 w2 _ hb2 hg2
        have hg3 : Grew wr w2 u0 v2 := hg2.below (HA.out o)
        exact ⟨HBx.out.trans (((HA.out o).mono hbx).trans hb2), HGx.out.trans hg3, HKx.out.grew HT1.out HT2.out HRx.out hg3.1, hg3.row hZx HRx.out⟩
      by_cases hc0 : t.count = 0
      · rw [hc0] at x1
        have hL0 := hfl hc0
        obtain ⟨gd, cd, rfl, hgl, hgd⟩ : ∃ gd cd, u = .slice (some ⟨gd, 0, none⟩) t.data.length cd ∧ gd < wr.heap.size ∧ t.data.length ≤ cd := by
          rcases own_shape HX3.out with ⟨_, h⟩ | ⟨gd, cd, h, _, hlt, h1, _⟩
          · rw [h] at hL0; simp at hL0
          · exact ⟨gd, cd, h, hlt, h1⟩
        have htl : tokL t = [0, (t.data.length : Int)] ++ t.data := by unfold tokL; rw [if_pos hc0]; rfl
        rw [htl] at HST
        have HFA : Hid (∀ k, u0.ownBlock = some k → k ≠ gd) := fun k hk => by
          have := HUB.out gd rfl
          have := HRx.out k hk
          omega
        have HCE : Hid (∀ o k (h : k < t.data.length), (wr.alloc o).cell? ⟨gd, k, none⟩ = some (.int .u8 t.data[k])) := fun o k h => ((HA.out o).cell (p := ⟨gd, k, none⟩) hgl).trans (own_cells HX3.out k h)
        have HCALL := hide (fun o => addTok_data base gd cd u0 (acc j) t.data t.block (wr.alloc o) hL0 hf2 hgd (by omega) (by simp; omega) (HOA.out o) (by simp; omega) HFA.out (HCE.out o))
        clear htl
        go_wp2_with fail
        refine (HCALL.out _).mono ?_
        rintro e w2 ⟨v2, rfl, ho2, hb2, hg2⟩
        rw [← HST.out] at ho2
        have HY := hide (HNEXT.out _ _ _ ho2 hb2 hg2)
        have HO2 := hide ho2
        clear ho2 hb2 hg2
        go_wp2_with fail
        go_roundw
        case rel => exact ⟨j + 1, by omega, by go_num, HO2.out, HY.out.1, HY.out.2.1, HY.out.2.2.1, HY.out.2.2.2⟩
        case measure => simp [intOf]; omega
      · have htl : tokL t = [1] ++ (putN 2 t.block ++ [t.count]) := by unfold tokL; rw [if_neg hc0]; rfl
        rw [htl] at HST
        obtain ⟨da, dn, dc, rfl⟩ : ∃ da dn dc, u = .slice da dn dc := by
          rcases own_shape HX3.out with ⟨h, _⟩ | ⟨g2, dc, h, _⟩
          · exact ⟨_, _, _, h⟩
          · exact ⟨_, _, _, h⟩
        have HCALL := hide (fun o => addTok_copy base u0 (.slice da dn dc) (acc j) t.block t.count (wr.alloc o) (by omega) (by omega) (by omega) (by omega) (by omega) (by simp; omega) (HOA.out o))
        clear htl
        go_wp2_with fail
        refine (HCALL.out _).mono ?_
        rintro e w2 ⟨v2, rfl, ho2, hb2, hg2⟩
        rw [← HST.out] at ho2
        have HY := hide (HNEXT.out _ _ _ ho2 hb2 hg2)
        have HO2 := hide ho2
        clear ho2 hb2 hg2
        go_wp2_with fail
        go_roundw
        case rel => exact ⟨j + 1, by omega, by go_num, HO2.out, HY.out.1, HY.out.2.1, HY.out.2.2.1, HY.out.2.2.2⟩
        case measure => simp [intOf]; omega
    · have hjn : j = m := by omega
      subst hjn
      have HF : Hid (wr.ownsRow base 5 1 u0 (xs ++ (putN 2 (j : Int) ++ (ps.map Prod.fst).flatMap tokL)).length (u8s (xs ++ (putN 2 (j : Int) ++ (ps.map Prod.fst).flatMap tokL)))) := by rw [← HAN.out]; exact HOx.out
      go_wp2_with fail
      go_ret
      exact ⟨_, rfl, HF.out, HBx.out, HGx.out⟩
end Go.Proofs.YtbhccdedcoajmabGreatDoor
