import Derived.Test.YtbhccdedcoajmabGreatDoorAddTokM
namespace Go.Proofs.YtbhccdedcoajmabGreatDoor
open Go.RowKit Go.Maps

set_option maxRecDepth 10000 in
set_option maxHeartbeats 2000000 in
theorem diff_opt (va : Option Addr) (b off cap B : Nat) (zs : List Int) (hva : 0 < zs.length → va = some ⟨b, off, none⟩) (b2 off2 cap2 : Nat) (ds : List Int) (w : World) (hB1 : 1 ≤ B) (hB2 : B ≤ 64) (hm : zs.length ≤ 300) (hcap : zs.length ≤ cap) (hz : Bytes zs) (hm2 : ds.length ≤ 300) (hcap2 : ds.length ≤ cap2) (hz2 : Bytes ds) (hb2 : b2 < w.heap.size)
    (hc : ∀ k (h : k < zs.length), w.cell? ⟨b, off + k, none⟩ = some (.int .u8 zs[k])) (hd : ∀ k (h : k < ds.length), w.cell? ⟨b2, off2 + k, none⟩ = some (.int .u8 ds[k])) :
    Calls Tryz.prog 64 #[.slice va zs.length cap, .slice (some ⟨b2, off2, none⟩) ds.length cap2, .int .i64 B] w fun e w' => ∃ v ps, e = .returned (.tuple #[v, .nilIface]) ∧ TokRow w' w.heap.size v ps ∧ ps.map Prod.fst = diffOf zs ds B ∧ Below w.heap.size w w' := by
  have HCK := hide (checkBoth_next va (some ⟨b2, off2, none⟩) zs.length cap ds.length cap2 B .nilIface w (check_ok _ _ _ _ (by omega) (by omega) hm _) (check_ok _ _ _ _ (by omega) (by omega) hm2 _))
  have HIX := hide (indexOf_ok va b off cap B zs hva w hB1 hB2 hm hcap hz hc)
  have HFI : Hid (∀ (at_ : Nat) (cap' mb : Nat) (W : World), at_ + B ≤ ds.length → Below w.heap.size w W → MapIs W mb (zs.length / B) zs B → Calls Tryz.prog 102 #[.agg #[.slice va zs.length cap, .int .i64 B, .map (some mb)], .slice (some ⟨b2, off2 + at_, none⟩) B cap'] W fun e w' => e = .returned (foundV (findBlk zs B ((ds.drop at_).take B))) ∧ Below W.heap.size W w') := by
    intro a cap' mb W ha hb hM
    exact find_ok va b off cap B mb zs hva b2 (off2 + a) cap' ((ds.drop a).take B) W hB1 hB2 hm hcap hz ((hz2.drop a).take B) (by rw [List.length_take, List.length_drop]; omega) (cells_below hc hb) (cells_part (cells_below hd hb) a B) hM
  have HPA : Hid (∀ (a m : Nat) (W : World), Below w.heap.size w W → PartAt W w.heap.size (some ⟨b2, off2 + a, none⟩) ((ds.drop a).take m)) := by
    intro a m W hb
    exact .inr ⟨b2, off2 + a, rfl, hb2, cells_part (cells_below hd hb) a m⟩
  have HBY : Hid (∀ a m, Bytes ((ds.drop a).take m)) := fun a m => (hz2.drop a).take m
  have HHIT : Hid (∀ (a k : Nat) (out : List Tok), findBlk zs B ((ds.drop a).take B) = some k → diffGo zs B out (ds.drop a) = diffGo zs B (pushBlock out k) (ds.drop (a + B)) ∧ k ≤ 300) := by
    intro a k out h
    refine ⟨by rw [diffGo_hit hB1 h, List.drop_drop], ?_⟩
    have := (findBlk_some.1 h).1
    have := Nat.div_le_self zs.length B
    omega
  have HMISS : Hid (∀ (a t : Nat) (out : List Tok), t ≤ a → a < ds.length → findBlk zs B ((ds.drop a).take B) = none → diffGo zs B (((ds.drop t).take (a - t)).foldl pushByte out) (ds.drop a) = diffGo zs B (((ds.drop t).take (a + 1 - t)).foldl pushByte out) (ds.drop (a + 1))) := by
    intro a t out hta ha h
    rw [List.drop_eq_getElem_cons ha] at h ⊢
    rw [diffGo_miss h]
    congr 1
    rw [show a + 1 - t = (a - t) + 1 by omega, List.take_succ_eq_append_getElem (by rw [List.length_drop]; omega), List.foldl_append]
    simp [show t + (a - t) = a by omega]
  have HEND : Hid (∀ (a t : Nat) (out : List Tok), t ≤ a → a ≤ ds.length → ds.length < a + B → diffGo zs B (((ds.drop t).take (a - t)).foldl pushByte out) (ds.drop a) = ((ds.drop t).take (ds.length - t)).foldl pushByte out) := by
    intro a t out hta ha h
    rw [diffGo_short hB1 _ _ (by rw [List.length_drop]; omega), ← List.foldl_append]
    congr 1
    rw [List.take_of_length_le (i := ds.length - t) (by rw [List.length_drop]; omega)]
    rw [show ds.drop a = (ds.drop t).drop (a - t) by rw [List.drop_drop, show t + (a - t) = a by omega], List.take_append_drop]
  have HLEN : Hid (∀ a m, a + m ≤ ds.length → ((ds.drop a).take m).length = m) := fun a m h => by rw [List.length_take, List.length_drop]; omega
  clear hc hz hd hz2 hva
  generalize hq : zs.length / B = M at *
  generalize zs.length = n at *
  generalize ds.length = n2 at *
  clear hq
  go_enter Tryz.func64, Tryz.ntmps64
  go_wp2_with fail
  refine HCK.out.mono ?_
  rintro e w1 ⟨rfl, hw1⟩
  obtain rfl := hw1.symm
  go_wp2_with fail
  refine HIX.out.mono ?_
  rintro e w1 ⟨mb, rfl, hM1, hb1⟩
  have HM1 := hide hM1
  have HB1 := hide hb1
  have HSZ1 : Hid (w.heap.size ≤ w1.heap.size) := hb1.size
  clear hM1 hb1 HCK HIX
  go_wp2_with fail
  obtain ⟨W0, hW0⟩ : ∃ W0, W0 = w1.alloc (.cells #[.slice va n cap, .int .i64 B, .map (some mb)] 189) := ⟨_, rfl⟩
  rw [← hW0]
  have hx0 : W0.cell? ⟨w1.heap.size, 0, none⟩ = some (.slice va n cap) := by rw [hW0]; exact cell_new rfl rfl
  have hx1 : W0.cell? ⟨w1.heap.size, 1, none⟩ = some (.int .i64 B) := by rw [hW0]; exact cell_new rfl rfl
  have hx2 : W0.cell? ⟨w1.heap.size, 2, none⟩ = some (.map (some mb)) := by rw [hW0]; exact cell_new rfl rfl
  have H0 := hide hx0
  have H1 := hide hx1
  have H2 := hide hx2
  have HLB : Hid (w1.heap.size < W0.heap.size) := World.block_lt_of_cell? W0 _ hx0
  have HBW : Hid (Below w.heap.size w W0) := by rw [hW0]; exact below_all HB1.out ((Below.refl _ _).alloc (Nat.le_refl _) _)
  have HMW : Hid (MapIs W0 mb M zs B) := by rw [hW0]; exact HM1.out.below ((Below.refl _ _).alloc (Nat.le_refl _) _)
  clear hx0 hx1 hx2 hW0 HM1 HB1
  go_loopw [10, 11, 12] (fun v0 v1 v2 wr => ∃ (ps : List (Tok × Value)) (t a : Nat), t ≤ a ∧ a ≤ n2 ∧ v1 = .int .i64 t ∧ v2 = .int .i64 a ∧ Hid (TokRow wr W0.heap.size v0 ps) ∧ Hid (diffGo zs B (((ds.drop t).take (a - t)).foldl pushByte (ps.map Prod.fst)) (ds.drop a) = diffOf zs ds B) ∧
      Hid (Shut (ps.map Prod.fst)) ∧ Hid (AllFair (ps.map Prod.fst)) ∧ Hid (ps.length ≤ t) ∧ Hid (Below W0.heap.size W0 wr)) (fun _ _ v2 _ => n2 - (intOf v2).toNat)
  case atStart => exact ⟨[], 0, 0, Nat.le_refl _, Nat.zero_le _, rfl, rfl, TokRow.nil _ _, (rfl : _ = _), shut_nil, (fun t ht => by simp at ht), Nat.le_refl 0, Below.refl _ _⟩
  case round =>
    obtain ⟨ps, t, a, hta, han, rfl, rfl, HTr, HDr, HSr, HFr, HLr, HBr⟩ := hrel
    by_cases hlt : a + B ≤ n2
    · have hd0 := (HBr.out.cell (p := ⟨w1.heap.size, 0, none⟩) HLB.out).trans H0.out
      have hd1 := (HBr.out.cell (p := ⟨w1.heap.size, 1, none⟩) HLB.out).trans H1.out
      have hd2 := (HBr.out.cell (p := ⟨w1.heap.size, 2, none⟩) HLB.out).trans H2.out
      have hfi := HFI.out a B mb wr.drew hlt (below_all HBW.out HBr.out).drew ((HMW.out.below HBr.out).below (Below.refl _ _).drew)
      have HLR : Hid (w1.heap.size < wr.heap.size) := Nat.lt_of_lt_of_le HLB.out HBr.out.size
      cases hf : findBlk zs B ((ds.drop a).take B) with
      | none =>
        have HFI' : Hid (Calls Tryz.prog 102 #[.agg #[.slice va n cap, .int .i64 B, .map (some mb)], .slice (some ⟨b2, off2 + a, none⟩) B B] wr.drew fun e w' => e = .returned (.tuple #[.int .i64 0, .bool false]) ∧ Below wr.drew.heap.size wr.drew w') := by
          rw [hf] at hfi; exact hfi
        have HF := hide hf
        clear hf hfi
        go_wp2_with fail
        have hwr : IntKind.i64.wrap ((a : Int) + (B : Int)) = (a : Int) + (B : Int) := by rw [IntKind.wrap_i64]; omega
        have hsl : ∀ W : World, (Instr.slice 25 (.slice (some ⟨b2, off2, none⟩) n2 cap2) (some (.int .i64 a)) (some (.int .i64 ((a : Int) + (B : Int)))) (some (.int .i64 ((a : Int) + (B : Int))))).run Tryz.prog W = .ok (.slice (some ⟨b2, off2 + a, none⟩) B B) W := by
          intro W
          have := slice3 b2 off2 n2 cap2 a ((a : Int) + (B : Int)) (a + B) (by omega) (by omega) (by omega) W
          rwa [show a + B - a = B by omega] at this
        go_region_held3 (fun w' => w'.cell? ⟨w1.heap.size, 0, none⟩ = some (.slice va n cap) ∧ w'.cell? ⟨w1.heap.size, 1, none⟩ = some (.int .i64 B) ∧ w'.cell? ⟨w1.heap.size, 2, none⟩ = some (.map (some mb)))
          (first | exact ⟨hd0, hd1, hd2⟩ | exact ⟨(hb3.cell (p := ⟨w1.heap.size, 0, none⟩) (HLR.out)).trans hd0, (hb3.cell (p := ⟨w1.heap.size, 1, none⟩) (HLR.out)).trans hd1, (hb3.cell (p := ⟨w1.heap.size, 2, none⟩) (HLR.out)).trans hd2⟩)
          ((go_at_call 102; refine HFI'.out.mono ?_; rintro e w3 ⟨rfl, hb3⟩))
        have HB3 : Hid (Below W0.heap.size W0 w3) := below_all HBr.out.drew hb3
        have HT3 : Hid (TokRow w3 W0.heap.size u10 ps) := (HTr.out.below (Below.refl _ _).drew).below hb3
        clear hb3 hd0 hd1 hd2 hsl hwr
        go_wp2_with fail
        go_roundw
        case rel =>
          refine ⟨ps, t, a + 1, by omega, by omega, rfl, by go_num, HT3.out, ?_, HSr.out, HFr.out, HLr.out, HB3.out⟩
          show _ = _
          rw [← HMISS.out a t _ hta (by omega) HF.out]
          exact HDr.out
        case measure => simp [intOf]; omega
      | some k =>
        have HFI' : Hid (Calls Tryz.prog 102 #[.agg #[.slice va n cap, .int .i64 B, .map (some mb)], .slice (some ⟨b2, off2 + a, none⟩) B B] wr.drew fun e w' => e = .returned (.tuple #[.int .i64 (k : Nat), .bool true]) ∧ Below wr.drew.heap.size wr.drew w') := by
          rw [hf] at hfi; exact hfi
        have HF := hide hf
        clear hf hfi
        go_wp2_with fail
        have hwr : IntKind.i64.wrap ((a : Int) + (B : Int)) = (a : Int) + (B : Int) := by rw [IntKind.wrap_i64]; omega
        have hsl : ∀ W : World, (Instr.slice 25 (.slice (some ⟨b2, off2, none⟩) n2 cap2) (some (.int .i64 a)) (some (.int .i64 ((a : Int) + (B : Int)))) (some (.int .i64 ((a : Int) + (B : Int))))).run Tryz.prog W = .ok (.slice (some ⟨b2, off2 + a, none⟩) B B) W := by
          intro W
          have := slice3 b2 off2 n2 cap2 a ((a : Int) + (B : Int)) (a + B) (by omega) (by omega) (by omega) W
          rwa [show a + B - a = B by omega] at this
        go_region_held3 (fun w' => w'.cell? ⟨w1.heap.size, 0, none⟩ = some (.slice va n cap) ∧ w'.cell? ⟨w1.heap.size, 1, none⟩ = some (.int .i64 B) ∧ w'.cell? ⟨w1.heap.size, 2, none⟩ = some (.map (some mb)))
          (first | exact ⟨hd0, hd1, hd2⟩ | exact ⟨(hb3.cell (p := ⟨w1.heap.size, 0, none⟩) (HLR.out)).trans hd0, (hb3.cell (p := ⟨w1.heap.size, 1, none⟩) (HLR.out)).trans hd1, (hb3.cell (p := ⟨w1.heap.size, 2, none⟩) (HLR.out)).trans hd2⟩)
          ((go_at_call 102; refine HFI'.out.mono ?_; rintro e w3 ⟨rfl, hb3⟩))
        have HB3 : Hid (Below W0.heap.size W0 w3) := below_all HBr.out.drew hb3
        have HT3 : Hid (TokRow w3 W0.heap.size u10 ps) := (HTr.out.below (Below.refl _ _).drew).below hb3
        clear hb3 hd0 hd1 hd2 hsl hwr
        have HAB : Hid (∀ (va : Option Addr) (L C : Nat) (ys : List Int), L = ys.length → PartAt w3 W0.heap.size va ys → ys.length ≤ 300 → L ≤ C → Calls Tryz.prog 103 #[u10, .slice va L C] w3 fun e w' => ∃ v' ps', e = .returned v' ∧ TokRow w' W0.heap.size v' ps' ∧ ps'.map Prod.fst = ys.foldl pushByte (ps.map Prod.fst) ∧ Below W0.heap.size w3 w') := by
          intro va L C ys hL hP hm hC
          subst hL
          exact addBytes_ok W0.heap.size u10 ps va C ys w3 HB3.out.size HT3.out hP (.inl HSr.out) (by have := HLr.out; omega) hm hC
        by_cases hteq : t = a
        · subst hteq
          go_wp2_with fail
          refine (HAB.out _ _ _ ((ds.drop t).take (t - t)) (by simp) (.inl (by simp)) (by simp) (by omega)).mono ?_
          rintro e w4 ⟨v4, ps4, rfl, hT4, he4, hb4⟩
          have HT4 := hide hT4
          have HE4 := hide he4
          have HB4 : Hid (Below W0.heap.size W0 w4) := HB3.out.trans hb4
          have HF4 : Hid (AllFair (ps4.map Prod.fst)) := by rw [he4]; exact fair_bytes _ _ HFr.out (HBY.out _ _)
          have HL4 : Hid (ps4.length ≤ t) := by
            have h1 := length_bytes ((ds.drop t).take (t - t)) (ps.map Prod.fst)
            rw [← he4, List.length_map, List.length_map, HLEN.out t (t - t) (by omega)] at h1
            have := HLr.out
            show _ ≤ _
            omega
          clear hT4 he4 hb4
          go_wp2_with fail
          refine (addBlock_ok W0.heap.size _ ps4 k w4 HB4.out.size HT4.out (by have := HL4.out; omega) HF4.out).mono ?_
          rintro e w5 ⟨v5, ps5, rfl, hT5, he5, hb5⟩
          have HT5 := hide hT5
          have HE5 := hide he5
          have HB5 : Hid (Below W0.heap.size W0 w5) := HB4.out.trans hb5
          clear hT5 he5 hb5
          go_wp2_with fail
          go_roundw
          case rel =>
            refine ⟨ps5, t + B, t + B, by omega, by omega, by go_num, by go_num, HT5.out, ?_, ?_, ?_, ?_, HB5.out⟩
            · show _ = _
              rw [Nat.sub_self, List.take_zero, List.foldl_nil, HE5.out, ← (HHIT.out t k _ HF.out).1, HE4.out]
              exact HDr.out
            · show Shut _
              rw [HE5.out]; exact shut_pushBlock _ _
            · show AllFair _
              rw [HE5.out]; exact fair_pushBlock HF4.out k (HHIT.out t k [] HF.out).2
            · show _ ≤ _
              have h1 := length_pushBlock (ps4.map Prod.fst) k
              rw [← HE5.out, List.length_map, List.length_map] at h1
              have := HL4.out
              omega
          case measure => simp [intOf]; omega
        · go_wp2_with fail
          refine (HAB.out _ _ _ ((ds.drop t).take (a - t)) (HLEN.out t (a - t) (by omega)).symm ((HPA.out t (a - t) w3 (below_all HBW.out HB3.out)).mono HBW.out.size) (by rw [HLEN.out t (a - t) (by omega)]; omega) (by omega)).mono ?_
          rintro e w4 ⟨v4, ps4, rfl, hT4, he4, hb4⟩
          have HT4 := hide hT4
          have HE4 := hide he4
          have HB4 : Hid (Below W0.heap.size W0 w4) := HB3.out.trans hb4
          have HF4 : Hid (AllFair (ps4.map Prod.fst)) := by rw [he4]; exact fair_bytes _ _ HFr.out (HBY.out _ _)
          have HL4 : Hid (ps4.length ≤ a) := by
            have h1 := length_bytes ((ds.drop t).take (a - t)) (ps.map Prod.fst)
            rw [← he4, List.length_map, List.length_map, HLEN.out t (a - t) (by omega)] at h1
            have := HLr.out
            show _ ≤ _
            omega
          clear hT4 he4 hb4
          go_wp2_with fail
          refine (addBlock_ok W0.heap.size _ ps4 k w4 HB4.out.size HT4.out (by have := HL4.out; omega) HF4.out).mono ?_
          rintro e w5 ⟨v5, ps5, rfl, hT5, he5, hb5⟩
          have HT5 := hide hT5
          have HE5 := hide he5
          have HB5 : Hid (Below W0.heap.size W0 w5) := HB4.out.trans hb5
          clear hT5 he5 hb5
          go_wp2_with fail
          go_roundw
          case rel =>
            refine ⟨ps5, a + B, a + B, by omega, by omega, by go_num, by go_num, HT5.out, ?_, ?_, ?_, ?_, HB5.out⟩
            · show _ = _
              rw [Nat.sub_self, List.take_zero, List.foldl_nil, HE5.out, ← (HHIT.out a k _ HF.out).1, HE4.out]
              exact HDr.out
            · show Shut _
              rw [HE5.out]; exact shut_pushBlock _ _
            · show AllFair _
              rw [HE5.out]; exact fair_pushBlock HF4.out k (HHIT.out a k [] HF.out).2
            · show _ ≤ _
              have h1 := length_pushBlock (ps4.map Prod.fst) k
              rw [← HE5.out, List.length_map, List.length_map] at h1
              have := HL4.out
              omega
          case measure => simp [intOf]; omega
    · have HAB : Hid (∀ (va : Option Addr) (L C : Nat) (ys : List Int), L = ys.length → PartAt wr W0.heap.size va ys → ys.length ≤ 300 → L ≤ C → Calls Tryz.prog 103 #[u10, .slice va L C] wr fun e w' => ∃ v' ps', e = .returned v' ∧ TokRow w' W0.heap.size v' ps' ∧ ps'.map Prod.fst = ys.foldl pushByte (ps.map Prod.fst) ∧ Below W0.heap.size wr w') := by
        intro va L C ys hL hP hm hC
        subst hL
        exact addBytes_ok W0.heap.size u10 ps va C ys wr HBr.out.size HTr.out hP (.inl HSr.out) (by have := HLr.out; omega) hm hC
      by_cases hteq : t = n2
      · go_wp2_with fail
        refine (HAB.out _ _ _ ((ds.drop t).take (n2 - t)) (by rw [HLEN.out t (n2 - t) (by omega)]; omega) (.inl (List.length_eq_zero_iff.1 (by rw [HLEN.out t (n2 - t) (by omega)]; omega))) (by rw [HLEN.out t (n2 - t) (by omega)]; omega) (by omega)).mono ?_
        rintro e w4 ⟨v4, ps4, rfl, hT4, he4, hb4⟩
        have HT4 := hide hT4
        have HE4 := hide he4
        have HB4 : Hid (Below W0.heap.size W0 w4) := HBr.out.trans hb4
        clear hT4 he4 hb4
        go_wp2_with fail
        go_ret2
        refine ⟨_, ps4, rfl, HT4.out.base HBW.out.size, ?_, HBW.out.trans (HB4.out.mono HBW.out.size)⟩
        rw [HE4.out, ← HEND.out a t _ hta han (by omega)]
        exact HDr.out
      · go_wp2_with fail
        refine (HAB.out _ _ _ ((ds.drop t).take (n2 - t)) (HLEN.out t (n2 - t) (by omega)).symm ((HPA.out t (n2 - t) wr (below_all HBW.out HBr.out)).mono HBW.out.size) (by rw [HLEN.out t (n2 - t) (by omega)]; omega) (by omega)).mono ?_
        rintro e w4 ⟨v4, ps4, rfl, hT4, he4, hb4⟩
        have HT4 := hide hT4
        have HE4 := hide he4
        have HB4 : Hid (Below W0.heap.size W0 w4) := HBr.out.trans hb4
        clear hT4 he4 hb4
        go_wp2_with fail
        go_ret2
        refine ⟨_, ps4, rfl, HT4.out.base HBW.out.size, ?_, HBW.out.trans (HB4.out.mono HBW.out.size)⟩
        rw [HE4.out, ← HEND.out a t _ hta han (by omega)]
        exact HDr.out
theorem diff_ok (b off cap B : Nat) (zs : List Int) (b2 off2 cap2 : Nat) (ds : List Int) (w : World) (hB1 : 1 ≤ B) (hB2 : B ≤ 64) (hm : zs.length ≤ 300) (hcap : zs.length ≤ cap) (hz : Bytes zs) (hm2 : ds.length ≤ 300) (hcap2 : ds.length ≤ cap2) (hz2 : Bytes ds) (hb2 : b2 < w.heap.size)
    (hc : ∀ k (h : k < zs.length), w.cell? ⟨b, off + k, none⟩ = some (.int .u8 zs[k])) (hd : ∀ k (h : k < ds.length), w.cell? ⟨b2, off2 + k, none⟩ = some (.int .u8 ds[k])) :
    Calls Tryz.prog 64 #[.slice (some ⟨b, off, none⟩) zs.length cap, .slice (some ⟨b2, off2, none⟩) ds.length cap2, .int .i64 B] w fun e w' => ∃ v ps, e = .returned (.tuple #[v, .nilIface]) ∧ TokRow w' w.heap.size v ps ∧ ps.map Prod.fst = diffOf zs ds B ∧ Below w.heap.size w w' :=
  diff_opt _ b off cap B zs (fun _ => rfl) b2 off2 cap2 ds w hB1 hB2 hm hcap hz hm2 hcap2 hz2 hb2 hc hd
end Go.Proofs.YtbhccdedcoajmabGreatDoor
