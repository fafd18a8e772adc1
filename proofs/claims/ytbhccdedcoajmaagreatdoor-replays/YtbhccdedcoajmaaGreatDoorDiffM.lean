import Derived.Test.YtbhccdedcoajmaaGreatDoorDiffAM
import Derived.Test.YtbhccdedcoajmaaGreatDoorPTreeM
import Derived.Test.YtbhccdedcoajmaaGreatDoorPTokM
namespace Go.Proofs.YtbhccdedcoajmaaGreatDoor
open Go.RowKit Go.Maps

set_option maxRecDepth 10000 in
set_option maxHeartbeats 2000000 in
theorem diff_opt (va : Option Addr) (b off cap B : Nat) (zs : List Int) (hva : 0 < zs.length → va = some ⟨b, off, none⟩) (b2 off2 cap2 : Nat) (ds : List Int) (w : World) (hB1 : 1 ≤ B) (hB2 : B ≤ 64) (hm : zs.length ≤ 300) (hcap : zs.length ≤ cap) (hz : Bytes zs) (hm2 : ds.length ≤ 300) (hcap2 : ds.length ≤ cap2) (hz2 : Bytes ds) (hb2 : b2 < w.heap.size)
    (hc : ∀ k (h : k < zs.length), w.cell? ⟨b, off + k, none⟩ = some (.int .u8 zs[k])) (hd : ∀ k (h : k < ds.length), w.cell? ⟨b2, off2 + k, none⟩ = some (.int .u8 ds[k])) :
    Calls Tryz.prog 121 #[.slice va zs.length cap, .slice (some ⟨b2, off2, none⟩) ds.length cap2, .int .i64 B] w fun e w' => ∃ v ps, e = .returned (.tuple #[v, .nilIface]) ∧ TokRow w' w.heap.size v ps ∧ ps.map Prod.fst = diffOf zs ds B ∧ Below w.heap.size w w' := by
  have HCK := hide (checkBoth_next va (some ⟨b2, off2, none⟩) zs.length cap ds.length cap2 B .nilIface w (check_ok _ _ _ _ (by omega) (by omega) hm _) (check_ok _ _ _ _ (by omega) (by omega) hm2 _))
  have HIX := hide (indexOf_ok va b off cap B zs hva w hB1 hB2 hm hcap hz hc)
  have HFI : Hid (∀ (at_ : Nat) (cap' mb : Nat) (W : World), at_ + B ≤ ds.length → Below w.heap.size w W → MapIs W mb (zs.length / B) zs B → Calls Tryz.prog 146 #[.agg #[.slice va zs.length cap, .int .i64 B, .map (some mb)], .slice (some ⟨b2, off2 + at_, none⟩) B cap'] W fun e w' => e = .returned (foundV (findBlk zs B ((ds.drop at_).take B))) ∧ Below W.heap.size W w') := by
    intro a cap' mb W ha hb hM
    exact find_ok va b off cap B mb zs hva b2 (off2 + a) cap' ((ds.drop a).take B) W hB1 hB2 hm hcap hz ((hz2.drop a).take B) (by rw [List.length_take, List.length_drop]; omega) (cells_below hc hb) (cells_part (cells_below hd hb) a B) hM
  have HPA : Hid (∀ (a m : Nat) (W : World), Below w.heap.size w W → PartAt W w.heap.size (some ⟨b2, off2 + a, none⟩) ((ds.drop a).take m)) := by
    intro a m W hb
    exact .inr ⟨b2, off2 + a, rfl, hb2, cells_part (cells_below hd hb) a m⟩
  have HBY : Hid (∀ a m, Bytes ((ds.drop a).take m)) := fun a m => (hz2.drop a).take m
  have HHIT : Hid (∀ (a k : Nat) (out : List Tok), findBlk zs B ((ds.drop a).take B) = some k → diffGo zs B out (ds.drop a) = diffGo zs B (pushBlock out k) (ds.drop (a + B)) ∧ k ≤ 300) := by
    intro a k out h
    refine ⟨by rw [diffGo_hit hB1 h, List.drop_drop], ?_⟩
    have := (findBlk_some.1 h).1
    have := Nat.div_le_self zs.length B
    omega
  have HMISS : Hid (∀ (a t : Nat) (out : List Tok), t ≤ a → a < ds.length → findBlk zs B ((ds.drop a).take B) = none → diffGo zs B (((ds.drop t).take (a - t)).foldl pushByte out) (ds.drop a) = diffGo zs B (((ds.drop t).take (a + 1 - t)).foldl pushByte out) (ds.drop (a + 1))) := by
    intro a t out hta ha h
    rw [List.drop_eq_getElem_cons ha] at h ⊢
    rw [diffGo_miss h]
    congr 1
    rw [show a + 1 - t = (a - t) + 1 by omega, List.take_succ_eq_append_getElem (by rw [List.length_drop]; omega), List.foldl_append]
    simp [show t + (a - t) = a by omega]
  have HEND : Hid (∀ (a t : Nat) (out : List Tok), t ≤ a → a ≤ ds.length → ds.length < a + B → diffGo zs B (((ds.drop t).take (a - t)).foldl pushByte out) (ds.drop a) = ((ds.drop t).take (ds.length - t)).foldl pushByte out) := by
    intro a t out hta ha h
    rw [diffGo_short hB1 _ _ (by rw [List.length_drop]; omega), ← List.foldl_append]
    congr 1
    rw [List.take_of_length_le (i := ds.length - t) (by rw [List.length_drop]; omega)]
    rw [show ds.drop a = (ds.drop t).drop (a - t) by rw [List.drop_drop, show t + (a - t) = a by omega], List.take_append_drop]
  have HLEN : Hid (∀ a m, a + m ≤ ds.length → ((ds.drop a).take m).length = m) := fun a m h => by rw [List.length_take, List.length_drop]; omega
  clear hc hz hd hz2 hva
  generalize hq : zs.length / B = M at *
  generalize zs.length = n at *
  generalize ds.length = n2 at *
  clear hq
  go_enter Tryz.func121, Tryz.ntmps121
  go_wp2_with fail
  refine HCK.out.mono ?_
  rintro e w1 ⟨rfl, hw1⟩
  obtain rfl := hw1.symm
  go_wp2_with fail
  refine HIX.out.mono ?_
  rintro e w1 ⟨mb, rfl, hM1, hb1⟩
  have HM1 := hide hM1
  have HB1 := hide hb1
  have HSZ1 : Hid (w.heap.size ≤ w1.heap.size) := hb1.size
  clear hM1 hb1 HCK HIX
  go_wp2_with fail
  obtain ⟨W0, hW0⟩ : ∃ W0, W0 = w1.alloc (.cells #[.slice va n cap, .int .i64 B, .map (some mb)] 255) := ⟨_, rfl⟩
  rw [← hW0]
  have hx0 : W0.cell? ⟨w1.heap.size, 0, none⟩ = some (.slice va n cap) := by rw [hW0]; exact cell_new rfl rfl
  have hx1 : W0.cell? ⟨w1.heap.size, 1, none⟩ = some (.int .i64 B) := by rw [hW0]; exact cell_new rfl rfl
  have hx2 : W0.cell? ⟨w1.heap.size, 2, none⟩ = some (.map (some mb)) := by rw [hW0]; exact cell_new rfl rfl
  have H0 := hide hx0
  have H1 := hide hx1
  have H2 := hide hx2
  have HLB : Hid (w1.heap.size < W0.heap.size) := World.block_lt_of_cell? W0 _ hx0
  have HBW : Hid (Below w.heap.size w W0) := by rw [hW0]; exact below_all HB1.out ((Below.refl _ _).alloc (Nat.le_refl _) _)
  have HMW : Hid (MapIs W0 mb M zs B) := by rw [hW0]; exact HM1.out.below ((Below.refl _ _).alloc (Nat.le_refl _) _)
  clear hx0 hx1 hx2 hW0 HM1 HB1
  go_loopw [10, 11, 12] (fun v0 v1 v2 wr => ∃ (ps : List (Tok × Value)) (t a : Nat), t ≤ a ∧ a ≤ n2 ∧ v1 = .int .i64 t ∧ v2 = .int .i64 a ∧ Hid (TokRow wr W0.heap.size v0 ps) ∧ Hid (diffGo zs B (((ds.drop t).take (a - t)).foldl pushByte (ps.map Prod.fst)) (ds.drop a) = diffOf zs ds B) ∧
      Hid (Shut (ps.map Prod.fst)) ∧ Hid (AllFair (ps.map Prod.fst)) ∧ Hid (ps.length ≤ t) ∧ Hid (Below W0.heap.size W0 wr)) (fun _ _ v2 _ => n2 - (intOf v2).toNat)
  case atStart => exact ⟨[], 0, 0, Nat.le_refl _, Nat.zero_le _, rfl, rfl, TokRow.nil _ _, (rfl : _ = _), shut_nil, (fun t ht => by simp at ht), Nat.le_refl 0, Below.refl _ _⟩
  case round =>
    obtain ⟨ps, t, a, hta, han, rfl, rfl, HTr, HDr, HSr, HFr, HLr, HBr⟩ := hrel
    by_cases hlt : a + B ≤ n2
    · have hd0 := (HBr.out.cell (p := ⟨w1.heap.size, 0, none⟩) HLB.out).trans H0.out
      have hd1 := (HBr.out.cell (p := ⟨w1.heap.size, 1, none⟩) HLB.out).trans H1.out
      have hd2 := (HBr.out.cell (p := ⟨w1.heap.size, 2, none⟩) HLB.out).trans H2.out
      have hfi := HFI.out a B mb wr.drew hlt (below_all HBW.out HBr.out).drew ((HMW.out.below HBr.out).below (Below.refl _ _).drew)
      have HLR : Hid (w1.heap.size < wr.heap.size) := Nat.lt_of_lt_of_le HLB.out HBr.out.size
      cases hf : findBlk zs B ((ds.drop a).take B) with
      | none =>
        have HFI' : Hid (Calls Tryz.prog 146 #[.agg #[.slice va n cap, .int .i64 B, .map (some mb)], .slice (some ⟨b2, off2 + a, none⟩) B B] wr.drew fun e w' => e = .returned (.tuple #[.int .i64 0, .bool false]) ∧ Below wr.drew.heap.size wr.drew w') := by
          rw [hf] at hfi; exact hfi
        have HF := hide hf
        clear hf hfi
        go_wp2_with fail
        have hwr : IntKind.i64.wrap ((a : Int) + (B : Int)) = (a : Int) + (B : Int) := by rw [IntKind.wrap_i64]; omega
        have hsl : ∀ W : World, (Instr.slice 38 (.slice (some ⟨b2, off2, none⟩) n2 cap2) (some (.int .i64 a)) (some (.int .i64 ((a : Int) + (B : Int)))) (some (.int .i64 ((a : Int) + (B : Int))))).run Tryz.prog W = .ok (.slice (some ⟨b2, off2 + a, none⟩) B B) W := by
          intro W
          have := slice3 b2 off2 n2 cap2 a ((a : Int) + (B : Int)) (a + B) (by omega) (by omega) (by omega) W
          rwa [show a + B - a = B by omega] at this
        go_region_held3 (fun w' => w'.cell? ⟨w1.heap.size, 0, none⟩ = some (.slice va n cap) ∧ w'.cell? ⟨w1.heap.size, 1, none⟩ = some (.int .i64 B) ∧ w'.cell? ⟨w1.heap.size, 2, none⟩ = some (.map (some mb)))
          (first | exact ⟨hd0, hd1, hd2⟩ | exact ⟨(hb3.cell (p := ⟨w1.heap.size, 0, none⟩) (HLR.out)).trans hd0, (hb3.cell (p := ⟨w1.heap.size, 1, none⟩) (HLR.out)).trans hd1, (hb3.cell (p := ⟨w1.heap.size, 2, none⟩) (HLR.out)).trans hd2⟩)
          ((go_at_call 146; refine HFI'.out.mono ?_; rintro e w3 ⟨rfl, hb3⟩))
        have HB3 : Hid (Below W0.heap.size W0 w3) := below_all HBr.out.drew hb3
        have HT3 : Hid (TokRow w3 W0.heap.size u10 ps) := (HTr.out.below (Below.refl _ _).drew).below hb3
        clear hb3 hd0 hd1 hd2 hsl hwr
        go_wp2_with fail
        go_roundw
        case rel =>
          refine ⟨ps, t, a + 1, by omega, by omega, rfl, by go_num, HT3.out, ?_, HSr.out, HFr.out, HLr.out, HB3.out⟩
          show _ = _
          rw [← HMISS.out a t _ hta (by omega) HF.out]
          exact HDr.out
        case measure => simp [intOf]; omega
      | some k =>
        have HFI' : Hid (Calls Tryz.prog 146 #[.agg #[.slice va n cap, .int .i64 B, .map (some mb)], .slice (some ⟨b2, off2 + a, none⟩) B B] wr.drew fun e w' => e = .returned (.tuple #[.int .i64 (k : Nat), .bool true]) ∧ Below wr.drew.heap.size wr.drew w') := by
          rw [hf] at hfi; exact hfi
        have HF := hide hf
        clear hf hfi
        go_wp2_with fail
        have hwr : IntKind.i64.wrap ((a : Int) + (B : Int)) = (a : Int) + (B : Int) := by rw [IntKind.wrap_i64]; omega
        have hsl : ∀ W : World, (Instr.slice 38 (.slice (some ⟨b2, off2, none⟩) n2 cap2) (some (.int .i64 a)) (some (.int .i64 ((a : Int) + (B : Int)))) (some (.int .i64 ((a : Int) + (B : Int))))).run Tryz.prog W = .ok (.slice (some ⟨b2, off2 + a, none⟩) B B) W := by
          intro W
          have := slice3 b2 off2 n2 cap2 a ((a : Int) + (B : Int)) (a + B) (by omega) (by omega) (by omega) W
          rwa [show a + B - a = B by omega] at this
        go_region_held3 (fun w' => w'.cell? ⟨w1.heap.size, 0, none⟩ = some (.slice va n cap) ∧ w'.cell? ⟨w1.heap.size, 1, none⟩ = some (.int .i64 B) ∧ w'.cell? ⟨w1.heap.size, 2, none⟩ = some (.map (some mb)))
          (first | exact ⟨hd0, hd1, hd2⟩ | exact ⟨(hb3.cell (p := ⟨w1.heap.size, 0, none⟩) (HLR.out)).trans hd0, (hb3.cell (p := ⟨w1.heap.size, 1, none⟩) (HLR.out)).trans hd1, (hb3.cell (p := ⟨w1.heap.size, 2, none⟩) (HLR.out)).trans hd2⟩)
          ((go_at_call 146; refine HFI'.out.mono ?_; rintro e w3 ⟨rfl, hb3⟩))
        have HB3 : Hid (Below W0.heap.size W0 w3) := below_all HBr.out.drew hb3
        have HT3 : Hid (TokRow w3 W0.heap.size u10 ps) := (HTr.out.below (Below.refl _ _).drew).below hb3
        clear hb3 hd0 hd1 hd2 hsl hwr
        have HAB : Hid (∀ (va : Option Addr) (L C : Nat) (ys : List Int), L = ys.length → PartAt w3 W0.heap.size va ys → ys.length ≤ 300 → L ≤ C → Calls Tryz.prog 147 #[u10, .slice va L C] w3 fun e w' => ∃ v' ps', e = .returned v' ∧ TokRow w' W0.heap.size v' ps' ∧ ps'.map Prod.fst = ys.foldl pushByte (ps.map Prod.fst) ∧ Below W0.heap.size w3 w') := by
          intro va L C ys hL hP hm hC
          subst hL
          exact addBytes_ok W0.heap.size u10 ps va C ys w3 HB3.out.size HT3.out hP (.inl HSr.out) (by have := HLr.out; omega) hm hC
        by_cases hteq : t = a
        · subst hteq
          go_wp2_with fail
          refine (HAB.out _ _ _ ((ds.drop t).take (t - t)) (by simp) (.inl (by simp)) (by simp) (by omega)).mono ?_
          rintro e w4 ⟨v4, ps4, rfl, hT4, he4, hb4⟩
          have HT4 := hide hT4
          have HE4 := hide he4
          have HB4 : Hid (Below W0.heap.size W0 w4) := HB3.out.trans hb4
          have HF4 : Hid (AllFair (ps4.map Prod.fst)) := by rw [he4]; exact fair_bytes _ _ HFr.out (HBY.out _ _)
          have HL4 : Hid (ps4.length ≤ t) := by
            have h1 := length_bytes ((ds.drop t).take (t - t)) (ps.map Prod.fst)
            rw [← he4, List.length_map, List.length_map, HLEN.out t (t - t) (by omega)] at h1
            have := HLr.out
            show _ ≤ _
            omega
          clear hT4 he4 hb4
          go_wp2_with fail
          refine (addBlock_ok W0.heap.size _ ps4 k w4 HB4.out.size HT4.out (by have := HL4.out; omega) HF4.out).mono ?_
          rintro e w5 ⟨v5, ps5, rfl, hT5, he5, hb5⟩
          have HT5 := hide hT5
          have HE5 := hide he5
          have HB5 : Hid (Below W0.heap.size W0 w5) := HB4.out.trans hb5
          clear hT5 he5 hb5
          go_wp2_with fail
          go_roundw
          case rel =>
            refine ⟨ps5, t + B, t + B, by omega, by omega, by go_num, by go_num, HT5.out, ?_, ?_, ?_, ?_, HB5.out⟩
            · show _ = _
              rw [Nat.sub_self, List.take_zero, List.foldl_nil, HE5.out, ← (HHIT.out t k _ HF.out).1, HE4.out]
              exact HDr.out
            · show Shut _
              rw [HE5.out]; exact shut_pushBlock _ _
            · show AllFair _
              rw [HE5.out]; exact fair_pushBlock HF4.out k (HHIT.out t k [] HF.out).2
            · show _ ≤ _
              have h1 := length_pushBlock (ps4.map Prod.fst) k
              rw [← HE5.out, List.length_map, List.length_map] at h1
              have := HL4.out
              omega
          case measure => simp [intOf]; omega
        · go_wp2_with fail
          refine (HAB.out _ _ _ ((ds.drop t).take (a - t)) (HLEN.out t (a - t) (by omega)).symm ((HPA.out t (a - t) w3 (below_all HBW.out HB3.out)).mono HBW.out.size) (by rw [HLEN.out t (a - t) (by omega)]; omega) (by omega)).mono ?_
          rintro e w4 ⟨v4, ps4, rfl, hT4, he4, hb4⟩
          have HT4 := hide hT4
          have HE4 := hide he4
          have HB4 : Hid (Below W0.heap.size W0 w4) := HB3.out.trans hb4
          have HF4 : Hid (AllFair (ps4.map Prod.fst)) := by rw [he4]; exact fair_bytes _ _ HFr.out (HBY.out _ _)
          have HL4 : Hid (ps4.length ≤ a) := by
            have h1 := length_bytes ((ds.drop t).take (a - t)) (ps.map Prod.fst)
            rw [← he4, List.length_map, List.length_map, HLEN.out t (a - t) (by omega)] at h1
            have := HLr.out
            show _ ≤ _
            omega
          clear hT4 he4 hb4
          go_wp2_with fail
          refine (addBlock_ok W0.heap.size _ ps4 k w4 HB4.out.size HT4.out (by have := HL4.out; omega) HF4.out).mono ?_
          rintro e w5 ⟨v5, ps5, rfl, hT5, he5, hb5⟩
          have HT5 := hide hT5
          have HE5 := hide he5
          have HB5 : Hid (Below W0.heap.size W0 w5) := HB4.out.trans hb5
          clear hT5 he5 hb5
          go_wp2_with fail
          go_roundw
          case rel =>
            refine ⟨ps5, a + B, a + B, by omega, by omega, by go_num, by go_num, HT5.out, ?_, ?_, ?_, ?_, HB5.out⟩
            · show _ = _
              rw [Nat.sub_self, List.take_zero, List.foldl_nil, HE5.out, ← (HHIT.out a k _ HF.out).1, HE4.out]
              exact HDr.out
            · show Shut _
              rw [HE5.out]; exact shut_pushBlock _ _
            · show AllFair _
              rw [HE5.out]; exact fair_pushBlock HF4.out k (HHIT.out a k [] HF.out).2
            · show _ ≤ _
              have h1 := length_pushBlock (ps4.map Prod.fst) k
              rw [← HE5.out, List.length_map, List.length_map] at h1
              have := HL4.out
              omega
          case measure => simp [intOf]; omega
    · have HAB : Hid (∀ (va : Option Addr) (L C : Nat) (ys : List Int), L = ys.length → PartAt wr W0.heap.size va ys → ys.length ≤ 300 → L ≤ C → Calls Tryz.prog 147 #[u10, .slice va L C] wr fun e w' => ∃ v' ps', e = .returned v' ∧ TokRow w' W0.heap.size v' ps' ∧ ps'.map Prod.fst = ys.foldl pushByte (ps.map Prod.fst) ∧ Below W0.heap.size wr w') := by
        intro va L C ys hL hP hm hC
        subst hL
        exact addBytes_ok W0.heap.size u10 ps va C ys wr HBr.out.size HTr.out hP (.inl HSr.out) (by have := HLr.out; omega) hm hC
      by_cases hteq : t = n2
      · go_wp2_with fail
        refine (HAB.out _ _ _ ((ds.drop t).take (n2 - t)) (by rw [HLEN.out t (n2 - t) (by omega)]; omega) (.inl (List.length_eq_zero_iff.1 (by rw [HLEN.out t (n2 - t) (by omega)]; omega))) (by rw [HLEN.out t (n2 - t) (by omega)]; omega) (by omega)).mono ?_
        rintro e w4 ⟨v4, ps4, rfl, hT4, he4, hb4⟩
        have HT4 := hide hT4
        have HE4 := hide he4
        have HB4 : Hid (Below W0.heap.size W0 w4) := HBr.out.trans hb4
        clear hT4 he4 hb4
        go_wp2_with fail
        go_ret2
        refine ⟨_, ps4, rfl, HT4.out.base HBW.out.size, ?_, HBW.out.trans (HB4.out.mono HBW.out.size)⟩
        rw [HE4.out, ← HEND.out a t _ hta han (by omega)]
        exact HDr.out
      · go_wp2_with fail
        refine (HAB.out _ _ _ ((ds.drop t).take (n2 - t)) (HLEN.out t (n2 - t) (by omega)).symm ((HPA.out t (n2 - t) wr (below_all HBW.out HBr.out)).mono HBW.out.size) (by rw [HLEN.out t (n2 - t) (by omega)]; omega) (by omega)).mono ?_
        rintro e w4 ⟨v4, ps4, rfl, hT4, he4, hb4⟩
        have HT4 := hide hT4
        have HE4 := hide he4
        have HB4 : Hid (Below W0.heap.size W0 w4) := HBr.out.trans hb4
        clear hT4 he4 hb4
        go_wp2_with fail
        go_ret2
        refine ⟨_, ps4, rfl, HT4.out.base HBW.out.size, ?_, HBW.out.trans (HB4.out.mono HBW.out.size)⟩
        rw [HE4.out, ← HEND.out a t _ hta han (by omega)]
        exact HDr.out
theorem diff_ok (b off cap B : Nat) (zs : List Int) (b2 off2 cap2 : Nat) (ds : List Int) (w : World) (hB1 : 1 ≤ B) (hB2 : B ≤ 64) (hm : zs.length ≤ 300) (hcap : zs.length ≤ cap) (hz : Bytes zs) (hm2 : ds.length ≤ 300) (hcap2 : ds.length ≤ cap2) (hz2 : Bytes ds) (hb2 : b2 < w.heap.size)
    (hc : ∀ k (h : k < zs.length), w.cell? ⟨b, off + k, none⟩ = some (.int .u8 zs[k])) (hd : ∀ k (h : k < ds.length), w.cell? ⟨b2, off2 + k, none⟩ = some (.int .u8 ds[k])) :
    Calls Tryz.prog 121 #[.slice (some ⟨b, off, none⟩) zs.length cap, .slice (some ⟨b2, off2, none⟩) ds.length cap2, .int .i64 B] w fun e w' => ∃ v ps, e = .returned (.tuple #[v, .nilIface]) ∧ TokRow w' w.heap.size v ps ∧ ps.map Prod.fst = diffOf zs ds B ∧ Below w.heap.size w w' :=
  diff_opt _ b off cap B zs (fun _ => rfl) b2 off2 cap2 ds w hB1 hB2 hm hcap hz hm2 hcap2 hz2 hb2 hc hd
end Go.Proofs.YtbhccdedcoajmaaGreatDoor
namespace Go.Proofs.YtbhccdedcoajmaaGreatDoor
open Go.RowKit

/-- where the bytes of a file that is looked up by its name lie -/
def DataAt (w : World) (va : Option Addr) (b cp : Nat) (zs : List Int) : Prop := (0 < zs.length → va = some ⟨b, 0, none⟩) ∧ zs.length ≤ cp ∧ ∀ k (h : k < zs.length), w.cell? ⟨b, 0 + k, none⟩ = some (.int .u8 zs[k])
theorem DataAt.below {w w' : World} {va : Option Addr} {b cp : Nat} {zs : List Int} (h : DataAt w va b cp zs) (hb : Below w.heap.size w w') : DataAt w' va b cp zs := by
  obtain ⟨h1, h2, h3⟩ := h
  exact ⟨h1, h2, cells_below h3 hb⟩

set_option maxRecDepth 10000 in
set_option maxHeartbeats 1000000 in
theorem tdata_any (v : Value) (fs : List (ByteArray × ByteArray)) (nm : ByteArray) (w : World) (hl : fs.length ≤ 70000) (hF : Af w v fs) :
    Calls Tryz.prog 122 #[v, .string nm] w fun e w' => ∃ va b cp, e = .returned (.slice va (nums ((foundOf fs nm).getD ⟨#[]⟩)).length cp) ∧ DataAt w va b cp (nums ((foundOf fs nm).getD ⟨#[]⟩)) ∧ Below w.heap.size w w' := by
  obtain ⟨va, cap, rfl, hcap, hcell⟩ := hF
  have HC : Hid (∀ k (hk : k < fs.length), ∃ (g b cp : Nat), va = some ⟨g, 0, none⟩ ∧ g < w.heap.size ∧ w.cell? ⟨g, k * 2, none⟩ = some (.string fs[k].1) ∧ w.cell? ⟨g, k * 2 + 1, none⟩ = some (.slice (some ⟨b, 0, none⟩) (nums fs[k].2).length cp) ∧ DataAt w (some ⟨b, 0, none⟩) b cp (nums fs[k].2)) := by
    intro k hk
    obtain ⟨g, b, cp, e, hg, c0, c1, _, hcp, hc⟩ := hcell k hk
    exact ⟨g, b, cp, e, hg, c0, by rw [nums_length]; exact c1, fun _ => rfl, by rw [nums_length]; exact hcp, hc⟩
  have HHIT : Hid (∀ k (hk : k < fs.length), nums fs[k].1 = nums nm → (∀ j (hj : j < fs.length), j < k → nums fs[j].1 ≠ nums nm) → foundOf fs nm = some fs[k].2) := fun k hk h hno => found_hit hk h hno
  have HNO : Hid ((∀ j (hj : j < fs.length), nums fs[j].1 ≠ nums nm) → foundOf fs nm = none) := fun h => found_no h
  have HTE : Hid (∀ k (hk : k < fs.length), (fs[k].1.toList == nm.toList) = decide (nums fs[k].1 = nums nm)) := fun k hk => text_eq _ _
  clear hcell
  go_enter Tryz.func122, Tryz.ntmps122
  go_wp2_with fail
  go_loopw [9] (fun i wr => ∃ k : Nat, k ≤ fs.length ∧ i = .int .i64 k ∧ Hid (∀ j (hj : j < fs.length), j < k → nums fs[j].1 ≠ nums nm) ∧ Hid (Below w.heap.size w wr)) (fun i _ => fs.length - (intOf i).toNat)
  case atStart => exact ⟨0, Nat.zero_le _, rfl, (fun j _ hj => by omega), Below.refl _ _⟩
  case round =>
    obtain ⟨k, hk, rfl, HA, HBr⟩ := hrel
    by_cases hlt : k < fs.length
    · obtain ⟨g, b, cp, rfl, hg, c0, c1, hat⟩ := HC.out k hlt
      have d0 := (HBr.out.cell (p := ⟨g, k * 2, none⟩) hg).trans c0
      have d1 := (HBr.out.cell (p := ⟨g, k * 2 + 1, none⟩) hg).trans c1
      have hte := HTE.out k hlt
      have HIT := hide (HHIT.out k hlt)
      have HAT := hide hat
      have HNE : Hid (nums fs[k].1 ≠ nums nm → ∀ j (hj : j < fs.length), j < k + 1 → nums fs[j].1 ≠ nums nm) := by
        intro h j hj hjk
        rcases Nat.lt_or_ge j k with h' | h'
        · exact HA.out j hj h'
        · obtain rfl : j = k := by omega
          exact h
      have HB1 : Hid (∀ o, Below w.heap.size w (wr.alloc o)) := fun o => HBr.out.alloc HBr.out.size _
      clear c0 c1 hat
      generalize fs[k].1 = a at *
      generalize fs[k].2 = dt at *
      by_cases hh : nums a = nums nm
      · have HH := hide hh
        rw [decide_eq_true hh] at hte
        have HR := hide (HIT.out HH.out HA.out)
        clear hh
        go_wp2_with fail
        go_ret
        refine ⟨some ⟨b, 0, none⟩, b, cp, ?_, ?_, HB1.out _⟩
        · rw [HR.out]; rfl
        · rw [HR.out]; exact HAT.out
      · have HH := hide hh
        rw [decide_eq_false hh] at hte
        clear hh
        go_wp2_with fail
        go_roundw
        case rel => exact ⟨k + 1, by omega, by go_num, HNE.out HH.out, HB1.out _⟩
        case measure => simp [intOf]; omega
    · have HR := hide (HNO.out (fun j hj => HA.out j hj (by omega)))
      go_wp2_with fail
      go_ret
      refine ⟨none, 0, 0, ?_, ?_, HBr.out⟩
      · rw [HR.out]; rfl
      · rw [HR.out]; exact ⟨fun h => by simp [nums_empty] at h, by simp [nums_empty], fun k h => by simp [nums_empty] at h⟩

/-- an error of a list of files -/
def TreeErr (w' : World) (fs : List (ByteArray × ByteArray)) (e0 : Value) : Prop := ∃ i b, ∃ h : BadAt fs i, e0 = .iface 123 (.pointer (some ⟨b, 0, none⟩)) ∧ w'.cell? ⟨b, 0, none⟩ = some (.string (fs[i]'h.1).1) ∧ w'.cell? ⟨b, 1, none⟩ = some (.int .i64 4)
theorem tcheck_two (v : Value) (fs : List (ByteArray × ByteArray)) (w : World) (hl : fs.length ≤ 70000) (hsz : ∀ p ∈ fs, p.1.size ≤ 70000 ∧ p.2.size ≤ 70000) (hF : Af w v fs) :
    Calls Tryz.prog 58 #[v] w fun e w' => ((e = .returned .nilIface ∧ TreeOk fs) ∨ ∃ b, e = .returned (.iface 123 (.pointer (some ⟨b, 0, none⟩))) ∧ TreeErr w' fs (.iface 123 (.pointer (some ⟨b, 0, none⟩)))) ∧ Below w.heap.size w w' := by
  refine (tcheck_any v fs w hl hsz hF).mono ?_
  rintro e w' ⟨h, hb⟩
  refine ⟨?_, hb⟩
  rcases h with h | ⟨i, b, h, rfl, c0, c1⟩
  · exact .inl h
  · exact .inr ⟨b, rfl, i, b, h, rfl, c0, c1⟩

set_option maxHeartbeats 1000000 in
theorem pcheck_block (vs vr : Value) (B : Int) (h : B < 1 ∨ 64 < B) (w : World) :
    Calls Tryz.prog 118 #[vs, vr, .int .i64 B] w fun e w' => e = .returned (.iface 50 (.int .i64 1)) ∧ w' = w := by
  have HC := hide (fun w => checkBlock_bad B h w)
  clear h
  go_enter Tryz.func118, Tryz.ntmps118
  go_wp2_with fail
  refine (HC.out _).mono ?_
  rintro e w' ⟨rfl, rfl⟩
  go_wp2_with fail
  go_ret
  exact ⟨rfl, rfl⟩

set_option maxHeartbeats 1000000 in
theorem pcheck_any (vs vr : Value) (fs fr : List (ByteArray × ByteArray)) (B : Int) (h1 : 1 ≤ B) (h2 : B ≤ 64) (w : World) (hls : fs.length ≤ 70000) (hlr : fr.length ≤ 70000) (hzs : ∀ p ∈ fs, p.1.size ≤ 70000 ∧ p.2.size ≤ 70000) (hzr : ∀ p ∈ fr, p.1.size ≤ 70000 ∧ p.2.size ≤ 70000) (hFs : Af w vs fs) (hFr : Af w vr fr) :
    Calls Tryz.prog 118 #[vs, vr, .int .i64 B] w fun e w' => ((e = .returned .nilIface ∧ TreeOk fs ∧ TreeOk fr) ∨ ∃ b, e = .returned (.iface 123 (.pointer (some ⟨b, 0, none⟩))) ∧ (TreeErr w' fs (.iface 123 (.pointer (some ⟨b, 0, none⟩))) ∨ TreeOk fs ∧ TreeErr w' fr (.iface 123 (.pointer (some ⟨b, 0, none⟩))))) ∧ Below w.heap.size w w' := by
  have HC := hide (fun w => checkBlock_ok B h1 h2 w)
  have HS := hide (tcheck_two vs fs w hls hzs hFs)
  have HR : Hid (∀ W, Below w.heap.size w W → Calls Tryz.prog 58 #[vr] W fun e w' => ((e = .returned .nilIface ∧ TreeOk fr) ∨ ∃ b, e = .returned (.iface 123 (.pointer (some ⟨b, 0, none⟩))) ∧ TreeErr w' fr (.iface 123 (.pointer (some ⟨b, 0, none⟩)))) ∧ Below W.heap.size W w') := fun W hb => tcheck_two vr fr W hlr hzr (hFr.below hb)
  clear hFs hFr hzs hzr
  go_enter Tryz.func118, Tryz.ntmps118
  go_wp2_with fail
  refine (HC.out _).mono ?_
  rintro e w' ⟨rfl, hw'⟩
  obtain rfl := hw'.symm
  go_wp2_with fail
  refine HS.out.mono ?_
  rintro e w1 ⟨⟨rfl, hok⟩ | ⟨b, rfl, herr⟩, hb1⟩
  · have HOK := hide hok
    have HB1 := hide hb1
    clear hok hb1
    go_wp2_with fail
    refine (HR.out _ HB1.out).mono ?_
    rintro e w2 ⟨⟨rfl, hok2⟩ | ⟨b, rfl, herr2⟩, hb2⟩
    · have HX : Hid (TreeOk fr ∧ Below w.heap.size w w2) := ⟨hok2, below_all HB1.out hb2⟩
      clear hok2 hb2
      go_wp2_with fail
      go_ret
      exact ⟨.inl ⟨rfl, HOK.out, HX.out.1⟩, HX.out.2⟩
    · have HX : Hid (TreeErr w2 fr (.iface 123 (.pointer (some ⟨b, 0, none⟩))) ∧ Below w.heap.size w w2) := ⟨herr2, below_all HB1.out hb2⟩
      clear herr2 hb2
      go_wp2_with fail
      go_ret
      exact ⟨.inr ⟨b, rfl, .inr ⟨HOK.out, HX.out.1⟩⟩, HX.out.2⟩
  · have HX : Hid (TreeErr w1 fs (.iface 123 (.pointer (some ⟨b, 0, none⟩))) ∧ Below w.heap.size w w1) := ⟨herr, hb1⟩
    clear herr hb1
    go_wp2_with fail
    go_ret
    exact ⟨.inr ⟨b, rfl, .inl HX.out.1⟩, HX.out.2⟩
end Go.Proofs.YtbhccdedcoajmaaGreatDoor
