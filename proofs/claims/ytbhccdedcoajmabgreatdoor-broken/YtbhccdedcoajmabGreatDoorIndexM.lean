import Derived.Test.YtbhccdedcoajmabGreatDoorDeltaM
import Derived.Deep.RegionHeld3
namespace Go.Proofs.YtbhccdedcoajmabGreatDoor
open Go.RowKit Go.Maps

set_option maxRecDepth 10000 in
set_option maxHeartbeats 1000000 in
theorem indexOf_ok (va : Option Addr) (b off cap B : Nat) (zs : List Int) (hva : 0 < zs.length → va = some ⟨b, off, none⟩) (w : World) (hB1 : 1 ≤ B) (hB2 : B ≤ 64) (hm : zs.length ≤ 300) (hcap : zs.length ≤ cap) (hz : Bytes zs)
    (hc : ∀ k (h : k < zs.length), w.cell? ⟨b, off + k, none⟩ = some (.int .u8 zs[k])) :
    Calls Tryz.prog 101 #[.slice va zs.length cap, .int .i64 B] w fun e w' => ∃ mb, e = .returned (.agg #[.slice va zs.length cap, .int .i64 B, .map (some mb)]) ∧ MapIs w' mb (zs.length / B) zs B ∧ Below w.heap.size w w' := by
  have HAT : Hid (∀ i mb W, i < zs.length / B → Calls Tryz.prog 131 #[.agg #[.slice va zs.length cap, .int .i64 B, .map (some mb)], .int .i64 i] W fun e w' => e = .returned (.slice (some ⟨b, off + i * B, none⟩) B B) ∧ Below W.heap.size W w') := by
    intro i mb W hi
    have := (whole_chunk hB1 hi).1
    rw [hva (by rw [Nat.add_mul] at this; omega)]
    exact at_ok b off cap B i mb zs.length (i * B) hB1 hB2 hm hcap rfl (by rw [Nat.add_mul] at this; omega) W
  have HPR : Hid (∀ i W, i < zs.length / B → Below w.heap.size w W → Calls Tryz.prog 130 #[.slice (some ⟨b, off + i * B, none⟩) B B] W fun e w' => e = .returned (.agg #[.int .u32 (weakOf (chunk zs B i)), .int .u64 (digestOf (chunk zs B i))]) ∧ Below W.heap.size W w') := by
    intro i W hi hb
    have h2 := (whole_chunk hB1 hi).2
    have := pairOf_any b (off + i * B) B (chunk zs B i) W (by omega) (hz.chunk B i) (cells_chunk (cells_below hc hb) B i)
    rw [h2] at this
    exact this
  have HWH := hide (fun v cap mb w => whole_ok v cap B mb zs.length hB1 hB2 hm w)
  have HKL : Hid (∀ i, keyOf Tryz.prog 217 (.agg #[.int .u32 (weakOf (chunk zs B i)), .int .u64 (digestOf (chunk zs B i))]) = some (keyLit (chunk zs B i))) := fun i => keyLit_key _
  have hq : zs.length / B ≤ 300 := Nat.le_trans (Nat.div_le_self _ _) hm
  clear hc hz hva
  generalize zs.length / B = M at *
  generalize zs.length = n at *
  have hmk := @run_makeMap Tryz.prog
  go_enter Tryz.func101, Tryz.ntmps101
  go_wp2_with fail
  refine (HWH.out _ _ _ _).mono ?_
  rintro e w1 ⟨rfl, hb⟩
  have HMD := hide (MapIs.made (w.alloc (.cells #[.slice none 0 0, .int .i64 0, .map none] 189)) zs B)
  have HB : Hid (Below w.heap.size w w1) := by
    show Below _ _ _
    exact below_all ((((Below.refl _ _).alloc (Nat.le_refl _) _).alloc (by simp) _).alloc (by simp; omega) _) hb
  have hc0 : w1.cell? ⟨w.heap.size + 1 + 1, 0, none⟩ = some (.slice va n cap) := by rw [hb.cell (p := ⟨w.heap.size + 1 + 1, 0, none⟩) (by simp)]; exact cell_new (by simp) rfl
  have hc1 : w1.cell? ⟨w.heap.size + 1 + 1, 1, none⟩ = some (.int .i64 B) := by rw [hb.cell (p := ⟨w.heap.size + 1 + 1, 1, none⟩) (by simp)]; exact cell_new (by simp) rfl
  have hc2 : w1.cell? ⟨w.heap.size + 1 + 1, 2, none⟩ = some (.map (some (w.heap.size + 1))) := by rw [hb.cell (p := ⟨w.heap.size + 1 + 1, 2, none⟩) (by simp)]; exact cell_new (by simp) rfl
  have HG0 : Hid (w1.heap[w.heap.size]? = some (.cells #[.slice none 0 0, .int .i64 0, .map none] 189 (0, 0))) := by
    show _ = _
    rw [hb.block _ (by simp; omega), Below.heap_alloc _ _ _ (by simp; omega), Below.heap_alloc _ _ _ (by simp)]
    exact heap_alloc_new _ _
  have HM : Hid (MapIs w1 (w.heap.size + 1) 0 zs B) := by
    refine MapIs.below ?_ hb
    have := (HMD.out).below ((Below.refl _ _).alloc (Nat.le_refl _) (.cells #[.slice va n cap, .int .i64 B, .map (some (w.heap.size + 1))] 189))
    simpa using this
  clear hb HMD
  have hlb : w.heap.size + 1 + 1 < w1.heap.size := World.block_lt_of_cell? w1 _ hc0
  have H0 := hide hc0
  have H1 := hide hc1
  have H2 := hide hc2
  have HLB := hide hlb
  clear hc0 hc1 hc2 hlb
  go_wp2_with fail
  go_loopw [16] (fun i wr => ∃ k : Nat, k ≤ M ∧ i = .int .i64 k ∧ Hid (w1.grownBy wr (some (w.heap.size + 1))) ∧ Hid (MapIs wr (w.heap.size + 1) k zs B)) (fun i _ => M - (intOf i).toNat)
  case atStart => exact ⟨0, Nat.zero_le _, rfl, grown_below (Below.refl _ _), HM.out⟩
  case round =>
    obtain ⟨k, hk, rfl, HGr, HMr⟩ := hrel
    have hcr : ∀ j v, w1.cell? ⟨w.heap.size + 1 + 1, j, none⟩ = some v → wr.cell? ⟨w.heap.size + 1 + 1, j, none⟩ = some v := fun j v h => HGr.out.cell h (by simp)
    have hd0 := hcr _ _ H0.out
    have hd1 := hcr _ _ H1.out
    have hd2 := hcr _ _ H2.out
    clear hcr
    have hszr : w.heap.size + 1 + 1 < wr.heap.size := World.block_lt_of_cell? wr _ hd0
    have HSR := hide hszr
    clear hszr
    by_cases hlt : k < M
    · go_wp2_with fail
      refine (HAT.out k _ _ hlt).mono ?_
      rintro e w2 ⟨rfl, hb2⟩
      have HB2 := hide hb2
      clear hb2
      go_wp2_with fail
      refine (HPR.out k _ hlt ?hp).mono ?_
      case hp => exact below_all ((HB.out).grown HGr.out HB.out.size (fun j hj => by simp at hj; omega)) HB2.out
      rintro e w3 ⟨rfl, hb3⟩
      have HB3 : Hid (Below wr.heap.size wr w3) := below_all HB2.out hb3
      have hM3 := (HMr.out.below HB3.out).below ((Below.refl _ _).alloc (Nat.le_refl _) (.cells #[.int .u32 (weakOf (chunk zs B k)), .int .u64 (digestOf (chunk zs B k))] 217))
      have hd2' : w3.cell? ⟨w.heap.size + 1 + 1, 2, none⟩ = some (.map (some (w.heap.size + 1))) := by rw [HB3.out.cell (p := ⟨w.heap.size + 1 + 1, 2, none⟩) HSR.out]; exact hd2
      have hsz3 : w.heap.size + 1 + 1 < w3.heap.size := World.block_lt_of_cell? w3 _ hd2'
      clear hb3
      obtain ⟨D, hD1, hD2, hD3⟩ := hM3
      have HD1 := hide hD1
      have HD2 := hide hD2
      have HD3 := hide hD3
      clear hD1 hD2 hD3
      have HB4 : Hid (w1.grownBy (w3.alloc (.cells #[.int .u32 (weakOf (chunk zs B k)), .int .u64 (digestOf (chunk zs B k))] 217)) (some (w.heap.size + 1))) := HGr.out.trans (grown_below (below_all HB3.out ((Below.refl _ _).alloc (Nat.le_refl _) _)))
      cases hh : has D (keyLit (chunk zs B k)) with
      | true =>
        go_wp2_with (at_lookup; refine wpList_lookup_own_ok_int _ rfl _ _ 187 rfl 217 3 .i64 Tryz.pairKeyed Tryz.underlying187 Tryz.underlying3 (Tryz.zeroInt _) (w.heap.size + 1) k D rfl HD1.out _ _ rfl (HKL.out k) ?_; intro c hat hwc)
        go_roundw
        case rel => exact ⟨k + 1, by omega, by go_num, HB4.out, ⟨D, HD1.out.mono (Nat.le_succ _), HD2.out, MapIs.kept HD3.out hh⟩⟩
        case measure => simp [intOf]; omega
      | false =>
        go_wp2_with (first | (at_lookup; refine wpList_lookup_own_ok_int _ rfl _ _ 187 rfl 217 3 .i64 Tryz.pairKeyed Tryz.underlying187 Tryz.underlying3 (Tryz.zeroInt _) (w.heap.size + 1) k D rfl HD1.out _ _ rfl (HKL.out k) ?_; intro c hat hwc) | (at_mapUpdate; refine wpList_mapUpdate_own _ rfl _ _ _ 187 rfl 217 3 Tryz.pairKeyed Tryz.underlying187 _ (w.heap.size + 1) k D rfl HD1.out (by unfold maxLen; omega) _ _ _ rfl rfl (HKL.out k) (.lit (.int .i64 k)) [] (plainElem_int Tryz.underlying3 (WalkArith.wf_i64 (by omega))) ?_; intro w4 hown4 hgrow4))
        go_roundw
        case rel => exact ⟨k + 1, by omega, by go_num, HB4.out.trans hgrow4, ⟨_, hown4, HD2.out.put _ _, MapIs.put HD2.out HD3.out hh⟩⟩
        case measure => simp [intOf]; omega
    · have hkM : k = M := by omega
      have HKM := hide hkM
      clear hkM
      have hg0 : wr.heap[w.heap.size]? = some (.cells #[.slice none 0 0, .int .i64 0, .map none] 189 (0, 0)) := (HGr.out.block _ (by have := HLB.out; omega) (by simp)).trans HG0.out
      have he0 : wr.cell? ⟨w.heap.size, 0, none⟩ = some (.slice none 0 0) := cell_row hg0 rfl
      have he1 : wr.cell? ⟨w.heap.size, 1, none⟩ = some (.int .i64 0) := cell_row hg0 rfl
      have he2 : wr.cell? ⟨w.heap.size, 2, none⟩ = some (.map none) := cell_row hg0 rfl
      have hf : ∀ j, wr.frozen? ⟨w.heap.size, j, none⟩ = false := fun j => frozen_of_row _ _ _ _ _ hg0
      have HFIN : Hid (Below w.heap.size w wr) := (HB.out).grown HGr.out HB.out.size (fun j hj => by simp at hj; omega)
      clear hg0
      go_wp2_with fail
      refine bodyPost_ret (v := .agg #[.slice va n cap, .int .i64 B, .map (some (w.heap.size + 1))]) (by simp [results, Tryz.results101, go_sem, he0, he1, he2]) rfl ⟨_, rfl, ?_, ?_⟩
      · have := HMr.out
        rw [HKM.out] at this
        exact ((this.setCell (by omega) _ _).setCell (by omega) _ _).setCell (by omega) _ _
      · exact ((HFIN.out.setCell (p := ⟨w.heap.size, 0, none⟩) (Nat.le_refl _) _).setCell (p := ⟨w.heap.size, 1, none⟩) (Nat.le_refl _) _).setCell (p := ⟨w.heap.size, 2, none⟩) (Nat.le_refl _) _
end Go.Proofs.YtbhccdedcoajmabGreatDoor
namespace Go.Proofs.YtbhccdedcoajmabGreatDoor
open Go.RowKit Go.Maps

def foundV (r : Option Nat) : Value := .tuple #[.int .i64 (r.getD 0 : Nat), .bool r.isSome]

set_option maxRecDepth 10000 in
set_option maxHeartbeats 1000000 in
theorem find_ok (va : Option Addr) (b off cap B mb : Nat) (zs : List Int) (hva : 0 < zs.length → va = some ⟨b, off, none⟩) (b' off' cap' : Nat) (ps : List Int) (w : World) (hB1 : 1 ≤ B) (hB2 : B ≤ 64) (hm : zs.length ≤ 300) (hcap : zs.length ≤ cap) (hz : Bytes zs) (hp : Bytes ps) (hpl : ps.length = B)
    (hc : ∀ k (h : k < zs.length), w.cell? ⟨b, off + k, none⟩ = some (.int .u8 zs[k])) (hd : ∀ k (h : k < ps.length), w.cell? ⟨b', off' + k, none⟩ = some (.int .u8 ps[k])) (hM : MapIs w mb (zs.length / B) zs B) :
    Calls Tryz.prog 102 #[.agg #[.slice va zs.length cap, .int .i64 B, .map (some mb)], .slice (some ⟨b', off', none⟩) B cap'] w fun e w' => e = .returned (foundV (findBlk zs B ps)) ∧ Below w.heap.size w w' := by
  have HAT : Hid (∀ i mb W, i < zs.length / B → Calls Tryz.prog 131 #[.agg #[.slice va zs.length cap, .int .i64 B, .map (some mb)], .int .i64 i] W fun e w' => e = .returned (.slice (some ⟨b, off + i * B, none⟩) B B) ∧ Below W.heap.size W w') := by
    intro i mb W hi
    have := (whole_chunk hB1 hi).1
    rw [hva (by rw [Nat.add_mul] at this; omega)]
    exact at_ok b off cap B i mb zs.length (i * B) hB1 hB2 hm hcap rfl (by rw [Nat.add_mul] at this; omega) W
  have HPR : Hid (∀ W, Below w.heap.size w W → Calls Tryz.prog 130 #[.slice (some ⟨b', off', none⟩) B cap'] W fun e w' => e = .returned (.agg #[.int .u32 (weakOf ps), .int .u64 (digestOf ps)]) ∧ Below W.heap.size W w') := by
    intro W hb
    have := pairOf_any b' off' cap' ps W (by omega) hp (cells_below hd hb)
    rw [hpl] at this
    exact this
  have HEQ : Hid (∀ i W, i < zs.length / B → Below w.heap.size w W → Calls Tryz.prog 132 #[.slice (some ⟨b, off + i * B, none⟩) B B, .slice (some ⟨b', off', none⟩) B cap'] W fun e w' => e = .returned (.bool (decide (chunk zs B i = ps))) ∧ w' = W) := by
    intro i W hi hb
    have := equal_any b (off + i * B) B b' off' cap' (chunk zs B i) ps W (hz.chunk B i) hp (cells_chunk (cells_below hc hb) B i) (cells_below hd hb)
    rw [hpl, (whole_chunk hB1 hi).2] at this
    exact this
  have HWH := hide (fun v cap mb w => whole_ok v cap B mb zs.length hB1 hB2 hm w)
  obtain ⟨c, ok, hrun, hwhat⟩ := hM.look ps
  have HR := hide hrun
  have HF : Hid (∀ k : Nat, k ≤ zs.length / B → (∀ j, j < k → chunk zs B j ≠ ps) → (k < zs.length / B → chunk zs B k = ps) → findBlk zs B ps = if k < zs.length / B then some k else none) := by
    intro k _ h2 h3
    split
    · rename_i h
      exact findBlk_some.2 ⟨h, h3 h, h2⟩
    · rename_i h
      exact findBlk_none.2 (fun j hj => h2 j (by omega))
  have hq : zs.length / B ≤ 300 := Nat.le_trans (Nat.div_le_self _ _) hm
  have hwhat2 : (ok = false ∧ findBlk zs B ps = none) ∨ (ok = true ∧ ∃ i : Nat, c = i ∧ i < zs.length / B ∧ ∀ j, j < i → chunk zs B j ≠ ps) := by
    rcases hwhat with ⟨a, h⟩ | ⟨a, i, h1, h2, h3⟩
    · exact .inl ⟨a, findBlk_none.2 fun j hj e => h j hj (by rw [e])⟩
    · exact .inr ⟨a, i, h1, h2, fun j hj e => h3 j hj (by rw [e])⟩
  clear hc hz hd hp hM hrun hwhat hva
  generalize zs.length / B = M at *
  generalize zs.length = n at *
  have HB1 : Hid (∀ o, Below w.heap.size w (w.alloc o).drew) := fun o => ((Below.refl _ _).alloc (Nat.le_refl _) o).drew
  rcases hwhat2 with ⟨rfl, hno⟩ | ⟨rfl, i, rfl, hi, hall⟩
  · go_enter Tryz.func102, Tryz.ntmps102
    go_wp2_with fail
    go_region_held3 (fun w' => w'.cell? ⟨w.heap.size, 2, none⟩ = some (.map (some mb)) ∧ (Instr.lookup 187 (.map (some mb)) (.agg #[.int .u32 (weakOf ps), .int .u64 (digestOf ps)]) true).run Tryz.prog w' = .ok (.tuple #[.int .i64 c, .bool false]) w')
      (first | exact ⟨by go_keep, HR.out _ (HB1.out _)⟩ | exact ⟨by rw [hb2.cell (p := ⟨w.heap.size, 2, none⟩) (by simp)]; go_keep, HR.out _ (below_all (HB1.out _) hb2)⟩)
      ((go_at_call 130; refine (HPR.out _ (HB1.out _)).mono ?_; rintro e w2 ⟨rfl, hb2⟩))
    have HB2 : Hid (Below w.heap.size w w2) := below_all (HB1.out _) hb2
    clear hb2
    go_wp2_with fail
    go_ret2
    exact ⟨by rw [hno]; rfl, HB2.out⟩
  · have HALL := hide hall
    clear hall
    go_enter Tryz.func102, Tryz.ntmps102
    go_wp2_with fail
    go_region_held3 (fun w' => w'.cell? ⟨w.heap.size, 2, none⟩ = some (.map (some mb)) ∧ (Instr.lookup 187 (.map (some mb)) (.agg #[.int .u32 (weakOf ps), .int .u64 (digestOf ps)]) true).run Tryz.prog w' = .ok (.tuple #[.int .i64 i, .bool true]) w')
      (first | exact ⟨by go_keep, HR.out _ (HB1.out _)⟩ | exact ⟨by rw [hb2.cell (p := ⟨w.heap.size, 2, none⟩) (by simp)]; go_keep, HR.out _ (below_all (HB1.out _) hb2)⟩)
      ((go_at_call 130; refine (HPR.out _ (HB1.out _)).mono ?_; rintro e w2 ⟨rfl, hb2⟩))
    have HB2 : Hid (Below w.heap.size w w2) := below_all (HB1.out _) hb2
    have hx0 : w2.cell? ⟨w.heap.size, 0, none⟩ = some (.slice va n cap) := by rw [hb2.cell (p := ⟨w.heap.size, 0, none⟩) (by simp)]; exact cell_new rfl rfl
    have hx1 : w2.cell? ⟨w.heap.size, 1, none⟩ = some (.int .i64 B) := by rw [hb2.cell (p := ⟨w.heap.size, 1, none⟩) (by simp)]; exact cell_new rfl rfl
    have hx2 : w2.cell? ⟨w.heap.size, 2, none⟩ = some (.map (some mb)) := by rw [hb2.cell (p := ⟨w.heap.size, 2, none⟩) (by simp)]; exact cell_new rfl rfl
    have H0 := hide hx0
    have H1 := hide hx1
    have H2 := hide hx2
    have HLB : Hid (w.heap.size < w2.heap.size) := World.block_lt_of_cell? w2 _ hx0
    clear hb2 hx0 hx1 hx2
    go_wp2_with fail
    go_loopw [6] (fun v wr => ∃ k : Nat, k ≤ M ∧ v = .int .i64 k ∧ Hid (∀ j, j < k → chunk zs B j ≠ ps) ∧ Hid (Below w2.heap.size w2 wr)) (fun v _ => M - (intOf v).toNat)
    case atStart => exact ⟨i, Nat.le_of_lt hi, rfl, HALL.out, Below.refl _ _⟩
    case round =>
      obtain ⟨k, hk, rfl, HAr, HBr⟩ := hrel
      have hd0 := (HBr.out.cell (p := ⟨w.heap.size, 0, none⟩) HLB.out).trans H0.out
      have hd1 := (HBr.out.cell (p := ⟨w.heap.size, 1, none⟩) HLB.out).trans H1.out
      have hd2 := (HBr.out.cell (p := ⟨w.heap.size, 2, none⟩) HLB.out).trans H2.out
      go_wp2_with fail
      refine (HWH.out _ _ _ _).mono ?_
      rintro e w3 ⟨rfl, hb3⟩
      have he0 := (hb3.cell (p := ⟨w.heap.size, 0, none⟩) (Nat.lt_of_lt_of_le HLB.out HBr.out.size)).trans hd0
      have he1 := (hb3.cell (p := ⟨w.heap.size, 1, none⟩) (Nat.lt_of_lt_of_le HLB.out HBr.out.size)).trans hd1
      have he2 := (hb3.cell (p := ⟨w.heap.size, 2, none⟩) (Nat.lt_of_lt_of_le HLB.out HBr.out.size)).trans hd2
      have HB3 : Hid (Below w2.heap.size w2 w3) := below_all HBr.out hb3
      clear hb3 hd0 hd1 hd2
      by_cases hlt : k < M
      · go_wp2_with fail
        refine (HAT.out k _ _ hlt).mono ?_
        rintro e w4 ⟨rfl, hb4⟩
        have HB4 : Hid (Below w2.heap.size w2 w4) := below_all HB3.out hb4
        clear hb4 he0 he1 he2
        go_wp2_with fail
        refine (HEQ.out k _ hlt (below_all HB2.out HB4.out)).mono ?_
        rintro e w5 ⟨rfl, hw5⟩
        obtain rfl := hw5.symm
        by_cases hh : chunk zs B k = ps
        · have hdt : decide (chunk zs B k = ps) = true := decide_eq_true hh
          have HH := hide hh
          clear hh
          rw [hdt]
          clear hdt
          go_wp2_with fail
          go_ret2
          refine ⟨?_, below_all HB2.out HB4.out⟩
          rw [HF.out k (by omega) HAr.out (fun _ => HH.out), if_pos hlt]
          rfl
        · have hdt : decide (chunk zs B k = ps) = false := decide_eq_false hh
          have HH := hide hh
          clear hh
          rw [hdt]
          clear hdt
          go_wp2_with fail
          go_roundw
          case rel =>
            refine ⟨k + 1, by omega, by go_num, fun j hj => ?_, HB4.out⟩
            rcases Nat.lt_or_ge j k with h | h
            · exact HAr.out j h
            · obtain rfl : j = k := by omega
              exact HH.out
          case measure => simp [intOf]; omega
      · go_wp2_with fail
        go_ret2
        refine ⟨?_, below_all HB2.out HB3.out⟩
        rw [HF.out k (by omega) HAr.out (fun h => absurd h hlt), if_neg hlt]
        rfl
end Go.Proofs.YtbhccdedcoajmabGreatDoor
