import Derived.Test.YtbhccdedcoajmaaDoorDelta
import Derived.Test.YtbhccdedcoajmaaDoorKeys
import Derived.Deep.RegionHeld3
namespace Go.Proofs.YtbhccdedcoajmaaDoor
open Go.RowKit Go.Maps

set_option maxRecDepth 10000 in
set_option maxHeartbeats 1000000 in
theorem indexOf_ok (va : Option Addr) (b off cap B : Nat) (zs : List Int) (hva : 0 < zs.length → va = some ⟨b, off, none⟩) (w : World) (hB1 : 1 ≤ B) (hB2 : B ≤ 64) (hm : zs.length ≤ 300) (hcap : zs.length ≤ cap) (hz : Bytes zs)
    (hc : ∀ k (h : k < zs.length), w.cell? ⟨b, off + k, none⟩ = some (.int .u8 zs[k])) :
    Calls Tryd.prog 70 #[.slice va zs.length cap, .int .i64 B] w fun e w' => ∃ mb, e = .returned (.agg #[.slice va zs.length cap, .int .i64 B, .map (some mb)]) ∧ MapIs w' mb (zs.length / B) zs B ∧ Below w.heap.size w w' := by
  have HAT : Hid (∀ i mb W, i < zs.length / B → Calls Tryd.prog 86 #[.agg #[.slice va zs.length cap, .int .i64 B, .map (some mb)], .int .i64 i] W fun e w' => e = .returned (.slice (some ⟨b, off + i * B, none⟩) B B) ∧ Below W.heap.size W w') := by
    intro i mb W hi
    have := (whole_chunk hB1 hi).1
    rw [hva (by rw [Nat.add_mul] at this; omega)]
    exact at_ok b off cap B i mb zs.length (i * B) hB1 hB2 hm hcap rfl (by rw [Nat.add_mul] at this; omega) W
  have HPR : Hid (∀ i W, i < zs.length / B → Below w.heap.size w W → Calls Tryd.prog 85 #[.slice (some ⟨b, off + i * B, none⟩) B B] W fun e w' => e = .returned (.agg #[.int .u32 (weakOf (chunk zs B i)), .int .u64 (digestOf (chunk zs B i))]) ∧ Below W.heap.size W w') := by
    intro i W hi hb
    have h2 := (whole_chunk hB1 hi).2
    have := pairOf_any b (off + i * B) B (chunk zs B i) W (by omega) (hz.chunk B i) (cells_chunk (cells_below hc hb) B i)
    rw [h2] at this
    exact this
  have HWH := hide (fun v cap mb w => whole_ok v cap B mb zs.length hB1 hB2 hm w)
  have HKL : Hid (∀ i, keyOf Tryd.prog 172 (.agg #[.int .u32 (weakOf (chunk zs B i)), .int .u64 (digestOf (chunk zs B i))]) = some (keyLit (chunk zs B i))) := fun i => keyLit_key _
  have hq : zs.length / B ≤ 300 := Nat.le_trans (Nat.div_le_self _ _) hm
  clear hc hz hva
  generalize zs.length / B = M at *
  generalize zs.length = n at *
  have hmk := @run_makeMap Tryd.prog
  go_enter Tryd.func70, Tryd.ntmps70
  go_wp2_with fail
  refine (HWH.out _ _ _ _).mono ?_
  rintro e w1 ⟨rfl, hb⟩
  have HMD := hide (MapIs.made (w.alloc (.cells #[.slice none 0 0, .int .i64 0, .map none] 141)) zs B)
  have HB : Hid (Below w.heap.size w w1) := by
    show Below _ _ _
    exact below_all ((((Below.refl _ _).alloc (Nat.le_refl _) _).alloc (by simp) _).alloc (by simp; omega) _) hb
  have hc0 : w1.cell? ⟨w.heap.size + 1 + 1, 0, none⟩ = some (.slice va n cap) := by rw [hb.cell (p := ⟨w.heap.size + 1 + 1, 0, none⟩) (by simp)]; exact cell_new (by simp) rfl
  have hc1 : w1.cell? ⟨w.heap.size + 1 + 1, 1, none⟩ = some (.int .i64 B) := by rw [hb.cell (p := ⟨w.heap.size + 1 + 1, 1, none⟩) (by simp)]; exact cell_new (by simp) rfl
  have hc2 : w1.cell? ⟨w.heap.size + 1 + 1, 2, none⟩ = some (.map (some (w.heap.size + 1))) := by rw [hb.cell (p := ⟨w.heap.size + 1 + 1, 2, none⟩) (by simp)]; exact cell_new (by simp) rfl
  have HG0 : Hid (w1.heap[w.heap.size]? = some (.cells #[.slice none 0 0, .int .i64 0, .map none] 141 (0, 0))) := by
    show _ = _
    rw [hb.block _ (by simp; omega), Below.heap_alloc _ _ _ (by simp; omega), Below.heap_alloc _ _ _ (by simp)]
    exact heap_alloc_new _ _
  have HM : Hid (MapIs w1 (w.heap.size + 1) 0 zs B) := by
    refine MapIs.below ?_ hb
    have := (HMD.out).below ((Below.refl _ _).alloc (Nat.le_refl _) (.cells #[.slice va n cap, .int .i64 B, .map (some (w.heap.size + 1))] 141))
    simpa using this
  clear hb HMD
  have hlb : w.heap.size + 1 + 1 < w1.heap.size := World.block_lt_of_cell? w1 _ hc0
  have H0 := hide hc0
  have H1 := hide hc1
  have H2 := hide hc2
  have HLB := hide hlb
  clear hc0 hc1 hc2 hlb
  go_wp2_with fail
  go_loopw [16] (fun i wr => ∃ k : Nat, k ≤ M ∧ i = .int .i64 k ∧ Hid (w1.grownBy wr (some (w.heap.size + 1))) ∧ Hid (MapIs wr (w.heap.size + 1) k zs B)) (fun i _ => M - (intOf i).toNat)
  case atStart => exact ⟨0, Nat.zero_le _, rfl, grown_below (Below.refl _ _), HM.out⟩
  case round =>
    obtain ⟨k, hk, rfl, HGr, HMr⟩ := hrel
    have hcr : ∀ j v, w1.cell? ⟨w.heap.size + 1 + 1, j, none⟩ = some v → wr.cell? ⟨w.heap.size + 1 + 1, j, none⟩ = some v := fun j v h => HGr.out.cell h (by simp)
    have hd0 := hcr _ _ H0.out
    have hd1 := hcr _ _ H1.out
    have hd2 := hcr _ _ H2.out
    clear hcr
    have hszr : w.heap.size + 1 + 1 < wr.heap.size := World.block_lt_of_cell? wr _ hd0
    have HSR := hide hszr
    clear hszr
    by_cases hlt : k < M
    · go_wp2_with fail
      refine (HAT.out k _ _ hlt).mono ?_
      rintro e w2 ⟨rfl, hb2⟩
      have HB2 := hide hb2
      clear hb2
      go_wp2_with fail
      refine (HPR.out k _ hlt ?hp).mono ?_
      case hp => exact below_all ((HB.out).grown HGr.out HB.out.size (fun j hj => by simp at hj; omega)) HB2.out
      rintro e w3 ⟨rfl, hb3⟩
      have HB3 : Hid (Below wr.heap.size wr w3) := below_all HB2.out hb3
      have hM3 := (HMr.out.below HB3.out).below ((Below.refl _ _).alloc (Nat.le_refl _) (.cells #[.int .u32 (weakOf (chunk zs B k)), .int .u64 (digestOf (chunk zs B k))] 172))
      have hd2' : w3.cell? ⟨w.heap.size + 1 + 1, 2, none⟩ = some (.map (some (w.heap.size + 1))) := by rw [HB3.out.cell (p := ⟨w.heap.size + 1 + 1, 2, none⟩) HSR.out]; exact hd2
      have hsz3 : w.heap.size + 1 + 1 < w3.heap.size := World.block_lt_of_cell? w3 _ hd2'
      clear hb3
      obtain ⟨D, hD1, hD2, hD3⟩ := hM3
      have HD1 := hide hD1
      have HD2 := hide hD2
      have HD3 := hide hD3
      clear hD1 hD2 hD3
      have HB4 : Hid (w1.grownBy (w3.alloc (.cells #[.int .u32 (weakOf (chunk zs B k)), .int .u64 (digestOf (chunk zs B k))] 172)) (some (w.heap.size + 1))) := HGr.out.trans (grown_below (below_all HB3.out ((Below.refl _ _).alloc (Nat.le_refl _) _)))
      cases hh : has D (keyLit (chunk zs B k)) with
      | true =>
        go_wp2_with (at_lookup; refine wpList_lookup_own_ok_int _ rfl _ _ 139 rfl 172 3 .i64 Tryd.pairKeyed Tryd.underlying139 Tryd.underlying3 (Tryd.zeroInt _) (w.heap.size + 1) k D rfl HD1.out _ _ rfl (HKL.out k) ?_; intro c hat hwc)
        go_roundw
        case rel => exact ⟨k + 1, by omega, by go_num, HB4.out, ⟨D, HD1.out.mono (Nat.le_succ _), HD2.out, MapIs.kept HD3.out hh⟩⟩
        case measure => simp [intOf]; omega
      | false =>
        go_wp2_with (first | (at_lookup; refine wpList_lookup_own_ok_int _ rfl _ _ 139 rfl 172 3 .i64 Tryd.pairKeyed Tryd.underlying139 Tryd.underlying3 (Tryd.zeroInt _) (w.heap.size + 1) k D rfl HD1.out _ _ rfl (HKL.out k) ?_; intro c hat hwc) | (at_mapUpdate; refine wpList_mapUpdate_own _ rfl _ _ _ 139 rfl 172 3 Tryd.pairKeyed Tryd.underlying139 _ (w.heap.size + 1) k D rfl HD1.out (by unfold maxLen; omega) _ _ _ rfl rfl (HKL.out k) (.lit (.int .i64 k)) [] (plainElem_int Tryd.underlying3 (WalkArith.wf_i64 (by omega))) ?_; intro w4 hown4 hgrow4))
        go_roundw
        case rel => exact ⟨k + 1, by omega, by go_num, HB4.out.trans hgrow4, ⟨_, hown4, HD2.out.put _ _, MapIs.put HD2.out HD3.out hh⟩⟩
        case measure => simp [intOf]; omega
    · have hkM : k = M := by omega
      have HKM := hide hkM
      clear hkM
      have hg0 : wr.heap[w.heap.size]? = some (.cells #[.slice none 0 0, .int .i64 0, .map none] 141 (0, 0)) := (HGr.out.block _ (by have := HLB.out; omega) (by simp)).trans HG0.out
      have he0 : wr.cell? ⟨w.heap.size, 0, none⟩ = some (.slice none 0 0) := cell_row hg0 rfl
      have he1 : wr.cell? ⟨w.heap.size, 1, none⟩ = some (.int .i64 0) := cell_row hg0 rfl
      have he2 : wr.cell? ⟨w.heap.size, 2, none⟩ = some (.map none) := cell_row hg0 rfl
      have hf : ∀ j, wr.frozen? ⟨w.heap.size, j, none⟩ = false := fun j => frozen_of_row _ _ _ _ _ hg0
      have HFIN : Hid (Below w.heap.size w wr) := (HB.out).grown HGr.out HB.out.size (fun j hj => by simp at hj; omega)
      clear hg0
      go_wp2_with fail
      refine bodyPost_ret (v := .agg #[.slice va n cap, .int .i64 B, .map (some (w.heap.size + 1))]) (by simp [results, Tryd.results70, go_sem, he0, he1, he2]) rfl ⟨_, rfl, ?_, ?_⟩
      · have := HMr.out
        rw [HKM.out] at this
        exact ((this.setCell (by omega) _ _).setCell (by omega) _ _).setCell (by omega) _ _
      · exact ((HFIN.out.setCell (p := ⟨w.heap.size, 0, none⟩) (Nat.le_refl _) _).setCell (p := ⟨w.heap.size, 1, none⟩) (Nat.le_refl _) _).setCell (p := ⟨w.heap.size, 2, none⟩) (Nat.le_refl _) _
end Go.Proofs.YtbhccdedcoajmaaDoor
