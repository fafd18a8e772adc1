import Derived.Test.YtbhccdedcoajmabGreatDoorConvM
import Derived.Deep.QuietTactic
import Derived.BigQuiet
import Derived.Test.YtbhccdedcoajmabGreatDoorMade
import Derived.Test.YtbhccdedcoajmabGreatDoorPPut
import Derived.Test.YtbhccdedcoajmabGreatDoorFairM
namespace Go.Proofs.YtbhccdedcoajmabGreatDoor
open Go.RowKit

theorem TokRow.opened {w : World} {base : Nat} {v : Value} {ps : List (Tok × Value)} (h : TokRow w base v ps) : ∃ va cap, v = .slice va ps.length cap ∧ ps.length ≤ cap ∧ ∀ i (hi : i < ps.length), ∃ g, va = some ⟨g, 0, none⟩ ∧ base ≤ g ∧ g < w.heap.size ∧ w.cell? ⟨g, i * 3, none⟩ = some (.int .i64 ps[i].1.block) ∧ w.cell? ⟨g, i * 3 + 1, none⟩ = some (.int .i64 ps[i].1.count) ∧ w.cell? ⟨g, i * 3 + 2, none⟩ = some ps[i].2 := by
  rcases Nat.eq_zero_or_pos ps.length with h0 | h0
  · rcases h.row.2 with ⟨hv, _⟩ | ⟨g, cap, cur, hv, _, _, h1, _⟩
    · exact ⟨none, 0, by rw [hv, h0], by omega, fun i hi => by omega⟩
    · exact ⟨_, cap, hv, h1, fun i hi => by omega⟩
  · obtain ⟨g, cap, rfl, hb, hl, h1, _⟩ := h.shape h0
    refine ⟨_, cap, rfl, h1, fun i hi => ⟨g, rfl, hb, hl, h.cells i hi⟩⟩

end Go.Proofs.YtbhccdedcoajmabGreatDoor
namespace Go.Proofs.YtbhccdedcoajmabGreatDoor
open Go.RowKit

theorem cells_add {w : World} {gd : Nat} {td : List Int} (h : ∀ k (h : k < td.length), w.cell? ⟨gd, k, none⟩ = some (.int .u8 td[k])) : ∀ j x, (u8s td)[j]? = some x → w.cell? (Addr.add ⟨gd, 0, none⟩ j) = some x := by
  intro j x hj
  rcases Nat.lt_or_ge j td.length with hl | hl
  · simp only [u8s, List.getElem?_map, List.getElem?_eq_getElem hl, Option.map_some, Option.some.injEq] at hj
    subst hj
    rw [add_at]
    exact h j hl
  · rw [List.getElem?_eq_none (by simpa [u8s] using hl)] at hj
    cases hj

set_option maxRecDepth 10000 in
set_option maxHeartbeats 1000000 in
theorem addTok_data (base gd cd : Nat) (v : Value) (xs td : List Int) (bk : Int) (w : World) (hL0 : 0 < td.length) (h255 : td.length ≤ 255) (_hcd : td.length ≤ cd) (hl : xs.length ≤ 900000) (hb : base ≤ w.heap.size) (ho : w.ownsRow base 5 1 v xs.length (u8s xs))
    (hgd : gd < w.heap.size) (hfar : ∀ k, v.ownBlock = some k → k ≠ gd) (hd : ∀ k (h : k < td.length), w.cell? ⟨gd, k, none⟩ = some (.int .u8 td[k])) :
    Calls Tryz.prog 105 #[v, .agg #[.int .i64 bk, .int .i64 0, .slice (some ⟨gd, 0, none⟩) td.length cd]] w fun e w' => ∃ v', e = .returned v' ∧ w'.ownsRow base 5 1 v' (xs ++ ([0, (td.length : Int)] ++ td)).length (u8s (xs ++ ([0, (td.length : Int)] ++ td))) ∧ Below base w w' ∧ Grew w w' v v' := by
  obtain ⟨j0, hj, y0, y1, y2⟩ := info_parts Tryz.info5
  have HO := hide ho
  have HFAR := hide hfar
  have HD := hide hd
  clear ho hfar hd
  obtain ⟨o, ho⟩ : ∃ o, o = Obj.cells #[.int .i64 bk, .int .i64 0, .slice (some ⟨gd, 0, none⟩) td.length cd] 196 := ⟨_, rfl⟩
  have HA0 : Hid (Below w.heap.size w (w.alloc o)) := (Below.refl _ _).alloc (Nat.le_refl _) _
  have HB0 : Hid (Below base w (w.alloc o)) := (Below.refl _ _).alloc hb _
  have hk1 : (w.alloc o).cell? ⟨w.heap.size, 1, none⟩ = some (.int .i64 0) := by rw [ho]; exact cell_new rfl rfl
  have hk2 : (w.alloc o).cell? ⟨w.heap.size, 2, none⟩ = some (.slice (some ⟨gd, 0, none⟩) td.length cd) := by rw [ho]; exact cell_new rfl rfl
  have HO0 := hide (HO.out.alloc o)
  have HSZ : Hid ((w.alloc o).heap.size = w.heap.size + 1) := by show _ = _; simp
  have HD0 : Hid (∀ k (h : k < td.length), (w.alloc o).cell? ⟨gd, k, none⟩ = some (.int .u8 td[k])) := fun k h => (HA0.out.cell (p := ⟨gd, k, none⟩) hgd).trans (HD.out k h)
  have HV0 : Hid (∀ k, v.ownBlock = some k → k ≠ w.heap.size) := fun k hk => by have := (HO.out.lt k hk).2; omega
  rw [ho] at HA0 HB0 HO0 HSZ HD0 hk1 hk2
  clear ho
  generalize hwa : w.alloc (.cells #[.int .i64 bk, .int .i64 0, .slice (some ⟨gd, 0, none⟩) td.length cd] 196) = wa at *
  have hmod : (td.length : Int) % 18446744073709551616 = (td.length : Int) := by omega
  go_enter Tryz.func105, Tryz.ntmps105
  go_wp2_with fail
  clear hwa
  refine (addN_any base 1 v xs 0 wa (by omega) (by omega) (by omega) (by omega) (by have := HSZ.out; omega) HO0.out).mono ?_
  rintro e w1 ⟨v1, rfl, ho1, hb1, hg1⟩
  have HV1 := hide (hg1.far (b := w.heap.size) (by have := HSZ.out; omega) HV0.out)
  have HF1 := hide (hg1.far (b := gd) (by have := HSZ.out; omega) HFAR.out)
  have k2 := hg1.cell hk2 HV0.out
  have HD1 : Hid (∀ k (h : k < td.length), w1.cell? ⟨gd, k, none⟩ = some (.int .u8 td[k])) := fun k h => hg1.cell (HD0.out k h) HFAR.out
  have HB1 : Hid (Below base w w1) := HB0.out.trans hb1
  have HG1 := hide hg1
  have HO1 : Hid (w1.ownsRow base 5 1 v1 (xs ++ [0]).length (u8s (xs ++ [0]))) := by
    have h := ho1
    rw [putN_one (by omega) (by omega)] at h
    exact h
  have hws : w.heap.size < w1.heap.size := World.block_lt_of_cell? w1 _ k2
  clear ho1 hb1 hg1 hk1 hk2
  go_wp2_with fail
  refine (addN_any base 1 v1 (xs ++ [0]) (td.length : Int) w1 (by omega) (by omega) (by omega) (by simp; omega) (by have := HB1.out.size; omega) HO1.out).mono ?_
  rintro e w2 ⟨v2, rfl, ho2, hb2, hg2⟩
  have HF2 := hide (hg2.far (b := gd) (by omega) HF1.out)
  have m2 := hg2.cell k2 HV1.out
  have HD2 : Hid (∀ k (h : k < td.length), w2.cell? ⟨gd, k, none⟩ = some (.int .u8 td[k])) := fun k h => hg2.cell (HD1.out k h) HF1.out
  have HB2 : Hid (Below base w w2) := HB1.out.trans hb2
  have HG2 := hide (HG1.out.trans hg2)
  have HO2 : Hid (w2.ownsRow base 5 1 v2 (xs ++ [0, (td.length : Int)]).length (u8s (xs ++ [0, (td.length : Int)]))) := by
    have h := ho2
    rw [putN_one (by omega) (by omega), List.append_assoc] at h
    exact h
  clear ho2 hb2 hg2 k2
  have hnl : (u8s td).length = td.length * 1 := by simp [u8s]
  have hal : (xs ++ [0, (td.length : Int)]).length ≤ 900002 := by simp; omega
  go_wp2_with (at_builtin; refine wpList_append_own_at _ rfl (.tmp 16) (.tmp 18) 25 rfl base 5 j0 (.int .u8 0) 1 1 Tryz.underlying25 hj y0 y1 y2 rfl (by decide) _ (xs ++ [0, (td.length : Int)]).length (u8s (xs ++ [0, (td.length : Int)])) rfl HO2.out ⟨gd, 0, none⟩ td.length cd (u8s td) rfl hnl ?ra ?rb ?rc ?rd ?re ?rf)
  case ra => exact cells_add HD2.out
  case rb => intro y hy; simp [u8s] at hy; obtain ⟨a, _, rfl⟩ := hy; rfl
  case rc => unfold maxLen; omega
  case rd => omega
  case re => have := HB2.out.size; omega
  case rf =>
    intro v3 w3 hown hgrow _ hloc
    have HG3 : Hid (Grew w2 w3 _ v3) := ⟨hgrow, hloc.imp id fun e => ⟨_, Nat.le_refl _, e⟩⟩
    have HB3 : Hid (Below base w w3) := HB2.out.grown HG3.out.1 (by have := HB2.out.size; omega) (fun j hj => (HO2.out.lt j hj).1)
    have HG4 : Hid (Grew w w3 v v3) := (HG2.out.trans HG3.out).below HA0.out
    have HO3 : Hid (w3.ownsRow base 5 1 v3 (xs ++ ([0, (td.length : Int)] ++ td)).length (u8s (xs ++ ([0, (td.length : Int)] ++ td)))) := by
      have e1 : ∀ n cs, w3.ownsRow base 5 1 v3 n cs → n = (xs ++ ([0, (td.length : Int)] ++ td)).length → cs = u8s (xs ++ ([0, (td.length : Int)] ++ td)) → w3.ownsRow base 5 1 v3 (xs ++ ([0, (td.length : Int)] ++ td)).length (u8s (xs ++ ([0, (td.length : Int)] ++ td))) := by rintro n cs h rfl rfl; exact h
      exact e1 _ _ hown (by simp <;> omega) (by simp [u8s])
    clear hown hgrow hloc
    go_wp2_with fail
    go_ret
    exact ⟨_, rfl, HO3.out, HB3.out, HG4.out⟩

set_option maxRecDepth 10000 in
set_option maxHeartbeats 1000000 in
theorem addTok_copy (base : Nat) (v u : Value) (xs : List Int) (bk ct : Int) (w : World) (hb0 : 0 ≤ bk) (hb1 : bk ≤ 65535) (hc0 : 0 < ct) (hc1 : ct ≤ 255) (hl : xs.length ≤ 900000) (hb : base ≤ w.heap.size) (ho : w.ownsRow base 5 1 v xs.length (u8s xs)) :
    Calls Tryz.prog 105 #[v, .agg #[.int .i64 bk, .int .i64 ct, u]] w fun e w' => ∃ v', e = .returned v' ∧ w'.ownsRow base 5 1 v' (xs ++ ([1] ++ (putN 2 bk ++ [ct]))).length (u8s (xs ++ ([1] ++ (putN 2 bk ++ [ct])))) ∧ Below base w w' ∧ Grew w w' v v' := by
  have HO := hide ho
  clear ho
  obtain ⟨o, ho⟩ : ∃ o, o = Obj.cells #[.int .i64 bk, .int .i64 ct, u] 196 := ⟨_, rfl⟩
  have HA0 : Hid (Below w.heap.size w (w.alloc o)) := (Below.refl _ _).alloc (Nat.le_refl _) _
  have HB0 : Hid (Below base w (w.alloc o)) := (Below.refl _ _).alloc hb _
  have hk0 : (w.alloc o).cell? ⟨w.heap.size, 0, none⟩ = some (.int .i64 bk) := by rw [ho]; exact cell_new rfl rfl
  have hk1 : (w.alloc o).cell? ⟨w.heap.size, 1, none⟩ = some (.int .i64 ct) := by rw [ho]; exact cell_new rfl rfl
  have HO0 := hide (HO.out.alloc o)
  have HSZ : Hid ((w.alloc o).heap.size = w.heap.size + 1) := by show _ = _; simp
  have HV0 : Hid (∀ k, v.ownBlock = some k → k ≠ w.heap.size) := fun k hk => by have := (HO.out.lt k hk).2; omega
  rw [ho] at HA0 HB0 HO0 HSZ hk0 hk1
  clear ho
  generalize hwa : w.alloc (.cells #[.int .i64 bk, .int .i64 ct, u] 196) = wa at *
  have hmod : bk % 18446744073709551616 = bk := by omega
  have hmod2 : ct % 18446744073709551616 = ct := by omega
  have hct : (ct == 0) = false := by simp; omega
  go_enter Tryz.func105, Tryz.ntmps105
  go_wp2_with fail
  clear hwa
  refine (addN_any base 1 v xs 1 wa (by omega) (by omega) (by omega) (by omega) (by have := HSZ.out; omega) HO0.out).mono ?_
  rintro e w1 ⟨v1, rfl, ho1, hb1', hg1⟩
  have HV1 := hide (hg1.far (b := w.heap.size) (by have := HSZ.out; omega) HV0.out)
  have k0 := hg1.cell hk0 HV0.out
  have k1 := hg1.cell hk1 HV0.out
  have HB1 : Hid (Below base w w1) := HB0.out.trans hb1'
  have HG1 := hide hg1
  have HO1 : Hid (w1.ownsRow base 5 1 v1 (xs ++ [1]).length (u8s (xs ++ [1]))) := by
    have h := ho1
    rw [putN_one (by omega) (by omega)] at h
    exact h
  have hws : w.heap.size < w1.heap.size := World.block_lt_of_cell? w1 _ k0
  clear ho1 hb1' hg1 hk0 hk1
  go_wp2_with fail
  refine (addN_any base 2 v1 (xs ++ [1]) bk w1 (by omega) (by omega) (by omega) (by simp; omega) (by have := HB1.out.size; omega) HO1.out).mono ?_
  rintro e w2 ⟨v2, rfl, ho2, hb2, hg2⟩
  have m1 := hg2.cell k1 HV1.out
  have HB2 : Hid (Below base w w2) := HB1.out.trans hb2
  have HG2 := hide (HG1.out.trans hg2)
  have HO2 := hide ho2
  clear ho2 hb2 hg2 k0 k1
  have hal : (xs ++ [1] ++ putN 2 bk).length ≤ 1000000 := by rw [List.length_append, putN_length]; simp; omega
  go_wp2_with fail
  refine (addN_any base 1 v2 (xs ++ [1] ++ putN 2 bk) ct w2 (by omega) (by omega) (by omega) hal (by have := HB2.out.size; omega) HO2.out).mono ?_
  rintro e w3 ⟨v3, rfl, ho3, hb3, hg3⟩
  have HB3 : Hid (Below base w w3) := HB2.out.trans hb3
  have HG4 : Hid (Grew w w3 v v3) := (HG2.out.trans hg3).below HA0.out
  have HO3 : Hid (w3.ownsRow base 5 1 v3 (xs ++ ([1] ++ (putN 2 bk ++ [ct]))).length (u8s (xs ++ ([1] ++ (putN 2 bk ++ [ct]))))) := by
    have h := ho3
    rw [putN_one (by omega) (by omega), List.append_assoc, List.append_assoc] at h
    exact h
  clear ho3 hb3 hg3
  go_wp2_with fail
  go_ret
  exact ⟨_, rfl, HO3.out, HB3.out, HG4.out⟩
end Go.Proofs.YtbhccdedcoajmabGreatDoor
