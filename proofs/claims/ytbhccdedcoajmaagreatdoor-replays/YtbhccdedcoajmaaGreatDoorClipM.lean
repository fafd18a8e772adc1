import Derived.Test.YtbhccdedcoajmaaGreatDoorLFilesM
import Derived.Laws.IdiomStrings
import Derived.Test.YtbhccdedcoajmaaGreatDoorStrAtM
namespace Go.Proofs.YtbhccdedcoajmaaGreatDoor
open Go.RowKit

/-- '[]byte(t)': new memory that holds the bytes, with spare room perhaps -/
theorem conv_any (t : ByteArray) (w : World) : ∃ cap W1, (convert 9 38 (.string t)).run Tryz.prog w = .ok (.slice (some ⟨w.heap.size, 0, none⟩) t.size cap) W1 ∧ t.size ≤ cap ∧
    (∀ k (h : k < (nums t).length), W1.cell? ⟨w.heap.size, 0 + k, none⟩ = some (.int .u8 (nums t)[k])) ∧
    (∀ j, j < cap → (W1.cell? ⟨w.heap.size, j, none⟩).isSome = true ∧ W1.frozen? ⟨w.heap.size, j, none⟩ = false) ∧
    W1.heap.size = w.heap.size + 1 ∧ Below w.heap.size w W1 := by
  have hr := run_bytes_of_string (P := Tryz.prog) w 9 38 5 t Tryz.underlying9 Tryz.underlying38 Tryz.underlying5
  have hge := grownCap_ge w t.size 0 5
  generalize grownCap w t.size 0 5 = cap at *
  have hsz : (bytesRow t cap).size = cap := by simp [bytesRow]; omega
  refine ⟨cap, _, hr, hge, ?_, ?_, by simp, ((Below.refl _ _).drew).alloc (Nat.le_refl _) _⟩
  · intro k h
    rw [nums_length] at h
    rw [Nat.zero_add]
    refine cell_row (heap_alloc_new _ _) ?_
    rw [bytesRow, Array.getElem?_append_left (by simpa using h)]
    have hd : k < t.data.size := h
    simp [nums, Array.getElem?_eq_getElem hd]
  · intro j hj
    constructor
    · have hj' : j < (bytesRow t cap).size := by omega
      have hh : (w.drew.alloc (.cells (bytesRow t cap) 5 ((bytesRow t cap).size, (bytesRow t cap).size + 1))).cell? ⟨w.heap.size, j, none⟩ = some (bytesRow t cap)[j] := cell_row (heap_alloc_new _ _) (Array.getElem?_eq_getElem hj')
      rw [hh]; rfl
    · have hh : (w.drew.alloc (.cells (bytesRow t cap) 5 ((bytesRow t cap).size, (bytesRow t cap).size + 1))).heap[w.heap.size]? = some (.cells (bytesRow t cap) 5 ((bytesRow t cap).size, (bytesRow t cap).size + 1)) := heap_alloc_new _ _
      simp only [World.frozen?, hh]
      simp; omega


/-- which of 64 things -/
def pickOf (c : Int) : Nat := if c < 0 then ((-(c + 1)) % 64).toNat else (c % 64).toNat
theorem pickOf_lt (c : Int) : pickOf c < 64 := by unfold pickOf; split <;> omega
end Go.Proofs.YtbhccdedcoajmaaGreatDoor
namespace Go.Proofs.YtbhccdedcoajmaaGreatDoor
open Go.RowKit

theorem putN_one {x : Int} (h0 : 0 ≤ x) (h1 : x < 256) : putN 1 x = [x] := by
  simp [putN]; omega

set_option maxRecDepth 10000 in
set_option maxHeartbeats 1000000 in
theorem addN_any (base n : Nat) (v : Value) (xs : List Int) (x : Int) (w : World) (hn : n ≤ 8) (_hx0 : 0 ≤ x) (_hx1 : x < 18446744073709551616) (hl : xs.length ≤ 1000000) (hb : base ≤ w.heap.size) (ho : w.ownsRow base 5 1 v xs.length (u8s xs)) :
    Calls Tryz.prog 119 #[v, .int .i64 n, .int .u64 x] w fun e w' => ∃ v', e = .returned v' ∧ w'.ownsRow base 5 1 v' (xs ++ putN n x).length (u8s (xs ++ putN n x)) ∧ Below base w w' ∧ Grew w w' v v' := by
  obtain ⟨j0, hj, y0, y1, y2⟩ := info_parts Tryz.info5
  have HO := hide ho
  clear ho
  have HPL := hide (putN_length n x)
  have HAT : Hid (∀ m, m < n → (putN n x).take (n - m) = (putN n x).take (n - (m + 1)) ++ [x / 256 ^ m % 256]) := by
    intro m hm
    have h := putN_at x n (n - (m + 1)) (by omega)
    rw [show n - m = (n - (m + 1)) + 1 by omega, List.take_succ_eq_append_getElem (by rw [putN_length]; omega), h, show n - 1 - (n - (m + 1)) = m by omega]
  go_enter Tryz.func119, Tryz.ntmps119
  go_wp2_with fail
  go_loopw [0, 7] (fun v0 v7 wr => ∃ m : Nat, m ≤ n ∧ v7 = .int .i64 ((m : Int) - 1) ∧ Hid (wr.ownsRow base 5 1 v0 (xs.length + (n - m)) (u8s (xs ++ (putN n x).take (n - m)))) ∧ Hid (Below base w wr) ∧ Hid (Grew w wr v v0)) (fun _ v7 _ => ((intOf v7) + 1).toNat)
  case atStart => exact ⟨n, Nat.le_refl _, rfl, (show World.ownsRow _ _ _ _ _ _ _ by have := HO.out; simpa using this), Below.refl _ _, Grew.refl _ _⟩
  case round =>
    obtain ⟨m, hm, rfl, HOr, HBr, HGr⟩ := hrel
    by_cases h0 : 0 < m
    · obtain ⟨m, rfl⟩ : ∃ k, m = k + 1 := ⟨m - 1, by omega⟩
      have hsh : (((m + 1 : Nat) : Int) - 1) = (m : Int) := by omega
      rw [hsh]
      have hpw : (2 : Int) ^ (8 * m) = 256 ^ m := by rw [Int.pow_mul]; rfl
      have HPW := hide hpw
      clear hpw
      go_wp2_with (at_builtin; refine wpList_append_own_at _ rfl (.tmp 14) (.tmp 20) 38 rfl base 5 j0 (.int .u8 0) 1 1 Tryz.underlying38 hj y0 y1 y2 rfl (by decide) _ (xs.length + (n - (m + 1))) (u8s (xs ++ (putN n x).take (n - (m + 1)))) rfl (HOr.out.alloc _) ⟨wr.heap.size, 0, none⟩ 1 1 [.int .u8 (x / 2 ^ (8 * m) % 256)] rfl rfl ?ka ?kb ?kc ?kd ?ke ?kf)
      case ka =>
        intro j y hy
        match j, hy with
        | 0, hy => simp at hy; subst hy; simp [Addr.add]
      case kb => intro y hy; simp at hy; subst hy; rfl
      case kc => unfold maxLen; omega
      case kd => omega
      case ke => have := HBr.out.size; simp; omega
      case kf =>
        intro v' w3 hown3 hgrow3 _ hloc3
        have HG3 : Hid (Grew w w3 v v') := HGr.out.trans ⟨(World.grownBy_alloc wr _ _).trans hgrow3, hloc3.imp id fun e => ⟨_, by simp, e⟩⟩
        have HB3 : Hid (Below base w w3) := (HBr.out.alloc (by have := HBr.out.size; omega) _).grown hgrow3 (by have := HBr.out.size; simp; omega) (fun j hj => (HOr.out.lt j hj).1)
        have HO3 : Hid (w3.ownsRow base 5 1 v' (xs.length + (n - m)) (u8s (xs ++ (putN n x).take (n - m)))) := by
          have h3 := hown3
          show World.ownsRow _ _ _ _ _ _ _
          rw [HAT.out m (by omega), show xs.length + (n - m) = xs.length + (n - (m + 1)) + 1 by omega, ← List.append_assoc]
          rw [HPW.out] at h3
          have e : u8s (xs ++ (putN n x).take (n - (m + 1)) ++ [x / 256 ^ m % 256]) = u8s (xs ++ (putN n x).take (n - (m + 1))) ++ [.int .u8 (x / 256 ^ m % 256)] := by simp [u8s]
          rw [e]
          exact h3
        clear hown3 hgrow3 hloc3
        go_wp2_with fail
        go_roundw
        case rel => exact ⟨m, by omega, rfl, HO3.out, HB3.out, HG3.out⟩
        case measure => simp [intOf]
    · obtain rfl : m = 0 := by omega
      go_wp2_with fail
      go_ret
      refine ⟨_, rfl, ?_, HBr.out, HGr.out⟩
      have := HOr.out
      rw [Nat.sub_zero, List.take_of_length_le (by rw [HPL.out]; omega)] at this
      rw [List.length_append, HPL.out]
      exact this

set_option maxRecDepth 10000 in
set_option maxHeartbeats 1000000 in
theorem addEntry_any (base : Nat) (v : Value) (xs : List Int) (nm : ByteArray) (zs : List Int) (b cp : Nat) (w : World) (hn : nm.size ≤ 255) (hd : zs.length ≤ 300) (hz : Bytes zs) (hl : xs.length ≤ 900000) (hb : base ≤ w.heap.size) (ho : w.ownsRow base 5 1 v xs.length (u8s xs))
    (hbl : b < w.heap.size) (hfar : ∀ k, v.ownBlock = some k → k ≠ b) (hc : ∀ k (h : k < zs.length), w.cell? ⟨b, 0 + k, none⟩ = some (.int .u8 zs[k])) :
    Calls Tryz.prog 120 #[v, .agg #[.string nm, .slice (some ⟨b, 0, none⟩) zs.length cp]] w fun e w' => ∃ v', e = .returned v' ∧ w'.ownsRow base 5 1 v' (xs ++ entryL ⟨nums nm, zs⟩).length (u8s (xs ++ entryL ⟨nums nm, zs⟩)) ∧ Below base w w' ∧ Grew w w' v v' := by
  obtain ⟨j0, hj, y0, y1, y2⟩ := info_parts Tryz.info5
  have HO := hide ho
  clear ho
  obtain ⟨L, hL⟩ : ∃ L, xs.length = L := ⟨_, rfl⟩
  rw [hL] at HO hl
  have HL := hide hL
  clear hL
  have HFAR := hide hfar
  have HZ := hide hz
  have HC := hide hc
  clear hfar hz hc
  have HB0 : Hid (Below base w (w.alloc (.cells #[.string nm, .slice (some ⟨b, 0, none⟩) zs.length cp] 69))) := (Below.refl _ _).alloc hb _
  have hk0 : (w.alloc (.cells #[.string nm, .slice (some ⟨b, 0, none⟩) zs.length cp] 69)).cell? ⟨w.heap.size, 0, none⟩ = some (.string nm) := cell_new rfl rfl
  have hk1 : (w.alloc (.cells #[.string nm, .slice (some ⟨b, 0, none⟩) zs.length cp] 69)).cell? ⟨w.heap.size, 1, none⟩ = some (.slice (some ⟨b, 0, none⟩) zs.length cp) := cell_new rfl rfl
  have HO0 : Hid ((w.alloc (.cells #[.string nm, .slice (some ⟨b, 0, none⟩) zs.length cp] 69)).ownsRow base 5 1 v xs.length (u8s xs)) := by rw [HL.out]; exact HO.out.alloc _
  have HA0 : Hid (Below w.heap.size w (w.alloc (.cells #[.string nm, .slice (some ⟨b, 0, none⟩) zs.length cp] 69))) := (Below.refl _ _).alloc (Nat.le_refl _) _
  have HSZ : Hid ((w.alloc (.cells #[.string nm, .slice (some ⟨b, 0, none⟩) zs.length cp] 69)).heap.size = w.heap.size + 1) := by show _ = _; simp
  have HC0 : Hid (∀ k (h : k < zs.length), (w.alloc (.cells #[.string nm, .slice (some ⟨b, 0, none⟩) zs.length cp] 69)).cell? ⟨b, 0 + k, none⟩ = some (.int .u8 zs[k])) := cells_below HC.out HA0.out
  have HV0 : Hid (∀ k, v.ownBlock = some k → k ≠ w.heap.size) := fun k hk => by have := (HO.out.lt k hk).2; omega
  have hmod : (nm.size : Int) % 18446744073709551616 = (nm.size : Int) := by omega
  have hmod2 : (zs.length : Int) % 18446744073709551616 = (zs.length : Int) := by omega
  generalize hwa : w.alloc (.cells #[.string nm, .slice (some ⟨b, 0, none⟩) zs.length cp] 69) = wa at *
  go_enter Tryz.func120, Tryz.ntmps120
  go_wp2_with fail
  clear hwa
  refine (addN_any base 1 v xs (nm.size : Int) wa (by omega) (by omega) (by omega) (by have := HL.out; omega) (by have := HSZ.out; omega) HO0.out).mono ?_
  rintro e w1 ⟨v1, rfl, ho1, hb1, hg1⟩
  have HV1 := hide (hg1.far (b := w.heap.size) (by have := HSZ.out; omega) HV0.out)
  have HF1 := hide (hg1.far (b := b) (by have := HSZ.out; omega) HFAR.out)
  have k0 := hg1.cell hk0 HV0.out
  have k1 := hg1.cell hk1 HV0.out
  have HC1 : Hid (∀ k (h : k < zs.length), w1.cell? ⟨b, 0 + k, none⟩ = some (.int .u8 zs[k])) := fun k h => hg1.cell (HC0.out k h) HFAR.out
  have HB1 : Hid (Below base w w1) := HB0.out.trans hb1
  have HG1 := hide hg1
  have hws : w.heap.size < w1.heap.size := World.block_lt_of_cell? w1 _ k0
  have HO1 : Hid (w1.ownsRow base 5 1 v1 (L + 1) (u8s (xs ++ [(nm.size : Int)]))) := by
    have h := ho1
    rw [putN_one (by omega) (by omega)] at h
    rw [show (xs ++ [(nm.size : Int)]).length = L + 1 by simp [HL.out]] at h
    exact h
  clear ho1 hb1 hg1 hk0 hk1
  go_wp2_with (at_builtin; refine wpList_append_str_at _ rfl (.tmp 11) (.tmp 13) 38 9 rfl base 5 j0 Tryz.underlying38 Tryz.underlying9 hj y0 y1 y2 v1 (L + 1) (u8s (xs ++ [(nm.size : Int)])) rfl HO1.out nm rfl (by omega) (by have := HB1.out.size; omega) ?sg)
  case sg =>
    intro v2 w2 hown2 hg2
    have HV2 := hide (hg2.far (b := w.heap.size) hws HV1.out)
    have HF2 := hide (hg2.far (b := b) (by omega) HF1.out)
    have m1 := hg2.cell k1 HV1.out
    have HC2 : Hid (∀ k (h : k < zs.length), w2.cell? ⟨b, 0 + k, none⟩ = some (.int .u8 zs[k])) := fun k h => hg2.cell (HC1.out k h) HF1.out
    have HB2 : Hid (Below base w w2) := HB1.out.grown hg2.1 (by have := HB1.out.size; omega) (fun j hj => (HO1.out.lt j hj).1)
    have HG2 := hide (HG1.out.trans hg2)
    have hws2 : w.heap.size < w2.heap.size := World.block_lt_of_cell? w2 _ m1
    have HO2 : Hid (w2.ownsRow base 5 1 v2 (xs ++ ((nm.size : Int) :: nums nm)).length (u8s (xs ++ ((nm.size : Int) :: nums nm)))) := by
      have h2 := hown2
      rw [strCells_nums] at h2
      have e : u8s (xs ++ [(nm.size : Int)]) ++ u8s (nums nm) = u8s (xs ++ ((nm.size : Int) :: nums nm)) := by simp [u8s]
      rw [e] at h2
      rw [show (xs ++ ((nm.size : Int) :: nums nm)).length = L + 1 + nm.size by rw [List.length_append, List.length_cons, nums_length, HL.out]; omega]
      exact h2
    clear hown2 hg2 k0 k1 hws
    have hle2 : (xs ++ ((nm.size : Int) :: nums nm)).length ≤ 1000000 := by rw [List.length_append, List.length_cons, nums_length, HL.out]; omega
    go_wp2_with fail
    refine (addN_any base 2 v2 (xs ++ ((nm.size : Int) :: nums nm)) (zs.length : Int) w2 (by omega) (by omega) (by omega) hle2 (by have := HB2.out.size; omega) HO2.out).mono ?_
    rintro e w3 ⟨v3, rfl, ho3, hb3, hg3⟩
    have n1 := hg3.cell m1 HV2.out
    have HC3 : Hid (∀ k (h : k < zs.length), w3.cell? ⟨b, 0 + k, none⟩ = some (.int .u8 zs[k])) := fun k h => hg3.cell (HC2.out k h) HF2.out
    have HB3 : Hid (Below base w w3) := HB2.out.trans hb3
    have HG3 := hide (HG2.out.trans hg3)
    have HO3 := hide ho3
    clear ho3 hb3 hg3 m1
    go_wp2_with fail
    refine (digest_any b 0 cp zs w3 (by omega) HZ.out HC3.out).mono ?_
    rintro e w4 ⟨rfl, hw4⟩
    obtain rfl := hw4.symm
    have hdb := digest_bd zs
    generalize hD : digestOf zs = D at *
    have HD := hide hD
    clear hD
    have hle3 : (xs ++ ((nm.size : Int) :: nums nm) ++ putN 2 (zs.length : Int)).length ≤ 1000000 := by rw [List.length_append, putN_length, List.length_append, List.length_cons, nums_length, HL.out]; omega
    go_wp2_with fail
    refine (addN_any base 8 v3 (xs ++ ((nm.size : Int) :: nums nm) ++ putN 2 (zs.length : Int)) D w3 (by omega) hdb.1 hdb.2 hle3 (by have := HB3.out.size; omega) HO3.out).mono ?_
    rintro e w5 ⟨v5, rfl, ho5, hb5, hg5⟩
    have HB5 : Hid (Below base w w5) := HB3.out.trans hb5
    have HG5 : Hid (Grew w w5 v v5) := ((HG3.out.trans hg5).below HA0.out)
    have HO5 : Hid (w5.ownsRow base 5 1 v5 (xs ++ entryL ⟨nums nm, zs⟩).length (u8s (xs ++ entryL ⟨nums nm, zs⟩))) := by
      have h5 := ho5
      have e : xs ++ ((nm.size : Int) :: nums nm) ++ putN 2 (zs.length : Int) ++ putN 8 D = xs ++ entryL ⟨nums nm, zs⟩ := by
        unfold entryL
        simp only [nums_length, HD.out, List.append_assoc, List.cons_append]
      rw [e] at h5
      exact h5
    clear ho5 hb5 hg5
    go_wp2_with fail
    go_ret
    exact ⟨_, rfl, HO5.out, HB5.out, HG5.out⟩
end Go.Proofs.YtbhccdedcoajmaaGreatDoor
