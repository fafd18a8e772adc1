import Derived.Test.YtbhccdedcoajmabGreatDoorSigns
import Derived.Laws.IdiomStrings
namespace Go.Proofs.YtbhccdedcoajmabGreatDoor
open Go.RowKit

set_option maxHeartbeats 400000 in
theorem clip_long (s : ByteArray) (n : Nat) (hs : n < s.size) (_hm : s.size ≤ maxLen) (w : World) :
    Calls Tryz.prog 20 #[.string s, .int .i64 n] w fun e w' => e = .returned (.string (s.extract 0 n)) ∧ w' = w := by
  unfold maxLen at _hm
  go_enter Tryz.func20, Tryz.ntmps20
  go_wp2_with fail
  go_ret
  exact ⟨rfl, rfl⟩

set_option maxHeartbeats 400000 in
theorem clip_short (s : ByteArray) (n : Nat) (hs : s.size ≤ n) (_hm : s.size ≤ maxLen) (w : World) :
    Calls Tryz.prog 20 #[.string s, .int .i64 n] w fun e w' => e = .returned (.string s) ∧ w' = w := by
  unfold maxLen at _hm
  go_enter Tryz.func20, Tryz.ntmps20
  go_wp2_with fail
  go_ret
  exact ⟨rfl, rfl⟩

/-- '[]byte(t)': new memory that holds the bytes, with spare room perhaps -/
theorem conv_any (t : ByteArray) (w : World) : ∃ cap W1, (convert 9 25 (.string t)).run Tryz.prog w = .ok (.slice (some ⟨w.heap.size, 0, none⟩) t.size cap) W1 ∧ t.size ≤ cap ∧
    (∀ k (h : k < (nums t).length), W1.cell? ⟨w.heap.size, 0 + k, none⟩ = some (.int .u8 (nums t)[k])) ∧
    (∀ j, j < cap → (W1.cell? ⟨w.heap.size, j, none⟩).isSome = true ∧ W1.frozen? ⟨w.heap.size, j, none⟩ = false) ∧
    W1.heap.size = w.heap.size + 1 ∧ Below w.heap.size w W1 := by
  have hr := run_bytes_of_string (P := Tryz.prog) w 9 25 5 t Tryz.underlying9 Tryz.underlying25 Tryz.underlying5
  have hge := grownCap_ge w t.size 0 5
  generalize grownCap w t.size 0 5 = cap at *
  have hsz : (bytesRow t cap).size = cap := by simp [bytesRow]; omega
  refine ⟨cap, _, hr, hge, ?_, ?_, by simp, ((Below.refl _ _).drew).alloc (Nat.le_refl _) _⟩
  · intro k h
    rw [nums_length] at h
    rw [Nat.zero_add]
    refine cell_row (heap_alloc_new _ _) ?_
    rw [bytesRow, Array.getElem?_append_left (by simpa using h)]
    have hd : k < t.data.size := h
    simp [nums, Array.getElem?_eq_getElem hd]
  · intro j hj
    constructor
    · have hj' : j < (bytesRow t cap).size := by omega
      have hh : (w.drew.alloc (.cells (bytesRow t cap) 5 ((bytesRow t cap).size, (bytesRow t cap).size + 1))).cell? ⟨w.heap.size, j, none⟩ = some (bytesRow t cap)[j] := cell_row (heap_alloc_new _ _) (Array.getElem?_eq_getElem hj')
      rw [hh]; rfl
    · have hh : (w.drew.alloc (.cells (bytesRow t cap) 5 ((bytesRow t cap).size, (bytesRow t cap).size + 1))).heap[w.heap.size]? = some (.cells (bytesRow t cap) 5 ((bytesRow t cap).size, (bytesRow t cap).size + 1)) := heap_alloc_new _ _
      simp only [World.frozen?, hh]
      simp; omega


/-- which of 64 things -/
def pickOf (c : Int) : Nat := if c < 0 then ((-(c + 1)) % 64).toNat else (c % 64).toNat
theorem pickOf_lt (c : Int) : pickOf c < 64 := by unfold pickOf; split <;> omega
set_option maxHeartbeats 400000 in
theorem pick_any (c : Int) (hc : (Lit.int .i64 c).wf = true) (w : World) :
    Calls Tryz.prog 15 #[.int .i64 c, .int .i64 64] w fun e w' => e = .returned (.int .i64 (pickOf c : Nat)) ∧ w' = w := by
  have hb : -9223372036854775808 ≤ c ∧ c ≤ 9223372036854775807 := by
    simpa [Lit.wf, IntKind.min, IntKind.max, IntKind.signed, IntKind.bits] using hc
  obtain ⟨hb1, hb2⟩ := hb
  clear hc
  rcases Int.lt_or_le c 0 with h | h
  · have hm : (-(c + 1)) % 64 = ((pickOf c : Nat) : Int) := by unfold pickOf; rw [if_pos h]; omega
    have HM := hide hm
    clear hm
    go_enter Tryz.func15, Tryz.ntmps15
    go_wp2_with fail
    go_ret
    exact ⟨ret_int (by rw [← Int.neg_tmod, Int.tmod_eq_emod_of_nonneg (by omega)]; exact HM.out), rfl⟩
  · have hm : c % 64 = ((pickOf c : Nat) : Int) := by unfold pickOf; rw [if_neg (by omega)]; omega
    have HM := hide hm
    clear hm
    go_enter Tryz.func15, Tryz.ntmps15
    go_wp2_with fail
    go_ret
    exact ⟨ret_int HM.out, rfl⟩
theorem pick_ex (c : Int) (hc : (Lit.int .i64 c).wf = true) : ∃ k : Nat, k < 64 ∧ ∀ w, Calls Tryz.prog 15 #[.int .i64 c, .int .i64 64] w fun e w' => e = .returned (.int .i64 k) ∧ w' = w := ⟨pickOf c, pickOf_lt c, fun w => pick_any c hc w⟩
end Go.Proofs.YtbhccdedcoajmabGreatDoor
