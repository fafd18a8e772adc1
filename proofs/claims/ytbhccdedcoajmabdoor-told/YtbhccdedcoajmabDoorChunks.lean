import Derived.Test.YtbhccdedcoajmabDoorMath
import Derived.OwnWalk
namespace Go.Proofs.YtbhccdedcoajmabDoor
open Go Go.RowKit

/-- block number i of a file, the last one perhaps shorter -/
def chunk (zs : List Int) (B i : Nat) : List Int := (zs.drop (i * B)).take B
def chunks (n B : Nat) : Nat := (n + B - 1) / B
theorem lt_chunks {n B k : Nat} (hB : 0 < B) : k < chunks n B ↔ k * B < n := by
  unfold chunks
  rw [Nat.lt_iff_add_one_le, Nat.le_div_iff_mul_le hB, Nat.add_mul]
  omega
theorem chunks_le {n B : Nat} (hB : 0 < B) : chunks n B ≤ n := by
  rcases Nat.lt_or_ge n (chunks n B) with h | h
  · have := (lt_chunks hB).1 h
    have := Nat.le_mul_of_pos_right n hB
    omega
  · exact h
theorem chunk_length (zs : List Int) (B i : Nat) : (chunk zs B i).length = min B (zs.length - i * B) := by simp [chunk]
theorem Bytes.chunk {zs : List Int} (h : Bytes zs) (B i : Nat) : Bytes (chunk zs B i) := (h.drop _).take _
theorem chunk_at {zs : List Int} {B i k : Nat} (h : k < (chunk zs B i).length) : ∃ h' : i * B + k < zs.length, (chunk zs B i)[k] = zs[i * B + k] := by
  have hl := chunk_length zs B i
  exact ⟨by omega, by simp [chunk]⟩

/-- what Sign tells of one block, as cells -/
def sumCells (c : List Int) : List Value := [.int .i64 c.length, .int .u32 (weakOf c), .int .u64 (digestOf c)]
def signCells (zs : List Int) (B k : Nat) : List Value := (List.range k).flatMap fun i => sumCells (chunk zs B i)
theorem signCells_zero (zs : List Int) (B : Nat) : signCells zs B 0 = [] := rfl
theorem signCells_succ (zs : List Int) (B k : Nat) : signCells zs B (k + 1) = signCells zs B k ++ sumCells (chunk zs B k) := by
  simp [signCells, List.range_succ, List.flatMap_append]
theorem signCells_length (zs : List Int) (B k : Nat) : (signCells zs B k).length = k * 3 := by
  induction k with
  | zero => rfl
  | succ k ih => rw [signCells_succ, List.length_append, ih]; simp [sumCells]; omega
theorem signCells_at (zs : List Int) (B k i j : Nat) (hi : i < k) (hj : j < 3) : (signCells zs B k)[i * 3 + j]? = (sumCells (chunk zs B i))[j]? := by
  induction k with
  | zero => omega
  | succ k ih =>
    rw [signCells_succ]
    by_cases h : i < k
    · rw [List.getElem?_append_left (by rw [signCells_length]; omega)]; exact ih h
    · obtain rfl : i = k := by omega
      rw [List.getElem?_append_right (by rw [signCells_length]; omega), signCells_length]
      rw [show i * 3 + j - i * 3 = j by omega]

theorem nums_extract (t : ByteArray) (i j : Nat) : nums (t.extract i j) = ((nums t).drop i).take (j - i) := by
  simp [nums, ByteArray.data_extract, Array.toList_extract, List.map_drop, List.map_take]

theorem grownBy_of_below {w w' : World} (h : Below w.heap.size w w') : w.grownBy w' none := ⟨h.os, h.tape, h.output, h.size, fun k hk _ => h.block k hk⟩
theorem ownsRow_below {w w' : World} {base : Nat} {e : TypeId} {size : Nat} {v : Value} {n : Nat} {xs : List Value} (h : w.ownsRow base e size v n xs) (hb : Below w.heap.size w w') : w'.ownsRow base e size v n xs := by
  refine h.kept (grownBy_of_below hb) ?_
  cases hv : v.ownBlock with
  | none => exact .inl rfl
  | some k => exact .inr (by simp)
theorem below_seq {B : Nat} {a b c : World} (h : Below B a b) (k : Below b.heap.size b c) (hB : B ≤ b.heap.size) : Below B a c := h.trans (k.mono hB)
theorem below_all {a b c : World} (h : Below a.heap.size a b) (k : Below b.heap.size b c) : Below a.heap.size a c := below_seq h k h.size
end Go.Proofs.YtbhccdedcoajmabDoor
