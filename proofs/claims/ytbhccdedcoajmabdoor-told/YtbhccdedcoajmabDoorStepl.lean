import Derived.Test.YtbhccdedcoajmabDoorReader
import Derived.Test.YtbhccdedcoajmabDoorConv
import Derived.Deep.QuietTactic
import Derived.BigQuiet
import Derived.Laws.Strings2
namespace Go.Proofs.YtbhccdedcoajmabDoor
open Go.RowKit

theorem grown_drewN {w w' : World} {row : Option Nat} (h : w.grownBy w' row) (q : Nat) : w.grownBy (w'.drewN q) row := by
  have hb := below_drewN (Below.refl w'.heap.size w') q
  exact h.trans ⟨hb.os, hb.tape, hb.output, hb.size, fun k hk _ => hb.block k hk⟩
theorem grown_refl (w : World) (row : Option Nat) : w.grownBy w row := ⟨rfl, rfl, rfl, Nat.le_refl _, fun _ _ _ => rfl⟩

theorem pow_le8 {m : Nat} (h : m ≤ 8) : (256 : Int) ^ m ≤ 18446744073709551616 := by
  have h : m = 0 ∨ m = 1 ∨ m = 2 ∨ m = 3 ∨ m = 4 ∨ m = 5 ∨ m = 6 ∨ m = 7 ∨ m = 8 := by omega
  rcases h with rfl | rfl | rfl | rfl | rfl | rfl | rfl | rfl | rfl <;> decide
theorem getN_take {l : List Int} {k : Nat} (h : k < l.length) : getN (l.take (k + 1)) = 256 * getN (l.take k) + l[k] := by rw [List.take_succ_eq_append_getElem h, getN_snoc]
theorem getN_bd {l : List Int} (h : Bytes l) : 0 ≤ getN l ∧ getN l < 256 ^ l.length := by
  rcases snoc_cases l with rfl | ⟨i, x, rfl⟩
  · simp [getN]
  · have hi : Bytes i := fun y hy => h y (by simp [hy])
    have hx := h x (by simp)
    have := getN_bd hi
    rw [getN_snoc, List.length_append, List.length_singleton, Int.pow_succ]
    omega
  termination_by l.length
  decreasing_by subst_vars; simp
/-- what a read of n bytes does to the place and to 'all is well' -/
def Step (s : ByteArray) (ok : Bool) (p n p' : Nat) (ok' : Bool) : Prop := (ok = true ∧ p + n ≤ s.size ∧ p' = p + n ∧ ok' = true) ∨ (ok' = false ∧ p' = p ∧ (ok = false ∨ s.size < p + n))
theorem grown_setNew {w w' : World} {row : Option Nat} (h : w.grownBy w' row) {b : Nat} (hb : w.heap.size ≤ b) (j : Nat) (u : Value) : w.grownBy (w'.setCell ⟨b, j, none⟩ u) row := by
  have h2 := (Below.refl 0 w').setCell (p := ⟨b, j, none⟩) (Nat.zero_le _) u
  exact ⟨h2.os.trans h.os, h2.tape.trans h.tape, h2.output.trans h.output, Nat.le_trans h.size h2.size, fun k hk hne => (Below.heap_setCell _ _ _ _ (by simp; omega)).trans (h.block k hk hne)⟩
theorem Step.le {s : ByteArray} {ok ok' : Bool} {p n p' : Nat} (h : Step s ok p n p' ok') (hp : p ≤ s.size) : p' ≤ s.size := by
  rcases h with ⟨_, h1, h2, _⟩ | ⟨_, h2, _⟩ <;> omega
theorem Step.ok {s : ByteArray} {ok ok' : Bool} {p n p' : Nat} (h : Step s ok p n p' ok') : ok' = (ok && decide (p + n ≤ s.size)) := by
  rcases h with ⟨rfl, h1, _, rfl⟩ | ⟨rfl, _, h2⟩
  · simp [h1]
  · rcases h2 with rfl | h2
    · rfl
    · rw [decide_eq_false (by omega)]; simp

theorem less_nums : ∀ x y : List UInt8, Op.bytesLess x y = ltL (x.map fun c => (c.toNat : Int)) (y.map fun c => (c.toNat : Int))
  | [], [] => rfl
  | _ :: _, [] => rfl
  | [], _ :: _ => rfl
  | a :: x, b :: y => by
    simp only [Op.bytesLess, ltL, List.map_cons, less_nums x y]
    congr 1
    · rw [Bool.eq_iff_iff]
      simp only [decide_eq_true_eq, UInt8.lt_iff_toNat_lt]
      omega
    · congr 1
      rw [Bool.eq_iff_iff]
      simp only [beq_iff_eq, decide_eq_true_eq]
      constructor
      · intro h; rw [h]
      · intro h; exact UInt8.toNat_inj.1 (by omega)
theorem ltL_tri : ∀ a b : List Int, (!ltL a b && !decide (a = b)) = ltL b a
  | [], [] => by simp [ltL]
  | _ :: _, [] => by simp [ltL]
  | [], _ :: _ => by simp [ltL]
  | a :: x, b :: y => by
    have ih := ltL_tri x y
    simp only [ltL, List.cons.injEq]
    rcases Int.lt_trichotomy a b with h | h | h
    · simp [h, show ¬ b < a by omega, show ¬ b = a by omega]
    · subst h
      simp [← ih]
    · simp [h, show ¬ a < b by omega, show ¬ a = b by omega]
theorem text_gtr (t l : ByteArray) : (!Op.bytesLess t.toList l.toList && !t.toList == l.toList) = ltL (nums l) (nums t) := by
  rw [← ltL_tri (nums t) (nums l), text_eq, Lib.toList_data, Lib.toList_data, less_nums]
  rfl

end Go.Proofs.YtbhccdedcoajmabDoor
