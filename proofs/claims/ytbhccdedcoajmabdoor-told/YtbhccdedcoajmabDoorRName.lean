import Derived.Test.YtbhccdedcoajmabDoorBatch
import Derived.Test.YtbhccdedcoajmabDoorConv
namespace Go.Proofs.YtbhccdedcoajmabDoor
open Go.RowKit

def charB (c : Int) : Bool := decide (97 ≤ c ∧ c ≤ 122) || decide (48 ≤ c ∧ c ≤ 57) || decide (c = 46) || decide (c = 47)
theorem charB_iff (c : Int) : charB c = true ↔ (97 ≤ c ∧ c ≤ 122) ∨ (48 ≤ c ∧ c ≤ 57) ∨ c = 46 ∨ c = 47 := by
  simp only [charB, Bool.or_eq_true, decide_eq_true_eq]
  omega
theorem nameB_no {l : List Int} {k : Nat} (h : k < l.length) (hc : charB l[k] = false) : nameB l = false := by
  cases hn : nameB l with
  | false => rfl
  | true =>
    simp only [nameB, Bool.and_eq_true, List.all_eq_true] at hn
    have := hn.2 l[k] (List.getElem_mem h)
    rw [show (decide (97 ≤ l[k] ∧ l[k] ≤ 122) || decide (48 ≤ l[k] ∧ l[k] ≤ 57) || decide (l[k] = 46) || decide (l[k] = 47)) = charB l[k] from rfl, hc] at this
    cases this
theorem nameB_all {l : List Int} (h : ∀ k (hk : k < l.length), charB l[k] = true) : nameB l = (decide (1 ≤ l.length) && decide (l.length ≤ 12)) := by
  have : (l.all fun c => decide (97 ≤ c ∧ c ≤ 122) || decide (48 ≤ c ∧ c ≤ 57) || decide (c = 46) || decide (c = 47)) = true := by
    rw [List.all_eq_true]
    intro x hx
    obtain ⟨k, hk, rfl⟩ := List.getElem_of_mem hx
    exact h k hk
  rw [nameB, this, Bool.and_true]

end Go.Proofs.YtbhccdedcoajmabDoor
