import Derived.Test.YtbhccdedcoajmabDoorBatch
import Derived.Test.YtbhccdedcoajmabDoorConv
import Derived.Test.YtbhccdedcoajmabDoorRName
import Derived.Deep.QuietTactic
import Derived.BigQuiet
namespace Go.Proofs.YtbhccdedcoajmabDoor
open Go.RowKit

/-- a list of the reference's files in memory, to be read -/
def Fl (w : World) (v : Value) (fs : List (ByteArray × ByteArray)) : Prop :=
  ∃ va cap, v = .slice va fs.length cap ∧ fs.length ≤ cap ∧ ∀ i (hi : i < fs.length), ∃ g, va = some ⟨g, 0, none⟩ ∧ g < w.heap.size ∧ w.cell? ⟨g, i * 2, none⟩ = some (.string fs[i].1) ∧ w.cell? ⟨g, i * 2 + 1, none⟩ = some (.string fs[i].2)
theorem Fl.below {w w' : World} {v : Value} {fs : List (ByteArray × ByteArray)} (h : Fl w v fs) (hb : Below w.heap.size w w') : Fl w' v fs := by
  obtain ⟨va, cap, h1, h2, h3⟩ := h
  refine ⟨va, cap, h1, h2, fun i hi => ?_⟩
  obtain ⟨g, e, hg, c0, c1⟩ := h3 i hi
  exact ⟨g, e, Nat.lt_of_lt_of_le hg hb.size, (hb.cell (p := ⟨g, _, none⟩) hg).trans c0, (hb.cell (p := ⟨g, _, none⟩) hg).trans c1⟩
def filOf (p : ByteArray × ByteArray) : Fil := ⟨nums p.1, nums p.2⟩
theorem nums_eq_iff {a b : ByteArray} : nums a = nums b ↔ a = b := ⟨nums_inj, fun h => by rw [h]⟩

def foundOf (fs : List (ByteArray × ByteArray)) (nm : ByteArray) : Option ByteArray := (fs.find? fun p => decide (nums p.1 = nums nm)).map Prod.snd
theorem found_hit {fs : List (ByteArray × ByteArray)} {nm : ByteArray} {k : Nat} (hk : k < fs.length) (h : nums fs[k].1 = nums nm) (hno : ∀ j (hj : j < fs.length), j < k → nums fs[j].1 ≠ nums nm) : foundOf fs nm = some fs[k].2 := by
  unfold foundOf
  have : fs.find? (fun p => decide (nums p.1 = nums nm)) = some fs[k] := by
    rw [List.find?_eq_some_iff_getElem]
    exact ⟨by simpa using h, k, hk, rfl, fun j hj => by simpa using hno j (by omega) hj⟩
  rw [this]; rfl
theorem found_no {fs : List (ByteArray × ByteArray)} {nm : ByteArray} (hno : ∀ j (hj : j < fs.length), nums fs[j].1 ≠ nums nm) : foundOf fs nm = none := by
  unfold foundOf
  have : fs.find? (fun p => decide (nums p.1 = nums nm)) = none := by
    rw [List.find?_eq_none]
    intro p hp
    obtain ⟨k, hk, rfl⟩ := List.getElem_of_mem hp
    simpa using hno k hk
  rw [this]; rfl
theorem found_findL (fs : List (ByteArray × ByteArray)) (nm : ByteArray) : findL (fs.map filOf) (nums nm) = nums ((foundOf fs nm).getD ⟨#[]⟩) := by
  unfold findL foundOf
  induction fs with
  | nil => rfl
  | cons p l ih =>
    by_cases h : nums p.1 = nums nm
    · rw [List.map_cons, List.find?_cons_of_pos (p := fun f : Fil => decide (f.name = nums nm)) (a := filOf p) (decide_eq_true h), List.find?_cons_of_pos (p := fun p : ByteArray × ByteArray => decide (nums p.1 = nums nm)) (a := p) (decide_eq_true h)]; rfl
    · rw [List.map_cons, List.find?_cons_of_neg (p := fun f : Fil => decide (f.name = nums nm)) (a := filOf p) (fun e => h (of_decide_eq_true e)), List.find?_cons_of_neg (p := fun p : ByteArray × ByteArray => decide (nums p.1 = nums nm)) (a := p) (fun e => h (of_decide_eq_true e))]; exact ih

end Go.Proofs.YtbhccdedcoajmabDoor
