import Derived.Test.YtbhccdedcoajmabGreatDoorBatchM
import Derived.Test.YtbhccdedcoajmabGreatDoorConvM
import Derived.Deep.QuietTactic
import Derived.BigQuiet
namespace Go.Proofs.YtbhccdedcoajmabGreatDoor
open Go.RowKit

/-- a list of the reference's files in memory, to be read -/
def Fl (w : World) (v : Value) (fs : List (ByteArray × ByteArray)) : Prop :=
  ∃ va cap, v = .slice va fs.length cap ∧ fs.length ≤ cap ∧ ∀ i (hi : i < fs.length), ∃ g, va = some ⟨g, 0, none⟩ ∧ g < w.heap.size ∧ w.cell? ⟨g, i * 2, none⟩ = some (.string fs[i].1) ∧ w.cell? ⟨g, i * 2 + 1, none⟩ = some (.string fs[i].2)
theorem Fl.below {w w' : World} {v : Value} {fs : List (ByteArray × ByteArray)} (h : Fl w v fs) (hb : Below w.heap.size w w') : Fl w' v fs := by
  obtain ⟨va, cap, h1, h2, h3⟩ := h
  refine ⟨va, cap, h1, h2, fun i hi => ?_⟩
  obtain ⟨g, e, hg, c0, c1⟩ := h3 i hi
  exact ⟨g, e, Nat.lt_of_lt_of_le hg hb.size, (hb.cell (p := ⟨g, _, none⟩) hg).trans c0, (hb.cell (p := ⟨g, _, none⟩) hg).trans c1⟩
def filOf (p : ByteArray × ByteArray) : Fil := ⟨nums p.1, nums p.2⟩
theorem nums_eq_iff {a b : ByteArray} : nums a = nums b ↔ a = b := ⟨nums_inj, fun h => by rw [h]⟩

def foundOf (fs : List (ByteArray × ByteArray)) (nm : ByteArray) : Option ByteArray := (fs.find? fun p => decide (nums p.1 = nums nm)).map Prod.snd
theorem found_hit {fs : List (ByteArray × ByteArray)} {nm : ByteArray} {k : Nat} (hk : k < fs.length) (h : nums fs[k].1 = nums nm) (hno : ∀ j (hj : j < fs.length), j < k → nums fs[j].1 ≠ nums nm) : foundOf fs nm = some fs[k].2 := by
  unfold foundOf
  have : fs.find? (fun p => decide (nums p.1 = nums nm)) = some fs[k] := by
    rw [List.find?_eq_some_iff_getElem]
    exact ⟨by simpa using h, k, hk, rfl, fun j hj => by simpa using hno j (by omega) hj⟩
  rw [this]; rfl
theorem found_no {fs : List (ByteArray × ByteArray)} {nm : ByteArray} (hno : ∀ j (hj : j < fs.length), nums fs[j].1 ≠ nums nm) : foundOf fs nm = none := by
  unfold foundOf
  have : fs.find? (fun p => decide (nums p.1 = nums nm)) = none := by
    rw [List.find?_eq_none]
    intro p hp
    obtain ⟨k, hk, rfl⟩ := List.getElem_of_mem hp
    simpa using hno k hk
  rw [this]; rfl
theorem found_findL (fs : List (ByteArray × ByteArray)) (nm : ByteArray) : findL (fs.map filOf) (nums nm) = nums ((foundOf fs nm).getD ⟨#[]⟩) := by
  unfold findL foundOf
  induction fs with
  | nil => rfl
  | cons p l ih =>
    by_cases h : nums p.1 = nums nm
    · rw [List.map_cons, List.find?_cons_of_pos (p := fun f : Fil => decide (f.name = nums nm)) (a := filOf p) (decide_eq_true h), List.find?_cons_of_pos (p := fun p : ByteArray × ByteArray => decide (nums p.1 = nums nm)) (a := p) (decide_eq_true h)]; rfl
    · rw [List.map_cons, List.find?_cons_of_neg (p := fun f : Fil => decide (f.name = nums nm)) (a := filOf p) (fun e => h (of_decide_eq_true e)), List.find?_cons_of_neg (p := fun p : ByteArray × ByteArray => decide (nums p.1 = nums nm)) (a := p) (fun e => h (of_decide_eq_true e))]; exact ih

end Go.Proofs.YtbhccdedcoajmabGreatDoor
namespace Go.Proofs.YtbhccdedcoajmabGreatDoor
open Go.RowKit

/-- does the list stay a tree with its i-th file? -/
def OkAt (fs : List (ByteArray × ByteArray)) (i : Nat) : Prop :=
  ∃ hi : i < fs.length, nameB (nums fs[i].1) = true ∧ (0 < i → ltL (nums (fs[i - 1]'(by omega)).1) (nums fs[i].1) = true) ∧ fs[i].2.size ≤ 300 ∧ i < 8
/-- the name ahead of the k-th file -/
def aheadOf (fs : List (ByteArray × ByteArray)) : Nat → ByteArray
  | 0 => ⟨#[]⟩
  | k + 1 => (fs[k]?.map Prod.fst).getD ⟨#[]⟩
theorem aheadOf_succ {fs : List (ByteArray × ByteArray)} {k : Nat} (h : k < fs.length) : aheadOf fs (k + 1) = fs[k].1 := by
  show (fs[k]?.map Prod.fst).getD ⟨#[]⟩ = _
  rw [List.getElem?_eq_getElem h]; rfl
theorem nums_empty : nums ⟨#[]⟩ = [] := rfl
theorem okAt_iff {fs : List (ByteArray × ByteArray)} {k : Nat} (hk : k < fs.length) : OkAt fs k ↔ (nameB (nums fs[k].1) && ltL (nums (aheadOf fs k)) (nums fs[k].1) && decide (fs[k].2.size ≤ 300)) = true ∧ k < 8 := by
  unfold OkAt
  simp only [Bool.and_eq_true, decide_eq_true_eq]
  constructor
  · rintro ⟨_, h1, h2, h3, h4⟩
    refine ⟨⟨⟨h1, ?_⟩, h3⟩, h4⟩
    rcases k with _ | k
    · unfold aheadOf
      rw [nums_empty]
      cases hn : nums (fs[0]'hk).1 with
      | nil => rw [hn] at h1; simp [nameB] at h1
      | cons a r => rfl
    · rw [aheadOf_succ (by omega)]
      exact h2 (by omega)
  · rintro ⟨⟨⟨h1, h2⟩, h3⟩, h4⟩
    refine ⟨hk, h1, fun h0 => ?_, h3, h4⟩
    obtain ⟨k, rfl⟩ : ∃ j, k = j + 1 := ⟨k - 1, by omega⟩
    rw [aheadOf_succ (by omega)] at h2
    exact h2
/-- is a list a tree? -/
def TreeOk (fs : List (ByteArray × ByteArray)) : Prop := ∀ i, i < fs.length → OkAt fs i
/-- the place at which a list is no tree any more -/
def BadAt (fs : List (ByteArray × ByteArray)) (i : Nat) : Prop := ∃ _ : i < fs.length, (∀ j, j < i → OkAt fs j) ∧ ¬ OkAt fs i
theorem BadAt.only {fs : List (ByteArray × ByteArray)} {i j : Nat} (h : BadAt fs i) (k : BadAt fs j) : i = j := by
  obtain ⟨_, h2, h3⟩ := h
  obtain ⟨_, k2, k3⟩ := k
  rcases Nat.lt_trichotomy i j with h | h | h
  · exact absurd (k2 i h) h3
  · exact h
  · exact absurd (h2 j h) k3
theorem BadAt.not {fs : List (ByteArray × ByteArray)} {i : Nat} (h : BadAt fs i) : ¬ TreeOk fs := fun k => h.2.2 (k i h.1)
theorem TreeOk.len {fs : List (ByteArray × ByteArray)} (h : TreeOk fs) : fs.length ≤ 8 := by
  rcases Nat.lt_or_ge 8 fs.length with hl | hl
  · obtain ⟨_, _, _, _, h8⟩ := h 8 hl
    omega
  · exact hl
theorem nameB_size {l : List Int} (h : nameB l = true) : 1 ≤ l.length ∧ l.length ≤ 12 := by
  simp only [nameB, Bool.and_eq_true, decide_eq_true_eq] at h
  exact ⟨h.1.1, h.1.2⟩
theorem TreeOk.sizes {fs : List (ByteArray × ByteArray)} (h : TreeOk fs) : ∀ p ∈ fs, p.1.size ≤ 12 ∧ p.2.size ≤ 300 := by
  intro p hp
  obtain ⟨i, hi, rfl⟩ := List.getElem_of_mem hp
  obtain ⟨_, h1, _, h3, _⟩ := h i hi
  have := nameB_size h1
  rw [nums_length] at this
  exact ⟨this.2, h3⟩

/-- a list of the program's files in memory, to be read -/
def Af (w : World) (v : Value) (fs : List (ByteArray × ByteArray)) : Prop :=
  ∃ va cap, v = .slice va fs.length cap ∧ fs.length ≤ cap ∧ ∀ i (hi : i < fs.length), ∃ g b cp, va = some ⟨g, 0, none⟩ ∧ g < w.heap.size ∧ w.cell? ⟨g, i * 2, none⟩ = some (.string fs[i].1) ∧ w.cell? ⟨g, i * 2 + 1, none⟩ = some (.slice (some ⟨b, 0, none⟩) fs[i].2.size cp) ∧
    b < w.heap.size ∧ fs[i].2.size ≤ cp ∧ ∀ k (h : k < (nums fs[i].2).length), w.cell? ⟨b, 0 + k, none⟩ = some (.int .u8 (nums fs[i].2)[k])
theorem Af.below {w w' : World} {v : Value} {fs : List (ByteArray × ByteArray)} (h : Af w v fs) (hb : Below w.heap.size w w') : Af w' v fs := by
  obtain ⟨va, cap, h1, h2, h3⟩ := h
  refine ⟨va, cap, h1, h2, fun i hi => ?_⟩
  obtain ⟨g, b, cp, e, hg, c0, c1, hb1, hcp, hc⟩ := h3 i hi
  exact ⟨g, b, cp, e, Nat.lt_of_lt_of_le hg hb.size, (hb.cell (p := ⟨g, _, none⟩) hg).trans c0, (hb.cell (p := ⟨g, _, none⟩) hg).trans c1, Nat.lt_of_lt_of_le hb1 hb.size, hcp, fun k hk => (hb.cell (p := ⟨b, _, none⟩) hb1).trans (hc k hk)⟩
end Go.Proofs.YtbhccdedcoajmabGreatDoor
