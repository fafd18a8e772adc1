import Derived.Test.YtbhccdedcoajmaaGreatDoorPBatchM
import Derived.Test.YtbhccdedcoajmaaGreatDoorDiffAM
import Derived.Deep.RegionHeldLaw
import Derived.Deep.AppendLies
namespace Go.Proofs.YtbhccdedcoajmaaGreatDoor
open Go Go.RowKit

/-- is a file what is told of it? -/
abbrev Same (p : ByteArray × ByteArray) (e : EntL) : Prop := nums p.1 = e.name ∧ ((nums p.2).length : Int) = e.size ∧ digestOf (nums p.2) = e.digest
/-- the lesser of two names -/
def lesser (a b : List Int) : List Int := if ltL b a = true then b else a
/-- the name at which a tree is not a basis -/
def basisBad : List (ByteArray × ByteArray) → List EntL → Option (List Int)
  | [], [] => none
  | p :: _, [] => some (nums p.1)
  | [], e :: _ => some e.name
  | p :: fs, e :: es => if Same p e then basisBad fs es else some (lesser (nums p.1) e.name)
theorem basisBad_at : ∀ (fs : List (ByteArray × ByteArray)) (es : List EntL) (k : Nat), k ≤ fs.length → k ≤ es.length → (∀ i (h1 : i < fs.length) (h2 : i < es.length), i < k → Same fs[i] es[i]) → basisBad fs es = basisBad (fs.drop k) (es.drop k)
  | fs, es, 0, _, _, _ => rfl
  | p :: fs, e :: es, k + 1, h1, h2, h => by
    have h0 : Same p e := h 0 (by simp) (by simp) (by omega)
    show (if Same p e then basisBad fs es else _) = basisBad (fs.drop k) (es.drop k)
    rw [if_pos h0]
    exact basisBad_at fs es k (by simpa using h1) (by simpa using h2) fun i a b c => h (i + 1) (by simpa using a) (by simpa using b) (by omega)
theorem basisBad_self : ∀ (fs : List (ByteArray × ByteArray)), basisBad fs ((fs.map filOf).map entOf) = none
  | [] => rfl
  | p :: fs => by
    show (if Same p (entOf (filOf p)) then basisBad fs ((fs.map filOf).map entOf) else _) = none
    rw [if_pos ⟨rfl, rfl, rfl⟩]
    exact basisBad_self fs

/-- what a batch's targets make of a tree: the files, or the name of the first that is not what it says -/
def makeGo (fs : List (ByteArray × ByteArray)) (B : Nat) : List (EntL × List Tok) → Except (List Int) (List (List Int × List Int))
  | [] => .ok []
  | x :: r => match applyGo (findL (fs.map filOf) x.1.name) B [] x.2 with
    | .error _ => .error x.1.name
    | .ok d => if digestOf d = x.1.digest then (makeGo fs B r).map ((x.1.name, d) :: ·) else .error x.1.name
def sizesL (ts : List (EntL × List Tok)) : Int := (ts.map fun x => x.1.size).sum
/-- what a replay of a batch comes to: a kind and a name, or the files -/
def replayL (fs : List (ByteArray × ByteArray)) (x : BatL) (room : Int) : Except (Int × List Int) (List (List Int × List Int)) :=
  match basisBad fs x.basis with
  | some n => .error (9, n)
  | none => if room < sizesL x.targets then .error (10, []) else match makeGo fs x.block.toNat x.targets with
    | .error n => .error (11, n)
    | .ok l => .ok l
theorem makeGo_diffs {fr : List (ByteArray × ByteArray)} {B : Nat} (hB : 0 < B) : ∀ (fs : List (ByteArray × ByteArray)), (∀ p ∈ fs, p.2.size ≤ 300) → makeGo fr B ((fs.map filOf).map fun f => (entOf f, diffOf (findL (fr.map filOf) f.name) f.data B)) = .ok (fs.map fun p => (nums p.1, nums p.2))
  | [], _ => rfl
  | p :: fs, h => by
    rw [List.map_cons, List.map_cons]
    unfold makeGo
    have h1 : applyGo (findL (fr.map filOf) (entOf (filOf p)).name) B [] (diffOf (findL (fr.map filOf) (filOf p).name) (filOf p).data B) = .ok (nums p.2) := apply_diff hB (by rw [show (filOf p).data = nums p.2 from rfl, nums_length]; exact h p (by simp))
    simp only [h1]
    rw [if_pos (show digestOf (nums p.2) = (entOf (filOf p)).digest from rfl), makeGo_diffs hB fs fun q hq => h q (by simp [hq])]
    rfl
theorem sizes_diffs {fr : List (ByteArray × ByteArray)} {B : Nat} : ∀ (fs : List (ByteArray × ByteArray)), sizesL ((fs.map filOf).map fun f => (entOf f, diffOf (findL (fr.map filOf) f.name) f.data B)) = (fs.map fun p => (p.2.size : Int)).sum
  | [] => rfl
  | p :: fs => by
    have := sizes_diffs (fr := fr) (B := B) fs
    unfold sizesL at *
    rw [List.map_cons, List.map_cons, List.map_cons, List.sum_cons, this, List.map_cons, List.sum_cons]
    congr 1
    show ((nums p.2).length : Int) = _
    rw [nums_length]
end Go.Proofs.YtbhccdedcoajmaaGreatDoor
namespace Go.Proofs.YtbhccdedcoajmaaGreatDoor
open Go.RowKit

theorem grown_drew2 {w w' : World} {r : Option Nat} (h : w.grownBy w' r) : w.grownBy w'.drew r := ⟨h.os, h.tape, h.output, h.size, h.block⟩
/-- a list of texts in memory, to be read -/
def Sl (w : World) (v : Value) (ss : List ByteArray) : Prop :=
  ∃ va cap, v = .slice va ss.length cap ∧ ss.length ≤ cap ∧ ∀ i (hi : i < ss.length), ∃ g o, va = some ⟨g, o, none⟩ ∧ g < w.heap.size ∧ w.cell? ⟨g, o + i, none⟩ = some (.string ss[i])
theorem Sl.below {w w' : World} {v : Value} {ss : List ByteArray} (h : Sl w v ss) (hb : Below w.heap.size w w') : Sl w' v ss := by
  obtain ⟨va, cap, h1, h2, h3⟩ := h
  refine ⟨va, cap, h1, h2, fun i hi => ?_⟩
  obtain ⟨g, o, e, hg, c0⟩ := h3 i hi
  exact ⟨g, o, e, Nat.lt_of_lt_of_le hg hb.size, (hb.cell (p := ⟨g, _, none⟩) hg).trans c0⟩

def flCells (fs : List (ByteArray × ByteArray)) : List Value := fs.flatMap fun p => [.string p.1, .string p.2]
theorem flCells_snoc (fs : List (ByteArray × ByteArray)) (p : ByteArray × ByteArray) : flCells (fs ++ [p]) = flCells fs ++ [.string p.1, .string p.2] := by simp [flCells]
theorem flCells_at : ∀ (fs : List (ByteArray × ByteArray)) (i : Nat) (hi : i < fs.length), (flCells fs)[i * 2]? = some (.string fs[i].1) ∧ (flCells fs)[i * 2 + 1]? = some (.string fs[i].2)
  | p :: fs, 0, _ => by simp [flCells]
  | p :: fs, i + 1, h => by
    have := flCells_at fs i (by simpa using h)
    have e : flCells (p :: fs) = .string p.1 :: .string p.2 :: flCells fs := by simp [flCells]
    rw [e, show (i + 1) * 2 = i * 2 + 1 + 1 by omega]
    simpa using this
theorem Fl_of_row {w : World} {base : Nat} {v : Value} {fs : List (ByteArray × ByteArray)} (h : w.ownsRow base 54 2 v fs.length (flCells fs)) : Fl w v fs := by
  rcases h.2 with ⟨hv, h0⟩ | ⟨g, cap, cur, hv, _, hg, h1, _⟩
  · exact ⟨none, 0, by rw [hv, h0], by omega, fun i hi => by omega⟩
  · have hlt : g < w.heap.size := (Array.getElem?_eq_some_iff.1 hg).1
    refine ⟨some ⟨g, 0, none⟩, cap, hv, h1, fun i hi => ⟨g, rfl, hlt, ?_, ?_⟩⟩
    · have := h.cells (g := g) (by rw [hv]; rfl) (i * 2) _ (flCells_at fs i hi).1
      rw [add_at] at this; exact this
    · have := h.cells (g := g) (by rw [hv]; rfl) (i * 2 + 1) _ (flCells_at fs i hi).2
      rw [add_at] at this; exact this

theorem Tryz.info54 : (Tryz.prog.info? 54).map (fun i => (i.zero, i.size, i.bytes)) = some (some (.agg #[.string ⟨#[]⟩, .string ⟨#[]⟩]), 2, 32) := by kernel_rfl

/-- how many bytes there are, as far as mirrorlaw.size looks -/
def bulkOf (fs : List (ByteArray × ByteArray)) : Nat := fs.length + (fs.map fun p => p.1.size + p.2.size).sum
theorem bulk_mem : ∀ {fs : List (ByteArray × ByteArray)} {p : ByteArray × ByteArray}, p ∈ fs → p.1.size + p.2.size ≤ (fs.map fun p => p.1.size + p.2.size).sum
  | q :: fs, p, h => by
    rw [List.map_cons, List.sum_cons]
    rcases List.mem_cons.1 h with rfl | h
    · omega
    · have := bulk_mem h; omega
theorem sum_take_le (l : List Nat) (k : Nat) : (l.take k).sum ≤ l.sum := by
  have h : (l.take k).sum + (l.drop k).sum = l.sum := by rw [← List.sum_append, List.take_append_drop]
  omega
theorem sum_take_succ (l : List Nat) (k : Nat) (h : k < l.length) : (l.take (k + 1)).sum = (l.take k).sum + l[k] := by
  rw [List.take_succ_eq_append_getElem h, List.sum_append]; simp

end Go.Proofs.YtbhccdedcoajmaaGreatDoor
