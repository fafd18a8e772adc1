import Derived.Test.YtbhccdedcoajmabDoorTreeL
import Derived.Deep.RegionHeldLaw
import Derived.Deep.AppendLies
import Derived.Test.YtbhccdedcoajmabDoorRoomy
import Derived.Test.YtbhccdedcoajmabDoorChunks
import Derived.Deep.RegionHeld3
namespace Go.Proofs.YtbhccdedcoajmabDoor
open Go.RowKit

theorem grown_drew2 {w w' : World} {r : Option Nat} (h : w.grownBy w' r) : w.grownBy w'.drew r := ⟨h.os, h.tape, h.output, h.size, h.block⟩
/-- a list of texts in memory, to be read -/
def Sl (w : World) (v : Value) (ss : List ByteArray) : Prop :=
  ∃ va cap, v = .slice va ss.length cap ∧ ss.length ≤ cap ∧ ∀ i (hi : i < ss.length), ∃ g o, va = some ⟨g, o, none⟩ ∧ g < w.heap.size ∧ w.cell? ⟨g, o + i, none⟩ = some (.string ss[i])
theorem Sl.below {w w' : World} {v : Value} {ss : List ByteArray} (h : Sl w v ss) (hb : Below w.heap.size w w') : Sl w' v ss := by
  obtain ⟨va, cap, h1, h2, h3⟩ := h
  refine ⟨va, cap, h1, h2, fun i hi => ?_⟩
  obtain ⟨g, o, e, hg, c0⟩ := h3 i hi
  exact ⟨g, o, e, Nat.lt_of_lt_of_le hg hb.size, (hb.cell (p := ⟨g, _, none⟩) hg).trans c0⟩

def flCells (fs : List (ByteArray × ByteArray)) : List Value := fs.flatMap fun p => [.string p.1, .string p.2]
theorem flCells_snoc (fs : List (ByteArray × ByteArray)) (p : ByteArray × ByteArray) : flCells (fs ++ [p]) = flCells fs ++ [.string p.1, .string p.2] := by simp [flCells]
theorem flCells_at : ∀ (fs : List (ByteArray × ByteArray)) (i : Nat) (hi : i < fs.length), (flCells fs)[i * 2]? = some (.string fs[i].1) ∧ (flCells fs)[i * 2 + 1]? = some (.string fs[i].2)
  | p :: fs, 0, _ => by simp [flCells]
  | p :: fs, i + 1, h => by
    have := flCells_at fs i (by simpa using h)
    have e : flCells (p :: fs) = .string p.1 :: .string p.2 :: flCells fs := by simp [flCells]
    rw [e, show (i + 1) * 2 = i * 2 + 1 + 1 by omega]
    simpa using this
/-- how many bytes there are, as far as mirrorlaw.size looks -/
def bulkOf (fs : List (ByteArray × ByteArray)) : Nat := fs.length + (fs.map fun p => p.1.size + p.2.size).sum
theorem bulk_mem : ∀ {fs : List (ByteArray × ByteArray)} {p : ByteArray × ByteArray}, p ∈ fs → p.1.size + p.2.size ≤ (fs.map fun p => p.1.size + p.2.size).sum
  | q :: fs, p, h => by
    rw [List.map_cons, List.sum_cons]
    rcases List.mem_cons.1 h with rfl | h
    · omega
    · have := bulk_mem h; omega
theorem sum_take_le (l : List Nat) (k : Nat) : (l.take k).sum ≤ l.sum := by
  have h : (l.take k).sum + (l.drop k).sum = l.sum := by rw [← List.sum_append, List.take_append_drop]
  omega
theorem sum_take_succ (l : List Nat) (k : Nat) (h : k < l.length) : (l.take (k + 1)).sum = (l.take k).sum + l[k] := by
  rw [List.take_succ_eq_append_getElem h, List.sum_append]; simp

end Go.Proofs.YtbhccdedcoajmabDoor
namespace Go.Proofs.YtbhccdedcoajmabDoor
open Go.RowKit

/-- the block of a file's bytes, with the two of spare room behind -/
def roomyObj (s : ByteArray) : Obj := .cells (u8s (nums s) ++ [Value.int .u8 77, Value.int .u8 88]).toArray 5 (0, 0)
/-- a list of files that the law hands in -/
def Kf (w : World) (v : Value) (fs : List (ByteArray × ByteArray)) : Prop :=
  ∃ va cap, v = .slice va fs.length cap ∧ fs.length ≤ cap ∧ ∀ i (hi : i < fs.length), ∃ g b, va = some ⟨g, 0, none⟩ ∧ g < w.heap.size ∧ w.cell? ⟨g, i * 2, none⟩ = some (.string fs[i].1) ∧ w.cell? ⟨g, i * 2 + 1, none⟩ = some (.slice (some ⟨b, 0, none⟩) fs[i].2.size (fs[i].2.size + 2)) ∧
    b < w.heap.size ∧ w.heap[b]? = some (roomyObj fs[i].2)
theorem Kf.below {w w' : World} {v : Value} {fs : List (ByteArray × ByteArray)} (h : Kf w v fs) (hb : Below w.heap.size w w') : Kf w' v fs := by
  obtain ⟨va, cap, h1, h2, h3⟩ := h
  refine ⟨va, cap, h1, h2, fun i hi => ?_⟩
  obtain ⟨g, b, e, hg, c0, c1, hb1, hc⟩ := h3 i hi
  exact ⟨g, b, e, Nat.lt_of_lt_of_le hg hb.size, (hb.cell (p := ⟨g, _, none⟩) hg).trans c0, (hb.cell (p := ⟨g, _, none⟩) hg).trans c1, Nat.lt_of_lt_of_le hb1 hb.size, (hb.block b hb1).trans hc⟩
theorem Kf.af {w : World} {v : Value} {fs : List (ByteArray × ByteArray)} (h : Kf w v fs) : Af w v fs := by
  obtain ⟨va, cap, h1, h2, h3⟩ := h
  refine ⟨va, cap, h1, h2, fun i hi => ?_⟩
  obtain ⟨g, b, e, hg, c0, c1, hb1, hc⟩ := h3 i hi
  exact ⟨g, b, _, e, hg, c0, c1, hb1, by omega, row_cells hc⟩

def kfCells (ps : List ((ByteArray × ByteArray) × Nat)) : List Value := ps.flatMap fun p => [.string p.1.1, .slice (some ⟨p.2, 0, none⟩) p.1.2.size (p.1.2.size + 2)]
theorem kfCells_snoc (ps : List ((ByteArray × ByteArray) × Nat)) (p : (ByteArray × ByteArray) × Nat) : kfCells (ps ++ [p]) = kfCells ps ++ [.string p.1.1, .slice (some ⟨p.2, 0, none⟩) p.1.2.size (p.1.2.size + 2)] := by simp [kfCells]
theorem kfCells_at : ∀ (ps : List ((ByteArray × ByteArray) × Nat)) (i : Nat) (hi : i < ps.length), (kfCells ps)[i * 2]? = some (.string ps[i].1.1) ∧ (kfCells ps)[i * 2 + 1]? = some (.slice (some ⟨ps[i].2, 0, none⟩) ps[i].1.2.size (ps[i].1.2.size + 2))
  | p :: ps, 0, _ => by simp [kfCells]
  | p :: ps, i + 1, h => by
    have := kfCells_at ps i (by simpa using h)
    have e : kfCells (p :: ps) = .string p.1.1 :: .slice (some ⟨p.2, 0, none⟩) p.1.2.size (p.1.2.size + 2) :: kfCells ps := by simp [kfCells]
    rw [e, show (i + 1) * 2 = i * 2 + 1 + 1 by omega]
    simpa using this
theorem Kf_of_row {w : World} {base : Nat} {v : Value} {ps : List ((ByteArray × ByteArray) × Nat)} (h : w.ownsRow base 39 2 v ps.length (kfCells ps)) (hd : ∀ p ∈ ps, p.2 < w.heap.size ∧ w.heap[p.2]? = some (roomyObj p.1.2)) : Kf w v (ps.map Prod.fst) := by
  rcases h.2 with ⟨hv, h0⟩ | ⟨g, cap, cur, hv, _, hg, h1, _⟩
  · exact ⟨none, 0, by rw [hv, List.length_map, h0], by rw [List.length_map]; omega, fun i hi => by rw [List.length_map] at hi; omega⟩
  · have hlt : g < w.heap.size := (Array.getElem?_eq_some_iff.1 hg).1
    refine ⟨some ⟨g, 0, none⟩, cap, by rw [List.length_map]; exact hv, by rw [List.length_map]; exact h1, fun i hi => ?_⟩
    rw [List.length_map] at hi
    rw [List.getElem_map]
    refine ⟨g, ps[i].2, rfl, hlt, ?_, ?_, (hd _ (List.getElem_mem hi)).1, (hd _ (List.getElem_mem hi)).2⟩
    · have := h.cells (g := g) (by rw [hv]; rfl) (i * 2) _ (kfCells_at ps i hi).1
      rw [add_at] at this; exact this
    · have := h.cells (g := g) (by rw [hv]; rfl) (i * 2 + 1) _ (kfCells_at ps i hi).2
      rw [add_at] at this; exact this

theorem Tryd.info39 : (Tryd.prog.info? 39).map (fun i => (i.zero, i.size, i.bytes)) = some (some (.agg #[.string ⟨#[]⟩, .slice none 0 0]), 2, 40) := by kernel_rfl

end Go.Proofs.YtbhccdedcoajmabDoor
