import Derived.Test.YtbhccdedcoajmabGreatDoorRFindM
import Derived.Deep.RegionHeldLaw
import Derived.Deep.AppendLies
import Derived.Test.YtbhccdedcoajmabGreatDoorRows
import Derived.SliceStrings
import Derived.OpenShut
import Derived.Test.YtbhccdedcoajmabGreatDoorToldM
import Derived.Carry
import Derived.WideShapes
namespace Go.Proofs.YtbhccdedcoajmabGreatDoor
open Go.RowKit

theorem grown_drew2 {w w' : World} {r : Option Nat} (h : w.grownBy w' r) : w.grownBy w'.drew r := ⟨h.os, h.tape, h.output, h.size, h.block⟩
/-- a list of texts in memory, to be read -/
def Sl (w : World) (v : Value) (ss : List ByteArray) : Prop :=
  ∃ va cap, v = .slice va ss.length cap ∧ ss.length ≤ cap ∧ ∀ i (hi : i < ss.length), ∃ g o, va = some ⟨g, o, none⟩ ∧ g < w.heap.size ∧ w.cell? ⟨g, o + i, none⟩ = some (.string ss[i])
theorem Sl.below {w w' : World} {v : Value} {ss : List ByteArray} (h : Sl w v ss) (hb : Below w.heap.size w w') : Sl w' v ss := by
  obtain ⟨va, cap, h1, h2, h3⟩ := h
  refine ⟨va, cap, h1, h2, fun i hi => ?_⟩
  obtain ⟨g, o, e, hg, c0⟩ := h3 i hi
  exact ⟨g, o, e, Nat.lt_of_lt_of_le hg hb.size, (hb.cell (p := ⟨g, _, none⟩) hg).trans c0⟩

def flCells (fs : List (ByteArray × ByteArray)) : List Value := fs.flatMap fun p => [.string p.1, .string p.2]
theorem flCells_snoc (fs : List (ByteArray × ByteArray)) (p : ByteArray × ByteArray) : flCells (fs ++ [p]) = flCells fs ++ [.string p.1, .string p.2] := by simp [flCells]
theorem flCells_at : ∀ (fs : List (ByteArray × ByteArray)) (i : Nat) (hi : i < fs.length), (flCells fs)[i * 2]? = some (.string fs[i].1) ∧ (flCells fs)[i * 2 + 1]? = some (.string fs[i].2)
  | p :: fs, 0, _ => by simp [flCells]
  | p :: fs, i + 1, h => by
    have := flCells_at fs i (by simpa using h)
    have e : flCells (p :: fs) = .string p.1 :: .string p.2 :: flCells fs := by simp [flCells]
    rw [e, show (i + 1) * 2 = i * 2 + 1 + 1 by omega]
    simpa using this
/-- how many bytes there are, as far as mirrorlaw.size looks -/
def bulkOf (fs : List (ByteArray × ByteArray)) : Nat := fs.length + (fs.map fun p => p.1.size + p.2.size).sum
theorem bulk_mem : ∀ {fs : List (ByteArray × ByteArray)} {p : ByteArray × ByteArray}, p ∈ fs → p.1.size + p.2.size ≤ (fs.map fun p => p.1.size + p.2.size).sum
  | q :: fs, p, h => by
    rw [List.map_cons, List.sum_cons]
    rcases List.mem_cons.1 h with rfl | h
    · omega
    · have := bulk_mem h; omega
theorem sum_take_le (l : List Nat) (k : Nat) : (l.take k).sum ≤ l.sum := by
  have h : (l.take k).sum + (l.drop k).sum = l.sum := by rw [← List.sum_append, List.take_append_drop]
  omega
theorem sum_take_succ (l : List Nat) (k : Nat) (h : k < l.length) : (l.take (k + 1)).sum = (l.take k).sum + l[k] := by
  rw [List.take_succ_eq_append_getElem h, List.sum_append]; simp

end Go.Proofs.YtbhccdedcoajmabGreatDoor
namespace Go.Proofs.YtbhccdedcoajmabGreatDoor
open Go.ChangeShapes Go.WideShapes Go.RowKit

theorem bulk_one {H : Type} (d : DataW H) : 1 ≤ Rows.uptoBulk d := by
  cases d with
  | lit l => cases l <;> simp [Rows.uptoBulk]
  | nil => simp [Rows.uptoBulk]
  | ptr d => simp [Rows.uptoBulk]
  | slice elems spare => simp [Rows.uptoBulk]
  | agg parts => simp [Rows.uptoBulk]
  | iface t d => simp [Rows.uptoBulk]
  | map entries => simp [Rows.uptoBulk]
  | held h => simp [Rows.uptoBulk]
theorem bulk_part {H : Type} {d : DataW H} {l : List (DataW H)} (h : d ∈ l) : Rows.uptoBulk d ≤ Rows.uptoBulkAll l := by
  induction l with
  | nil => cases h
  | cons x r ih =>
    simp only [Rows.uptoBulkAll]
    cases List.mem_cons.1 h with
    | inl e => subst e; omega
    | inr e => have := ih e; omega
theorem bulk_length {H : Type} (l : List (DataW H)) : l.length ≤ Rows.uptoBulkAll l := by
  induction l with
  | nil => simp [Rows.uptoBulkAll]
  | cons x r ih => have := bulk_one x; simp only [Rows.uptoBulkAll, List.length_cons]; omega
theorem bulk_bound {H : Type} {l : List (DataW H)} (hk : Rows.uptoSmall H l = true) : Rows.uptoBulkAll l ≤ 1048576 := of_decide_eq_true hk

theorem Tryz.cells9 : Tryz.prog.cellsOf 9 = 1 := by kernel_rfl
theorem Tryz.laidOutB : laidOutB Tryz.prog = true := by kernel_rfl

set_option maxRecDepth 100000 in
/-- a list of texts that came in, nil or not -/
theorem open_sl {H : Type} {enc : TypeId × Value → H} {W : World} {base : Nat} {v : Value} {d : DataW H} {ps : List MemPlace} (hval : Value.okWide Tryz.prog W .any base 22 v) (h : DataW.Trod enc Tryz.prog W 0 (fun _ => true) true 22 v d ps) :
    ∃ ss : List ByteArray, Sl W v ss ∧ ss.length ≤ Rows.uptoBulk d ∧ ∀ s ∈ ss, s.size ≤ Rows.uptoBulk d := by
  obtain ⟨a0, len, cap, rfl⟩ := okWide_slice Tryz.underlying22 hval
  obtain ⟨fuel, hf0⟩ := h
  have hf : DataW.trod enc Tryz.prog W 0 (fun _ => true) true fuel 22 [.slice a0 len cap] = some (d, ps) := hf0
  rcases open_strings Tryz.underlying22 Tryz.underlying9 Tryz.cells9 hf with ⟨hcs, hx⟩ | ⟨a, len', cap', ss, hcs, _, hl, hm, hz, hx, hcell, _⟩
  · simp at hcs
    obtain ⟨rfl, rfl, rfl⟩ := hcs
    exact ⟨[], ⟨none, 0, rfl, Nat.le_refl _, fun i hi => by simp at hi⟩, Nat.zero_le _, fun s hs => by simp at hs⟩
  · simp at hcs
    obtain ⟨rfl, rfl, rfl⟩ := hcs
    simp only [if_true] at hz
    obtain ⟨b, off, spot⟩ := a
    have hd : d = .slice (strs (ss.take len)) (strs (ss.drop len)) := congrArg Prod.fst hx
    have hlen : (ss.take len).length = len := by rw [List.length_take]; omega
    refine ⟨ss.take len, ⟨_, cap, by rw [hlen], by rw [hlen]; exact hl, fun i hi => ?_⟩, ?_, fun s hs => ?_⟩
    · rw [hlen] at hi
      have hc := hcell i (by omega)
      have hspot : spot = none := by simpa [Addr.add] using World.cell?_spot (hcell 0 (by omega))
      subst hspot
      refine ⟨b, off, rfl, World.block_lt_of_cell? W _ (hcell 0 (by omega)), ?_⟩
      have e : (⟨b, off, none⟩ : Addr).add i = ⟨b, off + i, none⟩ := by unfold Addr.add; split <;> simp_all
      rw [e] at hc
      rw [hc, List.getElem_take]
      simp [List.getD, List.getElem?_eq_getElem (show i < ss.length by omega)]
    · rw [hd]
      have := bulk_length (strs (H := H) (ss.take len))
      simp only [Rows.uptoBulk]
      rw [show (strs (H := H) (ss.take len)).length = (ss.take len).length by simp [strs]] at this
      omega
    · rw [hd]
      have := bulk_part (d := (.lit (.string s.data.toList) : DataW H)) (l := strs (ss.take len)) (List.mem_map.2 ⟨s, hs, rfl⟩)
      have e : Rows.uptoBulk (.lit (.string s.data.toList) : DataW H) = s.size + 1 := by simp [Rows.uptoBulk]
      simp only [Rows.uptoBulk] at this ⊢
      have e2 : s.data.toList.length = s.size := by simp
      omega
set_option maxRecDepth 100000 in
/-- the same, with no bound but the form's own -/
theorem open_sl2 {H : Type} {enc : TypeId × Value → H} {W : World} {base : Nat} {v : Value} {d : DataW H} {ps : List MemPlace} (hval : Value.okWide Tryz.prog W .any base 22 v) (h : DataW.Trod enc Tryz.prog W 0 (fun _ => true) true 22 v d ps) :
    ∃ ss : List ByteArray, Sl W v ss ∧ ss.length ≤ maxLen ∧ ∀ s ∈ ss, s.size ≤ maxLen := by
  obtain ⟨a0, len, cap, rfl⟩ := okWide_slice Tryz.underlying22 hval
  obtain ⟨fuel, hf0⟩ := h
  have hf : DataW.trod enc Tryz.prog W 0 (fun _ => true) true fuel 22 [.slice a0 len cap] = some (d, ps) := hf0
  rcases open_strings Tryz.underlying22 Tryz.underlying9 Tryz.cells9 hf with ⟨hcs, hx⟩ | ⟨a, len', cap', ss, hcs, _, hl, hm, hz, hx, hcell, hsz⟩
  · simp at hcs
    obtain ⟨rfl, rfl, rfl⟩ := hcs
    exact ⟨[], ⟨none, 0, rfl, Nat.le_refl _, fun i hi => by simp at hi⟩, Nat.zero_le _, fun s hs => by simp at hs⟩
  · simp at hcs
    obtain ⟨rfl, rfl, rfl⟩ := hcs
    simp only [if_true] at hz
    obtain ⟨b, off, spot⟩ := a
    have hlen : (ss.take len).length = len := by rw [List.length_take]; omega
    refine ⟨ss.take len, ⟨_, cap, by rw [hlen], by rw [hlen]; exact hl, fun i hi => ?_⟩, by rw [hlen]; omega, fun s hs => hsz s (List.mem_of_mem_take hs)⟩
    rw [hlen] at hi
    have hc := hcell i (by omega)
    have hspot : spot = none := by simpa [Addr.add] using World.cell?_spot (hcell 0 (by omega))
    subst hspot
    refine ⟨b, off, rfl, World.block_lt_of_cell? W _ (hcell 0 (by omega)), ?_⟩
    have e : (⟨b, off, none⟩ : Addr).add i = ⟨b, off + i, none⟩ := by unfold Addr.add; split <;> simp_all
    rw [e] at hc
    rw [hc, List.getElem_take]
    simp [List.getD, List.getElem?_eq_getElem (show i < ss.length by omega)]
end Go.Proofs.YtbhccdedcoajmabGreatDoor
