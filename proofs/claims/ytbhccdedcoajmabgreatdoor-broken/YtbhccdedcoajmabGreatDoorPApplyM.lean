import Derived.Test.YtbhccdedcoajmabGreatDoorApply
import Derived.Test.YtbhccdedcoajmabGreatDoorToldM
import Derived.WalkSpells
import Derived.Test.YtbhccdedcoajmabGreatDoorPRecPM
import Derived.Test.YtbhccdedcoajmabGreatDoorPReadP
namespace Go.Proofs.YtbhccdedcoajmabGreatDoor
open Go.RowKit

end Go.Proofs.YtbhccdedcoajmabGreatDoor
namespace Go.Proofs.YtbhccdedcoajmabGreatDoor
open Go.RowKit

theorem rise_list : ∀ (fs : List (ByteArray × ByteArray)) (first : Bool) (last : List Int), (∀ p, fs.head? = some p → (first || ltL last (nums p.1)) = true) → (∀ i (h : i + 1 < fs.length), ltL (nums fs[i].1) (nums fs[i + 1].1) = true) → Rise first last (fs.map filOf)
  | [], _, _, _, _ => trivial
  | p :: fs, first, last, h1, h2 => by
    refine ⟨h1 p rfl, rise_list fs false (nums p.1) (fun q hq => ?_) (fun i h => h2 (i + 1) (by simpa using h))⟩
    cases fs with
    | nil => simp at hq
    | cons x r =>
      simp at hq
      subst hq
      have := h2 0 (by simp)
      simpa using this
theorem tree_rise {fs : List (ByteArray × ByteArray)} (h : TreeOk fs) : Rise true [] (fs.map filOf) := by
  refine rise_list fs true [] (fun _ _ => by simp) (fun i hi => ?_)
  obtain ⟨_, _, h2, _⟩ := h (i + 1) hi
  exact h2 (by omega)
theorem tree_fil {fs : List (ByteArray × ByteArray)} (h : TreeOk fs) : ∀ f ∈ fs.map filOf, FilOk f ∧ Bytes f.data := by
  intro f hf
  obtain ⟨p, hp, rfl⟩ := List.mem_map.1 hf
  obtain ⟨i, hi, rfl⟩ := List.getElem_of_mem hp
  obtain ⟨_, h1, _, h3, _⟩ := h i hi
  exact ⟨⟨h1, by rw [show (filOf fs[i]).data = nums fs[i].2 from rfl, nums_length]; exact h3, (digestOf_fits _).1, (digestOf_fits _).2⟩, nums_bytes _⟩
theorem tree_apart {fs : List (ByteArray × ByteArray)} (h : TreeOk fs) : (fs.map filOf).Pairwise (fun f g => f.name ≠ g.name) := rise_apart _ _ _ (tree_rise h)
theorem read_told {fs fr : List (ByteArray × ByteArray)} {B : Nat} (hB1 : 1 ≤ B) (hB2 : B ≤ 64) (hs : TreeOk fs) (hr : TreeOk fr) :
    readL (recordL (fs.map filOf) (fr.map filOf) B) = some ⟨B, (fr.map filOf).map entOf, (fs.map filOf).map fun f => (entOf f, diffOf (findL (fr.map filOf) f.name) f.data B)⟩ :=
  read_record hB1 hB2 (tree_apart hr) (tree_fil hs) (fun f hf => (tree_fil hr f hf).1) (tree_rise hs) (tree_rise hr) (by rw [List.length_map]; exact hs.len) (by rw [List.length_map]; exact hr.len)
theorem find_300 {fr : List (ByteArray × ByteArray)} (hr : TreeOk fr) (nm : ByteArray) : ((foundOf fr nm).getD ⟨#[]⟩).size ≤ 300 := by
  unfold foundOf
  cases h : fr.find? fun q => decide (nums q.1 = nums nm) with
  | none => exact Nat.zero_le _
  | some q => exact (hr.sizes q (List.mem_of_find?_eq_some h)).2
theorem target_ok {fs fr : List (ByteArray × ByteArray)} {B : Nat} (hB1 : 1 ≤ B) (hs : TreeOk fs) (hr : TreeOk fr) : ∀ x ∈ fs.map filOf, (targetL (fr.map filOf) B x).length ≤ 1525 ∧ Bytes (targetL (fr.map filOf) B x) := by
  intro x hx
  obtain ⟨p, hp, rfl⟩ := List.mem_map.1 hx
  refine targetL_ok hB1 (by rw [show (filOf p).name = nums p.1 from rfl, nums_length]; exact (hs.sizes p hp).1) (nums_bytes _) (by rw [show (filOf p).data = nums p.2 from rfl, nums_length]; exact (hs.sizes p hp).2) (nums_bytes _) ?_
  rw [show (filOf p).name = nums p.1 from rfl, found_findL, nums_length]
  exact find_300 hr _
theorem entry_ok {fr : List (ByteArray × ByteArray)} (hr : TreeOk fr) : ∀ x ∈ fr.map filOf, (entryL x).length ≤ 23 ∧ Bytes (entryL x) := by
  intro x hx
  obtain ⟨p, hp, rfl⟩ := List.mem_map.1 hx
  have h : (filOf p).name.length ≤ 12 := by rw [show (filOf p).name = nums p.1 from rfl, nums_length]; exact (hr.sizes p hp).1
  exact ⟨entryL_len h, bytes_entry h (nums_bytes _)⟩
theorem record_bytes {fs fr : List (ByteArray × ByteArray)} {B : Nat} (hB1 : 1 ≤ B) (hB2 : B ≤ 64) (hs : TreeOk fs) (hr : TreeOk fr) : Bytes (recordL (fs.map filOf) (fr.map filOf) B) ∧ (recordL (fs.map filOf) (fr.map filOf) B).length ≤ 14000 ∧ 0 < (recordL (fs.map filOf) (fr.map filOf) B).length := by
  have h8 := hs.len
  have g8 := hr.len
  refine ⟨?_, ?_, ?_⟩
  · unfold recordL bodyL
    refine bytes_app (bytes_cons (by omega) (bytes_cons (by omega) (bytes_cons (by omega) (bytes_cons (by omega) (bytes_cons (by rw [List.length_map]; omega) (bytes_app (bytes_flat fun x hx => (entry_ok hr x hx).2) (bytes_cons (by rw [List.length_map]; omega) (bytes_flat fun x hx => (target_ok hB1 hs hr x hx).2)))))))) (putN_bytes _ _)
  · have h1 := flat_len (f := entryL) (c := 23) (fr.map filOf) (fun x hx => (entry_ok hr x hx).1)
    have h2 := flat_len (f := targetL (fr.map filOf) B) (c := 1525) (fs.map filOf) (fun x hx => (target_ok hB1 hs hr x hx).1)
    rw [List.length_map] at h1 h2
    unfold recordL bodyL
    simp only [List.length_append, List.length_cons, putN_length]
    omega
  · unfold recordL bodyL
    simp

/-- the files' list that is looked through to its k-th -/
theorem found_snoc {fr : List (ByteArray × ByteArray)} {nm : ByteArray} {k : Nat} (hk : k < fr.length) (hp : fr.Pairwise fun a b => nums a.1 ≠ nums b.1) :
    (nums fr[k].1 = nums nm → foundOf (fr.take (k + 1)) nm = some fr[k].2) ∧ (nums fr[k].1 ≠ nums nm → foundOf (fr.take (k + 1)) nm = foundOf (fr.take k) nm) := by
  have e : fr.take (k + 1) = fr.take k ++ [fr[k]] := List.take_succ_eq_append_getElem hk
  refine ⟨fun h => ?_, fun h => ?_⟩
  · have hno : (fr.take k).find? (fun p => decide (nums p.1 = nums nm)) = none := by
      rw [List.find?_eq_none]
      intro p hp'
      obtain ⟨i, hi, rfl⟩ := List.getElem_of_mem hp'
      rw [List.getElem_take]
      rw [List.length_take] at hi
      have := List.pairwise_iff_getElem.1 hp i k (by omega) hk (by omega)
      simp only [decide_eq_true_eq]
      exact fun e2 => this (e2.trans h.symm)
    unfold foundOf
    rw [e, List.find?_append, hno]
    simp [h]
  · unfold foundOf
    rw [e, List.find?_append]
    simp [h]
end Go.Proofs.YtbhccdedcoajmabGreatDoor
