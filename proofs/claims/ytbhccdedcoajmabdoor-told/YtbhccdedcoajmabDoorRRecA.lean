import Derived.Test.YtbhccdedcoajmabDoorStrAtM
import Derived.Test.YtbhccdedcoajmabDoorRFind
import Derived.Test.YtbhccdedcoajmabDoorRefDiff
import Derived.Test.YtbhccdedcoajmabDoorFair
namespace Go.Proofs.YtbhccdedcoajmabDoor
open Go.RowKit

theorem TokRow.grew {w w' : World} {bT TT : Nat} {tv v : Value} {ps : List (Tok × Value)} (h : TokRow w bT tv ps) (h1 : ∀ k, tv.ownBlock = some k → bT ≤ k ∧ k < TT) (h2 : ∀ p ∈ ps, ∀ k, p.2.ownBlock = some k → bT ≤ k ∧ k < TT) (hrow : ∀ k, v.ownBlock = some k → k < bT ∨ TT ≤ k) (hg : w.grownBy w' v.ownBlock) : TokRow w' bT tv ps := by
  refine h.grown hg ?_ ?_
  · cases hv : tv.ownBlock with
    | none => exact .inl rfl
    | some k =>
      refine .inr fun e => ?_
      have := h1 k hv
      have := hrow k e.symm
      omega
  · intro p hp
    cases hv : p.2.ownBlock with
    | none => exact .inl rfl
    | some k =>
      refine .inr fun e => ?_
      have := h2 p hp k hv
      have := hrow k e.symm
      omega
theorem Grew.row {w w' : World} {v v' : Value} {bT TT : Nat} (h : Grew w w' v v') (hT : TT ≤ w.heap.size) (hrow : ∀ k, v.ownBlock = some k → k < bT ∨ TT ≤ k) : ∀ k, v'.ownBlock = some k → k < bT ∨ TT ≤ k := by
  intro k hk
  rcases h.2 with e | ⟨j, hj, e⟩
  · exact hrow k (e ▸ hk)
  · rw [e] at hk; simp at hk; omega
theorem tokL_len {t : Tok} (h : Fair t) : (tokL t).length ≤ 257 := by
  unfold tokL
  have := h.2.1
  split
  · simp; omega
  · simp [putN_length]
theorem flat_len {α : Type} {f : α → List Int} {c : Nat} : ∀ (l : List α), (∀ x ∈ l, (f x).length ≤ c) → (l.flatMap f).length ≤ c * l.length
  | [], _ => by simp
  | x :: r, h => by
    have h1 := h x (by simp)
    have h2 := flat_len r (fun y hy => h y (by simp [hy]))
    rw [List.flatMap_cons, List.length_append, List.length_cons, Nat.mul_add]
    omega
theorem entryL_len {f : Fil} (h : f.name.length ≤ 12) : (entryL f).length ≤ 23 := by
  unfold entryL
  simp [putN_length]; omega

theorem bytes_app {a b : List Int} (ha : Bytes a) (hb : Bytes b) : Bytes (a ++ b) := fun x hx => (List.mem_append.1 hx).elim (ha x) (hb x)
theorem bytes_cons {x : Int} {l : List Int} (hx : 0 ≤ x ∧ x < 256) (hl : Bytes l) : Bytes (x :: l) := fun y hy => (List.mem_cons.1 hy).elim (fun e => e ▸ hx) (hl y)
theorem bytes_flat {α : Type} {f : α → List Int} {l : List α} (h : ∀ x ∈ l, Bytes (f x)) : Bytes (l.flatMap f) := by
  intro x hx
  obtain ⟨y, hy, hxy⟩ := List.mem_flatMap.1 hx
  exact h y hy x hxy
theorem bytes_tok {t : Tok} (h : Fair t) : Bytes (tokL t) := by
  obtain ⟨h1, h2, h3, h4, h5, h6⟩ := h
  unfold tokL
  split
  · exact bytes_cons (by omega) (bytes_cons (by omega) h1)
  · exact bytes_cons (by omega) (bytes_app (putN_bytes _ _) (bytes_cons (by omega) (fun x hx => by simp at hx)))
theorem bytes_entry {f : Fil} (h : f.name.length ≤ 12) (hn : Bytes f.name) : Bytes (entryL f) := by
  unfold entryL
  exact bytes_cons (by omega) (bytes_app hn (bytes_app (putN_bytes _ _) (putN_bytes _ _)))
theorem toks_len {zs : List Int} {B : Nat} : ∀ (l : List Tok), Good zs B l → (l.flatMap tokL).length ≤ 4 * l.length + (madeOf zs B l).length
  | [], _ => by simp
  | t :: l, h => by
    have ih := toks_len l (fun x hx => h x (by simp [hx]))
    rw [List.flatMap_cons, madeOf_cons, List.length_append, List.length_append, List.length_cons]
    have : (tokL t).length ≤ 4 + (partT zs B t).length := by
      unfold tokL partT
      split
      · simp; omega
      · simp [putN_length]
    omega
theorem targetL_ok {ref : List Fil} {B : Nat} {f : Fil} (hB : 0 < B) (hn : f.name.length ≤ 12) (hnb : Bytes f.name) (hd : f.data.length ≤ 300) (hdb : Bytes f.data) (hf : (findL ref f.name).length ≤ 300) : (targetL ref B f).length ≤ 1525 ∧ Bytes (targetL ref B f) := by
  have h1 := fair_diffOf (B := B) hB hf hdb
  have h2 := good_diffOf (zs := findL ref f.name) (ds := f.data) hB
  have h3 := toks_len _ h2.1
  have h4 := entryL_len hn
  rw [h2.2] at h3
  unfold targetL
  refine ⟨?_, bytes_app (bytes_entry hn hnb) (bytes_app (putN_bytes _ _) (bytes_flat fun t ht => bytes_tok (h1.1 t ht)))⟩
  rw [List.length_append, List.length_append, putN_length]
  have := h1.2
  omega
end Go.Proofs.YtbhccdedcoajmabDoor
