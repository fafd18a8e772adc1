import Derived.Test.YtbhccdedcoajmabDoorChunks
namespace Go.Proofs.YtbhccdedcoajmabDoor
open Go Go.RowKit

/-- a token, as plain data -/
structure Tok where
  block : Int
  count : Int
  data : List Int

def pushByte (out : List Tok) (x : Int) : List Tok :=
  match out.getLast? with
  | some t => if t.count = 0 ∧ t.data.length < 255 then out.dropLast ++ [⟨t.block, t.count, t.data ++ [x]⟩] else out ++ [⟨0, 0, [x]⟩]
  | none => [⟨0, 0, [x]⟩]
def pushBlock (out : List Tok) (k : Int) : List Tok :=
  match out.getLast? with
  | some t => if 0 < t.count ∧ t.count < 255 ∧ t.block + t.count = k then out.dropLast ++ [⟨t.block, t.count + 1, t.data⟩] else out ++ [⟨k, 1, []⟩]
  | none => [⟨k, 1, []⟩]
theorem pushByte_nil (x : Int) : pushByte [] x = [⟨0, 0, [x]⟩] := rfl
theorem pushByte_snoc (l : List Tok) (t : Tok) (x : Int) : pushByte (l ++ [t]) x = if t.count = 0 ∧ t.data.length < 255 then l ++ [⟨t.block, t.count, t.data ++ [x]⟩] else (l ++ [t]) ++ [⟨0, 0, [x]⟩] := by
  simp [pushByte]
theorem pushBlock_nil (k : Int) : pushBlock [] k = [⟨k, 1, []⟩] := rfl
theorem pushBlock_snoc (l : List Tok) (t : Tok) (k : Int) : pushBlock (l ++ [t]) k = if 0 < t.count ∧ t.count < 255 ∧ t.block + t.count = k then l ++ [⟨t.block, t.count + 1, t.data⟩] else (l ++ [t]) ++ [⟨k, 1, []⟩] := by
  simp [pushBlock]
theorem snoc_cases {α : Type} (l : List α) : l = [] ∨ ∃ i t, l = i ++ [t] := by
  rcases l.eq_nil_or_concat with h | ⟨i, t, h⟩
  · exact .inl h
  · exact .inr ⟨i, t, by simpa using h⟩

/-- the least whole block that is p -/
def findBlk (zs : List Int) (B : Nat) (p : List Int) : Option Nat := (List.range (zs.length / B)).find? fun i => decide (chunk zs B i = p)
theorem findBlk_some {zs : List Int} {B : Nat} {p : List Int} {i : Nat} : findBlk zs B p = some i ↔ i < zs.length / B ∧ chunk zs B i = p ∧ ∀ j, j < i → chunk zs B j ≠ p := by
  unfold findBlk
  rw [List.find?_range_eq_some]
  simp
  constructor
  · rintro ⟨h1, h2, h3⟩; exact ⟨h2, h1, h3⟩
  · rintro ⟨h1, h2, h3⟩; exact ⟨h2, h1, h3⟩
theorem findBlk_none {zs : List Int} {B : Nat} {p : List Int} : findBlk zs B p = none ↔ ∀ j, j < zs.length / B → chunk zs B j ≠ p := by
  unfold findBlk
  rw [List.find?_range_eq_none]
  simp
theorem whole_chunk {zs : List Int} {B i : Nat} (hB : 0 < B) (h : i < zs.length / B) : (i + 1) * B ≤ zs.length ∧ (chunk zs B i).length = B := by
  have h1 : (i + 1) * B ≤ zs.length := (Nat.le_div_iff_mul_le hB).1 h
  have h2 := chunk_length zs B i
  rw [Nat.add_mul] at h1
  refine ⟨by rw [Nat.add_mul]; exact h1, by omega⟩
theorem findBlk_short {zs : List Int} {B : Nat} {p : List Int} (hB : 0 < B) (h : p.length < B) : findBlk zs B p = none := by
  rw [findBlk_none]
  intro j hj e
  have := (whole_chunk hB hj).2
  rw [e] at this; omega

def diffGo (zs : List Int) (B : Nat) (out : List Tok) (rest : List Int) : List Tok :=
  match rest with
  | [] => out
  | x :: r =>
    match findBlk zs B ((x :: r).take B) with
    | some k => diffGo zs B (pushBlock out k) (r.drop (B - 1))
    | none => diffGo zs B (pushByte out x) r
  termination_by rest.length
  decreasing_by
    · simp only [List.length_drop, List.length_cons]; omega
    · simp

theorem diffGo_nil (zs : List Int) (B : Nat) (out : List Tok) : diffGo zs B out [] = out := by rw [diffGo]
theorem diffGo_hit {zs : List Int} {B : Nat} (hB : 0 < B) {out : List Tok} {rest : List Int} {k : Nat} (h : findBlk zs B (rest.take B) = some k) : diffGo zs B out rest = diffGo zs B (pushBlock out k) (rest.drop B) := by
  match rest, h with
  | [], h =>
    exfalso
    rw [findBlk_short hB (by simpa using hB)] at h
    cases h
  | x :: r, h =>
    rw [diffGo, h]
    simp only
    obtain ⟨b, rfl⟩ : ∃ b, B = b + 1 := ⟨B - 1, by omega⟩
    rfl
theorem diffGo_miss {zs : List Int} {B : Nat} {out : List Tok} {x : Int} {r : List Int} (h : findBlk zs B ((x :: r).take B) = none) : diffGo zs B out (x :: r) = diffGo zs B (pushByte out x) r := by
  rw [diffGo, h]
theorem diffGo_short {zs : List Int} {B : Nat} (hB : 0 < B) : ∀ (rest : List Int) (out : List Tok), rest.length < B → diffGo zs B out rest = rest.foldl pushByte out
  | [], out, _ => diffGo_nil _ _ _
  | x :: r, out, h => by
    rw [diffGo_miss (findBlk_short hB (by rw [List.length_take]; omega)), diffGo_short hB r _ (by simp at h; omega)]; rfl

def diffOf (zs ds : List Int) (B : Nat) : List Tok := diffGo zs B [] ds

/-- no byte joins the last token -/
def Shut (out : List Tok) : Prop := ∀ t, out.getLast? = some t → ¬ (t.count = 0 ∧ t.data.length < 255)
theorem shut_nil : Shut [] := by intro t h; simp at h
theorem shut_snoc {l : List Tok} {t : Tok} (h : ¬ (t.count = 0 ∧ t.data.length < 255)) : Shut (l ++ [t]) := by intro t' h'; simp at h'; subst h'; exact h
theorem shut_push {out : List Tok} (h : Shut out) (x : Int) : pushByte out x = out ++ [⟨0, 0, [x]⟩] := by
  rcases snoc_cases out with rfl | ⟨i, t, rfl⟩
  · rfl
  · rw [pushByte_snoc, if_neg (h t (by simp))]
theorem push_more (l : List Tok) : ∀ (p d : List Int), d.length + p.length ≤ 255 → p.foldl pushByte (l ++ [⟨0, 0, d⟩]) = l ++ [⟨0, 0, d ++ p⟩]
  | [], d, _ => by simp
  | x :: r, d, h => by
    simp only [List.length_cons] at h
    rw [List.foldl_cons, pushByte_snoc, if_pos ⟨rfl, by simp only; omega⟩, push_more l r (d ++ [x]) (by simp; omega)]
    simp
theorem push_part {out : List Tok} (h : Shut out) {p : List Int} (h0 : 0 < p.length) (h1 : p.length ≤ 255) : p.foldl pushByte out = out ++ [⟨0, 0, p⟩] := by
  match p, h0 with
  | x :: r, _ =>
    rw [List.foldl_cons, shut_push h, push_more out r [x] (by simp at h1 ⊢; omega)]
    simp
theorem shut_pushBlock (out : List Tok) (k : Int) : Shut (pushBlock out k) := by
  rcases snoc_cases out with rfl | ⟨i, t, rfl⟩
  · exact shut_snoc (l := []) (by simp)
  · rw [pushBlock_snoc]
    split
    · exact shut_snoc (by simp only; omega)
    · exact shut_snoc (by simp)
end Go.Proofs.YtbhccdedcoajmabDoor
