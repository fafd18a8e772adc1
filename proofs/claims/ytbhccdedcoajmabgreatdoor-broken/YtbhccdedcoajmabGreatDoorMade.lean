import Derived.Test.YtbhccdedcoajmabGreatDoorToldM
namespace Go.Proofs.YtbhccdedcoajmabGreatDoor
open Go Go.RowKit

/-- what one token stands for -/
def partT (zs : List Int) (B : Nat) (t : Tok) : List Int := if t.count = 0 then t.data else (zs.drop (t.block.toNat * B)).take (t.count.toNat * B)
def fitsT (n : Nat) (t : Tok) : Prop := 0 ≤ t.count ∧ 0 ≤ t.block ∧ (t.count = 0 → t.block = 0) ∧ (0 < t.count → t.data = [] ∧ t.block + t.count ≤ n)
def fitsB (n : Nat) (t : Tok) : Bool := decide (0 ≤ t.count) && decide (0 ≤ t.block) && (if t.count = 0 then decide (t.block = 0) else decide (t.data = []) && decide (t.block + t.count ≤ n))
theorem fitsB_iff {n : Nat} {t : Tok} : fitsB n t = true ↔ fitsT n t := by
  unfold fitsB fitsT
  split
  · rename_i h
    simp only [Bool.and_eq_true, decide_eq_true_eq]
    constructor
    · rintro ⟨⟨a, b⟩, c⟩
      exact ⟨a, b, fun _ => c, fun e => by omega⟩
    · rintro ⟨a, b, c, _⟩
      exact ⟨⟨a, b⟩, c h⟩
  · rename_i h
    simp only [Bool.and_eq_true, decide_eq_true_eq]
    constructor
    · rintro ⟨⟨a, b⟩, c, d⟩
      exact ⟨a, b, fun e => absurd e h, fun _ => ⟨c, d⟩⟩
    · rintro ⟨a, b, _, d⟩
      exact ⟨⟨a, b⟩, d (by omega)⟩
theorem fitsB_not {n : Nat} {t : Tok} (h : ¬ fitsT n t) : ¬ fitsB n t = true := fun e => h (fitsB_iff.1 e)
def applyGo (zs : List Int) (B : Nat) : List Int → List Tok → Except Int (List Int)
  | made, [] => .ok made
  | made, t :: r => if fitsB (chunks zs.length B) t then (if 300 < made.length + (partT zs B t).length then .error 2 else applyGo zs B (made ++ partT zs B t) r) else .error 3
def madeOf (zs : List Int) (B : Nat) (ts : List Tok) : List Int := ts.flatMap (partT zs B)
theorem madeOf_nil (zs : List Int) (B : Nat) : madeOf zs B [] = [] := rfl
theorem madeOf_cons (zs : List Int) (B : Nat) (t : Tok) (l : List Tok) : madeOf zs B (t :: l) = partT zs B t ++ madeOf zs B l := by simp [madeOf]
theorem madeOf_snoc (zs : List Int) (B : Nat) (l : List Tok) (t : Tok) : madeOf zs B (l ++ [t]) = madeOf zs B l ++ partT zs B t := by simp [madeOf]

theorem whole_le {n B : Nat} (hB : 0 < B) : n / B ≤ chunks n B := by
  unfold chunks
  exact Nat.div_le_div_right (by omega)
/-- every token of a list speaks of whole blocks alone -/
def Good (zs : List Int) (B : Nat) (out : List Tok) : Prop := ∀ t ∈ out, fitsT (zs.length / B) t
theorem good_snoc {zs : List Int} {B : Nat} {l : List Tok} {t : Tok} : Good zs B (l ++ [t]) ↔ Good zs B l ∧ fitsT (zs.length / B) t := by
  unfold Good
  constructor
  · intro h; exact ⟨fun u hu => h u (List.mem_append_left _ hu), h t (by simp)⟩
  · rintro ⟨h1, h2⟩ u hu
    rw [List.mem_append] at hu
    rcases hu with hu | hu
    · exact h1 u hu
    · simp at hu; subst hu; exact h2
theorem fits_byte (n : Nat) (d : List Int) : fitsT n ⟨0, 0, d⟩ := ⟨by simp, by simp, by simp, by simp⟩
theorem good_pushByte {zs : List Int} {B : Nat} {out : List Tok} (h : Good zs B out) (x : Int) : Good zs B (pushByte out x) ∧ madeOf zs B (pushByte out x) = madeOf zs B out ++ [x] := by
  rcases snoc_cases out with rfl | ⟨i, t, rfl⟩
  · exact ⟨fun t ht => by simp [pushByte_nil] at ht; subst ht; exact fits_byte _ _, by simp [pushByte_nil, madeOf, partT]⟩
  · rw [pushByte_snoc]
    obtain ⟨h1, h2⟩ := good_snoc.1 h
    split
    · rename_i hc
      refine ⟨good_snoc.2 ⟨h1, ?_⟩, ?_⟩
      · obtain ⟨a, b, c, d⟩ := h2
        exact ⟨a, b, c, fun h => by simp only at h; omega⟩
      · rw [madeOf_snoc, madeOf_snoc]; simp [partT, hc.1]
    · exact ⟨good_snoc.2 ⟨h, fits_byte _ _⟩, by rw [madeOf_snoc]; simp [partT]⟩
theorem part_more (zs : List Int) (B b c : Nat) : (zs.drop (b * B)).take ((c + 1) * B) = (zs.drop (b * B)).take (c * B) ++ chunk zs B (b + c) := by
  rw [Nat.add_mul, Nat.one_mul, List.take_add, List.drop_drop]
  unfold chunk
  rw [Nat.add_mul]
theorem good_pushBlock {zs : List Int} {B : Nat} {out : List Tok} (h : Good zs B out) (k : Nat) (hk : k < zs.length / B) : Good zs B (pushBlock out k) ∧ madeOf zs B (pushBlock out k) = madeOf zs B out ++ chunk zs B k := by
  have hone : fitsT (zs.length / B) ⟨k, 1, []⟩ := ⟨by simp, by simp, by simp, fun _ => ⟨rfl, by simp only; omega⟩⟩
  have hpart : partT zs B ⟨k, 1, []⟩ = chunk zs B k := by simp [partT, chunk]
  rcases snoc_cases out with rfl | ⟨i, t, rfl⟩
  · exact ⟨fun t ht => by simp [pushBlock_nil] at ht; subst ht; exact hone, by rw [pushBlock_nil, madeOf_cons, hpart, madeOf_nil]; simp⟩
  · rw [pushBlock_snoc]
    obtain ⟨h1, h2⟩ := good_snoc.1 h
    split
    · rename_i hc
      obtain ⟨a, b, c, d⟩ := h2
      obtain ⟨d1, d2⟩ := d hc.1
      refine ⟨good_snoc.2 ⟨h1, ⟨by simp only; omega, b, fun h => by simp only at h; omega, fun _ => ⟨d1, by simp only; omega⟩⟩⟩, ?_⟩
      rw [madeOf_snoc, madeOf_snoc, List.append_assoc]
      congr 1
      simp only [partT]
      rw [if_neg (by omega), if_neg (by omega), show (t.count + 1).toNat = t.count.toNat + 1 by omega, part_more, show t.block.toNat + t.count.toNat = k by omega]
    · exact ⟨good_snoc.2 ⟨h, hone⟩, by rw [madeOf_snoc, hpart]⟩
theorem good_diffGo {zs : List Int} {B : Nat} (hB : 0 < B) : ∀ (n : Nat) (rest : List Int) (out : List Tok), rest.length ≤ n → Good zs B out → Good zs B (diffGo zs B out rest) ∧ madeOf zs B (diffGo zs B out rest) = madeOf zs B out ++ rest
  | _, [], out, _, h => by rw [diffGo_nil]; exact ⟨h, by simp⟩
  | 0, x :: r, out, hn, h => by simp at hn
  | n + 1, x :: r, out, hn, h => by
    cases hf : findBlk zs B ((x :: r).take B) with
    | none =>
      rw [diffGo_miss hf]
      obtain ⟨h1, h2⟩ := good_pushByte h x
      obtain ⟨h3, h4⟩ := good_diffGo hB n r _ (by simpa using hn) h1
      exact ⟨h3, by rw [h4, h2]; simp⟩
    | some k =>
      rw [diffGo_hit hB hf]
      obtain ⟨hk, e, _⟩ := findBlk_some.1 hf
      obtain ⟨h1, h2⟩ := good_pushBlock h k hk
      obtain ⟨h3, h4⟩ := good_diffGo hB n ((x :: r).drop B) _ (by rw [List.length_drop]; simp only [List.length_cons] at hn ⊢; omega) h1
      exact ⟨h3, by rw [h4, h2, e, List.append_assoc, List.take_append_drop]⟩
theorem good_diffOf {zs ds : List Int} {B : Nat} (hB : 0 < B) : Good zs B (diffOf zs ds B) ∧ madeOf zs B (diffOf zs ds B) = ds := by
  have := good_diffGo hB ds.length ds [] (Nat.le_refl _) (zs := zs) (fun t ht => by simp at ht)
  exact ⟨this.1, by rw [show diffOf zs ds B = diffGo zs B [] ds from rfl, this.2]; rfl⟩
theorem apply_good {zs : List Int} {B : Nat} (hB : 0 < B) : ∀ (ts : List Tok) (m : List Int), Good zs B ts → (m ++ madeOf zs B ts).length ≤ 300 → applyGo zs B m ts = .ok (m ++ madeOf zs B ts)
  | [], m, _, _ => by simp [applyGo, madeOf]
  | t :: r, m, h, hl => by
    have ht := h t (by simp)
    have hw : (zs.length / B : Nat) ≤ chunks zs.length B := whole_le hB
    rw [madeOf_cons] at hl ⊢
    unfold applyGo
    rw [if_pos (fitsB_iff.2 ⟨ht.1, ht.2.1, ht.2.2.1, fun h0 => ⟨(ht.2.2.2 h0).1, by have := (ht.2.2.2 h0).2; omega⟩⟩)]
    simp only [List.length_append] at hl
    rw [if_neg (by omega), apply_good hB r _ (fun u hu => h u (by simp [hu])) (by simp only [List.length_append]; omega)]
    simp
theorem apply_diff {zs ds : List Int} {B : Nat} (hB : 0 < B) (h : ds.length ≤ 300) : applyGo zs B [] (diffOf zs ds B) = .ok ds := by
  obtain ⟨h1, h2⟩ := good_diffOf (zs := zs) (ds := ds) hB
  rw [apply_good hB _ _ h1 (by rw [h2]; simpa using h), h2]; rfl

/-- how many bytes stand as they are -/
def lits : List Tok → Nat
  | [] => 0
  | t :: r => t.data.length + lits r
theorem lits_append (a b : List Tok) : lits (a ++ b) = lits a + lits b := by
  induction a with
  | nil => simp [lits]
  | cons t r ih => simp only [List.cons_append, lits, ih]; omega
theorem lits_pushByte (out : List Tok) (x : Int) : lits (pushByte out x) = lits out + 1 := by
  rcases snoc_cases out with rfl | ⟨i, t, rfl⟩
  · rfl
  · rw [pushByte_snoc]; split <;> simp only [lits_append, lits, List.length_append, List.length_cons, List.length_nil] <;> omega
theorem lits_pushBlock (out : List Tok) (k : Int) : lits (pushBlock out k) = lits out := by
  rcases snoc_cases out with rfl | ⟨i, t, rfl⟩
  · rfl
  · rw [pushBlock_snoc]; split <;> simp [lits_append, lits]
theorem lits_bytes : ∀ (p : List Int) (out : List Tok), lits (p.foldl pushByte out) = lits out + p.length
  | [], out => rfl
  | x :: r, out => by rw [List.foldl_cons, lits_bytes r, lits_pushByte]; simp; omega
theorem lits_self {zs : List Int} {B : Nat} (hB : 0 < B) : ∀ (n i : Nat) (out : List Tok), zs.length / B - i ≤ n → lits (diffGo zs B out (zs.drop (i * B))) < lits out + B := by
  intro n
  induction n with
  | zero =>
    intro i out hn
    have hl : (zs.drop (i * B)).length < B := by
      have hi : zs.length / B ≤ i := by omega
      have := Nat.lt_mul_div_succ zs.length hB
      have h2 : B * (zs.length / B + 1) ≤ B * (i + 1) := Nat.mul_le_mul_left _ (by omega)
      have e1 := Nat.mul_add B (zs.length / B) 1
      have e2 := Nat.mul_add B i 1
      have e3 := Nat.mul_comm B i
      rw [List.length_drop]
      omega
    rw [diffGo_short hB _ _ hl, lits_bytes]; omega
  | succ n ih =>
    intro i out hn
    by_cases hi : i < zs.length / B
    · cases hf : findBlk zs B ((zs.drop (i * B)).take B) with
      | none => exact absurd rfl (findBlk_none.1 hf i hi)
      | some k =>
        rw [diffGo_hit hB hf, List.drop_drop, ← lits_pushBlock out k]
        rw [show i * B + B = (i + 1) * B by rw [Nat.add_mul]; omega]
        exact ih (i + 1) _ (by omega)
    · exact ih i out (by omega)
theorem lits_diffOf {zs : List Int} {B : Nat} (hB : 0 < B) : lits (diffOf zs zs B) < B := by
  have := lits_self (zs := zs) hB _ 0 [] (Nat.le_refl _)
  simpa [lits, diffOf] using this

theorem length_pushByte (out : List Tok) (x : Int) : (pushByte out x).length ≤ out.length + 1 := by
  rcases snoc_cases out with rfl | ⟨i, t, rfl⟩
  · simp [pushByte_nil]
  · rw [pushByte_snoc]; split <;> simp
theorem length_pushBlock (out : List Tok) (k : Int) : (pushBlock out k).length ≤ out.length + 1 := by
  rcases snoc_cases out with rfl | ⟨i, t, rfl⟩
  · simp [pushBlock_nil]
  · rw [pushBlock_snoc]; split <;> simp
theorem length_bytes : ∀ (p : List Int) (out : List Tok), (p.foldl pushByte out).length ≤ out.length + p.length
  | [], out => by simp
  | x :: r, out => by
    have h1 := length_bytes r (pushByte out x)
    have h2 := length_pushByte out x
    simp only [List.foldl_cons, List.length_cons]; omega

/-- numbers that a token holds -/
def Fair (t : Tok) : Prop := Bytes t.data ∧ t.data.length ≤ 255 ∧ 0 ≤ t.block ∧ t.block ≤ 300 ∧ 0 ≤ t.count ∧ t.count ≤ 255
def AllFair (out : List Tok) : Prop := ∀ t ∈ out, Fair t
theorem fair_snoc {l : List Tok} {t : Tok} : AllFair (l ++ [t]) ↔ AllFair l ∧ Fair t := by
  unfold AllFair
  constructor
  · intro h; exact ⟨fun u hu => h u (List.mem_append_left _ hu), h t (by simp)⟩
  · rintro ⟨h1, h2⟩ u hu
    rw [List.mem_append] at hu
    rcases hu with hu | hu
    · exact h1 u hu
    · simp at hu; subst hu; exact h2
theorem fair_pushByte {out : List Tok} (h : AllFair out) (x : Int) (hx : 0 ≤ x ∧ x < 256) : AllFair (pushByte out x) := by
  have hone : Fair ⟨0, 0, [x]⟩ := ⟨fun y hy => by simp at hy; subst hy; exact hx, by simp, by simp, by simp, by simp, by simp⟩
  rcases snoc_cases out with rfl | ⟨i, t, rfl⟩
  · intro t ht; simp [pushByte_nil] at ht; subst ht; exact hone
  · rw [pushByte_snoc]
    split
    · rename_i hc
      obtain ⟨h1, a, b, c⟩ := fair_snoc.1 h
      refine fair_snoc.2 ⟨h1, ⟨fun y hy => ?_, by simp; omega, c⟩⟩
      simp at hy
      rcases hy with hy | hy
      · exact a y hy
      · subst hy; exact hx
    · exact fair_snoc.2 ⟨h, hone⟩
theorem fair_pushBlock {out : List Tok} (h : AllFair out) (k : Nat) (hk : k ≤ 300) : AllFair (pushBlock out k) := by
  have hone : Fair ⟨k, 1, []⟩ := ⟨fun y hy => by simp at hy, by simp, by simp, by simp only; omega, by simp, by simp⟩
  rcases snoc_cases out with rfl | ⟨i, t, rfl⟩
  · intro t ht; simp [pushBlock_nil] at ht; subst ht; exact hone
  · rw [pushBlock_snoc]
    split
    · rename_i hc
      obtain ⟨h1, a, b, c, d, e, f⟩ := fair_snoc.1 h
      exact fair_snoc.2 ⟨h1, ⟨a, b, c, d, by simp only; omega, by simp only; omega⟩⟩
    · exact fair_snoc.2 ⟨h, hone⟩
theorem fair_bytes : ∀ (p : List Int) (out : List Tok), AllFair out → Bytes p → AllFair (p.foldl pushByte out)
  | [], out, h, _ => h
  | x :: r, out, h, hp => fair_bytes r _ (fair_pushByte h x (hp x (by simp))) (fun y hy => hp y (by simp [hy]))
end Go.Proofs.YtbhccdedcoajmabGreatDoor
