import Derived.Test.YtbhccdedcoajmaaGreatDoorAsFM
import Derived.Test.YtbhccdedcoajmaaGreatDoorMathM
import Derived.Lib.BufferWrite
import Derived.Laws.MakeOwn
import Derived.Laws.Rows
namespace Go.Proofs.YtbhccdedcoajmaaGreatDoor
open Go Go.RowKit

/-- what one token stands for -/
def partT (zs : List Int) (B : Nat) (t : Tok) : List Int := if t.count = 0 then t.data else (zs.drop (t.block.toNat * B)).take (t.count.toNat * B)
def fitsT (n : Nat) (t : Tok) : Prop := 0 ≤ t.count ∧ 0 ≤ t.block ∧ (t.count = 0 → t.block = 0) ∧ (0 < t.count → t.data = [] ∧ t.block + t.count ≤ n)
def fitsB (n : Nat) (t : Tok) : Bool := decide (0 ≤ t.count) && decide (0 ≤ t.block) && (if t.count = 0 then decide (t.block = 0) else decide (t.data = []) && decide (t.block + t.count ≤ n))
theorem fitsB_iff {n : Nat} {t : Tok} : fitsB n t = true ↔ fitsT n t := by
  unfold fitsB fitsT
  split
  · rename_i h
    simp only [Bool.and_eq_true, decide_eq_true_eq]
    constructor
    · rintro ⟨⟨a, b⟩, c⟩
      exact ⟨a, b, fun _ => c, fun e => by omega⟩
    · rintro ⟨a, b, c, _⟩
      exact ⟨⟨a, b⟩, c h⟩
  · rename_i h
    simp only [Bool.and_eq_true, decide_eq_true_eq]
    constructor
    · rintro ⟨⟨a, b⟩, c, d⟩
      exact ⟨a, b, fun e => absurd e h, fun _ => ⟨c, d⟩⟩
    · rintro ⟨a, b, _, d⟩
      exact ⟨⟨a, b⟩, d (by omega)⟩
theorem fitsB_not {n : Nat} {t : Tok} (h : ¬ fitsT n t) : ¬ fitsB n t = true := fun e => h (fitsB_iff.1 e)
def applyGo (zs : List Int) (B : Nat) : List Int → List Tok → Except Int (List Int)
  | made, [] => .ok made
  | made, t :: r => if fitsB (chunks zs.length B) t then (if 300 < made.length + (partT zs B t).length then .error 2 else applyGo zs B (made ++ partT zs B t) r) else .error 3
def madeOf (zs : List Int) (B : Nat) (ts : List Tok) : List Int := ts.flatMap (partT zs B)
theorem madeOf_nil (zs : List Int) (B : Nat) : madeOf zs B [] = [] := rfl
theorem madeOf_cons (zs : List Int) (B : Nat) (t : Tok) (l : List Tok) : madeOf zs B (t :: l) = partT zs B t ++ madeOf zs B l := by simp [madeOf]
theorem madeOf_snoc (zs : List Int) (B : Nat) (l : List Tok) (t : Tok) : madeOf zs B (l ++ [t]) = madeOf zs B l ++ partT zs B t := by simp [madeOf]

theorem whole_le {n B : Nat} (hB : 0 < B) : n / B ≤ chunks n B := by
  unfold chunks
  exact Nat.div_le_div_right (by omega)
/-- every token of a list speaks of whole blocks alone -/
def Good (zs : List Int) (B : Nat) (out : List Tok) : Prop := ∀ t ∈ out, fitsT (zs.length / B) t
theorem good_snoc {zs : List Int} {B : Nat} {l : List Tok} {t : Tok} : Good zs B (l ++ [t]) ↔ Good zs B l ∧ fitsT (zs.length / B) t := by
  unfold Good
  constructor
  · intro h; exact ⟨fun u hu => h u (List.mem_append_left _ hu), h t (by simp)⟩
  · rintro ⟨h1, h2⟩ u hu
    rw [List.mem_append] at hu
    rcases hu with hu | hu
    · exact h1 u hu
    · simp at hu; subst hu; exact h2
theorem fits_byte (n : Nat) (d : List Int) : fitsT n ⟨0, 0, d⟩ := ⟨by simp, by simp, by simp, by simp⟩
theorem good_pushByte {zs : List Int} {B : Nat} {out : List Tok} (h : Good zs B out) (x : Int) : Good zs B (pushByte out x) ∧ madeOf zs B (pushByte out x) = madeOf zs B out ++ [x] := by
  rcases snoc_cases out with rfl | ⟨i, t, rfl⟩
  · exact ⟨fun t ht => by simp [pushByte_nil] at ht; subst ht; exact fits_byte _ _, by simp [pushByte_nil, madeOf, partT]⟩
  · rw [pushByte_snoc]
    obtain ⟨h1, h2⟩ := good_snoc.1 h
    split
    · rename_i hc
      refine ⟨good_snoc.2 ⟨h1, ?_⟩, ?_⟩
      · obtain ⟨a, b, c, d⟩ := h2
        exact ⟨a, b, c, fun h => by simp only at h; omega⟩
      · rw [madeOf_snoc, madeOf_snoc]; simp [partT, hc.1]
    · exact ⟨good_snoc.2 ⟨h, fits_byte _ _⟩, by rw [madeOf_snoc]; simp [partT]⟩
theorem part_more (zs : List Int) (B b c : Nat) : (zs.drop (b * B)).take ((c + 1) * B) = (zs.drop (b * B)).take (c * B) ++ chunk zs B (b + c) := by
  rw [Nat.add_mul, Nat.one_mul, List.take_add, List.drop_drop]
  unfold chunk
  rw [Nat.add_mul]
theorem good_pushBlock {zs : List Int} {B : Nat} {out : List Tok} (h : Good zs B out) (k : Nat) (hk : k < zs.length / B) : Good zs B (pushBlock out k) ∧ madeOf zs B (pushBlock out k) = madeOf zs B out ++ chunk zs B k := by
  have hone : fitsT (zs.length / B) ⟨k, 1, []⟩ := ⟨by simp, by simp, by simp, fun _ => ⟨rfl, by simp only; omega⟩⟩
  have hpart : partT zs B ⟨k, 1, []⟩ = chunk zs B k := by simp [partT, chunk]
  rcases snoc_cases out with rfl | ⟨i, t, rfl⟩
  · exact ⟨fun t ht => by simp [pushBlock_nil] at ht; subst ht; exact hone, by rw [pushBlock_nil, madeOf_cons, hpart, madeOf_nil]; simp⟩
  · rw [pushBlock_snoc]
    obtain ⟨h1, h2⟩ := good_snoc.1 h
    split
    · rename_i hc
      obtain ⟨a, b, c, d⟩ := h2
      obtain ⟨d1, d2⟩ := d hc.1
      refine ⟨good_snoc.2 ⟨h1, ⟨by simp only; omega, b, fun h => by simp only at h; omega, fun _ => ⟨d1, by simp only; omega⟩⟩⟩, ?_⟩
      rw [madeOf_snoc, madeOf_snoc, List.append_assoc]
      congr 1
      simp only [partT]
      rw [if_neg (by omega), if_neg (by omega), show (t.count + 1).toNat = t.count.toNat + 1 by omega, part_more, show t.block.toNat + t.count.toNat = k by omega]
    · exact ⟨good_snoc.2 ⟨h, hone⟩, by rw [madeOf_snoc, hpart]⟩
theorem good_diffGo {zs : List Int} {B : Nat} (hB : 0 < B) : ∀ (n : Nat) (rest : List Int) (out : List Tok), rest.length ≤ n → Good zs B out → Good zs B (diffGo zs B out rest) ∧ madeOf zs B (diffGo zs B out rest) = madeOf zs B out ++ rest
  | _, [], out, _, h => by rw [diffGo_nil]; exact ⟨h, by simp⟩
  | 0, x :: r, out, hn, h => by simp at hn
  | n + 1, x :: r, out, hn, h => by
    cases hf : findBlk zs B ((x :: r).take B) with
    | none =>
      rw [diffGo_miss hf]
      obtain ⟨h1, h2⟩ := good_pushByte h x
      obtain ⟨h3, h4⟩ := good_diffGo hB n r _ (by simpa using hn) h1
      exact ⟨h3, by rw [h4, h2]; simp⟩
    | some k =>
      rw [diffGo_hit hB hf]
      obtain ⟨hk, e, _⟩ := findBlk_some.1 hf
      obtain ⟨h1, h2⟩ := good_pushBlock h k hk
      obtain ⟨h3, h4⟩ := good_diffGo hB n ((x :: r).drop B) _ (by rw [List.length_drop]; simp only [List.length_cons] at hn ⊢; omega) h1
      exact ⟨h3, by rw [h4, h2, e, List.append_assoc, List.take_append_drop]⟩
theorem good_diffOf {zs ds : List Int} {B : Nat} (hB : 0 < B) : Good zs B (diffOf zs ds B) ∧ madeOf zs B (diffOf zs ds B) = ds := by
  have := good_diffGo hB ds.length ds [] (Nat.le_refl _) (zs := zs) (fun t ht => by simp at ht)
  exact ⟨this.1, by rw [show diffOf zs ds B = diffGo zs B [] ds from rfl, this.2]; rfl⟩
theorem apply_good {zs : List Int} {B : Nat} (hB : 0 < B) : ∀ (ts : List Tok) (m : List Int), Good zs B ts → (m ++ madeOf zs B ts).length ≤ 300 → applyGo zs B m ts = .ok (m ++ madeOf zs B ts)
  | [], m, _, _ => by simp [applyGo, madeOf]
  | t :: r, m, h, hl => by
    have ht := h t (by simp)
    have hw : (zs.length / B : Nat) ≤ chunks zs.length B := whole_le hB
    rw [madeOf_cons] at hl ⊢
    unfold applyGo
    rw [if_pos (fitsB_iff.2 ⟨ht.1, ht.2.1, ht.2.2.1, fun h0 => ⟨(ht.2.2.2 h0).1, by have := (ht.2.2.2 h0).2; omega⟩⟩)]
    simp only [List.length_append] at hl
    rw [if_neg (by omega), apply_good hB r _ (fun u hu => h u (by simp [hu])) (by simp only [List.length_append]; omega)]
    simp
theorem apply_diff {zs ds : List Int} {B : Nat} (hB : 0 < B) (h : ds.length ≤ 300) : applyGo zs B [] (diffOf zs ds B) = .ok ds := by
  obtain ⟨h1, h2⟩ := good_diffOf (zs := zs) (ds := ds) hB
  rw [apply_good hB _ _ h1 (by rw [h2]; simpa using h), h2]; rfl

/-- how many bytes stand as they are -/
def lits : List Tok → Nat
  | [] => 0
  | t :: r => t.data.length + lits r
theorem lits_append (a b : List Tok) : lits (a ++ b) = lits a + lits b := by
  induction a with
  | nil => simp [lits]
  | cons t r ih => simp only [List.cons_append, lits, ih]; omega
theorem lits_pushByte (out : List Tok) (x : Int) : lits (pushByte out x) = lits out + 1 := by
  rcases snoc_cases out with rfl | ⟨i, t, rfl⟩
  · rfl
  · rw [pushByte_snoc]; split <;> simp only [lits_append, lits, List.length_append, List.length_cons, List.length_nil] <;> omega
theorem lits_pushBlock (out : List Tok) (k : Int) : lits (pushBlock out k) = lits out := by
  rcases snoc_cases out with rfl | ⟨i, t, rfl⟩
  · rfl
  · rw [pushBlock_snoc]; split <;> simp [lits_append, lits]
theorem lits_bytes : ∀ (p : List Int) (out : List Tok), lits (p.foldl pushByte out) = lits out + p.length
  | [], out => rfl
  | x :: r, out => by rw [List.foldl_cons, lits_bytes r, lits_pushByte]; simp; omega
theorem lits_self {zs : List Int} {B : Nat} (hB : 0 < B) : ∀ (n i : Nat) (out : List Tok), zs.length / B - i ≤ n → lits (diffGo zs B out (zs.drop (i * B))) < lits out + B := by
  intro n
  induction n with
  | zero =>
    intro i out hn
    have hl : (zs.drop (i * B)).length < B := by
      have hi : zs.length / B ≤ i := by omega
      have := Nat.lt_mul_div_succ zs.length hB
      have h2 : B * (zs.length / B + 1) ≤ B * (i + 1) := Nat.mul_le_mul_left _ (by omega)
      have e1 := Nat.mul_add B (zs.length / B) 1
      have e2 := Nat.mul_add B i 1
      have e3 := Nat.mul_comm B i
      rw [List.length_drop]
      omega
    rw [diffGo_short hB _ _ hl, lits_bytes]; omega
  | succ n ih =>
    intro i out hn
    by_cases hi : i < zs.length / B
    · cases hf : findBlk zs B ((zs.drop (i * B)).take B) with
      | none => exact absurd rfl (findBlk_none.1 hf i hi)
      | some k =>
        rw [diffGo_hit hB hf, List.drop_drop, ← lits_pushBlock out k]
        rw [show i * B + B = (i + 1) * B by rw [Nat.add_mul]; omega]
        exact ih (i + 1) _ (by omega)
    · exact ih i out (by omega)
theorem lits_diffOf {zs : List Int} {B : Nat} (hB : 0 < B) : lits (diffOf zs zs B) < B := by
  have := lits_self (zs := zs) hB _ 0 [] (Nat.le_refl _)
  simpa [lits, diffOf] using this

theorem length_pushByte (out : List Tok) (x : Int) : (pushByte out x).length ≤ out.length + 1 := by
  rcases snoc_cases out with rfl | ⟨i, t, rfl⟩
  · simp [pushByte_nil]
  · rw [pushByte_snoc]; split <;> simp
theorem length_pushBlock (out : List Tok) (k : Int) : (pushBlock out k).length ≤ out.length + 1 := by
  rcases snoc_cases out with rfl | ⟨i, t, rfl⟩
  · simp [pushBlock_nil]
  · rw [pushBlock_snoc]; split <;> simp
theorem length_bytes : ∀ (p : List Int) (out : List Tok), (p.foldl pushByte out).length ≤ out.length + p.length
  | [], out => by simp
  | x :: r, out => by
    have h1 := length_bytes r (pushByte out x)
    have h2 := length_pushByte out x
    simp only [List.foldl_cons, List.length_cons]; omega

/-- numbers that a token holds -/
def Fair (t : Tok) : Prop := Bytes t.data ∧ t.data.length ≤ 255 ∧ 0 ≤ t.block ∧ t.block ≤ 300 ∧ 0 ≤ t.count ∧ t.count ≤ 255
def AllFair (out : List Tok) : Prop := ∀ t ∈ out, Fair t
theorem fair_snoc {l : List Tok} {t : Tok} : AllFair (l ++ [t]) ↔ AllFair l ∧ Fair t := by
  unfold AllFair
  constructor
  · intro h; exact ⟨fun u hu => h u (List.mem_append_left _ hu), h t (by simp)⟩
  · rintro ⟨h1, h2⟩ u hu
    rw [List.mem_append] at hu
    rcases hu with hu | hu
    · exact h1 u hu
    · simp at hu; subst hu; exact h2
theorem fair_pushByte {out : List Tok} (h : AllFair out) (x : Int) (hx : 0 ≤ x ∧ x < 256) : AllFair (pushByte out x) := by
  have hone : Fair ⟨0, 0, [x]⟩ := ⟨fun y hy => by simp at hy; subst hy; exact hx, by simp, by simp, by simp, by simp, by simp⟩
  rcases snoc_cases out with rfl | ⟨i, t, rfl⟩
  · intro t ht; simp [pushByte_nil] at ht; subst ht; exact hone
  · rw [pushByte_snoc]
    split
    · rename_i hc
      obtain ⟨h1, a, b, c⟩ := fair_snoc.1 h
      refine fair_snoc.2 ⟨h1, ⟨fun y hy => ?_, by simp; omega, c⟩⟩
      simp at hy
      rcases hy with hy | hy
      · exact a y hy
      · subst hy; exact hx
    · exact fair_snoc.2 ⟨h, hone⟩
theorem fair_pushBlock {out : List Tok} (h : AllFair out) (k : Nat) (hk : k ≤ 300) : AllFair (pushBlock out k) := by
  have hone : Fair ⟨k, 1, []⟩ := ⟨fun y hy => by simp at hy, by simp, by simp, by simp only; omega, by simp, by simp⟩
  rcases snoc_cases out with rfl | ⟨i, t, rfl⟩
  · intro t ht; simp [pushBlock_nil] at ht; subst ht; exact hone
  · rw [pushBlock_snoc]
    split
    · rename_i hc
      obtain ⟨h1, a, b, c, d, e, f⟩ := fair_snoc.1 h
      exact fair_snoc.2 ⟨h1, ⟨a, b, c, d, by simp only; omega, by simp only; omega⟩⟩
    · exact fair_snoc.2 ⟨h, hone⟩
theorem fair_bytes : ∀ (p : List Int) (out : List Tok), AllFair out → Bytes p → AllFair (p.foldl pushByte out)
  | [], out, h, _ => h
  | x :: r, out, h, hp => fair_bytes r _ (fair_pushByte h x (hp x (by simp))) (fun y hy => hp y (by simp [hy]))
end Go.Proofs.YtbhccdedcoajmaaGreatDoor
namespace Go.Proofs.YtbhccdedcoajmaaGreatDoor
open Go Go.RowKit

/-- a number in n bytes, the highest first -/
def putN : Nat → Int → List Int
  | 0, _ => []
  | n + 1, v => v / 256 ^ n % 256 :: putN n v
/-- the number that bytes say -/
def getN (l : List Int) : Int := l.foldl (fun v x => 256 * v + x) 0
theorem putN_length (n : Nat) (v : Int) : (putN n v).length = n := by
  induction n with
  | zero => rfl
  | succ n ih => simp [putN, ih]
theorem putN_bytes (n : Nat) (v : Int) : Bytes (putN n v) := by
  induction n with
  | zero => intro x hx; simp [putN] at hx
  | succ n ih =>
    intro x hx
    simp only [putN, List.mem_cons] at hx
    rcases hx with rfl | hx
    · omega
    · exact ih x hx
theorem getN_snoc (l : List Int) (x : Int) : getN (l ++ [x]) = 256 * getN l + x := by simp [getN, List.foldl_append]
theorem foldl_put (n : Nat) : ∀ (v a : Int), 0 ≤ v → (putN n v).foldl (fun v x => 256 * v + x) a = 256 ^ n * a + v % 256 ^ n := by
  induction n with
  | zero => intro v a _; simp [putN]
  | succ n ih =>
    intro v a hv
    simp only [putN, List.foldl_cons]
    rw [ih v _ hv]
    obtain ⟨k, rfl⟩ : ∃ k : Nat, v = k := ⟨v.toNat, by omega⟩
    have e : (k : Int) % (256 ^ n * 256) = (k : Int) % 256 ^ n + 256 ^ n * ((k : Int) / 256 ^ n % 256) := by
      have hP : (256 : Int) ^ n = ((256 ^ n : Nat) : Int) := (Int.natCast_pow 256 n).symm
      rw [hP]
      generalize 256 ^ n = P
      have h := congrArg (fun x : Nat => (x : Int)) (Nat.mod_mul : k % (P * 256) = k % P + P * (k / P % 256))
      simp only [Int.natCast_emod, Int.natCast_mul, Int.natCast_add, Int.natCast_ediv] at h
      exact h
    rw [Int.pow_succ, e, Int.mul_add, ← Int.mul_assoc, Int.add_assoc]
    omega
theorem getN_putN {n : Nat} {v : Int} (h0 : 0 ≤ v) (h1 : v < 256 ^ n) : getN (putN n v) = v := by
  unfold getN
  rw [foldl_put n v 0 h0, Int.mul_zero, Int.zero_add, Int.emod_eq_of_lt h0 h1]

/-- a file, as plain data -/
structure Fil where
  name : List Int
  data : List Int
def entryL (f : Fil) : List Int := (f.name.length : Int) :: (f.name ++ (putN 2 f.data.length ++ putN 8 (digestOf f.data)))
def tokL (t : Tok) : List Int := if t.count = 0 then 0 :: (t.data.length : Int) :: t.data else 1 :: (putN 2 t.block ++ [t.count])
def findL (l : List Fil) (name : List Int) : List Int := match l.find? (fun f => decide (f.name = name)) with | some f => f.data | none => []
def targetL (ref : List Fil) (B : Nat) (f : Fil) : List Int :=
  entryL f ++ (putN 2 (diffOf (findL ref f.name) f.data B).length ++ (diffOf (findL ref f.name) f.data B).flatMap tokL)
def bodyL (src ref : List Fil) (B : Nat) : List Int :=
  66 :: 65 :: 84 :: (B : Int) :: (ref.length : Int) :: (ref.flatMap entryL ++ ((src.length : Int) :: src.flatMap (targetL ref B)))
def recordL (src ref : List Fil) (B : Nat) : List Int := bodyL src ref B ++ putN 8 (digestOf (bodyL src ref B))

/-- is it a name? -/
def nameB (l : List Int) : Bool := decide (1 ≤ l.length) && decide (l.length ≤ 12) && l.all fun c => decide (97 ≤ c ∧ c ≤ 122) || decide (48 ≤ c ∧ c ≤ 57) || decide (c = 46) || decide (c = 47)
/-- texts by their bytes -/
def ltL : List Int → List Int → Bool
  | [], [] => false
  | [], _ :: _ => true
  | _ :: _, [] => false
  | a :: r, b :: s => decide (a < b) || (decide (a = b) && ltL r s)
end Go.Proofs.YtbhccdedcoajmaaGreatDoor
namespace Go.Proofs.YtbhccdedcoajmaaGreatDoor
open Go Go.RowKit

/-- what is told of a file -/
structure EntL where
  name : List Int
  size : Int
  digest : Int
structure BatL where
  block : Int
  basis : List EntL
  targets : List (EntL × List Tok)

def numP (n : Nat) (l : List Int) : Option (Int × List Int) := if l.length < n then none else some (getN (l.take n), l.drop n)
def txtP (n : Nat) (l : List Int) : Option (List Int × List Int) := if l.length < n then none else some (l.take n, l.drop n)

def entryP (first : Bool) (last l : List Int) : Option (EntL × List Int) := do
  let (n, l) ← numP 1 l
  let (name, l) ← txtP n.toNat l
  if nameB name && (first || ltL last name) then
    let (size, l) ← numP 2 l
    if size ≤ 300 then
      let (d, l) ← numP 8 l
      some (⟨name, size, d⟩, l)
    else none
  else none
def basisP : Nat → Bool → List Int → List Int → Option (List EntL × List Int)
  | 0, _, _, l => some ([], l)
  | n + 1, first, last, l => do
    let (e, l) ← entryP first last l
    let (r, l) ← basisP n false e.name l
    some (e :: r, l)
/-- how many bytes a token makes -/
def madeP (size B : Nat) (t : Tok) : Int := if t.count = 0 then t.data.length else min ((t.block + t.count) * B) size - t.block * B
def tokP (size B : Nat) (l : List Int) : Option (Tok × List Int) := do
  let (kind, l) ← numP 1 l
  if kind = 0 then
    let (k, l) ← numP 1 l
    if 0 < k then
      let (t, l) ← txtP k.toNat l
      some (⟨0, 0, t⟩, l)
    else none
  else if kind = 1 then
    let (b, l) ← numP 2 l
    let (k, l) ← numP 1 l
    if 0 < k ∧ b + k ≤ chunks size B then some (⟨b, k, []⟩, l) else none
  else none
def toksP (size B : Nat) : Nat → List Int → Option (List Tok × List Int)
  | 0, l => some ([], l)
  | n + 1, l => do
    let (t, l) ← tokP size B l
    let (r, l) ← toksP size B n l
    some (t :: r, l)
def sizeOfL (basis : List EntL) (name : List Int) : Int := basis.foldl (fun z e => if e.name = name then e.size else z) 0
def targetsP (basis : List EntL) (B : Nat) : Nat → Bool → List Int → List Int → Option (List (EntL × List Tok) × List Int)
  | 0, _, _, l => some ([], l)
  | n + 1, first, last, l => do
    let (e, l) ← entryP first last l
    let (k, l) ← numP 2 l
    let (ts, l) ← toksP (sizeOfL basis e.name).toNat B k.toNat l
    if (ts.map (madeP (sizeOfL basis e.name).toNat B)).sum = e.size then
      let (r, l) ← targetsP basis B n false e.name l
      some ((e, ts) :: r, l)
    else none
def readL (s : List Int) : Option BatL := do
  let (head, l) ← txtP 3 s
  if head = [66, 65, 84] then
    let (block, l) ← numP 1 l
    if 1 ≤ block ∧ block ≤ 64 then
      let (n, l) ← numP 1 l
      if n ≤ 8 then
        let (basis, l) ← basisP n.toNat true [] l
        let (m, l) ← numP 1 l
        if m ≤ 8 then
          let (targets, l) ← targetsP basis block.toNat m.toNat true [] l
          let (d, l') ← numP 8 l
          if l' = [] ∧ d = digestOf (s.take (s.length - l.length)) then some ⟨block, basis, targets⟩ else none
        else none
      else none
    else none
  else none
end Go.Proofs.YtbhccdedcoajmaaGreatDoor
namespace Go.Proofs.YtbhccdedcoajmaaGreatDoor
open Go.RowKit

def u8s (l : List Int) : List Value := l.map (Value.int .u8)
theorem u8s_nums (s : ByteArray) : Lib.byteCells s.data.toList = u8s (nums s) := by simp [Lib.byteCells, u8s, nums, Function.comp_def]
theorem cell_row {w : World} {b k : Nat} {cs : Array Value} {t : TypeId} {fr : Nat × Nat} {v : Value} (h : w.heap[b]? = some (.cells cs t fr)) (hk : cs[k]? = some v) : w.cell? ⟨b, k, none⟩ = some v := by
  simp [World.cell?, h, hk]
theorem Tryz.info5 : (Tryz.prog.info? 5).map (fun i => (i.zero, i.size, i.bytes)) = some (some (.int .u8 0), 1, 1) := by kernel_rfl
theorem Tryz.size5 : (Tryz.prog.info? 5).map (·.size) = some 1 := by kernel_rfl

theorem wpList_copy_run {P : Program} (w : World) {ops : Array Oper} {rest : List Oper} {o : Oper} {a : Act} {Q : Exit → Act → World → Prop} (hgd : o.guard = none) (d s : Operand) (t t' : TypeId)
    (ho : o.op = .call { callee := .builtin .copy, args := #[d, s], argTypes := #[t, t'] }) (v u : Value) (hd : a.eval d = v) (hs : a.eval s = u) {v' : Value} {w' : World}
    (hr : (Builtin.copy_ #[t, t'] o.type #[v, u]).run P w = .ok v' w') (h : wpList P ops Q rest (a.put o.dst v') w') : wpList P ops Q (o :: rest) a w :=
  wpList_plain hgd fun _ hK => by
    unfold Oper.wp execOp
    simp only [ho, resolve, invoke, builtin, Sem.run_bind, Sem.run_pure, Result.andThen_ok, List.map_toArray, List.map_cons, List.map_nil, hd, hs, hr]
    exact hK _ _ h

/-- the row that 'roomy' lays: the bytes, then the two marks -/
theorem roomy_row (l M : List Value) (x y : Value) (hM : M.length = l.length + 2) :
    (((l ++ M.drop l.length).toArray.set! l.length x).set! (l.length + 1) y) = (l ++ [x, y]).toArray := by
  obtain ⟨p, q, h⟩ : ∃ p q, M.drop l.length = [p, q] := by
    have h2 : (M.drop l.length).length = 2 := by rw [List.length_drop]; omega
    match M.drop l.length, h2 with
    | [p, q], _ => exact ⟨p, q, rfl⟩
  rw [h]; apply Array.ext'; simp

set_option maxRecDepth 10000 in
set_option maxHeartbeats 400000 in
theorem roomy_any (s : ByteArray) (hm : s.size ≤ 70000) (w : World) :
    Calls Tryz.prog 27 #[.string s] w fun e w' => e = .returned (.slice (some ⟨w.heap.size, 0, none⟩) s.size (s.size + 2)) ∧
      w'.heap[w.heap.size]? = some (.cells (u8s (nums s) ++ [Value.int .u8 77, Value.int .u8 88]).toArray 5 (0, 0)) ∧ Below w.heap.size w w' := by
  obtain ⟨i0, hi, hz0, hz1, hz2⟩ := info_parts Tryz.info5
  have hmk : (Instr.makeSlice 38 (.int .i64 ((s.size : Int) + 2)) (.int .i64 ((s.size : Int) + 2))).run Tryz.prog w = .ok (.slice (some ⟨w.heap.size, 0, none⟩) (s.size + 2) (s.size + 2)) (w.alloc (.cells (madeCells #[.int .u8 0] (s.size + 2)) 5)) := by
    have := run_make (P := Tryz.prog) w 38 5 i0 _ Tryz.underlying38 hi hz0 .i64 .i64 ((s.size : Int) + 2) ((s.size : Int) + 2) (by omega) (by omega) (by rw [hz2]; omega) (by omega)
    rw [hz1] at this
    rw [show ((s.size : Int) + 2).toNat = s.size + 2 by omega, Nat.mul_one] at this
    exact this
  obtain ⟨M, hM⟩ : ∃ M, M = madeCells #[.int .u8 0] (s.size + 2) := ⟨_, rfl⟩
  have hMs : M.size = s.size + 2 := by rw [hM]; exact size_madeCells _ _
  rw [← hM] at hmk
  clear hM hi hz0 hz1 hz2
  have HMs := hide hMs
  have hg0 : (w.alloc (.cells M 5)).heap[w.heap.size]? = some (.cells M 5 (0, 0)) := heap_alloc_new _ _
  have hcp := Lib.run_copy_row_string (P := Tryz.prog) (w.alloc (.cells M 5)) 38 9 3 5 w.heap.size 0 (s.size + 2) (s.size + 2) s M 5 Tryz.underlying38 Tryz.size5 hg0 (by omega) (by omega)
  rw [u8s_nums] at hcp
  have hl : (u8s (nums s)).length = s.size := by simp [u8s, nums_length]
  obtain ⟨p, q, hD⟩ : ∃ p q, M.toList.drop s.size = [p, q] := by
    have h2 : (M.toList.drop s.size).length = 2 := by rw [List.length_drop, Array.length_toList]; omega
    match M.toList.drop s.size, h2 with
    | [p, q], _ => exact ⟨p, q, rfl⟩
  obtain ⟨W1, hW1⟩ : ∃ W1, W1 = (w.alloc (.cells M 5)).setRow w.heap.size (List.take 0 M.toList ++ u8s (nums s) ++ List.drop (0 + s.size) M.toList).toArray := ⟨_, rfl⟩
  rw [← hW1] at hcp
  have hg1 : W1.heap[w.heap.size]? = some (.cells (u8s (nums s) ++ [p, q]).toArray 5 (0, 0)) := by
    rw [hW1, setRow_heap _ _ _ _ 5 (0, 0) hg0]
    rw [List.take_zero, List.nil_append, Nat.zero_add, hD]
  have hb1 : Below w.heap.size w W1 := by
    rw [hW1]
    exact (((Below.refl _ _).alloc (Nat.le_refl _) _).trans ⟨rfl, rfl, rfl, by simp [World.setRow], fun k hk => setRow_other _ _ k _ (by omega)⟩)
  have hc1 : W1.cell? ⟨w.heap.size, s.size, none⟩ = some p := cell_row hg1 (by rw [List.getElem?_toArray, List.getElem?_append_right (by omega), hl]; simp)
  have hc2 : W1.cell? ⟨w.heap.size, s.size + 1, none⟩ = some q := cell_row hg1 (by rw [List.getElem?_toArray, List.getElem?_append_right (by omega), hl]; simp)
  have hf : ∀ j, W1.frozen? ⟨w.heap.size, j, none⟩ = false := fun j => frozen_of_row _ _ _ _ _ hg1
  have HG := hide hg1
  have HB := hide hb1
  have HL := hide hl
  clear hMs hg1 hb1 hW1 hg0 hl hD HMs
  go_enter Tryz.func27, Tryz.ntmps27
  go_wp2_with fail
  go_ret
  refine ⟨rfl, ?_, (HB.out.setCell (Nat.le_refl _) _).setCell (Nat.le_refl _) _⟩
  rw [heap_setCell_same _ _ _ _ _ _ (heap_setCell_same _ _ _ _ _ _ HG.out)]
  have := HL.out
  congr 2
  apply Array.ext'
  simp [this]

set_option maxRecDepth 10000 in
set_option maxHeartbeats 400000 in
theorem still_any (s : ByteArray) (hm : s.size ≤ 70000) (b : Nat) (w : World) (hg : w.heap[b]? = some (.cells (u8s (nums s) ++ [Value.int .u8 77, Value.int .u8 88]).toArray 5 (0, 0))) :
    Calls Tryz.prog 29 #[.slice (some ⟨b, 0, none⟩) s.size (s.size + 2), .string s] w fun e w' => e = .returned (.bool true) ∧ w' = w := by
  have hl : (u8s (nums s)).length = s.size := by simp [u8s, nums_length]
  have hc1 : w.cell? ⟨b, s.size, none⟩ = some (.int .u8 77) := cell_row hg (by rw [List.getElem?_toArray, List.getElem?_append_right (by omega), hl]; simp)
  have hc2 : w.cell? ⟨b, s.size + 1, none⟩ = some (.int .u8 88) := cell_row hg (by rw [List.getElem?_toArray, List.getElem?_append_right (by omega), hl]; simp)
  have hcv : (convert 38 9 (.slice (some ⟨b, 0, none⟩) s.size (s.size + 2))).run Tryz.prog w = .ok (.string s) w := by
    have := run_convert_bytes_back (P := Tryz.prog) w 38 9 5 ⟨b, 0, none⟩ (s.size + 2) s.data.toList Tryz.underlying38 Tryz.underlying5 Tryz.underlying9 (by
      intro j hj
      have hj' : j < s.size := by simpa using hj
      have := nums_at s j hj'
      refine (by simp [Addr.add]; omega : (Addr.add ⟨b, 0, none⟩ j) = ⟨b, j, none⟩) ▸ cell_row hg ?_
      rw [List.getElem?_toArray, List.getElem?_append_left (by omega)]
      simp only [u8s, List.getElem?_map, List.getElem?_eq_getElem (show j < (nums s).length by rw [nums_length]; exact hj'), Option.map_some]
      rw [this]; rfl)
    simpa using this
  clear hl hg
  go_enter Tryz.func29, Tryz.ntmps29
  go_wp2_with fail
  go_ret
  exact ⟨rfl, rfl⟩

theorem row_cells {s : ByteArray} {b : Nat} {w : World} (hg : w.heap[b]? = some (.cells (u8s (nums s) ++ [Value.int .u8 77, Value.int .u8 88]).toArray 5 (0, 0))) :
    ∀ k (h : k < (nums s).length), w.cell? ⟨b, 0 + k, none⟩ = some (.int .u8 (nums s)[k]) := by
  intro k h
  rw [Nat.zero_add]
  refine cell_row hg ?_
  rw [List.getElem?_toArray, List.getElem?_append_left (by simpa [u8s] using h)]
  simp [u8s, List.getElem?_eq_getElem h]
end Go.Proofs.YtbhccdedcoajmaaGreatDoor
