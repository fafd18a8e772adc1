import Derived.Test.YtbhccdedcoajmaaDoorMath
import Derived.OwnWalk
namespace Go.Proofs.YtbhccdedcoajmaaDoor
open Go Go.RowKit

/-- block number i of a file, the last one perhaps shorter -/
def chunk (zs : List Int) (B i : Nat) : List Int := (zs.drop (i * B)).take B
def chunks (n B : Nat) : Nat := (n + B - 1) / B
theorem lt_chunks {n B k : Nat} (hB : 0 < B) : k < chunks n B ↔ k * B < n := by
  unfold chunks
  rw [Nat.lt_iff_add_one_le, Nat.le_div_iff_mul_le hB, Nat.add_mul]
  omega
theorem chunks_le {n B : Nat} (hB : 0 < B) : chunks n B ≤ n := by
  rcases Nat.lt_or_ge n (chunks n B) with h | h
  · have := (lt_chunks hB).1 h
    have := Nat.le_mul_of_pos_right n hB
    omega
  · exact h
theorem chunk_length (zs : List Int) (B i : Nat) : (chunk zs B i).length = min B (zs.length - i * B) := by simp [chunk]
theorem Bytes.chunk {zs : List Int} (h : Bytes zs) (B i : Nat) : Bytes (chunk zs B i) := (h.drop _).take _
theorem chunk_at {zs : List Int} {B i k : Nat} (h : k < (chunk zs B i).length) : ∃ h' : i * B + k < zs.length, (chunk zs B i)[k] = zs[i * B + k] := by
  have hl := chunk_length zs B i
  exact ⟨by omega, by simp [chunk]⟩

/-- what Sign tells of one block, as cells -/
def sumCells (c : List Int) : List Value := [.int .i64 c.length, .int .u32 (weakOf c), .int .u64 (digestOf c)]
def signCells (zs : List Int) (B k : Nat) : List Value := (List.range k).flatMap fun i => sumCells (chunk zs B i)
theorem signCells_zero (zs : List Int) (B : Nat) : signCells zs B 0 = [] := rfl
theorem signCells_succ (zs : List Int) (B k : Nat) : signCells zs B (k + 1) = signCells zs B k ++ sumCells (chunk zs B k) := by
  simp [signCells, List.range_succ, List.flatMap_append]
theorem signCells_length (zs : List Int) (B k : Nat) : (signCells zs B k).length = k * 3 := by
  induction k with
  | zero => rfl
  | succ k ih => rw [signCells_succ, List.length_append, ih]; simp [sumCells]; omega
theorem signCells_at (zs : List Int) (B k i j : Nat) (hi : i < k) (hj : j < 3) : (signCells zs B k)[i * 3 + j]? = (sumCells (chunk zs B i))[j]? := by
  induction k with
  | zero => omega
  | succ k ih =>
    rw [signCells_succ]
    by_cases h : i < k
    · rw [List.getElem?_append_left (by rw [signCells_length]; omega)]; exact ih h
    · obtain rfl : i = k := by omega
      rw [List.getElem?_append_right (by rw [signCells_length]; omega), signCells_length]
      rw [show i * 3 + j - i * 3 = j by omega]

theorem nums_extract (t : ByteArray) (i j : Nat) : nums (t.extract i j) = ((nums t).drop i).take (j - i) := by
  simp [nums, ByteArray.data_extract, Array.toList_extract, List.map_drop, List.map_take]

theorem grownBy_of_below {w w' : World} (h : Below w.heap.size w w') : w.grownBy w' none := ⟨h.os, h.tape, h.output, h.size, fun k hk _ => h.block k hk⟩
theorem ownsRow_below {w w' : World} {base : Nat} {e : TypeId} {size : Nat} {v : Value} {n : Nat} {xs : List Value} (h : w.ownsRow base e size v n xs) (hb : Below w.heap.size w w') : w'.ownsRow base e size v n xs := by
  refine h.kept (grownBy_of_below hb) ?_
  cases hv : v.ownBlock with
  | none => exact .inl rfl
  | some k => exact .inr (by simp)
theorem below_seq {B : Nat} {a b c : World} (h : Below B a b) (k : Below b.heap.size b c) (hB : B ≤ b.heap.size) : Below B a c := h.trans (k.mono hB)
theorem below_all {a b c : World} (h : Below a.heap.size a b) (k : Below b.heap.size b c) : Below a.heap.size a c := below_seq h k h.size
end Go.Proofs.YtbhccdedcoajmaaDoor
namespace Go.Proofs.YtbhccdedcoajmaaDoor
open Go Go.RowKit

/-- a token, as plain data -/
structure Tok where
  block : Int
  count : Int
  data : List Int

def pushByte (out : List Tok) (x : Int) : List Tok :=
  match out.getLast? with
  | some t => if t.count = 0 ∧ t.data.length < 255 then out.dropLast ++ [⟨t.block, t.count, t.data ++ [x]⟩] else out ++ [⟨0, 0, [x]⟩]
  | none => [⟨0, 0, [x]⟩]
def pushBlock (out : List Tok) (k : Int) : List Tok :=
  match out.getLast? with
  | some t => if 0 < t.count ∧ t.count < 255 ∧ t.block + t.count = k then out.dropLast ++ [⟨t.block, t.count + 1, t.data⟩] else out ++ [⟨k, 1, []⟩]
  | none => [⟨k, 1, []⟩]
theorem pushByte_nil (x : Int) : pushByte [] x = [⟨0, 0, [x]⟩] := rfl
theorem pushByte_snoc (l : List Tok) (t : Tok) (x : Int) : pushByte (l ++ [t]) x = if t.count = 0 ∧ t.data.length < 255 then l ++ [⟨t.block, t.count, t.data ++ [x]⟩] else (l ++ [t]) ++ [⟨0, 0, [x]⟩] := by
  simp [pushByte]
theorem pushBlock_nil (k : Int) : pushBlock [] k = [⟨k, 1, []⟩] := rfl
theorem pushBlock_snoc (l : List Tok) (t : Tok) (k : Int) : pushBlock (l ++ [t]) k = if 0 < t.count ∧ t.count < 255 ∧ t.block + t.count = k then l ++ [⟨t.block, t.count + 1, t.data⟩] else (l ++ [t]) ++ [⟨k, 1, []⟩] := by
  simp [pushBlock]
theorem snoc_cases {α : Type} (l : List α) : l = [] ∨ ∃ i t, l = i ++ [t] := by
  rcases l.eq_nil_or_concat with h | ⟨i, t, h⟩
  · exact .inl h
  · exact .inr ⟨i, t, by simpa using h⟩

/-- the least whole block that is p -/
def findBlk (zs : List Int) (B : Nat) (p : List Int) : Option Nat := (List.range (zs.length / B)).find? fun i => decide (chunk zs B i = p)
theorem findBlk_some {zs : List Int} {B : Nat} {p : List Int} {i : Nat} : findBlk zs B p = some i ↔ i < zs.length / B ∧ chunk zs B i = p ∧ ∀ j, j < i → chunk zs B j ≠ p := by
  unfold findBlk
  rw [List.find?_range_eq_some]
  simp
  constructor
  · rintro ⟨h1, h2, h3⟩; exact ⟨h2, h1, h3⟩
  · rintro ⟨h1, h2, h3⟩; exact ⟨h2, h1, h3⟩
theorem findBlk_none {zs : List Int} {B : Nat} {p : List Int} : findBlk zs B p = none ↔ ∀ j, j < zs.length / B → chunk zs B j ≠ p := by
  unfold findBlk
  rw [List.find?_range_eq_none]
  simp
theorem whole_chunk {zs : List Int} {B i : Nat} (hB : 0 < B) (h : i < zs.length / B) : (i + 1) * B ≤ zs.length ∧ (chunk zs B i).length = B := by
  have h1 : (i + 1) * B ≤ zs.length := (Nat.le_div_iff_mul_le hB).1 h
  have h2 := chunk_length zs B i
  rw [Nat.add_mul] at h1
  refine ⟨by rw [Nat.add_mul]; exact h1, by omega⟩
theorem findBlk_short {zs : List Int} {B : Nat} {p : List Int} (hB : 0 < B) (h : p.length < B) : findBlk zs B p = none := by
  rw [findBlk_none]
  intro j hj e
  have := (whole_chunk hB hj).2
  rw [e] at this; omega

def diffGo (zs : List Int) (B : Nat) (out : List Tok) (rest : List Int) : List Tok :=
  match rest with
  | [] => out
  | x :: r =>
    match findBlk zs B ((x :: r).take B) with
    | some k => diffGo zs B (pushBlock out k) (r.drop (B - 1))
    | none => diffGo zs B (pushByte out x) r
  termination_by rest.length
  decreasing_by
    · simp only [List.length_drop, List.length_cons]; omega
    · simp

theorem diffGo_nil (zs : List Int) (B : Nat) (out : List Tok) : diffGo zs B out [] = out := by rw [diffGo]
theorem diffGo_hit {zs : List Int} {B : Nat} (hB : 0 < B) {out : List Tok} {rest : List Int} {k : Nat} (h : findBlk zs B (rest.take B) = some k) : diffGo zs B out rest = diffGo zs B (pushBlock out k) (rest.drop B) := by
  match rest, h with
  | [], h =>
    exfalso
    rw [findBlk_short hB (by simpa using hB)] at h
    cases h
  | x :: r, h =>
    rw [diffGo, h]
    simp only
    obtain ⟨b, rfl⟩ : ∃ b, B = b + 1 := ⟨B - 1, by omega⟩
    rfl
theorem diffGo_miss {zs : List Int} {B : Nat} {out : List Tok} {x : Int} {r : List Int} (h : findBlk zs B ((x :: r).take B) = none) : diffGo zs B out (x :: r) = diffGo zs B (pushByte out x) r := by
  rw [diffGo, h]
theorem diffGo_short {zs : List Int} {B : Nat} (hB : 0 < B) : ∀ (rest : List Int) (out : List Tok), rest.length < B → diffGo zs B out rest = rest.foldl pushByte out
  | [], out, _ => diffGo_nil _ _ _
  | x :: r, out, h => by
    rw [diffGo_miss (findBlk_short hB (by rw [List.length_take]; omega)), diffGo_short hB r _ (by simp at h; omega)]; rfl

def diffOf (zs ds : List Int) (B : Nat) : List Tok := diffGo zs B [] ds

/-- no byte joins the last token -/
def Shut (out : List Tok) : Prop := ∀ t, out.getLast? = some t → ¬ (t.count = 0 ∧ t.data.length < 255)
theorem shut_nil : Shut [] := by intro t h; simp at h
theorem shut_snoc {l : List Tok} {t : Tok} (h : ¬ (t.count = 0 ∧ t.data.length < 255)) : Shut (l ++ [t]) := by intro t' h'; simp at h'; subst h'; exact h
theorem shut_push {out : List Tok} (h : Shut out) (x : Int) : pushByte out x = out ++ [⟨0, 0, [x]⟩] := by
  rcases snoc_cases out with rfl | ⟨i, t, rfl⟩
  · rfl
  · rw [pushByte_snoc, if_neg (h t (by simp))]
theorem push_more (l : List Tok) : ∀ (p d : List Int), d.length + p.length ≤ 255 → p.foldl pushByte (l ++ [⟨0, 0, d⟩]) = l ++ [⟨0, 0, d ++ p⟩]
  | [], d, _ => by simp
  | x :: r, d, h => by
    simp only [List.length_cons] at h
    rw [List.foldl_cons, pushByte_snoc, if_pos ⟨rfl, by simp only; omega⟩, push_more l r (d ++ [x]) (by simp; omega)]
    simp
theorem push_part {out : List Tok} (h : Shut out) {p : List Int} (h0 : 0 < p.length) (h1 : p.length ≤ 255) : p.foldl pushByte out = out ++ [⟨0, 0, p⟩] := by
  match p, h0 with
  | x :: r, _ =>
    rw [List.foldl_cons, shut_push h, push_more out r [x] (by simp at h1 ⊢; omega)]
    simp
theorem shut_pushBlock (out : List Tok) (k : Int) : Shut (pushBlock out k) := by
  rcases snoc_cases out with rfl | ⟨i, t, rfl⟩
  · exact shut_snoc (l := []) (by simp)
  · rw [pushBlock_snoc]
    split
    · exact shut_snoc (by simp only; omega)
    · exact shut_snoc (by simp)
end Go.Proofs.YtbhccdedcoajmaaDoor
namespace Go.Proofs.YtbhccdedcoajmaaDoor
open Go Go.RowKit

/-- what one token stands for -/
def partT (zs : List Int) (B : Nat) (t : Tok) : List Int := if t.count = 0 then t.data else (zs.drop (t.block.toNat * B)).take (t.count.toNat * B)
def fitsT (n : Nat) (t : Tok) : Prop := 0 ≤ t.count ∧ 0 ≤ t.block ∧ (t.count = 0 → t.block = 0) ∧ (0 < t.count → t.data = [] ∧ t.block + t.count ≤ n)
def fitsB (n : Nat) (t : Tok) : Bool := decide (0 ≤ t.count) && decide (0 ≤ t.block) && (if t.count = 0 then decide (t.block = 0) else decide (t.data = []) && decide (t.block + t.count ≤ n))
theorem fitsB_iff {n : Nat} {t : Tok} : fitsB n t = true ↔ fitsT n t := by
  unfold fitsB fitsT
  split
  · rename_i h
    simp only [Bool.and_eq_true, decide_eq_true_eq]
    constructor
    · rintro ⟨⟨a, b⟩, c⟩
      exact ⟨a, b, fun _ => c, fun e => by omega⟩
    · rintro ⟨a, b, c, _⟩
      exact ⟨⟨a, b⟩, c h⟩
  · rename_i h
    simp only [Bool.and_eq_true, decide_eq_true_eq]
    constructor
    · rintro ⟨⟨a, b⟩, c, d⟩
      exact ⟨a, b, fun e => absurd e h, fun _ => ⟨c, d⟩⟩
    · rintro ⟨a, b, _, d⟩
      exact ⟨⟨a, b⟩, d (by omega)⟩
theorem fitsB_not {n : Nat} {t : Tok} (h : ¬ fitsT n t) : ¬ fitsB n t = true := fun e => h (fitsB_iff.1 e)
def applyGo (zs : List Int) (B : Nat) : List Int → List Tok → Except Int (List Int)
  | made, [] => .ok made
  | made, t :: r => if fitsB (chunks zs.length B) t then (if 300 < made.length + (partT zs B t).length then .error 2 else applyGo zs B (made ++ partT zs B t) r) else .error 3
def madeOf (zs : List Int) (B : Nat) (ts : List Tok) : List Int := ts.flatMap (partT zs B)
theorem madeOf_nil (zs : List Int) (B : Nat) : madeOf zs B [] = [] := rfl
theorem madeOf_cons (zs : List Int) (B : Nat) (t : Tok) (l : List Tok) : madeOf zs B (t :: l) = partT zs B t ++ madeOf zs B l := by simp [madeOf]
theorem madeOf_snoc (zs : List Int) (B : Nat) (l : List Tok) (t : Tok) : madeOf zs B (l ++ [t]) = madeOf zs B l ++ partT zs B t := by simp [madeOf]

theorem whole_le {n B : Nat} (hB : 0 < B) : n / B ≤ chunks n B := by
  unfold chunks
  exact Nat.div_le_div_right (by omega)
/-- every token of a list speaks of whole blocks alone -/
def Good (zs : List Int) (B : Nat) (out : List Tok) : Prop := ∀ t ∈ out, fitsT (zs.length / B) t
theorem good_snoc {zs : List Int} {B : Nat} {l : List Tok} {t : Tok} : Good zs B (l ++ [t]) ↔ Good zs B l ∧ fitsT (zs.length / B) t := by
  unfold Good
  constructor
  · intro h; exact ⟨fun u hu => h u (List.mem_append_left _ hu), h t (by simp)⟩
  · rintro ⟨h1, h2⟩ u hu
    rw [List.mem_append] at hu
    rcases hu with hu | hu
    · exact h1 u hu
    · simp at hu; subst hu; exact h2
theorem fits_byte (n : Nat) (d : List Int) : fitsT n ⟨0, 0, d⟩ := ⟨by simp, by simp, by simp, by simp⟩
theorem good_pushByte {zs : List Int} {B : Nat} {out : List Tok} (h : Good zs B out) (x : Int) : Good zs B (pushByte out x) ∧ madeOf zs B (pushByte out x) = madeOf zs B out ++ [x] := by
  rcases snoc_cases out with rfl | ⟨i, t, rfl⟩
  · exact ⟨fun t ht => by simp [pushByte_nil] at ht; subst ht; exact fits_byte _ _, by simp [pushByte_nil, madeOf, partT]⟩
  · rw [pushByte_snoc]
    obtain ⟨h1, h2⟩ := good_snoc.1 h
    split
    · rename_i hc
      refine ⟨good_snoc.2 ⟨h1, ?_⟩, ?_⟩
      · obtain ⟨a, b, c, d⟩ := h2
        exact ⟨a, b, c, fun h => by simp only at h; omega⟩
      · rw [madeOf_snoc, madeOf_snoc]; simp [partT, hc.1]
    · exact ⟨good_snoc.2 ⟨h, fits_byte _ _⟩, by rw [madeOf_snoc]; simp [partT]⟩
theorem part_more (zs : List Int) (B b c : Nat) : (zs.drop (b * B)).take ((c + 1) * B) = (zs.drop (b * B)).take (c * B) ++ chunk zs B (b + c) := by
  rw [Nat.add_mul, Nat.one_mul, List.take_add, List.drop_drop]
  unfold chunk
  rw [Nat.add_mul]
theorem good_pushBlock {zs : List Int} {B : Nat} {out : List Tok} (h : Good zs B out) (k : Nat) (hk : k < zs.length / B) : Good zs B (pushBlock out k) ∧ madeOf zs B (pushBlock out k) = madeOf zs B out ++ chunk zs B k := by
  have hone : fitsT (zs.length / B) ⟨k, 1, []⟩ := ⟨by simp, by simp, by simp, fun _ => ⟨rfl, by simp only; omega⟩⟩
  have hpart : partT zs B ⟨k, 1, []⟩ = chunk zs B k := by simp [partT, chunk]
  rcases snoc_cases out with rfl | ⟨i, t, rfl⟩
  · exact ⟨fun t ht => by simp [pushBlock_nil] at ht; subst ht; exact hone, by rw [pushBlock_nil, madeOf_cons, hpart, madeOf_nil]; simp⟩
  · rw [pushBlock_snoc]
    obtain ⟨h1, h2⟩ := good_snoc.1 h
    split
    · rename_i hc
      obtain ⟨a, b, c, d⟩ := h2
      obtain ⟨d1, d2⟩ := d hc.1
      refine ⟨good_snoc.2 ⟨h1, ⟨by simp only; omega, b, fun h => by simp only at h; omega, fun _ => ⟨d1, by simp only; omega⟩⟩⟩, ?_⟩
      rw [madeOf_snoc, madeOf_snoc, List.append_assoc]
      congr 1
      simp only [partT]
      rw [if_neg (by omega), if_neg (by omega), show (t.count + 1).toNat = t.count.toNat + 1 by omega, part_more, show t.block.toNat + t.count.toNat = k by omega]
    · exact ⟨good_snoc.2 ⟨h, hone⟩, by rw [madeOf_snoc, hpart]⟩
theorem good_diffGo {zs : List Int} {B : Nat} (hB : 0 < B) : ∀ (n : Nat) (rest : List Int) (out : List Tok), rest.length ≤ n → Good zs B out → Good zs B (diffGo zs B out rest) ∧ madeOf zs B (diffGo zs B out rest) = madeOf zs B out ++ rest
  | _, [], out, _, h => by rw [diffGo_nil]; exact ⟨h, by simp⟩
  | 0, x :: r, out, hn, h => by simp at hn
  | n + 1, x :: r, out, hn, h => by
    cases hf : findBlk zs B ((x :: r).take B) with
    | none =>
      rw [diffGo_miss hf]
      obtain ⟨h1, h2⟩ := good_pushByte h x
      obtain ⟨h3, h4⟩ := good_diffGo hB n r _ (by simpa using hn) h1
      exact ⟨h3, by rw [h4, h2]; simp⟩
    | some k =>
      rw [diffGo_hit hB hf]
      obtain ⟨hk, e, _⟩ := findBlk_some.1 hf
      obtain ⟨h1, h2⟩ := good_pushBlock h k hk
      obtain ⟨h3, h4⟩ := good_diffGo hB n ((x :: r).drop B) _ (by rw [List.length_drop]; simp only [List.length_cons] at hn ⊢; omega) h1
      exact ⟨h3, by rw [h4, h2, e, List.append_assoc, List.take_append_drop]⟩
theorem good_diffOf {zs ds : List Int} {B : Nat} (hB : 0 < B) : Good zs B (diffOf zs ds B) ∧ madeOf zs B (diffOf zs ds B) = ds := by
  have := good_diffGo hB ds.length ds [] (Nat.le_refl _) (zs := zs) (fun t ht => by simp at ht)
  exact ⟨this.1, by rw [show diffOf zs ds B = diffGo zs B [] ds from rfl, this.2]; rfl⟩
theorem apply_good {zs : List Int} {B : Nat} (hB : 0 < B) : ∀ (ts : List Tok) (m : List Int), Good zs B ts → (m ++ madeOf zs B ts).length ≤ 300 → applyGo zs B m ts = .ok (m ++ madeOf zs B ts)
  | [], m, _, _ => by simp [applyGo, madeOf]
  | t :: r, m, h, hl => by
    have ht := h t (by simp)
    have hw : (zs.length / B : Nat) ≤ chunks zs.length B := whole_le hB
    rw [madeOf_cons] at hl ⊢
    unfold applyGo
    rw [if_pos (fitsB_iff.2 ⟨ht.1, ht.2.1, ht.2.2.1, fun h0 => ⟨(ht.2.2.2 h0).1, by have := (ht.2.2.2 h0).2; omega⟩⟩)]
    simp only [List.length_append] at hl
    rw [if_neg (by omega), apply_good hB r _ (fun u hu => h u (by simp [hu])) (by simp only [List.length_append]; omega)]
    simp
theorem apply_diff {zs ds : List Int} {B : Nat} (hB : 0 < B) (h : ds.length ≤ 300) : applyGo zs B [] (diffOf zs ds B) = .ok ds := by
  obtain ⟨h1, h2⟩ := good_diffOf (zs := zs) (ds := ds) hB
  rw [apply_good hB _ _ h1 (by rw [h2]; simpa using h), h2]; rfl

/-- how many bytes stand as they are -/
def lits : List Tok → Nat
  | [] => 0
  | t :: r => t.data.length + lits r
theorem lits_append (a b : List Tok) : lits (a ++ b) = lits a + lits b := by
  induction a with
  | nil => simp [lits]
  | cons t r ih => simp only [List.cons_append, lits, ih]; omega
theorem lits_pushByte (out : List Tok) (x : Int) : lits (pushByte out x) = lits out + 1 := by
  rcases snoc_cases out with rfl | ⟨i, t, rfl⟩
  · rfl
  · rw [pushByte_snoc]; split <;> simp only [lits_append, lits, List.length_append, List.length_cons, List.length_nil] <;> omega
theorem lits_pushBlock (out : List Tok) (k : Int) : lits (pushBlock out k) = lits out := by
  rcases snoc_cases out with rfl | ⟨i, t, rfl⟩
  · rfl
  · rw [pushBlock_snoc]; split <;> simp [lits_append, lits]
theorem lits_bytes : ∀ (p : List Int) (out : List Tok), lits (p.foldl pushByte out) = lits out + p.length
  | [], out => rfl
  | x :: r, out => by rw [List.foldl_cons, lits_bytes r, lits_pushByte]; simp; omega
theorem lits_self {zs : List Int} {B : Nat} (hB : 0 < B) : ∀ (n i : Nat) (out : List Tok), zs.length / B - i ≤ n → lits (diffGo zs B out (zs.drop (i * B))) < lits out + B := by
  intro n
  induction n with
  | zero =>
    intro i out hn
    have hl : (zs.drop (i * B)).length < B := by
      have hi : zs.length / B ≤ i := by omega
      have := Nat.lt_mul_div_succ zs.length hB
      have h2 : B * (zs.length / B + 1) ≤ B * (i + 1) := Nat.mul_le_mul_left _ (by omega)
      have e1 := Nat.mul_add B (zs.length / B) 1
      have e2 := Nat.mul_add B i 1
      have e3 := Nat.mul_comm B i
      rw [List.length_drop]
      omega
    rw [diffGo_short hB _ _ hl, lits_bytes]; omega
  | succ n ih =>
    intro i out hn
    by_cases hi : i < zs.length / B
    · cases hf : findBlk zs B ((zs.drop (i * B)).take B) with
      | none => exact absurd rfl (findBlk_none.1 hf i hi)
      | some k =>
        rw [diffGo_hit hB hf, List.drop_drop, ← lits_pushBlock out k]
        rw [show i * B + B = (i + 1) * B by rw [Nat.add_mul]; omega]
        exact ih (i + 1) _ (by omega)
    · exact ih i out (by omega)
theorem lits_diffOf {zs : List Int} {B : Nat} (hB : 0 < B) : lits (diffOf zs zs B) < B := by
  have := lits_self (zs := zs) hB _ 0 [] (Nat.le_refl _)
  simpa [lits, diffOf] using this

theorem length_pushByte (out : List Tok) (x : Int) : (pushByte out x).length ≤ out.length + 1 := by
  rcases snoc_cases out with rfl | ⟨i, t, rfl⟩
  · simp [pushByte_nil]
  · rw [pushByte_snoc]; split <;> simp
theorem length_pushBlock (out : List Tok) (k : Int) : (pushBlock out k).length ≤ out.length + 1 := by
  rcases snoc_cases out with rfl | ⟨i, t, rfl⟩
  · simp [pushBlock_nil]
  · rw [pushBlock_snoc]; split <;> simp
theorem length_bytes : ∀ (p : List Int) (out : List Tok), (p.foldl pushByte out).length ≤ out.length + p.length
  | [], out => by simp
  | x :: r, out => by
    have h1 := length_bytes r (pushByte out x)
    have h2 := length_pushByte out x
    simp only [List.foldl_cons, List.length_cons]; omega

/-- numbers that a token holds -/
def Fair (t : Tok) : Prop := Bytes t.data ∧ t.data.length ≤ 255 ∧ 0 ≤ t.block ∧ t.block ≤ 300 ∧ 0 ≤ t.count ∧ t.count ≤ 255
def AllFair (out : List Tok) : Prop := ∀ t ∈ out, Fair t
theorem fair_snoc {l : List Tok} {t : Tok} : AllFair (l ++ [t]) ↔ AllFair l ∧ Fair t := by
  unfold AllFair
  constructor
  · intro h; exact ⟨fun u hu => h u (List.mem_append_left _ hu), h t (by simp)⟩
  · rintro ⟨h1, h2⟩ u hu
    rw [List.mem_append] at hu
    rcases hu with hu | hu
    · exact h1 u hu
    · simp at hu; subst hu; exact h2
theorem fair_pushByte {out : List Tok} (h : AllFair out) (x : Int) (hx : 0 ≤ x ∧ x < 256) : AllFair (pushByte out x) := by
  have hone : Fair ⟨0, 0, [x]⟩ := ⟨fun y hy => by simp at hy; subst hy; exact hx, by simp, by simp, by simp, by simp, by simp⟩
  rcases snoc_cases out with rfl | ⟨i, t, rfl⟩
  · intro t ht; simp [pushByte_nil] at ht; subst ht; exact hone
  · rw [pushByte_snoc]
    split
    · rename_i hc
      obtain ⟨h1, a, b, c⟩ := fair_snoc.1 h
      refine fair_snoc.2 ⟨h1, ⟨fun y hy => ?_, by simp; omega, c⟩⟩
      simp at hy
      rcases hy with hy | hy
      · exact a y hy
      · subst hy; exact hx
    · exact fair_snoc.2 ⟨h, hone⟩
theorem fair_pushBlock {out : List Tok} (h : AllFair out) (k : Nat) (hk : k ≤ 300) : AllFair (pushBlock out k) := by
  have hone : Fair ⟨k, 1, []⟩ := ⟨fun y hy => by simp at hy, by simp, by simp, by simp only; omega, by simp, by simp⟩
  rcases snoc_cases out with rfl | ⟨i, t, rfl⟩
  · intro t ht; simp [pushBlock_nil] at ht; subst ht; exact hone
  · rw [pushBlock_snoc]
    split
    · rename_i hc
      obtain ⟨h1, a, b, c, d, e, f⟩ := fair_snoc.1 h
      exact fair_snoc.2 ⟨h1, ⟨a, b, c, d, by simp only; omega, by simp only; omega⟩⟩
    · exact fair_snoc.2 ⟨h, hone⟩
theorem fair_bytes : ∀ (p : List Int) (out : List Tok), AllFair out → Bytes p → AllFair (p.foldl pushByte out)
  | [], out, h, _ => h
  | x :: r, out, h, hp => fair_bytes r _ (fair_pushByte h x (hp x (by simp))) (fun y hy => hp y (by simp [hy]))
end Go.Proofs.YtbhccdedcoajmaaDoor
namespace Go.Proofs.YtbhccdedcoajmaaDoor
open Go Go.RowKit

/-- a number in n bytes, the highest first -/
def putN : Nat → Int → List Int
  | 0, _ => []
  | n + 1, v => v / 256 ^ n % 256 :: putN n v
/-- the number that bytes say -/
def getN (l : List Int) : Int := l.foldl (fun v x => 256 * v + x) 0
theorem putN_length (n : Nat) (v : Int) : (putN n v).length = n := by
  induction n with
  | zero => rfl
  | succ n ih => simp [putN, ih]
theorem putN_bytes (n : Nat) (v : Int) : Bytes (putN n v) := by
  induction n with
  | zero => intro x hx; simp [putN] at hx
  | succ n ih =>
    intro x hx
    simp only [putN, List.mem_cons] at hx
    rcases hx with rfl | hx
    · omega
    · exact ih x hx
theorem getN_snoc (l : List Int) (x : Int) : getN (l ++ [x]) = 256 * getN l + x := by simp [getN, List.foldl_append]
theorem foldl_put (n : Nat) : ∀ (v a : Int), 0 ≤ v → (putN n v).foldl (fun v x => 256 * v + x) a = 256 ^ n * a + v % 256 ^ n := by
  induction n with
  | zero => intro v a _; simp [putN]
  | succ n ih =>
    intro v a hv
    simp only [putN, List.foldl_cons]
    rw [ih v _ hv]
    obtain ⟨k, rfl⟩ : ∃ k : Nat, v = k := ⟨v.toNat, by omega⟩
    have e : (k : Int) % (256 ^ n * 256) = (k : Int) % 256 ^ n + 256 ^ n * ((k : Int) / 256 ^ n % 256) := by
      have hP : (256 : Int) ^ n = ((256 ^ n : Nat) : Int) := (Int.natCast_pow 256 n).symm
      rw [hP]
      generalize 256 ^ n = P
      have h := congrArg (fun x : Nat => (x : Int)) (Nat.mod_mul : k % (P * 256) = k % P + P * (k / P % 256))
      simp only [Int.natCast_emod, Int.natCast_mul, Int.natCast_add, Int.natCast_ediv] at h
      exact h
    rw [Int.pow_succ, e, Int.mul_add, ← Int.mul_assoc, Int.add_assoc]
    omega
theorem getN_putN {n : Nat} {v : Int} (h0 : 0 ≤ v) (h1 : v < 256 ^ n) : getN (putN n v) = v := by
  unfold getN
  rw [foldl_put n v 0 h0, Int.mul_zero, Int.zero_add, Int.emod_eq_of_lt h0 h1]

/-- a file, as plain data -/
structure Fil where
  name : List Int
  data : List Int
def entryL (f : Fil) : List Int := (f.name.length : Int) :: (f.name ++ (putN 2 f.data.length ++ putN 8 (digestOf f.data)))
def tokL (t : Tok) : List Int := if t.count = 0 then 0 :: (t.data.length : Int) :: t.data else 1 :: (putN 2 t.block ++ [t.count])
def findL (l : List Fil) (name : List Int) : List Int := match l.find? (fun f => decide (f.name = name)) with | some f => f.data | none => []
def targetL (ref : List Fil) (B : Nat) (f : Fil) : List Int :=
  entryL f ++ (putN 2 (diffOf (findL ref f.name) f.data B).length ++ (diffOf (findL ref f.name) f.data B).flatMap tokL)
def bodyL (src ref : List Fil) (B : Nat) : List Int :=
  66 :: 65 :: 84 :: (B : Int) :: (ref.length : Int) :: (ref.flatMap entryL ++ ((src.length : Int) :: src.flatMap (targetL ref B)))
def recordL (src ref : List Fil) (B : Nat) : List Int := bodyL src ref B ++ putN 8 (digestOf (bodyL src ref B))

/-- is it a name? -/
def nameB (l : List Int) : Bool := decide (1 ≤ l.length) && decide (l.length ≤ 12) && l.all fun c => decide (97 ≤ c ∧ c ≤ 122) || decide (48 ≤ c ∧ c ≤ 57) || decide (c = 46) || decide (c = 47)
/-- texts by their bytes -/
def ltL : List Int → List Int → Bool
  | [], [] => false
  | [], _ :: _ => true
  | _ :: _, [] => false
  | a :: r, b :: s => decide (a < b) || (decide (a = b) && ltL r s)
end Go.Proofs.YtbhccdedcoajmaaDoor
namespace Go.Proofs.YtbhccdedcoajmaaDoor
open Go Go.RowKit

/-- what is told of a file -/
structure EntL where
  name : List Int
  size : Int
  digest : Int
structure BatL where
  block : Int
  basis : List EntL
  targets : List (EntL × List Tok)

def numP (n : Nat) (l : List Int) : Option (Int × List Int) := if l.length < n then none else some (getN (l.take n), l.drop n)
def txtP (n : Nat) (l : List Int) : Option (List Int × List Int) := if l.length < n then none else some (l.take n, l.drop n)

def entryP (first : Bool) (last l : List Int) : Option (EntL × List Int) := do
  let (n, l) ← numP 1 l
  let (name, l) ← txtP n.toNat l
  if nameB name && (first || ltL last name) then
    let (size, l) ← numP 2 l
    if size ≤ 300 then
      let (d, l) ← numP 8 l
      some (⟨name, size, d⟩, l)
    else none
  else none
def basisP : Nat → Bool → List Int → List Int → Option (List EntL × List Int)
  | 0, _, _, l => some ([], l)
  | n + 1, first, last, l => do
    let (e, l) ← entryP first last l
    let (r, l) ← basisP n false e.name l
    some (e :: r, l)
/-- how many bytes a token makes -/
def madeP (size B : Nat) (t : Tok) : Int := if t.count = 0 then t.data.length else min ((t.block + t.count) * B) size - t.block * B
def tokP (size B : Nat) (l : List Int) : Option (Tok × List Int) := do
  let (kind, l) ← numP 1 l
  if kind = 0 then
    let (k, l) ← numP 1 l
    if 0 < k then
      let (t, l) ← txtP k.toNat l
      some (⟨0, 0, t⟩, l)
    else none
  else if kind = 1 then
    let (b, l) ← numP 2 l
    let (k, l) ← numP 1 l
    if 0 < k ∧ b + k ≤ chunks size B then some (⟨b, k, []⟩, l) else none
  else none
def toksP (size B : Nat) : Nat → List Int → Option (List Tok × List Int)
  | 0, l => some ([], l)
  | n + 1, l => do
    let (t, l) ← tokP size B l
    let (r, l) ← toksP size B n l
    some (t :: r, l)
def sizeOfL (basis : List EntL) (name : List Int) : Int := basis.foldl (fun z e => if e.name = name then e.size else z) 0
def targetsP (basis : List EntL) (B : Nat) : Nat → Bool → List Int → List Int → Option (List (EntL × List Tok) × List Int)
  | 0, _, _, l => some ([], l)
  | n + 1, first, last, l => do
    let (e, l) ← entryP first last l
    let (k, l) ← numP 2 l
    let (ts, l) ← toksP (sizeOfL basis e.name).toNat B k.toNat l
    if (ts.map (madeP (sizeOfL basis e.name).toNat B)).sum = e.size then
      let (r, l) ← targetsP basis B n false e.name l
      some ((e, ts) :: r, l)
    else none
def readL (s : List Int) : Option BatL := do
  let (head, l) ← txtP 3 s
  if head = [66, 65, 84] then
    let (block, l) ← numP 1 l
    if 1 ≤ block ∧ block ≤ 64 then
      let (n, l) ← numP 1 l
      if n ≤ 8 then
        let (basis, l) ← basisP n.toNat true [] l
        let (m, l) ← numP 1 l
        if m ≤ 8 then
          let (targets, l) ← targetsP basis block.toNat m.toNat true [] l
          let (d, l') ← numP 8 l
          if l' = [] ∧ d = digestOf (s.take (s.length - l.length)) then some ⟨block, basis, targets⟩ else none
        else none
      else none
    else none
  else none
end Go.Proofs.YtbhccdedcoajmaaDoor
