import Derived.Test.YtbhccdedcoajmaaGreatDoorMadeM
import Derived.Test.YtbhccdedcoajmaaGreatDoorStrAtM
import Derived.Test.YtbhccdedcoajmaaGreatDoorDiffAM
import Derived.Test.YtbhccdedcoajmaaGreatDoorRefDiff
namespace Go.Proofs.YtbhccdedcoajmaaGreatDoor
open Go Go.RowKit

theorem fair_diffGo {zs : List Int} {B : Nat} (hB : 0 < B) (hm : zs.length ≤ 300) : ∀ (n : Nat) (rest : List Int) (out : List Tok), rest.length ≤ n → AllFair out → Bytes rest → AllFair (diffGo zs B out rest) ∧ (diffGo zs B out rest).length ≤ out.length + rest.length
  | _, [], out, _, h, _ => by rw [diffGo_nil]; exact ⟨h, by simp⟩
  | 0, x :: r, out, hn, _, _ => by simp at hn
  | n + 1, x :: r, out, hn, h, hb => by
    cases hf : findBlk zs B ((x :: r).take B) with
    | none =>
      rw [diffGo_miss hf]
      obtain ⟨h1, h2⟩ := fair_diffGo hB hm n r (pushByte out x) (by simpa using hn) (fair_pushByte h x (hb x (by simp))) (fun y hy => hb y (by simp [hy]))
      have := length_pushByte out x
      exact ⟨h1, by simp only [List.length_cons]; omega⟩
    | some k =>
      rw [diffGo_hit hB hf]
      have hk := (findBlk_some.1 hf).1
      have hd := Nat.div_le_self zs.length B
      obtain ⟨h1, h2⟩ := fair_diffGo hB hm n ((x :: r).drop B) (pushBlock out k) (by rw [List.length_drop]; simp only [List.length_cons] at hn ⊢; omega) (fair_pushBlock h k (by omega)) (fun y hy => hb y (List.mem_of_mem_drop hy))
      have := length_pushBlock out k
      refine ⟨h1, ?_⟩
      rw [List.length_drop] at h2
      simp only [List.length_cons] at *
      omega
theorem fair_diffOf {zs ds : List Int} {B : Nat} (hB : 0 < B) (hm : zs.length ≤ 300) (hd : Bytes ds) : AllFair (diffOf zs ds B) ∧ (diffOf zs ds B).length ≤ ds.length := by
  have := fair_diffGo hB hm ds.length ds [] (Nat.le_refl _) (fun t ht => by simp at ht) hd
  simpa [diffOf] using this
end Go.Proofs.YtbhccdedcoajmaaGreatDoor
namespace Go.Proofs.YtbhccdedcoajmaaGreatDoor
open Go.RowKit

theorem TokRow.grew {w w' : World} {bT TT : Nat} {tv v : Value} {ps : List (Tok × Value)} (h : TokRow w bT tv ps) (h1 : ∀ k, tv.ownBlock = some k → bT ≤ k ∧ k < TT) (h2 : ∀ p ∈ ps, ∀ k, p.2.ownBlock = some k → bT ≤ k ∧ k < TT) (hrow : ∀ k, v.ownBlock = some k → k < bT ∨ TT ≤ k) (hg : w.grownBy w' v.ownBlock) : TokRow w' bT tv ps := by
  refine h.grown hg ?_ ?_
  · cases hv : tv.ownBlock with
    | none => exact .inl rfl
    | some k =>
      refine .inr fun e => ?_
      have := h1 k hv
      have := hrow k e.symm
      omega
  · intro p hp
    cases hv : p.2.ownBlock with
    | none => exact .inl rfl
    | some k =>
      refine .inr fun e => ?_
      have := h2 p hp k hv
      have := hrow k e.symm
      omega
theorem Grew.row {w w' : World} {v v' : Value} {bT TT : Nat} (h : Grew w w' v v') (hT : TT ≤ w.heap.size) (hrow : ∀ k, v.ownBlock = some k → k < bT ∨ TT ≤ k) : ∀ k, v'.ownBlock = some k → k < bT ∨ TT ≤ k := by
  intro k hk
  rcases h.2 with e | ⟨j, hj, e⟩
  · exact hrow k (e ▸ hk)
  · rw [e] at hk; simp at hk; omega
theorem tokL_len {t : Tok} (h : Fair t) : (tokL t).length ≤ 257 := by
  unfold tokL
  have := h.2.1
  split
  · simp; omega
  · simp [putN_length]
theorem flat_len {α : Type} {f : α → List Int} {c : Nat} : ∀ (l : List α), (∀ x ∈ l, (f x).length ≤ c) → (l.flatMap f).length ≤ c * l.length
  | [], _ => by simp
  | x :: r, h => by
    have h1 := h x (by simp)
    have h2 := flat_len r (fun y hy => h y (by simp [hy]))
    rw [List.flatMap_cons, List.length_append, List.length_cons, Nat.mul_add]
    omega
theorem entryL_len {f : Fil} (h : f.name.length ≤ 12) : (entryL f).length ≤ 23 := by
  unfold entryL
  simp [putN_length]; omega

theorem bytes_app {a b : List Int} (ha : Bytes a) (hb : Bytes b) : Bytes (a ++ b) := fun x hx => (List.mem_append.1 hx).elim (ha x) (hb x)
theorem bytes_cons {x : Int} {l : List Int} (hx : 0 ≤ x ∧ x < 256) (hl : Bytes l) : Bytes (x :: l) := fun y hy => (List.mem_cons.1 hy).elim (fun e => e ▸ hx) (hl y)
theorem bytes_flat {α : Type} {f : α → List Int} {l : List α} (h : ∀ x ∈ l, Bytes (f x)) : Bytes (l.flatMap f) := by
  intro x hx
  obtain ⟨y, hy, hxy⟩ := List.mem_flatMap.1 hx
  exact h y hy x hxy
theorem bytes_tok {t : Tok} (h : Fair t) : Bytes (tokL t) := by
  obtain ⟨h1, h2, h3, h4, h5, h6⟩ := h
  unfold tokL
  split
  · exact bytes_cons (by omega) (bytes_cons (by omega) h1)
  · exact bytes_cons (by omega) (bytes_app (putN_bytes _ _) (bytes_cons (by omega) (fun x hx => by simp at hx)))
theorem bytes_entry {f : Fil} (h : f.name.length ≤ 12) (hn : Bytes f.name) : Bytes (entryL f) := by
  unfold entryL
  exact bytes_cons (by omega) (bytes_app hn (bytes_app (putN_bytes _ _) (putN_bytes _ _)))
theorem toks_len {zs : List Int} {B : Nat} : ∀ (l : List Tok), Good zs B l → (l.flatMap tokL).length ≤ 4 * l.length + (madeOf zs B l).length
  | [], _ => by simp
  | t :: l, h => by
    have ih := toks_len l (fun x hx => h x (by simp [hx]))
    rw [List.flatMap_cons, madeOf_cons, List.length_append, List.length_append, List.length_cons]
    have : (tokL t).length ≤ 4 + (partT zs B t).length := by
      unfold tokL partT
      split
      · simp; omega
      · simp [putN_length]
    omega
theorem targetL_ok {ref : List Fil} {B : Nat} {f : Fil} (hB : 0 < B) (hn : f.name.length ≤ 12) (hnb : Bytes f.name) (hd : f.data.length ≤ 300) (hdb : Bytes f.data) (hf : (findL ref f.name).length ≤ 300) : (targetL ref B f).length ≤ 1525 ∧ Bytes (targetL ref B f) := by
  have h1 := fair_diffOf (B := B) hB hf hdb
  have h2 := good_diffOf (zs := findL ref f.name) (ds := f.data) hB
  have h3 := toks_len _ h2.1
  have h4 := entryL_len hn
  rw [h2.2] at h3
  unfold targetL
  refine ⟨?_, bytes_app (bytes_entry hn hnb) (bytes_app (putN_bytes _ _) (bytes_flat fun t ht => bytes_tok (h1.1 t ht)))⟩
  rw [List.length_append, List.length_append, putN_length]
  have := h1.2
  omega
end Go.Proofs.YtbhccdedcoajmaaGreatDoor
namespace Go.Proofs.YtbhccdedcoajmaaGreatDoor
open Go Go.RowKit

theorem numP_put {n : Nat} {v : Int} (r : List Int) (h0 : 0 ≤ v) (h1 : v < 256 ^ n) : numP n (putN n v ++ r) = some (v, r) := by
  have hl := putN_length n v
  unfold numP
  rw [if_neg (by rw [List.length_append]; omega), List.take_left' hl, List.drop_left' hl, getN_putN h0 h1]
theorem numP_one {x : Int} (r : List Int) : numP 1 (x :: r) = some (x, r) := by
  unfold numP
  rw [if_neg (by simp)]
  simp [getN]
theorem txtP_app {n : Nat} {a : List Int} (r : List Int) (h : a.length = n) : txtP n (a ++ r) = some (a, r) := by
  unfold txtP
  rw [if_neg (by rw [List.length_append]; omega), List.take_left' h, List.drop_left' h]

/-- what is told of a file -/
def entOf (f : Fil) : EntL := ⟨f.name, f.data.length, digestOf f.data⟩
def FilOk (f : Fil) : Prop := nameB f.name = true ∧ f.data.length ≤ 300 ∧ 0 ≤ digestOf f.data ∧ digestOf f.data < 256 ^ 8
theorem nameB_len {l : List Int} (h : nameB l = true) : l.length ≤ 12 := by
  simp only [nameB, Bool.and_eq_true, decide_eq_true_eq] at h
  exact h.1.2
theorem entry_back {first : Bool} {last : List Int} {f : Fil} (hf : FilOk f) (hr : (first || ltL last f.name) = true) (r : List Int) : entryP first last (entryL f ++ r) = some (entOf f, r) := by
  obtain ⟨h1, h2, h3, h4⟩ := hf
  unfold entryP entryL
  simp only [List.cons_append, List.append_assoc]
  rw [numP_one]
  simp only [Option.bind_eq_bind, Option.bind_some]
  rw [txtP_app _ (by simp)]
  simp only [Option.bind_some, h1, hr, Bool.and_self, if_true]
  rw [numP_put _ (by omega) (by omega)]
  simp only [Option.bind_some]
  rw [if_pos (by omega), numP_put _ h3 h4]
  rfl
/-- names rise -/
def Rise : Bool → List Int → List Fil → Prop
  | _, _, [] => True
  | first, last, f :: l => (first || ltL last f.name) = true ∧ Rise false f.name l
theorem basis_back : ∀ (l : List Fil) (first : Bool) (last r : List Int), (∀ f ∈ l, FilOk f) → Rise first last l → basisP l.length first last (l.flatMap entryL ++ r) = some (l.map entOf, r)
  | [], _, _, r, _, _ => rfl
  | f :: l, first, last, r, hf, hr => by
    simp only [List.length_cons, basisP, List.flatMap_cons, List.append_assoc]
    rw [entry_back (hf f (by simp)) hr.1]
    simp only [Option.bind_eq_bind, Option.bind_some]
    rw [show (entOf f).name = f.name from rfl, basis_back l false f.name r (fun g hg => hf g (by simp [hg])) hr.2]
    rfl

/-- a token that a batch can say -/
def Sayable (n : Nat) (t : Tok) : Prop := fitsT n t ∧ t.count ≤ 255 ∧ t.block < 65536 ∧ t.data.length ≤ 255 ∧ (t.count = 0 → 0 < t.data.length)
theorem tok_back {size B : Nat} {t : Tok} (h : Sayable (chunks size B) t) (r : List Int) : tokP size B (tokL t ++ r) = some (t, r) := by
  obtain ⟨⟨a, b, c, d⟩, h1, h2, h3, h4⟩ := h
  obtain ⟨tb, tc, td⟩ := t
  simp only at *
  by_cases h0 : tc = 0
  · subst h0
    obtain rfl := c rfl
    unfold tokP tokL
    simp only [if_true, List.cons_append]
    rw [numP_one]
    simp only [Option.bind_eq_bind, Option.bind_some, if_true]
    rw [numP_one]
    simp only [Option.bind_some]
    rw [if_pos (by have := h4 rfl; omega), txtP_app _ (by simp)]
    rfl
  · obtain ⟨rfl, d2⟩ := d (by omega)
    unfold tokP tokL
    simp only [h0, if_false, List.cons_append, List.append_assoc]
    rw [numP_one]
    simp only [Option.bind_eq_bind, Option.bind_some]
    rw [if_neg (by omega)]
    simp only [if_true, List.nil_append]
    rw [numP_put _ b (by omega)]
    simp only [Option.bind_some]
    rw [numP_one]
    simp only [Option.bind_some]
    rw [if_pos ⟨by omega, d2⟩]
theorem toks_back {size B : Nat} : ∀ (ts : List Tok) (r : List Int), (∀ t ∈ ts, Sayable (chunks size B) t) → toksP size B ts.length (ts.flatMap tokL ++ r) = some (ts, r)
  | [], r, _ => rfl
  | t :: l, r, h => by
    simp only [List.length_cons, toksP, List.flatMap_cons, List.append_assoc]
    rw [tok_back (h t (by simp))]
    simp only [Option.bind_eq_bind, Option.bind_some]
    rw [toks_back l r (fun u hu => h u (by simp [hu]))]
    rfl

/-- tokens that Diff tells can be said -/
def Full1 (out : List Tok) : Prop := ∀ t ∈ out, t.count = 0 → 0 < t.data.length
theorem full1_snoc {l : List Tok} {t : Tok} : Full1 (l ++ [t]) ↔ Full1 l ∧ (t.count = 0 → 0 < t.data.length) := by
  unfold Full1
  constructor
  · intro h; exact ⟨fun u hu => h u (List.mem_append_left _ hu), h t (by simp)⟩
  · rintro ⟨h1, h2⟩ u hu
    rw [List.mem_append] at hu
    rcases hu with hu | hu
    · exact h1 u hu
    · simp at hu; subst hu; exact h2
theorem full1_pushByte {out : List Tok} (h : Full1 out) (x : Int) : Full1 (pushByte out x) := by
  rcases snoc_cases out with rfl | ⟨i, t, rfl⟩
  · intro t ht _; simp [pushByte_nil] at ht; subst ht; simp
  · rw [pushByte_snoc]
    split
    · exact full1_snoc.2 ⟨(full1_snoc.1 h).1, fun _ => by simp⟩
    · exact full1_snoc.2 ⟨h, fun _ => by simp⟩
theorem full1_pushBlock {out : List Tok} (h : Full1 out) (k : Int) : Full1 (pushBlock out k) := by
  rcases snoc_cases out with rfl | ⟨i, t, rfl⟩
  · intro t ht h0; simp [pushBlock_nil] at ht; subst ht; simp at h0
  · rw [pushBlock_snoc]
    split
    · rename_i hc
      exact full1_snoc.2 ⟨(full1_snoc.1 h).1, fun h0 => by simp only at h0; omega⟩
    · exact full1_snoc.2 ⟨h, fun h0 => by simp at h0⟩
theorem full1_diffGo {zs : List Int} {B : Nat} (hB : 0 < B) : ∀ (n : Nat) (rest : List Int) (out : List Tok), rest.length ≤ n → Full1 out → Full1 (diffGo zs B out rest)
  | _, [], out, _, h => by rw [diffGo_nil]; exact h
  | 0, x :: r, out, hn, _ => by simp at hn
  | n + 1, x :: r, out, hn, h => by
    cases hf : findBlk zs B ((x :: r).take B) with
    | none => rw [diffGo_miss hf]; exact full1_diffGo hB n r _ (by simpa using hn) (full1_pushByte h x)
    | some k => rw [diffGo_hit hB hf]; exact full1_diffGo hB n _ _ (by rw [List.length_drop]; simp only [List.length_cons] at hn ⊢; omega) (full1_pushBlock h k)
theorem sayable_diffOf {zs ds : List Int} {B : Nat} (hB : 0 < B) (hm : zs.length ≤ 300) (hd : Bytes ds) : ∀ t ∈ diffOf zs ds B, Sayable (chunks zs.length B) t := by
  intro t ht
  have hg := (good_diffOf (zs := zs) (ds := ds) hB).1 t ht
  have hf := (fair_diffOf (zs := zs) (ds := ds) hB hm hd).1 t ht
  have hu := full1_diffGo (zs := zs) hB ds.length ds [] (Nat.le_refl _) (fun t ht => by simp at ht) t ht
  have hw := whole_le (n := zs.length) hB
  obtain ⟨_, f2, f3, f4, f5, f6⟩ := hf
  exact ⟨⟨hg.1, hg.2.1, hg.2.2.1, fun h => ⟨(hg.2.2.2 h).1, by have := (hg.2.2.2 h).2; omega⟩⟩, f6, by omega, f2, hu⟩
theorem made_part {zs : List Int} {B : Nat} (hB : 0 < B) {t : Tok} (h : fitsT (chunks zs.length B) t) : madeP zs.length B t = (partT zs B t).length := by
  obtain ⟨a, b, c, d⟩ := h
  obtain ⟨tb, tc, td⟩ := t
  simp only at *
  unfold madeP partT
  by_cases h0 : tc = 0
  · simp only [h0, if_true]
  · simp only [h0, if_false]
    obtain ⟨bk, rfl⟩ : ∃ k : Nat, tb = k := ⟨tb.toNat, by omega⟩
    obtain ⟨ct, rfl⟩ : ∃ k : Nat, tc = k := ⟨tc.toNat, by omega⟩
    have d2 := (d (by omega)).2
    have hlt : bk * B < zs.length := (lt_chunks hB).1 (by omega)
    rw [List.length_take, List.length_drop]
    have e1 : ((bk : Int) + (ct : Int)) * (B : Int) = ((bk * B + ct * B : Nat) : Int) := by rw [Int.add_mul]; simp
    have e2 : (bk : Int) * (B : Int) = ((bk * B : Nat) : Int) := by simp
    rw [e1, e2]
    simp only [Int.toNat_natCast]
    generalize bk * B = p at *
    generalize ct * B = q at *
    omega
theorem made_sum {zs : List Int} {B : Nat} (hB : 0 < B) : ∀ (ts : List Tok), (∀ t ∈ ts, fitsT (chunks zs.length B) t) → (ts.map (madeP zs.length B)).sum = (madeOf zs B ts).length
  | [], _ => rfl
  | t :: l, h => by
    rw [List.map_cons, List.sum_cons, made_sum hB l (fun u hu => h u (by simp [hu])), made_part hB (h t (by simp)), madeOf_cons, List.length_append]
    omega

theorem digestOf_fits (l : List Int) : 0 ≤ digestOf l ∧ digestOf l < 256 ^ 8 := by
  rcases snoc_cases l with rfl | ⟨i, x, rfl⟩
  · rw [digestOf_nil]; omega
  · rw [digestOf_snoc]; unfold dstep; rw [IntKind.wrap_u64]; omega
theorem fold_size (name : List Int) : ∀ (l : List Fil) (z : Int), l.Pairwise (fun f g => f.name ≠ g.name) → (l.map entOf).foldl (fun z e => if e.name = name then e.size else z) z = match l.find? (fun f => decide (f.name = name)) with | some f => (f.data.length : Int) | none => z
  | [], z, _ => rfl
  | f :: l, z, h => by
    rw [List.pairwise_cons] at h
    simp only [List.map_cons, List.foldl_cons]
    by_cases hn : f.name = name
    · rw [show (entOf f).name = f.name from rfl, if_pos hn, fold_size name l _ h.2]
      have : l.find? (fun f => decide (f.name = name)) = none := by
        rw [List.find?_eq_none]
        intro g hg
        have := h.1 g hg
        rw [hn] at this
        simpa using fun e => this e.symm
      rw [this, List.find?_cons_of_pos (by simpa using hn)]
      rfl
    · rw [show (entOf f).name = f.name from rfl, if_neg hn, fold_size name l _ h.2, List.find?_cons_of_neg (by simpa using hn)]
theorem size_find {ref : List Fil} (h : ref.Pairwise (fun f g => f.name ≠ g.name)) (name : List Int) : sizeOfL (ref.map entOf) name = ((findL ref name).length : Int) := by
  unfold sizeOfL findL
  rw [fold_size name ref 0 h]
  generalize ref.find? (fun f => decide (f.name = name)) = o
  cases o <;> rfl
theorem find_le {ref : List Fil} (h : ∀ f ∈ ref, f.data.length ≤ 300) (name : List Int) : (findL ref name).length ≤ 300 := by
  unfold findL
  split
  · rename_i f hf
    exact h f (List.mem_of_find?_eq_some hf)
  · simp
theorem targets_back {ref : List Fil} {B : Nat} (hB : 0 < B) (hdis : ref.Pairwise (fun f g => f.name ≠ g.name)) (href : ∀ f ∈ ref, f.data.length ≤ 300) : ∀ (src : List Fil) (first : Bool) (last r : List Int), (∀ f ∈ src, FilOk f ∧ Bytes f.data) → Rise first last src →
    targetsP (ref.map entOf) B src.length first last (src.flatMap (targetL ref B) ++ r) = some (src.map fun f => (entOf f, diffOf (findL ref f.name) f.data B), r)
  | [], _, _, r, _, _ => rfl
  | f :: l, first, last, r, hf, hr => by
    obtain ⟨hf1, hf2⟩ := hf f (by simp)
    have hsz := size_find hdis f.name
    have hle := find_le href f.name
    have hsay := sayable_diffOf (zs := findL ref f.name) (ds := f.data) hB hle hf2
    have hlen := (fair_diffOf (zs := findL ref f.name) (ds := f.data) hB hle hf2).2
    have h300 := hf1.2.1
    simp only [List.length_cons, targetsP, List.flatMap_cons, targetL, List.append_assoc]
    rw [entry_back hf1 hr.1]
    simp only [Option.bind_eq_bind, Option.bind_some]
    rw [numP_put _ (by omega) (by omega)]
    simp only [Option.bind_some]
    rw [show (entOf f).name = f.name from rfl, hsz]
    simp only [Int.toNat_natCast]
    rw [toks_back _ _ hsay]
    simp only [Option.bind_some]
    rw [made_sum hB _ (fun t ht => (hsay t ht).1), (good_diffOf hB).2, if_pos (show (f.data.length : Int) = (entOf f).size from rfl)]
    rw [targets_back hB hdis href l false f.name r (fun g hg => hf g (by simp [hg])) hr.2]
    rfl
/-- a batch that is recorded reads as what went in -/
theorem read_record {src ref : List Fil} {B : Nat} (hB1 : 1 ≤ B) (hB2 : B ≤ 64) (hdis : ref.Pairwise (fun f g => f.name ≠ g.name)) (hs : ∀ f ∈ src, FilOk f ∧ Bytes f.data) (href : ∀ f ∈ ref, FilOk f) (hrs : Rise true [] src) (hrr : Rise true [] ref) (h8 : src.length ≤ 8) (g8 : ref.length ≤ 8) :
    readL (recordL src ref B) = some ⟨B, ref.map entOf, src.map fun f => (entOf f, diffOf (findL ref f.name) f.data B)⟩ := by
  obtain ⟨d0, d1⟩ := digestOf_fits (bodyL src ref B)
  have hlen : (recordL src ref B).length - (putN 8 (digestOf (bodyL src ref B))).length = (bodyL src ref B).length := by
    unfold recordL; rw [List.length_append]; omega
  have htake : (recordL src ref B).take (bodyL src ref B).length = bodyL src ref B := by unfold recordL; exact List.take_left' rfl
  generalize hD : digestOf (bodyL src ref B) = D at *
  have hrec : recordL src ref B = [66, 65, 84] ++ ((B : Int) :: (ref.length : Int) :: (ref.flatMap entryL ++ ((src.length : Int) :: (src.flatMap (targetL ref B) ++ putN 8 D)))) := by
    unfold recordL; rw [hD]; unfold bodyL; simp
  unfold readL
  rw [hrec, txtP_app (n := 3) (a := [66, 65, 84]) _ rfl]
  simp only [Option.bind_eq_bind, Option.bind_some, if_true]
  rw [numP_one]
  simp only [Option.bind_some]
  rw [if_pos ⟨by omega, by omega⟩, numP_one]
  simp only [Option.bind_some]
  rw [if_pos (by omega)]
  simp only [Int.toNat_natCast]
  rw [basis_back ref true [] _ href hrr]
  simp only [Option.bind_some]
  rw [numP_one]
  simp only [Option.bind_some]
  rw [if_pos (by omega)]
  simp only [Int.toNat_natCast]
  rw [targets_back hB1 hdis (fun f hf => (href f hf).2.1) src true [] _ hs hrs]
  simp only [Option.bind_some]
  rw [← hrec, hlen, htake]
  have := numP_put (n := 8) (v := D) [] d0 d1
  rw [List.append_nil] at this
  rw [this]
  simp only [Option.bind_some, hD, and_self, if_true]

theorem ltL_irrefl : ∀ l : List Int, ltL l l = false
  | [] => rfl
  | a :: r => by simp [ltL, ltL_irrefl r]
theorem ltL_trans : ∀ {a b c : List Int}, ltL a b = true → ltL b c = true → ltL a c = true
  | [], [], _, h, _ => by simp [ltL] at h
  | [], _ :: _, [], _, h => by simp [ltL] at h
  | [], _ :: _, _ :: _, _, _ => rfl
  | _ :: _, [], _, h, _ => by simp [ltL] at h
  | _ :: _, _ :: _, [], _, h => by simp [ltL] at h
  | a :: r, b :: s, c :: t, h1, h2 => by
    simp only [ltL, Bool.or_eq_true, Bool.and_eq_true, decide_eq_true_eq] at h1 h2 ⊢
    rcases h1 with h1 | ⟨h1, h1'⟩
    · rcases h2 with h2 | ⟨h2, _⟩
      · exact .inl (by omega)
      · exact .inl (by omega)
    · rcases h2 with h2 | ⟨h2, h2'⟩
      · exact .inl (by omega)
      · exact .inr ⟨by omega, ltL_trans h1' h2'⟩
theorem rise_above : ∀ (l : List Fil) (last : List Int), Rise false last l → ∀ f ∈ l, ltL last f.name = true
  | [], _, _, f, hf => by simp at hf
  | g :: l, last, h, f, hf => by
    have hg : ltL last g.name = true := by simpa using h.1
    rw [List.mem_cons] at hf
    rcases hf with rfl | hf
    · exact hg
    · exact ltL_trans hg (rise_above l g.name h.2 f hf)
theorem rise_apart : ∀ (l : List Fil) (first : Bool) (last : List Int), Rise first last l → l.Pairwise (fun f g => f.name ≠ g.name)
  | [], _, _, _ => List.Pairwise.nil
  | f :: l, _, _, h => by
    rw [List.pairwise_cons]
    refine ⟨fun g hg e => ?_, rise_apart l false f.name h.2⟩
    have := rise_above l f.name h.2 g hg
    rw [← e, ltL_irrefl] at this
    cases this
end Go.Proofs.YtbhccdedcoajmaaGreatDoor
