import Derived.Test.YtbhccdedcoajmabGreatDoorPBatch
import Derived.Laws.Bits64
import Derived.Test.YtbhccdedcoajmabGreatDoorPRecPM
import Derived.Test.YtbhccdedcoajmabGreatDoorPRepPM
import Derived.ArgAppend
import Derived.Test.YtbhccdedcoajmabGreatDoorClip
import Derived.Test.YtbhccdedcoajmabGreatDoorLTreeM
import Derived.Test.YtbhccdedcoajmabGreatDoorRows
import Derived.SevenTiedAt
namespace Go.Proofs.YtbhccdedcoajmabGreatDoor
open Go.RowKit

theorem dstep_nat (d x : Nat) (hd : d < 18446744073709551616) (hx : x < 256) : dstep d x = (((d ^^^ x) * 1099511628211 % 18446744073709551616 : Nat) : Int) := by
  unfold dstep
  rw [bits_xor_u64_nat d x hd (by omega), IntKind.wrap_u64]
  omega
theorem mul_inj64 {n m : Nat} (hn : n < 18446744073709551616) (hm : m < 18446744073709551616) (h : n * 1099511628211 % 18446744073709551616 = m * 1099511628211 % 18446744073709551616) : n = m := by
  have e : ∀ n : Nat, n < 18446744073709551616 → (n * 1099511628211 % 18446744073709551616) * 14886173955864302971 % 18446744073709551616 = n := by
    intro n hn
    rw [Nat.mod_mul_mod, Nat.mul_assoc, show 1099511628211 * 14886173955864302971 = 1 + 18446744073709551616 * ((1099511628211 * 14886173955864302971 - 1) / 18446744073709551616) from by decide, Nat.mul_add, Nat.mul_one]
    rw [Nat.mul_left_comm, Nat.add_mul_mod_self_left]
    exact Nat.mod_eq_of_lt hn
  rw [← e n hn, h, e m hm]
theorem xor_lt64 {d x : Nat} (hd : d < 18446744073709551616) (hx : x < 256) : d ^^^ x < 18446744073709551616 := Nat.xor_lt_two_pow (n := 64) (by omega) (by omega)
/-- a step of the digest is one to one: in the sum, and in the byte -/
theorem dstep_inj {d d' x x' : Int} (hd0 : 0 ≤ d) (hd1 : d < 256 ^ 8) (hd0' : 0 ≤ d') (hd1' : d' < 256 ^ 8) (hx : 0 ≤ x ∧ x < 256) (hx' : 0 ≤ x' ∧ x' < 256) (h : dstep d x = dstep d' x') : d.toNat ^^^ x.toNat = d'.toNat ^^^ x'.toNat := by
  obtain ⟨a, rfl⟩ : ∃ a : Nat, d = a := ⟨d.toNat, by omega⟩
  obtain ⟨b, rfl⟩ : ∃ a : Nat, d' = a := ⟨d'.toNat, by omega⟩
  obtain ⟨y, rfl⟩ : ∃ a : Nat, x = a := ⟨x.toNat, by omega⟩
  obtain ⟨z, rfl⟩ : ∃ a : Nat, x' = a := ⟨x'.toNat, by omega⟩
  have ha : a < 18446744073709551616 := by omega
  have hb : b < 18446744073709551616 := by omega
  have hy : y < 256 := by omega
  have hz : z < 256 := by omega
  rw [dstep_nat a y ha hy, dstep_nat b z hb hz] at h
  have h' := Int.ofNat_inj.1 h
  rw [Int.toNat_natCast, Int.toNat_natCast, Int.toNat_natCast, Int.toNat_natCast]
  exact mul_inj64 (n := a ^^^ y) (m := b ^^^ z) (xor_lt64 ha hy) (xor_lt64 hb hz) h'
theorem dstep_fits (d x : Int) : 0 ≤ dstep d x ∧ dstep d x < 256 ^ 8 := by unfold dstep; rw [IntKind.wrap_u64]; omega
theorem xor_cancel {a b x : Nat} (h : a ^^^ x = b ^^^ x) : a = b := by
  have := congrArg (· ^^^ x) h
  simpa [Nat.xor_assoc] using this
theorem xor_cancel_left {a x y : Nat} (h : a ^^^ x = a ^^^ y) : x = y := by
  rw [Nat.xor_comm a x, Nat.xor_comm a y] at h
  exact xor_cancel h
theorem fold_ne : ∀ (l : List Int) (d d' : Int), Bytes l → 0 ≤ d → d < 256 ^ 8 → 0 ≤ d' → d' < 256 ^ 8 → d ≠ d' → l.foldl dstep d ≠ l.foldl dstep d'
  | [], _, _, _, _, _, _, _, h => h
  | x :: l, d, d', hb, h0, h1, h0', h1', h => by
    have hx := hb x (by simp)
    refine fold_ne l _ _ (fun y hy => hb y (by simp [hy])) (dstep_fits _ _).1 (dstep_fits _ _).2 (dstep_fits _ _).1 (dstep_fits _ _).2 fun e => h ?_
    have := xor_cancel (dstep_inj h0 h1 h0' h1' hx hx e)
    omega
/-- bytes of which one is another have another digest -/
theorem digest_one {l : List Int} {k : Nat} {y : Int} (hb : Bytes l) (hy : 0 ≤ y ∧ y < 256) (hk : k < l.length) (hne : y ≠ l[k]) : digestOf (l.set k y) ≠ digestOf l := by
  have e1 : l = l.take k ++ l[k] :: l.drop (k + 1) := by rw [← List.drop_eq_getElem_cons hk, List.take_append_drop]
  have e2 : l.set k y = l.take k ++ y :: l.drop (k + 1) := by rw [List.set_eq_take_append_cons_drop, if_pos hk]
  have hx := hb l[k] (List.getElem_mem hk)
  rw [e2]
  intro h
  rw [show digestOf l = digestOf (l.take k ++ l[k] :: l.drop (k + 1)) by rw [← e1]] at h
  unfold digestOf at h
  rw [List.foldl_append, List.foldl_append, List.foldl_cons, List.foldl_cons] at h
  have hf := digestOf_fits (l.take k)
  unfold digestOf at hf
  refine fold_ne _ _ _ (hb.drop _) (dstep_fits _ _).1 (dstep_fits _ _).2 (dstep_fits _ _).1 (dstep_fits _ _).2 (fun e => hne ?_) h
  have := xor_cancel_left (dstep_inj hf.1 hf.2 hf.1 hf.2 hy hx e)
  omega
theorem getN_inj : ∀ (n : Nat) (a b : List Int), a.length = n → b.length = n → Bytes a → Bytes b → getN a = getN b → a = b
  | 0, a, b, ha, hb, _, _, _ => by rw [List.length_eq_zero_iff.1 ha, List.length_eq_zero_iff.1 hb]
  | n + 1, a, b, ha, hb, hA, hB, h => by
    rcases snoc_cases a with rfl | ⟨a', x, rfl⟩
    · simp at ha
    · rcases snoc_cases b with rfl | ⟨b', y, rfl⟩
      · simp at hb
      · rw [getN_snoc, getN_snoc] at h
        have hx := hA x (by simp)
        have hy := hB y (by simp)
        have : a' = b' := getN_inj n a' b' (by simpa using ha) (by simpa using hb) (fun z hz => hA z (by simp [hz])) (fun z hz => hB z (by simp [hz])) (by omega)
        rw [this, show x = y by omega]
end Go.Proofs.YtbhccdedcoajmabGreatDoor
namespace Go.Proofs.YtbhccdedcoajmabGreatDoor
open Go.RowKit

/-- is a list the end of another? -/
def Suf (l r : List Int) : Prop := ∃ p, r = l.drop p
theorem Suf.trans {a b c : List Int} (h : Suf a b) (k : Suf b c) : Suf a c := by
  obtain ⟨p, rfl⟩ := h
  obtain ⟨q, rfl⟩ := k
  exact ⟨p + q, by rw [List.drop_drop]⟩
theorem Suf.refl (a : List Int) : Suf a a := ⟨0, rfl⟩
theorem num_suf {n : Nat} {l : List Int} {q : Int × List Int} (h : numP n l = some q) : Suf l q.2 := by
  unfold numP at h
  split at h
  · cases h
  · cases h; exact ⟨n, rfl⟩
theorem txt_suf {n : Nat} {l : List Int} {q : List Int × List Int} (h : txtP n l = some q) : Suf l q.2 := by
  unfold txtP at h
  split at h
  · cases h
  · cases h; exact ⟨n, rfl⟩
theorem entry_suf {first : Bool} {last l : List Int} {q : EntL × List Int} (h : entryP first last l = some q) : Suf l q.2 := by
  unfold entryP at h
  simp only [Option.bind_eq_bind, Option.bind_eq_some_iff] at h
  obtain ⟨a, ha, b, hb, h⟩ := h
  split at h
  · simp only [Option.bind_eq_some_iff] at h
    obtain ⟨c, hc, h⟩ := h
    split at h
    · simp only [Option.bind_eq_some_iff] at h
      obtain ⟨d, hd, h⟩ := h
      cases h
      exact (((num_suf ha).trans (txt_suf hb)).trans (num_suf hc)).trans (num_suf hd)
    · cases h
  · cases h
theorem tok_suf {old B : Nat} {l : List Int} {q : Tok × List Int} (h : tokP old B l = some q) : Suf l q.2 := by
  unfold tokP at h
  simp only [Option.bind_eq_bind, Option.bind_eq_some_iff] at h
  obtain ⟨a, ha, h⟩ := h
  split at h
  · simp only [Option.bind_eq_some_iff] at h
    obtain ⟨b, hb, h⟩ := h
    split at h
    · simp only [Option.bind_eq_some_iff] at h
      obtain ⟨c, hc, h⟩ := h
      cases h
      exact ((num_suf ha).trans (num_suf hb)).trans (txt_suf hc)
    · cases h
  · split at h
    · simp only [Option.bind_eq_some_iff] at h
      obtain ⟨b, hb, c, hc, h⟩ := h
      split at h
      · cases h
        exact ((num_suf ha).trans (num_suf hb)).trans (num_suf hc)
      · cases h
    · cases h
theorem toks_suf {old B : Nat} : ∀ (n : Nat) (l : List Int) (q : List Tok × List Int), toksP old B n l = some q → Suf l q.2
  | 0, l, q, h => by
    simp only [toksP, Option.some.injEq] at h
    rw [← h]; exact Suf.refl _
  | n + 1, l, q, h => by
    rw [toks_step] at h
    simp only [Option.bind_eq_some_iff, Option.map_eq_some_iff] at h
    obtain ⟨a, ha, b, hb, h⟩ := h
    rw [← h]
    have h2 := toks_suf n _ _ hb
    exact (tok_suf ha).trans h2
theorem basis_suf : ∀ (n : Nat) (last l : List Int) (q : List EntL × List Int), basisP n false last l = some q → Suf l q.2
  | 0, last, l, q, h => by
    simp only [basisP, Option.some.injEq] at h
    rw [← h]; exact Suf.refl _
  | n + 1, last, l, q, h => by
    rw [basis_step] at h
    simp only [Option.bind_eq_some_iff, Option.map_eq_some_iff] at h
    obtain ⟨a, ha, b, hb, h⟩ := h
    rw [← h]
    have h2 := basis_suf n _ _ _ hb
    exact (entry_suf ha).trans h2
theorem tokens_suf {old B : Nat} {z : Int} {l : List Int} {q : List Tok × List Int} (h : tokensP old B z l = some q) : Suf l q.2 := by
  unfold tokensP at h
  simp only [Option.bind_eq_some_iff] at h
  obtain ⟨d, hd, e, he, h⟩ := h
  split at h
  · cases h
    exact (num_suf hd).trans (toks_suf _ _ _ he)
  · cases h
theorem targets_suf {bas : List EntL} {B : Nat} : ∀ (n : Nat) (last l : List Int) (q : List (EntL × List Tok) × List Int), targetsP bas B n false last l = some q → Suf l q.2
  | 0, last, l, q, h => by
    simp only [targetsP, Option.some.injEq] at h
    rw [← h]; exact Suf.refl _
  | n + 1, last, l, q, h => by
    rw [targets_step] at h
    simp only [Option.bind_eq_some_iff, Option.map_eq_some_iff] at h
    obtain ⟨a, ha, b, hb, c, hc, h⟩ := h
    rw [← h]
    have h2 := targets_suf n _ _ _ hc
    exact ((entry_suf ha).trans (tokens_suf hb)).trans h2
theorem files_suf {l : List Int} {q : Nat × List Int} (h : filesP l = some q) : Suf l q.2 := by
  unfold filesP at h
  simp only [Option.bind_eq_some_iff] at h
  obtain ⟨u, hu, h⟩ := h
  split at h
  · cases h; exact num_suf hu
  · cases h

theorem num_ext {n : Nat} {l : List Int} {q : Int × List Int} (h : numP n l = some q) (t : List Int) : numP n (l ++ t) = some (q.1, q.2 ++ t) := by
  unfold numP at h ⊢
  split at h
  · cases h
  · rename_i hl
    cases h
    rw [if_neg (by rw [List.length_append]; omega), List.take_append_of_le_length (by omega), List.drop_append_of_le_length (by omega)]
theorem txt_ext {n : Nat} {l : List Int} {q : List Int × List Int} (h : txtP n l = some q) (t : List Int) : txtP n (l ++ t) = some (q.1, q.2 ++ t) := by
  unfold txtP at h ⊢
  split at h
  · cases h
  · rename_i hl
    cases h
    rw [if_neg (by rw [List.length_append]; omega), List.take_append_of_le_length (by omega), List.drop_append_of_le_length (by omega)]
theorem entry_ext {first : Bool} {last l : List Int} {q : EntL × List Int} (h : entryP first last l = some q) (t : List Int) : entryP first last (l ++ t) = some (q.1, q.2 ++ t) := by
  unfold entryP at h ⊢
  simp only [Option.bind_eq_bind, Option.bind_eq_some_iff] at h ⊢
  obtain ⟨a, ha, b, hb, h⟩ := h
  refine ⟨_, num_ext ha t, _, txt_ext hb t, ?_⟩
  split at h
  · rename_i hc1
    simp only [Option.bind_eq_some_iff] at h
    obtain ⟨c, hc, h⟩ := h
    rw [if_pos hc1]
    simp only [Option.bind_eq_some_iff]
    refine ⟨_, num_ext hc t, ?_⟩
    split at h
    · rename_i hc2
      simp only [Option.bind_eq_some_iff] at h
      obtain ⟨d, hd, h⟩ := h
      rw [if_pos hc2]
      simp only [Option.bind_eq_some_iff]
      refine ⟨_, num_ext hd t, ?_⟩
      cases h; rfl
    · cases h
  · cases h
theorem tok_ext {old B : Nat} {l : List Int} {q : Tok × List Int} (h : tokP old B l = some q) (t : List Int) : tokP old B (l ++ t) = some (q.1, q.2 ++ t) := by
  unfold tokP at h ⊢
  simp only [Option.bind_eq_bind, Option.bind_eq_some_iff] at h ⊢
  obtain ⟨a, ha, h⟩ := h
  refine ⟨_, num_ext ha t, ?_⟩
  split at h
  · rename_i h0
    rw [if_pos h0]
    simp only [Option.bind_eq_some_iff] at h ⊢
    obtain ⟨b, hb, h⟩ := h
    refine ⟨_, num_ext hb t, ?_⟩
    split at h
    · rename_i h1
      rw [if_pos h1]
      simp only [Option.bind_eq_some_iff] at h ⊢
      obtain ⟨c, hc, h⟩ := h
      refine ⟨_, txt_ext hc t, ?_⟩
      cases h; rfl
    · cases h
  · rename_i h0
    rw [if_neg h0]
    split at h
    · rename_i h1
      rw [if_pos h1]
      simp only [Option.bind_eq_some_iff] at h ⊢
      obtain ⟨b, hb, c, hc, h⟩ := h
      refine ⟨_, num_ext hb t, _, num_ext hc t, ?_⟩
      split at h
      · rename_i h2
        rw [if_pos h2]
        cases h; rfl
      · cases h
    · cases h
theorem toks_ext {old B : Nat} (t : List Int) : ∀ (n : Nat) (l : List Int) (q : List Tok × List Int), toksP old B n l = some q → toksP old B n (l ++ t) = some (q.1, q.2 ++ t)
  | 0, l, q, h => by
    simp only [toksP, Option.some.injEq] at h
    rw [← h]; rfl
  | n + 1, l, q, h => by
    rw [toks_step] at h ⊢
    simp only [Option.bind_eq_some_iff, Option.map_eq_some_iff] at h ⊢
    obtain ⟨a, ha, b, hb, h⟩ := h
    refine ⟨_, tok_ext ha t, _, toks_ext t n _ _ hb, ?_⟩
    rw [← h]
theorem basis_ext (t : List Int) : ∀ (n : Nat) (last l : List Int) (q : List EntL × List Int), basisP n false last l = some q → basisP n false last (l ++ t) = some (q.1, q.2 ++ t)
  | 0, last, l, q, h => by
    simp only [basisP, Option.some.injEq] at h
    rw [← h]; rfl
  | n + 1, last, l, q, h => by
    rw [basis_step] at h ⊢
    simp only [Option.bind_eq_some_iff, Option.map_eq_some_iff] at h ⊢
    obtain ⟨a, ha, b, hb, h⟩ := h
    refine ⟨_, entry_ext ha t, _, basis_ext t n _ _ _ hb, ?_⟩
    rw [← h]
theorem tokens_ext {old B : Nat} {z : Int} {l : List Int} {q : List Tok × List Int} (h : tokensP old B z l = some q) (t : List Int) : tokensP old B z (l ++ t) = some (q.1, q.2 ++ t) := by
  unfold tokensP at h ⊢
  simp only [Option.bind_eq_some_iff] at h ⊢
  obtain ⟨d, hd, e, he, h⟩ := h
  refine ⟨_, num_ext hd t, _, toks_ext t _ _ _ he, ?_⟩
  split at h
  · rename_i h0
    rw [if_pos h0]
    cases h; rfl
  · cases h
theorem targets_ext {bas : List EntL} {B : Nat} (t : List Int) : ∀ (n : Nat) (last l : List Int) (q : List (EntL × List Tok) × List Int), targetsP bas B n false last l = some q → targetsP bas B n false last (l ++ t) = some (q.1, q.2 ++ t)
  | 0, last, l, q, h => by
    simp only [targetsP, Option.some.injEq] at h
    rw [← h]; rfl
  | n + 1, last, l, q, h => by
    rw [targets_step] at h ⊢
    simp only [Option.bind_eq_some_iff, Option.map_eq_some_iff] at h ⊢
    obtain ⟨a, ha, b, hb, c, hc, h⟩ := h
    refine ⟨_, entry_ext ha t, _, tokens_ext hb t, _, targets_ext t n _ _ _ hc, ?_⟩
    rw [← h]
theorem files_ext {l : List Int} {q : Nat × List Int} (h : filesP l = some q) (t : List Int) : filesP (l ++ t) = some (q.1, q.2 ++ t) := by
  unfold filesP at h ⊢
  simp only [Option.bind_eq_some_iff] at h ⊢
  obtain ⟨u, hu, h⟩ := h
  refine ⟨_, num_ext hu t, ?_⟩
  split at h
  · rename_i h0
    rw [if_pos h0]
    cases h; rfl
  · cases h

/-- a batch with more bytes behind is none -/
theorem read_more {s s' : ByteArray} {t : List Int} {b : BatL} (h : readL (nums s) = some b) (ht : t ≠ []) (hs : nums s' = nums s ++ t) : readL (nums s') = none := by
  cases h' : readL (nums s') with
  | none => rfl
  | some b' =>
    exfalso
    obtain ⟨bl, bs, ts⟩ := b
    obtain ⟨bl', bs', ts'⟩ := b'
    obtain ⟨g4, _, h3, _, _, l1, l2, h1, h2, h5⟩ := read_parts h
    obtain ⟨_, _, h3', _, _, l1', l2', h1', h2', h5'⟩ := read_parts h'
    have hl := nums_length s
    rw [hs, List.drop_append_of_le_length (by omega)] at h1' h3'
    rw [List.take_append_of_le_length (by rw [List.length_drop]; omega), h3] at h3'
    subst h3'
    simp only [Option.bind_eq_some_iff] at h1 h2
    obtain ⟨q, hq, h1⟩ := h1
    obtain ⟨u, hu, h2⟩ := h2
    rw [files_ext hq t] at h1'
    simp only [Option.bind_some] at h1'
    rw [basis_ext t _ _ _ _ h1] at h1'
    simp only [Option.some.injEq, Prod.mk.injEq] at h1'
    obtain ⟨rfl, rfl⟩ := h1'
    rw [files_ext hu t] at h2'
    simp only [Option.bind_some] at h2'
    rw [targets_ext t _ _ _ _ h2] at h2'
    simp only [Option.some.injEq, Prod.mk.injEq] at h2'
    obtain ⟨rfl, rfl⟩ := h2'
    rw [num_ext h5 t] at h5'
    simp only [Option.some.injEq, Prod.mk.injEq, List.nil_append] at h5'
    exact ht h5'.2
/-- a batch ends with the digest of what is ahead -/
theorem read_end {s : ByteArray} {b : BatL} (h : readL (nums s) = some b) : 8 ≤ s.size ∧ getN ((nums s).drop (s.size - 8)) = digestOf ((nums s).take (s.size - 8)) := by
  obtain ⟨bl, bs, ts⟩ := b
  obtain ⟨g4, _, _, _, _, l1, l2, h1, h2, h5⟩ := read_parts h
  have hl := nums_length s
  simp only [Option.bind_eq_some_iff] at h1 h2
  obtain ⟨q, hq, h1⟩ := h1
  obtain ⟨u, hu, h2⟩ := h2
  have h40 : Suf (nums s) ((nums s).drop 4) := ⟨4, rfl⟩
  have h41 : Suf q.2 l1 := basis_suf _ _ _ _ h1
  have h42 : Suf u.2 l2 := targets_suf _ _ _ _ h2
  obtain ⟨p, hp⟩ : Suf (nums s) l2 := Suf.trans (Suf.trans (Suf.trans (Suf.trans h40 (files_suf hq)) h41) (files_suf hu)) h42
  unfold numP at h5
  split at h5
  · cases h5
  · rename_i hlen
    simp only [Option.some.injEq, Prod.mk.injEq] at h5
    have h6 := congrArg List.length h5.2
    rw [List.length_drop] at h6
    simp at h6
    have h8 : l2.length = 8 := by omega
    rw [hp, List.length_drop, hl] at h8
    have hpe : p = s.size - 8 := by omega
    refine ⟨by omega, ?_⟩
    have h7 := h5.1
    rw [List.take_of_length_le (by omega)] at h7
    rw [← hpe, ← hp, h7, hp]
    congr 2
    rw [List.length_drop]
    omega
/-- a batch of which one byte is another is none -/
theorem read_changed {s s' : ByteArray} {k : Nat} {y : Int} {b : BatL} (h : readL (nums s) = some b) (hk : k < (nums s).length) (hy : 0 ≤ y ∧ y < 256) (hne : y ≠ (nums s)[k]) (hs : nums s' = (nums s).set k y) : readL (nums s') = none := by
  cases h' : readL (nums s') with
  | none => rfl
  | some b' =>
    exfalso
    obtain ⟨g8, e1⟩ := read_end h
    obtain ⟨_, e2⟩ := read_end h'
    have hl := nums_length s
    have hsz : s'.size = s.size := by
      have := congrArg List.length hs
      rw [nums_length, List.length_set, nums_length] at this
      exact this
    rw [hs, hsz] at e2
    have hB := nums_bytes s
    rcases Nat.lt_or_ge k (s.size - 8) with hlt | hge
    · have a1 : ((nums s).set k y).drop (s.size - 8) = (nums s).drop (s.size - 8) := List.drop_set_of_lt hlt
      have a2 : ((nums s).set k y).take (s.size - 8) = ((nums s).take (s.size - 8)).set k y := List.take_set
      rw [a1, a2, e1] at e2
      have hk2 : k < ((nums s).take (s.size - 8)).length := by rw [List.length_take]; omega
      exact digest_one (hB.take _) hy hk2 (by rw [List.getElem_take]; exact hne) e2.symm
    · have a1 : ((nums s).set k y).take (s.size - 8) = (nums s).take (s.size - 8) := List.take_set_of_le hge
      rw [a1, ← e1] at e2
      have hB' : Bytes ((nums s).set k y) := by rw [← hs]; exact nums_bytes s'
      have := getN_inj 8 _ _ (by rw [List.length_drop, List.length_set]; omega) (by rw [List.length_drop]; omega) (hB'.drop _) (hB.drop _) e2
      have h9 := congrArg (fun l => l[k - (s.size - 8)]?) this
      simp only [List.getElem?_drop] at h9
      rw [show s.size - 8 + (k - (s.size - 8)) = k by omega, List.getElem?_set_self hk, List.getElem?_eq_getElem hk] at h9
      exact hne (Option.some.inj h9)
end Go.Proofs.YtbhccdedcoajmabGreatDoor
namespace Go.Proofs.YtbhccdedcoajmabGreatDoor
open Go.RowKit

/-- a file that mirrorkeep.tree makes, and that may be written -/
structure KqW (w : World) (base k : Nat) (q : Kq) : Prop where
  ok : KqOk w k q
  low : base ≤ q.b
  free : ∀ i, i < q.dt.size → w.frozen? ⟨q.b, i, none⟩ = false
theorem frozen_same {w w' : World} {p : Addr} (h : w'.heap[p.block]? = w.heap[p.block]?) : w'.frozen? p = w.frozen? p := by simp only [World.frozen?, h]

set_option maxRecDepth 10000 in
set_option maxHeartbeats 600000 in
theorem ktree_own (v : Value) (ss : List ByteArray) (bits : Int) (w : World) (hS : Sl w v ss) (_hl : ss.length ≤ maxLen) (hz : ∀ s ∈ ss, s.size ≤ maxLen) (hb : (Lit.int .i64 bits).wf = true) :
    Calls Tryz.prog 8 #[v, .int .i64 bits] w fun e w' => ∃ u k qs, e = .returned u ∧ k ≤ 8 ∧ qs.length ≤ k ∧ w'.ownsRow w.heap.size 37 2 u qs.length (kqCells qs) ∧ (∀ q ∈ qs, KqW w' w.heap.size k q) ∧ (qs.Pairwise fun a b => a.j < b.j ∧ a.b < b.b) ∧ (∀ q ∈ qs, u.ownBlock ≠ some q.b) ∧ Below w.heap.size w w' := by
  obtain ⟨i0, hi, z0, z1, z2⟩ := info_parts Tryz.info37
  have hbits : -9223372036854775808 ≤ bits ∧ bits ≤ 9223372036854775807 := by simpa [Lit.wf, IntKind.min, IntKind.max, IntKind.signed, IntKind.bits] using hb
  unfold maxLen at _hl
  obtain ⟨va, cap, rfl, hcap, hcell⟩ := hS
  have HC : Hid (∀ k, k < ss.length → ∃ (g o : Nat) (a : ByteArray), va = some ⟨g, o, none⟩ ∧ g < w.heap.size ∧ w.cell? ⟨g, o + k, none⟩ = some (.string a) ∧ a.size ≤ maxLen) := by
    intro k hk
    obtain ⟨g, o, e, hg, c⟩ := hcell k hk
    exact ⟨g, o, _, e, hg, c, hz _ (List.getElem_mem hk)⟩
  clear hcell hz hb
  generalize ss.length = n at *
  go_enter Tryz.func8, Tryz.ntmps8
  go_wp2_with fail
  go_loopw [5, 6] (fun v5 v6 wr => ∃ (k : Nat) (qs : List Kq), k ≤ 8 ∧ v6 = .int .i64 k ∧ qs.length ≤ k ∧ Hid (wr.ownsRow w.heap.size 37 2 v5 qs.length (kqCells qs)) ∧ Hid ((∀ q ∈ qs, KqW wr w.heap.size k q) ∧ (qs.Pairwise fun a b => a.j < b.j ∧ a.b < b.b) ∧ ∀ q ∈ qs, v5.ownBlock ≠ some q.b) ∧ Hid (Below w.heap.size w wr)) (fun _ v6 _ => 8 - (intOf v6).toNat)
  case atStart => exact ⟨0, [], by omega, rfl, by simp, World.ownsRow_nil _ _ _ _, ⟨fun q hq => by simp at hq, List.Pairwise.nil, fun q hq => by simp at hq⟩, Below.refl _ _⟩
  case round =>
    obtain ⟨k, qs, hk, rfl, hql, HOr, HQr, HBr⟩ := hrel
    by_cases h1 : k < n
    · by_cases h2 : k < 8
      · have h1' : (k : Int) < (n : Int) := by omega
        have h2' : (k : Int) < 8 := by omega
        obtain ⟨g, o, a, rfl, hg, c0, ha⟩ := HC.out k h1
        have d0 := (HBr.out.cell (p := ⟨g, o + k, none⟩) hg).trans c0
        clear c0
        have HSKIP : Hid ((∀ q ∈ qs, KqW wr w.heap.size (k + 1) q)) := fun q hq => ⟨⟨(HQr.out.1 q hq).ok.name, by have := (HQr.out.1 q hq).ok.lt; omega, (HQr.out.1 q hq).ok.size, (HQr.out.1 q hq).ok.blk, (HQr.out.1 q hq).ok.room, (HQr.out.1 q hq).ok.cells⟩, (HQr.out.1 q hq).low, (HQr.out.1 q hq).free⟩
        obtain ⟨t, HCL, ht⟩ : ∃ t : ByteArray, Hid (∀ W, Calls Tryz.prog 20 #[.string a, .int .i64 300] W fun e w' => e = .returned (.string t) ∧ w' = W) ∧ t.size ≤ 300 := by
          by_cases hs : a.size ≤ 300
          · exact ⟨a, fun W => clip_short a 300 hs ha W, hs⟩
          · exact ⟨a.extract 0 300, fun W => clip_long a 300 (by omega) ha W, by simp [ByteArray.size_extract]; omega⟩
        obtain ⟨o1, ho1⟩ : ∃ o1, o1 = Obj.cells #[.int .u8 (97 + (k : Int))] 5 := ⟨_, rfl⟩
        have hcv1 : (convert 25 9 (.slice (some ⟨wr.heap.size, 0, none⟩) 1 1)).run Tryz.prog (wr.alloc o1) = .ok (.string (bytesOf [97 + (k : Int)])) (wr.alloc o1) := by
          have := conv_cells wr.heap.size 0 1 [97 + (k : Int)] (wr.alloc o1) (fun x hx => by simp at hx; omega) (fun i h => by
            have : i = 0 := by simpa using h
            subst this
            rw [ho1]
            exact cell_new rfl rfl)
          exact this
        obtain ⟨cap2, W1, hr, hcap2, hcells, hfre, hW1, hbW⟩ := conv_any t (wr.alloc o1)
        rw [show (wr.alloc o1).heap.size = wr.heap.size + 1 by simp] at hr hcells hfre hW1 hbW
        have HFZ : Hid (∀ i, i < t.size → W1.frozen? ⟨wr.heap.size + 1, i, none⟩ = false) := fun i hi => (hfre i (by omega)).2
        have hbA : Below wr.heap.size wr W1 := ((Below.refl _ _).alloc (Nat.le_refl _) o1).trans (hbW.mono (by omega))
        rw [ho1] at hr hcv1
        have hmod : (97 + (k : Int)) % 256 = 97 + (k : Int) := by omega
        have HCE := hide hcells
        have HBA := hide hbA
        have HNM : Hid (nums (bytesOf [97 + (k : Int)]) = [((97 + k : Nat) : Int)]) := by
          show _ = _
          rw [nums_bytesOf (fun x hx => by simp at hx; omega)]
          simp
        have HO1 := hide (ownsRow_below HOr.out hbA)
        have HW1 := hide hW1
        clear hcells hfre hbW hbA ho1 hW1
        generalize bytesOf [97 + (k : Int)] = nm at *
        go_wp2_with fail
        · refine (HCL.out _).mono ?_
          rintro e w1 ⟨rfl, hw1⟩
          obtain rfl := hw1.symm
          go_wp2_with (at_builtin; refine wpList_append_own_at _ rfl (.tmp 28) (.tmp 37) 23 rfl w.heap.size 37 i0 (.agg #[.string ⟨#[]⟩, .slice none 0 0]) 2 40 Tryz.underlying23 hi z0 z1 z2 rfl (by decide) _ qs.length (kqCells qs) rfl (HO1.out.alloc _) ⟨W1.heap.size, 0, none⟩ 1 1 [.string nm, .slice (some ⟨wr.heap.size + 1, 0, none⟩) t.size cap2] rfl rfl ?ka ?kb ?kc ?kd ?ke ?kf)
          case ka =>
            intro j y hy
            match j, hy with
            | 0, hy => simp at hy; subst hy; simp [Addr.add]
            | 1, hy => simp at hy; subst hy; simp [Addr.add]
          case kb => intro y hy; simp at hy; rcases hy with rfl | rfl <;> rfl
          case kc => unfold maxLen; omega
          case kd => omega
          case ke => have := HBr.out.size; have := HW1.out; simp; omega
          case kf =>
            intro v5 w5 hown5 hgrow5 _ hloc5
            have hW1 := HW1.out
            have hgg := (World.grownBy_alloc W1 (.cells #[.string nm, .slice (some ⟨wr.heap.size + 1, 0, none⟩) t.size cap2] 37) u5.ownBlock).trans hgrow5
            have hrow : ∀ j, u5.ownBlock = some j → j < wr.heap.size := fun j hj => (HOr.out.lt j hj).2
            have hlast : w.heap.size ≤ wr.heap.size := HBr.out.size
            have HB5 : Hid (Below w.heap.size w w5) := (HBr.out.trans (HBA.out.mono hlast)).grown hgg (by omega) (fun j hj => (HOr.out.lt j hj).1)
            have HO5 : Hid (w5.ownsRow w.heap.size 37 2 v5 (qs ++ [(⟨k, nm, t, wr.heap.size + 1, cap2⟩ : Kq)]).length (kqCells (qs ++ [(⟨k, nm, t, wr.heap.size + 1, cap2⟩ : Kq)]))) := by rw [kqCells_snoc, List.length_append]; exact hown5
            have hw5 : wr.heap.size + 1 < w5.heap.size := by have := hgg.size; omega
            have HQ5 : Hid ((∀ q ∈ qs ++ [(⟨k, nm, t, wr.heap.size + 1, cap2⟩ : Kq)], KqW w5 w.heap.size (k + 1) q) ∧ ((qs ++ [(⟨k, nm, t, wr.heap.size + 1, cap2⟩ : Kq)]).Pairwise fun a b => a.j < b.j ∧ a.b < b.b) ∧ ∀ q ∈ qs ++ [(⟨k, nm, t, wr.heap.size + 1, cap2⟩ : Kq)], v5.ownBlock ≠ some q.b) := by
              refine ⟨fun q hq => ?_, ?_, fun q hq e => ?_⟩
              · rcases List.mem_append.1 hq with h | h
                · have h0 := HQr.out.1 q h
                  have h1 := h0.ok
                  have hbk : w5.heap[q.b]? = wr.heap[q.b]? := (hgg.block q.b (by have := h1.blk; omega) (fun e => HQr.out.2.2 q h e.symm)).trans (HBA.out.block q.b h1.blk)
                  refine ⟨⟨h1.name, by have := h1.lt; omega, h1.size, by have := h1.blk; omega, h1.room, fun i hi => hgg.cell ((HBA.out.cell (p := ⟨q.b, 0 + i, none⟩) h1.blk).trans (h1.cells i hi)) (fun e => HQr.out.2.2 q h e.symm)⟩, h0.low, fun i hi => (frozen_same (p := ⟨q.b, i, none⟩) hbk).trans (h0.free i hi)⟩
                · simp at h; subst h
                  have hbk : w5.heap[wr.heap.size + 1]? = W1.heap[wr.heap.size + 1]? := hgg.block _ (by omega) (fun e => by have := hrow _ e.symm; omega)
                  exact ⟨⟨HNM.out, by show k < k + 1; omega, ht, hw5, hcap2, fun i hi => hgg.cell (HCE.out i hi) (fun e => by have := hrow _ e.symm; simp at this; omega)⟩, by show w.heap.size ≤ wr.heap.size + 1; omega, fun i hi => (frozen_same (p := ⟨wr.heap.size + 1, i, none⟩) hbk).trans (HFZ.out i hi)⟩
              · rw [List.pairwise_append]
                refine ⟨HQr.out.2.1, List.pairwise_singleton _ _, fun x hx y hy => ?_⟩
                simp at hy; subst hy
                exact ⟨(HQr.out.1 x hx).ok.lt, by have := (HQr.out.1 x hx).ok.blk; show x.b < wr.heap.size + 1; omega⟩
              · have hat : v5.ownBlock = u5.ownBlock ∨ v5.ownBlock = some (W1.heap.size + 1) := by simpa using hloc5
                rcases List.mem_append.1 hq with h | h
                · rcases hat with h2 | h2
                  · exact HQr.out.2.2 q h (h2 ▸ e)
                  · have h1 := (HQr.out.1 q h).ok.blk
                    rw [h2] at e
                    simp at e
                    omega
                · simp at h; subst h
                  rcases hat with h2 | h2
                  · have := hrow _ (h2 ▸ e)
                    simp at this
                    omega
                  · rw [h2] at e
                    simp at e
                    omega
            clear hown5 hgrow5 hloc5 hgg hrow hW1
            go_wp2_with fail
            go_roundw
            case rel => exact ⟨k + 1, _, by omega, by go_num, by simp; omega, HO5.out, HQ5.out, HB5.out⟩
            case measure => simp [intOf]; omega
        · go_roundw
          case rel => exact ⟨k + 1, qs, by omega, by go_num, by omega, HOr.out, ⟨HSKIP.out, HQr.out.2.1, HQr.out.2.2⟩, HBr.out⟩
          case measure => simp [intOf]; omega
      · have h2' : 8 ≤ (k : Int) := by omega
        have h1' : (k : Int) < (n : Int) := by omega
        go_wp2_with fail
        go_ret
        exact ⟨_, k, qs, rfl, hk, hql, HOr.out, HQr.out.1, HQr.out.2.1, HQr.out.2.2, HBr.out⟩
    · have h1' : (n : Int) ≤ (k : Int) := by omega
      go_wp2_with fail
      go_ret
      exact ⟨_, k, qs, rfl, hk, hql, HOr.out, HQr.out.1, HQr.out.2.1, HQr.out.2.2, HBr.out⟩
end Go.Proofs.YtbhccdedcoajmabGreatDoor
namespace Go.Proofs.YtbhccdedcoajmabGreatDoor
open Go.RowKit Go.MuLone

theorem xor8_nat (a b : Nat) (ha : a < 256) (hb : b < 256) : bits .xor .u8 (a : Int) (b : Int) = ((a ^^^ b : Nat) : Int) := by
  have hx : a ^^^ b < 2 ^ 8 := Nat.xor_lt_two_pow (by omega) (by omega)
  have h1 : (BitVec.ofInt 8 (a : Int)).toNat = a := by
    rw [BitVec.ofInt_natCast, BitVec.toNat_ofNat]; exact Nat.mod_eq_of_lt (by omega)
  have h2 : (BitVec.ofInt 8 (b : Int)).toNat = b := by
    rw [BitVec.ofInt_natCast, BitVec.toNat_ofNat]; exact Nat.mod_eq_of_lt (by omega)
  show IntKind.u8.wrap ((BitVec.ofInt 8 (a : Int) ^^^ BitVec.ofInt 8 (b : Int)).toNat : Int) = _
  rw [BitVec.toNat_xor, h1, h2]
  simp [IntKind.wrap, IntKind.bits, IntKind.signed]
  omega
/-- a byte turned by another that is not 0: another byte, and turned again the old one -/
theorem xor8 (x v : Int) (hx : 0 ≤ x ∧ x < 256) (hv : 1 ≤ v ∧ v < 256) : (0 ≤ bits .xor .u8 x v ∧ bits .xor .u8 x v < 256) ∧ bits .xor .u8 x v ≠ x ∧ bits .xor .u8 (bits .xor .u8 x v) v = x := by
  obtain ⟨a, rfl⟩ : ∃ a : Nat, x = a := ⟨x.toNat, by omega⟩
  obtain ⟨b, rfl⟩ : ∃ a : Nat, v = a := ⟨v.toNat, by omega⟩
  have ha : a < 256 := by omega
  have hb : b < 256 := by omega
  have hl : a ^^^ b < 256 := Nat.xor_lt_two_pow (n := 8) (by omega) (by omega)
  rw [xor8_nat a b ha hb, xor8_nat _ b hl hb]
  refine ⟨⟨by omega, by omega⟩, fun h => ?_, ?_⟩
  · have h1 : a ^^^ b = a ^^^ 0 := by rw [Nat.xor_zero]; omega
    have := xor_cancel_left h1
    omega
  · rw [Nat.xor_assoc, Nat.xor_self, Nat.xor_zero]

/-- a row of bytes that may be written -/
def RowB (w : World) (g cap : Nat) (zs : List Int) : Prop := ∃ cur : Array Value, w.heap[g]? = some (.cells cur 5 (0, 0)) ∧ cur.size = cap ∧ zs.length ≤ cap ∧ ∀ j (h : j < zs.length), cur[j]? = some (.int .u8 zs[j])
theorem RowB.lt {w : World} {g cap : Nat} {zs : List Int} (h : RowB w g cap zs) : g < w.heap.size := by
  obtain ⟨cur, h1, _⟩ := h
  exact (Array.getElem?_eq_some_iff.1 h1).1
theorem RowB.same {w w' : World} {g cap : Nat} {zs : List Int} (h : RowB w g cap zs) (hb : w'.heap[g]? = w.heap[g]?) : RowB w' g cap zs := by
  obtain ⟨cur, h1, h2⟩ := h
  exact ⟨cur, hb.trans h1, h2⟩
theorem RowB.below {w w' : World} {g cap : Nat} {zs : List Int} (h : RowB w g cap zs) (hb : Below w.heap.size w w') : RowB w' g cap zs := h.same (hb.block g h.lt)
theorem RowB.cells {w : World} {g cap : Nat} {zs : List Int} (h : RowB w g cap zs) : ∀ k (h : k < zs.length), w.cell? ⟨g, 0 + k, none⟩ = some (.int .u8 zs[k]) := by
  obtain ⟨cur, h1, _, _, h4⟩ := h
  intro k hk
  rw [Nat.zero_add]
  exact cell_row h1 (h4 k hk)
theorem RowB.free {w : World} {g cap : Nat} {zs : List Int} (h : RowB w g cap zs) (j : Nat) : w.frozen? ⟨g, j, none⟩ = false := by
  obtain ⟨cur, h1, _⟩ := h
  exact frozen_of_row _ _ _ _ _ h1
theorem RowB.take {w : World} {g cap : Nat} {zs ys : List Int} (h : RowB w g cap (zs ++ ys)) : RowB w g cap zs := by
  obtain ⟨cur, h1, h2, h3, h4⟩ := h
  rw [List.length_append] at h3
  refine ⟨cur, h1, h2, by omega, fun j hj => ?_⟩
  rw [h4 j (by rw [List.length_append]; omega), List.getElem_append_left hj]
theorem RowB.set {w : World} {g cap : Nat} {zs : List Int} (h : RowB w g cap zs) (k : Nat) (hk : k < zs.length) (y : Int) : RowB (w.setCell ⟨g, k, none⟩ (.int .u8 y)) g cap (zs.set k y) := by
  obtain ⟨cur, h1, h2, h3, h4⟩ := h
  refine ⟨_, heap_setCell_same _ _ _ _ _ _ h1, by simpa using h2, by simpa using h3, fun j hj => ?_⟩
  rw [List.length_set] at hj
  by_cases e : j = k
  · subst e
    simp [show j < cur.size by omega]
  · rw [Array.getElem?_setIfInBounds_ne (fun h => e h.symm), h4 j hj, List.getElem_set_ne (fun h => e h.symm)]
theorem RowB.push {w : World} {g cap : Nat} {zs : List Int} (h : RowB w g cap zs) (hc : zs.length + 1 ≤ cap) (y : Int) : RowB (w.setCell ⟨g, zs.length, none⟩ (.int .u8 y)) g cap (zs ++ [y]) := by
  obtain ⟨cur, h1, h2, h3, h4⟩ := h
  refine ⟨_, heap_setCell_same _ _ _ _ _ _ h1, by simpa using h2, by simpa using hc, fun j hj => ?_⟩
  rw [List.length_append, List.length_singleton] at hj
  by_cases e : j = zs.length
  · subst e
    simp [show zs.length < cur.size by omega]
  · rw [Array.getElem?_setIfInBounds_ne (fun h => e h.symm), h4 j (by omega), List.getElem_append_left (by omega)]
theorem RowB.own {w : World} {base g cap : Nat} {zs : List Int} (h : w.ownsRow base 5 1 (.slice (some ⟨g, 0, none⟩) zs.length cap) zs.length (u8s zs)) : RowB w g cap zs := by
  rcases h.2 with ⟨hv, _⟩ | ⟨g', cap', cur, hv, _, hg, h1, h2, h3, h4⟩
  · cases hv
  · cases hv
    refine ⟨cur, hg, by omega, h1, fun j hj => ?_⟩
    have := congrArg (fun l => l[j]?) h4
    simp only [List.getElem?_take, Array.getElem?_toList] at this
    rw [if_pos (by omega)] at this
    rw [this]
    simp [u8s, hj]

/-- append(b, v): in its place, or in a new one -/
theorem wpList_append_rowB {ops : Array Oper} {rest : List Oper} {o : Oper} {a : Act} {Q : Exit → Act → World → Prop} (w : World) (hgd : o.guard = none) (s x : Operand)
    (hop : o.op = Op.call { callee := Callee.builtin Builtin.append, args := #[s, x], argTypes := #[25, 25] }) (g n cap : Nat) (zs : List Int) (hn : zs.length = n) (hs : a.eval s = .slice (some ⟨g, 0, none⟩) n cap) (hR : RowB w g cap zs) (hz : zs.length ≤ 70000)
    (ad : Addr) (v : Int) (c : Nat) (hx : a.eval x = .slice (some ad) 1 c) (hc : w.cell? (ad.add 0) = some (.int .u8 v))
    (h : ∀ g' cap' w', RowB w' g' cap' (zs ++ [v]) → RowB w' g cap zs → w.grownBy w' (some g) → (g' = g ∨ w.heap.size ≤ g') → wpList Tryz.prog ops Q rest (a.put o.dst (.slice (some ⟨g', 0, none⟩) (n + 1) cap')) w') : wpList Tryz.prog ops Q (o :: rest) a w := by
  subst hn
  obtain ⟨i0, hi, z0, z1, z2⟩ := info_parts Tryz.info5
  refine wpList_append_arg w hgd s x 25 hop 5 i0 (.int .u8 0) 1 1 Tryz.underlying25 hi z0 z1 z2 rfl (by decide) g 0 zs.length cap (u8s zs) hs (by simp [u8s]) ?_ ad 1 c [.int .u8 v] hx rfl ?_ ?_ ?_ (by unfold maxLen; omega) (by omega) ?_ ?_
  · intro j u hj
    have hl : j < zs.length := by
      rcases Nat.lt_or_ge j zs.length with h | h
      · exact h
      · rw [List.getElem?_eq_none (by simpa [u8s] using h)] at hj; cases hj
    rw [hR.cells j hl, ← hj]
    simp [u8s, hl]
  · intro j u hj
    match j, hj with
    | 0, hj => simp at hj; subst hj; exact hc
  · intro u hu; simp at hu; subst hu; rfl
  · intro hcap j hj
    obtain rfl : j = 0 := by simpa using hj
    refine ⟨?_, hR.free _⟩
    obtain ⟨cur, h1, h2, _, _⟩ := hR
    rw [show 0 + zs.length * 1 + 0 = zs.length by omega, cell_row h1 (Array.getElem?_eq_getElem (show zs.length < cur.size by omega))]
    rfl
  · intro hcap
    have hp := hR.push hcap v
    have e : w.setCells g (0 + zs.length * 1) [.int .u8 v] = w.setCell ⟨g, zs.length, none⟩ (.int .u8 v) := by
      rw [show 0 + zs.length * 1 = zs.length by omega]; rfl
    rw [e]
    exact h g cap _ hp hp.take (setCell_grown _) (.inl rfl)
  · intro hcap v' w' hown hgr
    rw [show u8s zs ++ [.int .u8 v] = u8s (zs ++ [v]) by simp [u8s]] at hown
    have hl : zs.length + 1 = (zs ++ [v]).length := by simp
    rw [hl] at hown
    rcases own_shape hown with ⟨_, h0⟩ | ⟨g', cap', rfl, hb, _, _⟩
    · simp at h0
    · have h3 : RowB w' g cap zs := hR.same (hgr.block g hR.lt (by simp))
      have h4 : w.grownBy w' (some g) := ⟨hgr.os, hgr.tape, hgr.output, hgr.size, fun k hk _ => hgr.block k hk (by simp)⟩
      have h5 := h g' cap' w' (RowB.own hown) h3 h4 (.inr hb)
      rw [hl] at h5
      exact h5

/-- the mirror stays where only a block outside of it is written -/
theorem Mir.grownOff {w w' : World} {m : Nat} {room : Int} {lo hi : Nat} {v v2 : Value} {fs : List (ByteArray × ByteArray)} {down : Bool} {g : Nat} (h : Mir w m room lo hi v v2 fs down) (hg : w.grownBy w' (some g)) (h1 : g < lo) (h2 : g ≠ m) : Mir w' m room lo hi v v2 fs down :=
  ⟨(hg.block m h.lt (by simp; exact fun e => h2 e.symm)).trans h.blk, h.tr.grown hg (fun k hk => by simp at hk; omega), h.off, h.sl⟩

theorem replay_bad {fs : List (ByteArray × ByteArray)} {s : List Int} {room : Int} (h : readL s = none) : replayS fs s room = .error (5, []) := by unfold replayS; rw [h]
theorem basis_turned : ∀ (fr : List (ByteArray × ByteArray)) (i : Nat) (hi : i < fr.length) (d : ByteArray), digestOf (nums d) ≠ digestOf (nums fr[i].2) → basisBad (fr.set i (fr[i].1, d)) ((fr.map filOf).map entOf) = some (nums fr[i].1)
  | p :: fr, 0, _, d, h => by
    show (if Same (p.1, d) (entOf (filOf p)) then _ else some (lesser (nums p.1) (nums p.1))) = some (nums p.1)
    rw [if_neg fun hs => h hs.2.2]
    unfold lesser
    split <;> rfl
  | p :: fr, i + 1, hi, d, h => by
    have hi' : i < fr.length := by simpa using hi
    show (if Same p (entOf (filOf p)) then basisBad (fr.set i (fr[i].1, d)) ((fr.map filOf).map entOf) else _) = some (nums fr[i].1)
    rw [if_pos ⟨rfl, rfl, rfl⟩]
    exact basis_turned fr i hi' d h
theorem replay_turned {fs fr : List (ByteArray × ByteArray)} {B : Nat} {s : ByteArray} {room : Int} (hB1 : 1 ≤ B) (hB2 : B ≤ 64) (hs : TreeOk fs) (hr : TreeOk fr) (hsn : nums s = recordL (fs.map filOf) (fr.map filOf) B) (i : Nat) (hi : i < fr.length) (d : ByteArray) (hd : digestOf (nums d) ≠ digestOf (nums fr[i].2)) :
    replayS (fr.set i (fr[i].1, d)) (nums s) room = .error (9, nums fr[i].1) := by
  unfold replayS
  rw [hsn, read_told hB1 hB2 hs hr]
  simp only
  unfold replayL
  simp only
  rw [basis_turned fr i hi d hd]

theorem KqW.below {w w' : World} {base k : Nat} {q : Kq} (h : KqW w base k q) (hb : Below w.heap.size w w') : KqW w' base k q :=
  ⟨⟨h.ok.name, h.ok.lt, h.ok.size, Nat.lt_of_lt_of_le h.ok.blk hb.size, h.ok.room, fun i hi => (hb.cell (p := ⟨q.b, 0 + i, none⟩) h.ok.blk).trans (h.ok.cells i hi)⟩, h.low, fun i hi => (hb.frozen (p := ⟨q.b, i, none⟩) h.ok.blk).trans (h.free i hi)⟩
/-- the trees' file i with a byte that is another -/
theorem kq_turned {w : World} {base base' k : Nat} {v : Value} {qs : List Kq} (h : w.ownsRow base 37 2 v qs.length (kqCells qs)) (hq : ∀ q ∈ qs, KqW w base' k q) (hp : qs.Pairwise fun a b => a.j < b.j ∧ a.b < b.b) (ho : ∀ q ∈ qs, v.ownBlock ≠ some q.b) (i : Nat) (hi : i < qs.length) (p : Nat) (y : Int) (hpl : p < qs[i].dt.size) (hy : 0 ≤ y ∧ y < 256) :
    Af (w.setCell ⟨qs[i].b, p, none⟩ (.int .u8 y)) v ((qs.map kqF).set i (qs[i].nm, bytesOf ((nums qs[i].dt).set p y))) := by
  have hBy : Bytes ((nums qs[i].dt).set p y) := by
    intro z hz
    rcases List.mem_or_eq_of_mem_set hz with h | h
    · exact nums_bytes _ z h
    · rw [h]; exact hy
  have hnb : nums (bytesOf ((nums qs[i].dt).set p y)) = (nums qs[i].dt).set p y := nums_bytesOf hBy
  have hsz : (bytesOf ((nums qs[i].dt).set p y)).size = qs[i].dt.size := by rw [bytesOf_size, List.length_set, nums_length]
  have hg : w.grownBy (w.setCell ⟨qs[i].b, p, none⟩ (.int .u8 y)) (some qs[i].b) := setCell_grown _
  rcases h.2 with ⟨hv, h0⟩ | ⟨g, cap, cur, hv, _, hgc, h1, _⟩
  · omega
  · have hlt : g < w.heap.size := (Array.getElem?_eq_some_iff.1 hgc).1
    have hgb : g ≠ qs[i].b := fun e => ho _ (List.getElem_mem hi) (by rw [hv, ← e]; rfl)
    have hsame : (w.setCell ⟨qs[i].b, p, none⟩ (.int .u8 y)).heap[g]? = w.heap[g]? := hg.block g hlt (by simpa using hgb)
    refine ⟨some ⟨g, 0, none⟩, cap, by rw [List.length_set, List.length_map]; exact hv, by rw [List.length_set, List.length_map]; exact h1, fun j hj => ?_⟩
    rw [List.length_set, List.length_map] at hj
    have hc0 := h.cells (g := g) (by rw [hv]; rfl) (j * 2) _ (kqCells_at qs j hj).1
    have hc1 := h.cells (g := g) (by rw [hv]; rfl) (j * 2 + 1) _ (kqCells_at qs j hj).2
    rw [add_at] at hc0 hc1
    have hk := (hq _ (List.getElem_mem hj)).ok
    have d0 := (World.cell?_of_block (a := ⟨g, j * 2, none⟩) hsame).trans hc0
    have d1 := (World.cell?_of_block (a := ⟨g, j * 2 + 1, none⟩) hsame).trans hc1
    by_cases e : j = i
    · subst e
      rw [List.getElem_set_self]
      refine ⟨g, qs[j].b, qs[j].cap, rfl, Nat.lt_of_lt_of_le hlt hg.size, d0, by simp only [hsz]; exact d1, Nat.lt_of_lt_of_le hk.blk hg.size, by simp only [hsz]; exact hk.room, fun t ht => ?_⟩
      have ht2 : t < (nums qs[j].dt).length := by
        have h7 : t < (nums (bytesOf ((nums qs[j].dt).set p y))).length := ht
        rw [hnb, List.length_set] at h7
        exact h7
      have hgt : (nums (bytesOf ((nums qs[j].dt).set p y)))[t]? = ((nums qs[j].dt).set p y)[t]? := by rw [hnb]
      rw [List.getElem?_eq_getElem ht, List.getElem?_eq_getElem (by rw [List.length_set]; exact ht2)] at hgt
      have hgt2 := Option.some.inj hgt
      show _ = some (Value.int .u8 (nums (bytesOf ((nums qs[j].dt).set p y)))[t])
      rw [hgt2]
      by_cases et : t = p
      · subst et
        rw [Nat.zero_add, List.getElem_set_self]
        have hsome := hk.cells t ht2
        rw [Nat.zero_add] at hsome
        exact World.cell?_setCell_same _ _ _ (by rw [hsome])
      · rw [List.getElem_set_ne (fun h => et h.symm), ← hk.cells t ht2]
        refine World.cell?_setCell_other _ _ _ _ (fun e => et ?_)
        simp at e
    · rw [List.getElem_set_ne (fun h => e h.symm), List.getElem_map]
      have hne : qs[j].b ≠ qs[i].b := by
        rw [List.pairwise_iff_getElem] at hp
        rcases Nat.lt_or_ge j i with hl | hl
        · have := (hp j i hj hi hl).2; omega
        · have := (hp i j hi hj (by omega)).2; omega
      refine ⟨g, qs[j].b, qs[j].cap, rfl, Nat.lt_of_lt_of_le hlt hg.size, d0, d1, Nat.lt_of_lt_of_le hk.blk hg.size, hk.room, fun t ht => ?_⟩
      exact (World.cell?_of_block (a := ⟨qs[j].b, 0 + t, none⟩) (hg.block _ hk.blk (by simpa using hne))).trans (hk.cells t ht)
/-- a tree of which a file's data is another, of the same size -/
theorem tree_turned {fr : List (ByteArray × ByteArray)} (h : TreeOk fr) (i : Nat) (hi : i < fr.length) (d : ByteArray) (hd : d.size = fr[i].2.size) : TreeOk (fr.set i (fr[i].1, d)) := by
  intro j hj
  rw [List.length_set] at hj
  have hn : ∀ t (ht : t < fr.length) (ht' : t < (fr.set i (fr[i].1, d)).length), (fr.set i (fr[i].1, d))[t].1 = fr[t].1 ∧ (fr.set i (fr[i].1, d))[t].2.size = fr[t].2.size := by
    intro t ht ht'
    by_cases e : t = i
    · subst e; rw [List.getElem_set_self]; exact ⟨rfl, hd⟩
    · rw [List.getElem_set_ne (fun h => e h.symm)]; exact ⟨rfl, rfl⟩
  obtain ⟨_, a1, a2, a3, a4⟩ := h j hj
  refine ⟨by rw [List.length_set]; exact hj, ?_, fun h0 => ?_, ?_, a4⟩
  · rw [(hn j hj (by rw [List.length_set]; exact hj)).1]; exact a1
  · rw [(hn j hj (by rw [List.length_set]; exact hj)).1, (hn (j - 1) (by omega) (by rw [List.length_set]; omega)).1]; exact a2 h0
  · rw [(hn j hj (by rw [List.length_set]; exact hj)).2]; exact a3
end Go.Proofs.YtbhccdedcoajmabGreatDoor
namespace Go.Proofs.YtbhccdedcoajmabGreatDoor
open Go.RowKit

set_option maxHeartbeats 400000 in
theorem pick_gen (c : Int) (hc : (Lit.int .i64 c).wf = true) (n : Nat) (h1 : 1 ≤ n) (h2 : n ≤ 70000) : ∃ k : Nat, k < n ∧ ∀ w, Calls Tryz.prog 15 #[.int .i64 c, .int .i64 n] w fun e w' => e = .returned (.int .i64 k) ∧ w' = w := by
  have hb : -9223372036854775808 ≤ c ∧ c ≤ 9223372036854775807 := by
    simpa [Lit.wf, IntKind.min, IntKind.max, IntKind.signed, IntKind.bits] using hc
  obtain ⟨hb1, hb2⟩ := hb
  clear hc
  have hz : ((n : Int) == 0) = false := by simp; omega
  have hz2 : ((n : Int) = 0) = False := by simp; omega
  rcases Int.lt_or_le c 0 with h | h
  · obtain ⟨r, hr⟩ : ∃ r, (-(c + 1)).tmod (n : Int) = r := ⟨_, rfl⟩
    have hr' : r = (-(c + 1)) % (n : Int) := by rw [← hr, Int.tmod_eq_emod_of_nonneg (by omega)]
    have hr0 : 0 ≤ r := by rw [hr']; exact Int.emod_nonneg _ (by omega)
    have hr1 : r < n := by rw [hr']; exact Int.emod_lt_of_pos _ (by omega)
    refine ⟨r.toNat, by omega, fun w => ?_⟩
    have hw1 : IntKind.i64.wrap (-(c + 1)) = -(c + 1) := by rw [IntKind.wrap_i64]; omega
    have hw2 : IntKind.i64.wrap r = r := by rw [IntKind.wrap_i64]; omega
    have hrn : (r.toNat : Int) = r := by omega
    rw [hrn]
    have hneg : -((c + 1).tmod (n : Int)) = r := by rw [← Int.neg_tmod]; exact hr
    clear hr'
    go_enter Tryz.func15, Tryz.ntmps15
    go_wp2_with fail
    go_ret
    refine ⟨ret_int ?_, rfl⟩
    first
    | rfl
    | exact hr
    | exact hneg
    | (rw [← Int.neg_tmod]; exact hr)
  · obtain ⟨r, hr⟩ : ∃ r, c.tmod (n : Int) = r := ⟨_, rfl⟩
    have hr' : r = c % (n : Int) := by rw [← hr, Int.tmod_eq_emod_of_nonneg (by omega)]
    have hr0 : 0 ≤ r := by rw [hr']; exact Int.emod_nonneg _ (by omega)
    have hr1 : r < n := by rw [hr']; exact Int.emod_lt_of_pos _ (by omega)
    refine ⟨r.toNat, by omega, fun w => ?_⟩
    have hw2 : IntKind.i64.wrap r = r := by rw [IntKind.wrap_i64]; omega
    have hrn : (r.toNat : Int) = r := by omega
    rw [hrn]
    clear hr'
    go_enter Tryz.func15, Tryz.ntmps15
    go_wp2_with fail
    go_ret
    refine ⟨ret_int ?_, rfl⟩
    first
    | rfl
    | exact hr
end Go.Proofs.YtbhccdedcoajmabGreatDoor
namespace Go.Proofs.YtbhccdedcoajmabGreatDoor
open Go.RowKit Go.MuLone

set_option maxRecDepth 10000 in
set_option maxHeartbeats 1000000 in
theorem walk_broken (v0 : Value) (s0 : List ByteArray) (bits : Int) (v1 : Value) (s1 : List ByteArray) (older blk n : Int) (w : World) (he : ErrT w)
    (h0 : Sl w v0 s0) (l0 : s0.length ≤ maxLen) (z0 : ∀ s ∈ s0, s.size ≤ maxLen) (hbits : (Lit.int .i64 bits).wf = true) (h1 : Sl w v1 s1) (l1 : s1.length ≤ maxLen) (z1 : ∀ s ∈ s1, s.size ≤ maxLen) (holder : (Lit.int .i64 older).wf = true) (hblk : (Lit.int .i64 blk).wf = true) (hn : (Lit.int .i64 n).wf = true) :
    Calls Tryz.prog 4 #[v0, .int .i64 bits, v1, .int .i64 older, .int .i64 blk, .int .i64 n] w fun e w' => e = .returned (.bool true) ∧ Below w.heap.size w w' := by
  have HT1 := hide (ktree_any v0 s0 bits w h0 l0 z0 hbits)
  have HT2 : Hid (∀ W, Below w.heap.size w W → Calls Tryz.prog 8 #[v1, .int .i64 older] W fun e w' => ∃ u k qs, e = .returned u ∧ k ≤ 8 ∧ qs.length ≤ k ∧ w'.ownsRow W.heap.size 37 2 u qs.length (kqCells qs) ∧ (∀ q ∈ qs, KqW w' W.heap.size k q) ∧ (qs.Pairwise fun a b => a.j < b.j ∧ a.b < b.b) ∧ (∀ q ∈ qs, u.ownBlock ≠ some q.b) ∧ Below W.heap.size W w') := fun W hb => ktree_own v1 s1 older W (h1.below hb) l1 z1 holder
  have HE := hide he
  have HBL := hide hblk
  have HPK : Hid (∀ c : Nat, 1 ≤ c → c ≤ 70000 → ∃ k : Nat, k < c ∧ ∀ w, Calls Tryz.prog 15 #[.int .i64 n, .int .i64 c] w fun e w' => e = .returned (.int .i64 k) ∧ w' = w) := fun c a b => pick_gen n hn c a b
  clear h0 l0 z0 hbits h1 l1 z1 holder hblk he hn
  go_enter Tryz.func4, Tryz.ntmps4
  go_wp2_with fail
  refine HT1.out.mono ?_
  rintro e w1 ⟨u1, fs, rfl, hA1, hTs, hb1⟩
  have HA1 := hide hA1
  have HTS := hide hTs
  have HB1 := hide hb1
  clear hA1 hTs hb1 HT1
  go_wp2_with fail
  refine (HT2.out _ HB1.out).mono ?_
  rintro e w2 ⟨u2, kq, qs, rfl, hk8, hql, hrow, hqw, hpw, hoff, hb2⟩
  obtain ⟨fr, hfr⟩ : ∃ fr, fr = qs.map kqF := ⟨_, rfl⟩
  have HFL : Hid (fr.length = qs.length) := by show _ = _; rw [hfr, List.length_map]
  have HA1b := hide (HA1.out.below hb2)
  have HA2 : Hid (Af w2 u2 fr) := by show Af _ _ _; rw [hfr]; exact kq_af hrow fun q hq => (hqw q hq).ok
  have HTR : Hid (TreeOk fr) := by show TreeOk _; rw [hfr]; exact kq_tree hk8 hql (fun q hq => (hqw q hq).ok) (hpw.imp fun h => h.1)
  have HB2 : Hid (Below w.heap.size w w2) := below_all HB1.out hb2
  have HRW := hide hrow
  have HQW := hide hqw
  have HPW := hide hpw
  have HOF := hide hoff
  have HFR := hide hfr
  have hw1 : w.heap.size ≤ w1.heap.size := HB1.out.size
  clear hrow hqw hpw hoff hfr hb2 HT2 HA1 HB1
  have h8 := HTS.out.len
  have g8 := HTR.out.len
  have hbn : bytesIn fs ≤ 2400 := by have := bytesIn_le (fs := fs) (fun p hp => (HTS.out.sizes p hp).2); omega
  obtain ⟨ra, rcp, hru, hrc, hrcell⟩ := HA2.out
  subst hru
  clear hrcell
  have HBR := hide (brought_ok u1 (.slice ra fr.length rcp) fs fr blk 4000 w2 HBL.out (by omega) (by omega) HA1b.out HA2.out HTS.out HTR.out)
  go_wp2_with fail
  refine HBR.out.mono ?_
  rintro e w4 ⟨B, g, cap, m, lo, hi, u, s, rfl, hB1, hB2, hsn, hsl, hs0, hcap, hg1, hglo, hgm, hown, hM, hb4⟩
  have hz1 : 1 ≤ s.size := hs0
  have hz2 : s.size ≤ 70000 := Nat.le_trans hsl (by decide)
  have hpick1 := HPK.out s.size hz1 hz2
  obtain ⟨kk, hkk, hpk1⟩ := hpick1
  obtain ⟨pv, hpv, hpk2⟩ := HPK.out 255 (by decide) (by decide)
  have HK1 := hide hpk1
  have HK2 := hide hpk2
  clear hpk1 hpk2
  have hns : (nums s).length = s.size := nums_length s
  have HRD : Hid (∃ b, readL (nums s) = some b) := ⟨_, by rw [hsn]; exact read_told hB1 hB2 HTS.out HTR.out⟩
  have HTU : Hid (∀ (i : Nat) (hi : i < fr.length) (d : ByteArray), digestOf (nums d) ≠ digestOf (nums fr[i].2) → replayS (fr.set i (fr[i].1, d)) (nums s) 4000 = .error (9, nums fr[i].1)) := fun i hi d hd => replay_turned hB1 hB2 HTS.out HTR.out hsn i hi d hd
  have hgl : g < w4.heap.size := (hown.lt g rfl).2
  have HRB : Hid (RowB w4 g cap (nums s)) := RowB.own (base := w2.heap.size) (by rw [nums_length]; exact hown)
  have HM4 := hide hM
  have HB4 : Hid (Below w2.heap.size w2 w4) := hb4
  have HZR : Hid (∀ p ∈ fr, p.2.size ≤ 300) := fun p hp => (HTR.out.sizes p hp).2
  have hw2 : w.heap.size ≤ w2.heap.size := HB2.out.size
  clear hown hM hb4 HBR hsn
  obtain ⟨x, hx⟩ : ∃ x, (nums s)[kk]'(by omega) = x := ⟨_, rfl⟩
  obtain ⟨y, hy⟩ : ∃ y, Go.bits .xor .u8 x (1 + (pv : Int)) = y := ⟨_, rfl⟩
  have hxb : 0 ≤ x ∧ x < 256 := by rw [← hx]; exact nums_bytes s _ (List.getElem_mem _)
  obtain ⟨hyb, hyx, hyy⟩ := xor8 x (1 + (pv : Int)) hxb (by omega)
  rw [hy] at hyb hyx hyy
  have c4 := HRB.out.cells kk (by omega)
  rw [hx, Nat.zero_add] at c4
  have f4 := HRB.out.free kk
  have hmod : (1 + (pv : Int)) % 256 = 1 + (pv : Int) := by omega
  have hwr : IntKind.i64.wrap (1 + (pv : Int)) = 1 + (pv : Int) := by rw [IntKind.wrap_i64]; omega
  have hwr8 : IntKind.u8.wrap (1 + (pv : Int)) = 1 + (pv : Int) := by simp [IntKind.wrap, IntKind.bits, IntKind.signed]; omega
  have HXY := hide hyx
  have HYB := hide hyb
  have HX := hide hx
  clear hyx hyb hxb hx
  go_wp2_with fail
  refine (HK1.out _).mono ?_
  rintro e w5 ⟨rfl, hw5⟩
  obtain rfl := hw5.symm
  go_wp2_with fail
  refine (HK2.out _).mono ?_
  rintro e w5 ⟨rfl, hw5⟩
  obtain rfl := hw5.symm
  go_wp2_with fail
  obtain ⟨W5, hW5⟩ : ∃ W, W = w4.setCell ⟨g, kk, none⟩ (.int .u8 y) := ⟨_, rfl⟩
  rw [← hW5]
  have hgr5 : w4.grownBy W5 (some g) := by rw [hW5]; exact setCell_grown _
  have HR5 : Hid (RowB W5 g cap ((nums s).set kk y)) := by show RowB _ _ _ _; rw [hW5]; exact HRB.out.set kk (by omega) y
  have HM5 := hide (HM4.out.grownOff hgr5 hglo (by omega))
  have HB5 : Hid (Below w2.heap.size w2 W5) := HB4.out.grown hgr5 HB4.out.size (fun j hj => by simp at hj; omega)
  have HE5 : Hid (ErrT W5) := HE.out.keep (below_all HB2.out HB5.out)
  have hgl5 : g < W5.heap.size := HR5.out.lt
  clear hW5 hgr5 HRB HM4 HB4 c4 f4
  obtain ⟨t1, ht1n, ht1z⟩ : ∃ t : ByteArray, nums t = (nums s).set kk y ∧ t.size = s.size := by
    refine ⟨bytesOf ((nums s).set kk y), nums_bytesOf fun z hz => ?_, by rw [bytesOf_size, List.length_set, nums_length]⟩
    rcases List.mem_or_eq_of_mem_set hz with h | h
    · exact nums_bytes _ z h
    · rw [h]; exact HYB.out
  have HS5 : Hid (replayS fr (nums t1) 4000 = .error (5, [])) := by
    obtain ⟨b0, hb0⟩ := HRD.out
    exact replay_bad (read_changed hb0 (by omega) HYB.out (by rw [HX.out]; exact HXY.out) ht1n)
  have hrp5 := pReplay_any m 4000 lo hi u (.slice none 0 0) fr g cap t1 0 W5 HE5.out HM5.out (by omega) (by omega) (by omega) hgl5 (by omega) (by have h9 := HR5.out.cells; rw [← ht1n] at h9; exact h9) (by omega) HZR.out
  rw [ht1z] at hrp5
  have HRP5 := hide hrp5
  clear hrp5 ht1n ht1z
  refine HRP5.out.mono ?_
  rintro e w6 ⟨k6, nm6, rfl, hq6⟩
  unfold PRplQ at hq6
  rw [HS5.out] at hq6
  obtain ⟨rfl, _, hb6⟩ := hq6
  have HR6 := hide (HR5.out.below hb6)
  have HM6 := hide (HM5.out.below hb6)
  have HB6 : Hid (Below w2.heap.size w2 w6) := below_all HB5.out hb6
  have c6 := HR6.out.cells kk (by rw [List.length_set]; omega)
  rw [List.getElem_set_self, Nat.zero_add] at c6
  have f6 := HR6.out.free kk
  clear hb6 HRP5 HR5 HM5 HB5 HE5 HS5 hgl5
  have hkc : kk ≤ cap := by omega
  go_wp2_with fail
  obtain ⟨W7, hW7⟩ : ∃ W, W = w6.setCell ⟨g, kk, none⟩ (.int .u8 x) := ⟨_, rfl⟩
  rw [← hW7]
  have hgr7 : w6.grownBy W7 (some g) := by rw [hW7]; exact setCell_grown _
  have HR7 : Hid (RowB W7 g cap (nums s)) := by
    show RowB _ _ _ _
    have h9 := HR6.out.set kk (by rw [List.length_set]; omega) x
    rw [← hW7, List.set_set, ← HX.out, List.set_getElem_self] at h9
    exact h9
  have HM7 := hide (HM6.out.grownOff hgr7 hglo (by omega))
  have HB7 : Hid (Below w2.heap.size w2 W7) := HB6.out.grown hgr7 HB6.out.size (fun j hj => by simp at hj; omega)
  have HE7 : Hid (ErrT W7) := HE.out.keep (below_all HB2.out HB7.out)
  have hgl7 : g < W7.heap.size := HR7.out.lt
  clear hW7 hgr7 HR6 HM6 HB6 c6 f6 hy hyy
  obtain ⟨t2, ht2n, ht2z⟩ : ∃ t : ByteArray, nums t = (nums s).take kk ∧ t.size = kk := by
    refine ⟨bytesOf ((nums s).take kk), nums_bytesOf ((nums_bytes s).take _), ?_⟩
    rw [bytesOf_size, List.length_take, nums_length]
    omega
  have HS7 : Hid (replayS fr (nums t2) 4000 = .error (5, [])) := by
    obtain ⟨b0, hb0⟩ := HRD.out
    refine replay_bad ?_
    cases h9 : readL (nums t2) with
    | none => rfl
    | some b1 =>
      have h10 := read_more (s' := s) (t := (nums s).drop kk) h9 (fun e => by have := congrArg List.length e; rw [List.length_drop] at this; simp at this; omega) (by rw [ht2n, List.take_append_drop])
      rw [hb0] at h10
      cases h10
  have hrp7 := pReplay_any m 4000 lo hi u (.slice none 0 0) fr g cap t2 0 W7 HE7.out HM7.out (by omega) (by omega) (by omega) hgl7 (by omega) (by
    have h9 : RowB W7 g cap (nums t2) := by
      have h10 := HR7.out
      rw [← List.take_append_drop kk (nums s), ← ht2n] at h10
      exact h10.take
    exact h9.cells) (by omega) HZR.out
  rw [ht2z] at hrp7
  have HRP7 := hide hrp7
  clear hrp7 ht2n ht2z
  refine HRP7.out.mono ?_
  rintro e w8 ⟨k8, nm8, rfl, hq8⟩
  unfold PRplQ at hq8
  rw [HS7.out] at hq8
  obtain ⟨rfl, _, hb8⟩ := hq8
  have HR8 := hide (HR7.out.below hb8)
  have HM8 := hide (HM7.out.below hb8)
  have HB8 : Hid (Below w2.heap.size w2 w8) := below_all HB7.out hb8
  clear hb8 HRP7 HR7 HM7 HB7 HE7 HS7 hgl7
  go_wp2_with (at_builtin; refine wpList_append_rowB _ rfl (.tmp 87) (.tmp 89) rfl g s.size cap (nums s) (nums_length s) rfl (HR8.out.below ((Below.refl _ _).alloc (Nat.le_refl _) _)) (by omega) ⟨w8.heap.size, 0, none⟩ (1 + (pv : Int)) 1 rfl ?kc ?kf)
  case kc => simp [Addr.add]
  case kf =>
    intro g9 cap9 w9 hR9 hR9b hgr9 hloc9
    have hm8 : m < w8.heap.size := HM8.out.lt
    have hmg : g9 ≠ m := by
      rcases hloc9 with h | h
      · omega
      · have h11 : w8.heap.size + 1 ≤ g9 := by simpa using h
        omega
    have hgg := (grown_of_below (row := some g) ((Below.refl w8.heap.size w8).alloc (Nat.le_refl _) _)).trans hgr9
    have HR9 := hide hR9
    have HR9b := hide hR9b
    have HM9 := hide (HM8.out.grownOff hgg hglo (by omega))
    have HB9 : Hid (Below w2.heap.size w2 w9) := HB8.out.grown hgg HB8.out.size (fun j hj => by simp at hj; omega)
    have HE9 : Hid (ErrT w9) := HE.out.keep (below_all HB2.out HB9.out)
    have hgl9 : g9 < w9.heap.size := HR9.out.lt
    obtain ⟨_, _, _, hcap9, _⟩ := hR9
    rw [List.length_append, List.length_singleton, hns] at hcap9
    obtain ⟨t3, ht3n, ht3z⟩ : ∃ t : ByteArray, nums t = nums s ++ [1 + (pv : Int)] ∧ t.size = s.size + 1 := by
      refine ⟨bytesOf (nums s ++ [1 + (pv : Int)]), nums_bytesOf fun z hz => ?_, by rw [bytesOf_size, List.length_append, nums_length]; rfl⟩
      rcases List.mem_append.1 hz with h | h
      · exact nums_bytes _ z h
      · simp at h; omega
    have HS9 : Hid (replayS fr (nums t3) 4000 = .error (5, [])) := by
      obtain ⟨b0, hb0⟩ := HRD.out
      exact replay_bad (read_more hb0 (by simp) ht3n)
    have hrp9 := pReplay_any m 4000 lo hi u (.slice none 0 0) fr g9 cap9 t3 0 w9 HE9.out HM9.out (by omega) (by omega) (by omega) hgl9 hmg (by have h9 := HR9.out.cells; rw [← ht3n] at h9; exact h9) (by omega) HZR.out
    rw [ht3z] at hrp9
    have HRP9 := hide hrp9
    clear hrp9 ht3n ht3z hR9b hgr9 hloc9 hgg hm8 HR9 HR8 HM8 HB8
    go_wp2_with fail
    refine HRP9.out.mono ?_
    rintro e w10 ⟨k10, nm10, rfl, hq10⟩
    unfold PRplQ at hq10
    rw [HS9.out] at hq10
    obtain ⟨rfl, _, hb10⟩ := hq10
    have HR10 := hide (HR9b.out.below hb10)
    have HM10 := hide (HM9.out.below hb10)
    have HB10 : Hid (Below w2.heap.size w2 w10) := below_all HB9.out hb10
    clear hb10 HRP9 HR9b HM9 HB9 HE9 HS9 hgl9 hmg hcap9
    go_wp2_with fail
    refine (has_any m 4000 lo hi u (.slice none 0 0) fr (.slice ra fr.length rcp) fr w10 HM10.out (by omega) (fun p hp => by have := HZR.out p hp; omega) (HA2.out.below HB10.out).ag).mono ?_
    rintro e w11 ⟨r, rfl, ⟨lf, rfl, hlf⟩, hb11⟩
    obtain rfl := hlf.2 rfl
    have HR11 := hide (HR10.out.below hb11)
    have HB11 : Hid (Below w2.heap.size w2 w11) := below_all HB10.out hb11
    clear hlf hb11 HR10 HM10 HB10
    rcases Nat.eq_zero_or_pos fr.length with hz | hz
    · rw [hz]
      go_wp2_with fail
      go_ret
      exact ⟨rfl, below_all HB2.out HB11.out⟩
    · have hzi : decide ((fr.length : Int) = 0) = false := decide_eq_false (by omega)
      have hzi2 : (fr.length : Int) ≠ 0 := by omega
      obtain ⟨i, hi2, hpki⟩ := HPK.out fr.length hz (by omega)
      have HK3 := hide hpki
      clear hpki
      go_wp2_with fail
      refine (HK3.out _).mono ?_
      rintro e w12 ⟨rfl, hw12⟩
      obtain rfl := hw12.symm
      have hiq : i < qs.length := by rw [← HFL.out]; exact hi2
      have hrw11 := ownsRow_below HRW.out HB11.out
      have hq11 : ∀ q ∈ qs, KqW w11 w1.heap.size kq q := fun q hq => (HQW.out q hq).below HB11.out
      obtain ⟨gr, hra, hgr, c0, c1⟩ : ∃ gr, ra = some ⟨gr, 0, none⟩ ∧ gr < w11.heap.size ∧ w11.cell? ⟨gr, i * 2, none⟩ = some (.string qs[i].nm) ∧ w11.cell? ⟨gr, i * 2 + 1, none⟩ = some (.slice (some ⟨qs[i].b, 0, none⟩) qs[i].dt.size qs[i].cap) := by
        rcases hrw11.2 with ⟨_, h0⟩ | ⟨gr, cap', cur, hv, _, hgc, _⟩
        · omega
        · have hra : ra = some ⟨gr, 0, none⟩ := by injection hv
          have k0 := hrw11.cells (g := gr) (by rw [hv]; rfl) (i * 2) _ (kqCells_at qs i hiq).1
          have k1 := hrw11.cells (g := gr) (by rw [hv]; rfl) (i * 2 + 1) _ (kqCells_at qs i hiq).2
          rw [add_at] at k0 k1
          exact ⟨gr, hra, (Array.getElem?_eq_some_iff.1 hgc).1, k0, k1⟩
      have hki := hq11 _ (List.getElem_mem hiq)
      have HAF : Hid (∀ p y, p < qs[i].dt.size → 0 ≤ y ∧ y < 256 → Af (w11.setCell ⟨qs[i].b, p, none⟩ (.int .u8 y)) (.slice ra fr.length rcp) (fr.set i (qs[i].nm, bytesOf ((nums qs[i].dt).set p y)))) := by
        intro p y hp hy
        have h9 := kq_turned hrw11 hq11 HPW.out HOF.out i hiq p y hp hy
        rw [← HFR.out] at h9
        exact h9
      have hbg : qs[i].b < w2.heap.size := (HQW.out _ (List.getElem_mem hiq)).ok.blk
      have hgb : gr ≠ qs[i].b := fun e => HOF.out _ (List.getElem_mem hiq) (by rw [hra, ← e]; rfl)
      have HFI : Hid (fr[i] = (qs[i].nm, qs[i].dt)) := by show fr[i] = _; simp only [HFR.out, List.getElem_map]; rfl
      subst hra
      generalize qs[i] = q at *
      have HKI := hide hki
      clear hki hq11 hrw11
      have c1' := c1
      rcases Nat.eq_zero_or_pos q.dt.size with hd0 | hd0
      · rw [hd0] at c1'
        clear c1
        go_wp2_with fail
        go_ret
        exact ⟨rfl, below_all HB2.out HB11.out⟩
      · clear c1'
        have hd3 : q.dt.size ≤ 300 := HKI.out.ok.size
        obtain ⟨p, hp, hpkp⟩ := HPK.out q.dt.size hd0 (by omega)
        have HK4 := hide hpkp
        clear hpkp
        have hdi2 : (q.dt.size : Int) ≠ 0 := by omega
        have hnq : (nums q.dt).length = q.dt.size := nums_length _
        obtain ⟨x2, hx2⟩ : ∃ x, (nums q.dt)[p]'(by omega) = x := ⟨_, rfl⟩
        obtain ⟨y2, hy2⟩ : ∃ y, Go.bits .xor .u8 x2 (1 + (pv : Int)) = y := ⟨_, rfl⟩
        have hxb : 0 ≤ x2 ∧ x2 < 256 := by rw [← hx2]; exact nums_bytes _ _ (List.getElem_mem _)
        obtain ⟨hyb, hyx, _⟩ := xor8 x2 (1 + (pv : Int)) hxb (by omega)
        rw [hy2] at hyb hyx
        have c3 := HKI.out.ok.cells p (by omega)
        rw [hx2, Nat.zero_add] at c3
        have f3 := HKI.out.free p hp
        have HXY2 := hide hyx
        have HYB2 := hide hyb
        have HX2 := hide hx2
        have hroom : q.dt.size ≤ q.cap := HKI.out.ok.room
        clear hyx hyb hxb hx2
        go_wp2_with fail
        refine (HK4.out _).mono ?_
        rintro e w13 ⟨rfl, hw13⟩
        obtain rfl := hw13.symm
        go_wp2_with fail
        obtain ⟨d2, hd2⟩ : ∃ d, d = bytesOf ((nums q.dt).set p y2) := ⟨_, rfl⟩
        have hd2n : nums d2 = (nums q.dt).set p y2 := by
          rw [hd2]
          refine nums_bytesOf fun z hz => ?_
          rcases List.mem_or_eq_of_mem_set hz with h | h
          · exact nums_bytes _ z h
          · rw [h]; exact HYB2.out
        have hd2z : d2.size = q.dt.size := by rw [hd2, bytesOf_size, List.length_set, nums_length]
        have haf := HAF.out p y2 hp HYB2.out
        rw [← hd2] at haf
        have HTR2 : Hid (TreeOk (fr.set i (q.nm, d2))) := by
          have h9 := tree_turned HTR.out i hi2 d2 (by rw [HFI.out]; exact hd2z)
          rw [HFI.out] at h9
          exact h9
        have HS2 : Hid (replayS (fr.set i (q.nm, d2)) (nums s) 4000 = .error (9, nums q.nm)) := by
          have h9 := HTU.out i hi2 d2 (by rw [HFI.out, hd2n]; exact digest_one (nums_bytes _) HYB2.out (by omega) (by rw [HX2.out]; exact HXY2.out))
          rw [HFI.out] at h9
          exact h9
        obtain ⟨ft, hft⟩ : ∃ ft, fr.set i (q.nm, d2) = ft := ⟨_, rfl⟩
        have hftl : ft.length = fr.length := by rw [← hft, List.length_set]
        rw [hft] at haf HTR2 HS2
        obtain ⟨W13, hW13⟩ : ∃ W, W = w11.setCell ⟨q.b, p, none⟩ (.int .u8 y2) := ⟨_, rfl⟩
        rw [← hW13] at haf
        rw [← hW13]
        have hgr13 : w11.grownBy W13 (some q.b) := by rw [hW13]; exact setCell_grown _
        have hlow : w1.heap.size ≤ q.b := HKI.out.low
        have HB13 : Hid (Below w.heap.size w W13) := (below_all HB2.out HB11.out).grown hgr13 (below_all HB2.out HB11.out).size (fun j hj => by simp at hj; omega)
        have HR13 : Hid (RowB W13 g cap (nums s)) := HR11.out.same (hgr13.block g HR11.out.lt (by simp; omega))
        have c0' : W13.cell? ⟨gr, i * 2, none⟩ = some (.string q.nm) := (World.cell?_of_block (a := ⟨gr, i * 2, none⟩) (hgr13.block gr hgr (by simpa using hgb))).trans c0
        have hgrl : gr < W13.heap.size := Nat.lt_of_lt_of_le hgr hgr13.size
        have HAF2 := hide haf
        have HFTL := hide hftl
        have hft8 : ft.length ≤ 60000 := by omega
        have HC0 := hide c0'
        clear hd2 hd2n hd2z haf hft hftl hW13 hgr13 c0 c0' c1 c3 f3 hy2 HAF hgr HR11 HB11
        refine (pNew_ok (.slice (some ⟨gr, 0, none⟩) fr.length rcp) ft 4000 W13 HAF2.out HTR2.out (by omega) (by omega)).mono ?_
        rintro e w14 ⟨m2, lo2, hi3, u3, rfl, hM14, hlo2, hhi2, hmn2, hb14⟩
        have HM14 := hide hM14
        have HB14 : Hid (Below w.heap.size w w14) := below_all HB13.out hb14
        have HR14 := hide (HR13.out.below hb14)
        have HAF14 := hide (HAF2.out.below hb14)
        have HE14 : Hid (ErrT w14) := HE.out.keep HB14.out
        have HC14 : Hid (w14.cell? ⟨gr, i * 2, none⟩ = some (.string q.nm)) := (hb14.cell (p := ⟨gr, i * 2, none⟩) hgrl).trans HC0.out
        have hgrl14 : gr < w14.heap.size := Nat.lt_of_lt_of_le hgrl hb14.size
        have hg13 : g < W13.heap.size := HR13.out.lt
        have hgm2 : g ≠ m2 := by omega
        clear hM14 hb14 HB13 HR13 HAF2 HC0
        have HRP14 := hide (pReplay_any m2 4000 lo2 hi3 u3 (.slice none 0 0) ft g cap s 0 w14 HE14.out HM14.out (by omega) (by omega) (by omega) HR14.out.lt hgm2 HR14.out.cells hft8 (fun p hp => (HTR2.out.sizes p hp).2))
        go_wp2_with fail
        refine HRP14.out.mono ?_
        rintro e w15 ⟨k15, nm15, rfl, hq15⟩
        unfold PRplQ at hq15
        rw [HS2.out] at hq15
        obtain ⟨rfl, hnm15, hb15⟩ := hq15
        obtain rfl := nums_inj hnm15
        have HM15 := hide (HM14.out.below hb15)
        have HB15 : Hid (Below w.heap.size w w15) := below_all HB14.out hb15
        have HAF15 := hide (HAF14.out.below hb15)
        have HC15 : Hid (w15.cell? ⟨gr, i * 2, none⟩ = some (.string q.nm)) := (hb15.cell (p := ⟨gr, i * 2, none⟩) hgrl14).trans HC14.out
        have hgrl15 : gr < w15.heap.size := Nat.lt_of_lt_of_le hgrl14 hb15.size
        clear hnm15 hb15 HRP14 HM14 HB14 HAF14 HC14 HE14 HR14
        go_wp2_with fail
        refine (has_any m2 4000 lo2 hi3 u3 (.slice none 0 0) ft (.slice (some ⟨gr, 0, none⟩) fr.length rcp) ft w15 HM15.out (by omega) (fun p hp => by have := (HTR2.out.sizes p hp).2; omega) HAF15.out.ag).mono ?_
        rintro e w16 ⟨r, rfl, ⟨lf, rfl, hlf⟩, hb16⟩
        obtain rfl := hlf.2 rfl
        have HB16 : Hid (Below w.heap.size w w16) := below_all HB15.out hb16
        have c16 : w16.cell? ⟨gr, i * 2, none⟩ = some (.string q.nm) := (hb16.cell (p := ⟨gr, i * 2, none⟩) hgrl15).trans HC15.out
        clear hlf hb16 HM15 HB15 HAF15 HC15
        go_wp2_with fail
        go_ret
        exact ⟨rfl, HB16.out⟩
end Go.Proofs.YtbhccdedcoajmabGreatDoor
namespace Go.Proofs.YtbhccdedcoajmabGreatDoor
open Go

/-- a tied card without a companion, of a function whose road meets a 'go' -/
theorem holds_tied_goes (Lk : Looks) {p : Pinned} {s : OpenSpec} {c : OpenClaim} (al : List (List PathCond)) (kinds : List LaidKind) (tests : Bool) (har : Bool × String) (lk : Bool)
    (hc : c.holds p s) (hal : ∀ D ∈ al, (c.withDomain D).holds p s) (hw : c.wfByText s = true) (hwal : ∀ D ∈ al, (c.withDomain D).wfByText s = true)
    (htie : c.laidByTextAt Lk p kinds tests)
    (hst : c.start = .entering) (hnb : c.noBlocks = false ∧ c.again = false) (hm : p.checked.prog.mainIs = some (har.1, har.2.toList)) (hn : (!har.1 && har.2.isEmpty && !lk) = false)
    (hl : ∀ f fn, p.checked.prog.funcNamed c.func = some f → p.checked.prog.funcs[f]? = some fn → lk = p.checked.prog.looks [] ∧ ∀ (j : Nat) t, fn.params[j]? = some t → p.checked.prog.wantsStandIn t = false)
    (hg : true = c.goesBy p.checked.prog) :
    Claim7.holds p (.plain s) { stood := { row := c, standIns := [], harness := har, looks := lk }, kinds := [], alts := al, goes := true, laidByText := true, laidKinds := kinds, laidTests := tests, laidLooks := Lk } := by
  have h6 : ∀ r : OpenClaim, Claim7.isSixth { stood := { row := r, standIns := [], harness := har, looks := lk }, kinds := [] } = false := fun r => by simpa [Claim7.isSixth] using hn
  refine ⟨?_, fun D hD => ?_, htie, (fun h => by cases h), hg⟩
  · obtain ⟨_, rest⟩ := Claim7.new_of_sixth hc har lk hst hnb hm (h6 c) hl
    exact ⟨hw, rest⟩
  · obtain ⟨_, rest⟩ := Claim7.new_of_sixth (hal D hD) har lk hst hnb hm (h6 _) hl
    exact ⟨hwal D hD, rest⟩
end Go.Proofs.YtbhccdedcoajmabGreatDoor
