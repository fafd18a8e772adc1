import Derived.Test.YtbhccdedcoajmaaDoorRReadW
import Derived.Test.YtbhccdedcoajmaaDoorPReadY
import Derived.Test.YtbhccdedcoajmaaDoorWritten
import Derived.Test.YtbhccdedcoajmaaDoorRAlikeM
import Derived.Laws.AppendOwnNone
namespace Go.Proofs.YtbhccdedcoajmaaDoor
open Go.RowKit

/-- tokens of several rows, all in one -/
theorem TokRow.more {w w' : World} {base lo : Nat} {v v' u : Value} {ps qs : List (Tok × Value)} (h : TokRow w base v ps) (k : TokRow w lo u qs) (hlo : base ≤ lo)
    (hnew : ∀ p ∈ ps, ∀ q ∈ qs, ∀ g g', p.2.ownBlock = some g → q.2.ownBlock = some g' → g < g') (hoff : ∀ q ∈ qs, ∀ g, q.2.ownBlock = some g → v.ownBlock ≠ some g)
    (hown : w'.ownsRow base 50 3 v' (ps.length + qs.length) (tcells ps ++ tcells qs)) (hg : w.grownBy w' v.ownBlock) (hloc : v'.ownBlock = v.ownBlock ∨ v'.ownBlock = some w.heap.size) : TokRow w' base v' (ps ++ qs) := by
  have hne : ∀ (u : Value) (n : Nat) (xs : List Value), w.ownsRow base 5 1 u n xs → (∀ g, u.ownBlock = some g → v.ownBlock ≠ some g) → ∀ g, u.ownBlock = some g → v'.ownBlock ≠ some g := by
    intro u n xs hu hoff g hgu
    rcases hloc with e | e
    · rw [e]; exact hoff g hgu
    · rw [e]; intro e'; have := (hu.lt g hgu).2; simp at e'; omega
  have hkeep : ∀ (u : Value) (n : Nat) (xs : List Value), w.ownsRow base 5 1 u n xs → (∀ g, u.ownBlock = some g → v.ownBlock ≠ some g) → w'.ownsRow base 5 1 u n xs := by
    intro u n xs hu hoff
    refine hu.kept hg ?_
    cases hv : u.ownBlock with
    | none => exact .inl rfl
    | some k => exact .inr (fun e => hoff k hv e.symm)
  have hk : ∀ q ∈ qs, w.ownsRow base 5 1 q.2 q.1.data.length (u8s q.1.data) := fun q hq => ownsRow_base (k.data q hq) hlo
  refine ⟨?_, ?_, ?_, ?_⟩
  · rw [show tcells (ps ++ qs) = tcells ps ++ tcells qs by simp [tcells], List.length_append]; exact hown
  · intro p hp
    rw [List.mem_append] at hp
    rcases hp with hp | hp
    · exact hkeep _ _ _ (h.data p hp) (h.off p hp)
    · exact hkeep _ _ _ (hk p hp) (hoff p hp)
  · rw [List.pairwise_append]
    exact ⟨h.apart, k.apart, fun p hp q hq => hnew p hp q hq⟩
  · intro p hp
    rw [List.mem_append] at hp
    rcases hp with hp | hp
    · exact hne _ _ _ (h.data p hp) (h.off p hp)
    · exact hne _ _ _ (hk p hp) (hoff p hp)
theorem tcells_mem {ps : List (Tok × Value)} {base : Nat} {w : World} (h : ∀ p ∈ ps, w.ownsRow base 5 1 p.2 p.1.data.length (u8s p.1.data)) : ∀ u ∈ tcells ps, u.oneCell' = true := by
  intro u hu
  simp only [tcells, List.mem_flatMap] at hu
  obtain ⟨p, hp, hu⟩ := hu
  simp at hu
  rcases hu with rfl | rfl | rfl
  · rfl
  · rfl
  · rcases (h p hp).2 with ⟨e, _⟩ | ⟨g, cap, cur, e, _⟩ <;> rw [e] <;> rfl
theorem tg_open {w : World} {base : Nat} {tv : Value} {xs : List Tg} (h : w.ownsRow base 73 4 tv xs.length (tgCells xs)) : ∃ ta tc, tv = .slice ta xs.length tc ∧ xs.length ≤ tc ∧ ∀ i (hi : i < xs.length), ∃ gt, ta = some ⟨gt, 0, none⟩ ∧ gt < w.heap.size ∧ w.cell? ⟨gt, i * 4, none⟩ = some (.string xs[i].ent.1) ∧ w.cell? ⟨gt, i * 4 + 1, none⟩ = some (.int .i64 xs[i].ent.2.1) ∧ w.cell? ⟨gt, i * 4 + 2, none⟩ = some (.int .u64 xs[i].ent.2.2) ∧ w.cell? ⟨gt, i * 4 + 3, none⟩ = some xs[i].v := by
  rcases h.2 with ⟨hv, h0⟩ | ⟨gt, cap, cur, hv, _, hgt, h1, _⟩
  · exact ⟨none, 0, by rw [hv, h0], by omega, fun i hi => by omega⟩
  · refine ⟨some ⟨gt, 0, none⟩, cap, hv, h1, fun i hi => ⟨gt, rfl, (Array.getElem?_eq_some_iff.1 hgt).1, ?_, ?_, ?_, ?_⟩⟩
    · have := h.cells (g := gt) (by rw [hv]; rfl) (i * 4) _ (tgCells_at xs i hi).1
      rw [add_at] at this; exact this
    · have := h.cells (g := gt) (by rw [hv]; rfl) (i * 4 + 1) _ (tgCells_at xs i hi).2.1
      rw [add_at] at this; exact this
    · have := h.cells (g := gt) (by rw [hv]; rfl) (i * 4 + 2) _ (tgCells_at xs i hi).2.2.1
      rw [add_at] at this; exact this
    · have := h.cells (g := gt) (by rw [hv]; rfl) (i * 4 + 3) _ (tgCells_at xs i hi).2.2.2
      rw [add_at] at this; exact this
theorem entV_inj {a b : ByteArray × Nat × Int} (h : entV a = entV b) : a = b := by
  obtain ⟨a1, a2, a3⟩ := a
  obtain ⟨b1, b2, b3⟩ := b
  have h1 : nums a1 = nums b1 := congrArg EntL.name h
  have h2 : ((a2 : Nat) : Int) = (b2 : Int) := congrArg EntL.size h
  have h3 : a3 = b3 := congrArg EntL.digest h
  rw [nums_inj h1, h3, show a2 = b2 by omega]
theorem map_ix {α β γ : Type} {f : α → γ} {g : β → γ} {a : List α} {b : List β} (h : a.map f = b.map g) {i : Nat} (ha : i < a.length) (hb : i < b.length) : f a[i] = g b[i] := by
  have := congrArg (fun l => l[i]?) h
  simpa [List.getElem?_map, List.getElem?_eq_getElem ha, List.getElem?_eq_getElem hb] using this
theorem num_len {n : Nat} {l : List Int} {q : Int × List Int} (h : numP n l = some q) : q.2.length + n ≤ l.length := by
  unfold numP at h
  split at h
  · cases h
  · cases h
    simp only [List.length_drop]
    omega
theorem txt_len {n : Nat} {l : List Int} {q : List Int × List Int} (h : txtP n l = some q) : q.2.length + n ≤ l.length := by
  unfold txtP at h
  split at h
  · cases h
  · cases h
    simp only [List.length_drop]
    omega
theorem tok_len {old B : Nat} {l : List Int} {q : Tok × List Int} (h : tokP old B l = some q) : q.2.length + 1 ≤ l.length := by
  unfold tokP at h
  simp only [Option.bind_eq_bind, Option.bind_eq_some_iff] at h
  obtain ⟨a, ha, h⟩ := h
  have h1 := num_len ha
  split at h
  · simp only [Option.bind_eq_some_iff] at h
    obtain ⟨b, hb, h⟩ := h
    have h2 := num_len hb
    split at h
    · simp only [Option.bind_eq_some_iff] at h
      obtain ⟨c, hc, h⟩ := h
      have h3 := txt_len hc
      cases h
      simp only
      omega
    · cases h
  · split at h
    · simp only [Option.bind_eq_some_iff] at h
      obtain ⟨b, hb, c, hc, h⟩ := h
      have h2 := num_len hb
      have h3 := num_len hc
      split at h
      · cases h
        simp only
        omega
      · cases h
    · cases h
theorem toksP_len {old B : Nat} : ∀ (n : Nat) (l : List Int) (q : List Tok × List Int), toksP old B n l = some q → q.1.length + q.2.length ≤ l.length
  | 0, l, q, h => by
    simp only [toksP, Option.some.injEq] at h
    rw [← h]; simp
  | n + 1, l, q, h => by
    rw [toks_step] at h
    simp only [Option.bind_eq_some_iff, Option.map_eq_some_iff] at h
    obtain ⟨a, ha, b, hb, h⟩ := h
    have h1 := tok_len ha
    have h2 := toksP_len n _ _ hb
    rw [← h]
    simp only [List.length_cons]
    omega
theorem entry_len {first : Bool} {last l : List Int} {q : EntL × List Int} (h : entryP first last l = some q) : q.2.length ≤ l.length := by
  unfold entryP at h
  simp only [Option.bind_eq_bind, Option.bind_eq_some_iff] at h
  obtain ⟨a, ha, b, hb, h⟩ := h
  have h1 := num_len ha
  have h2 := txt_len hb
  split at h
  · simp only [Option.bind_eq_some_iff] at h
    obtain ⟨c, hc, h⟩ := h
    have h3 := num_len hc
    split at h
    · simp only [Option.bind_eq_some_iff] at h
      obtain ⟨d, hd, h⟩ := h
      have h4 := num_len hd
      cases h
      simp only
      omega
    · cases h
  · cases h
theorem targets_sum {bas : List EntL} {B : Nat} : ∀ (n : Nat) (last l : List Int) (q : List (EntL × List Tok) × List Int), targetsP bas B n false last l = some q → (q.1.map fun x => x.2.length).sum + q.2.length ≤ l.length
  | 0, last, l, q, h => by
    simp only [targetsP, Option.some.injEq] at h
    rw [← h]; simp
  | n + 1, last, l, q, h => by
    rw [targets_step] at h
    simp only [Option.bind_eq_some_iff, Option.map_eq_some_iff] at h
    obtain ⟨a, ha, b, hb, c, hc, h⟩ := h
    have h1 := entry_len ha
    have h3 := targets_sum n _ _ _ hc
    unfold tokensP at hb
    simp only [Option.bind_eq_some_iff] at hb
    obtain ⟨d, hd, e, he, hb⟩ := hb
    have h4 := num_len hd
    have h5 := toksP_len _ _ _ he
    split at hb
    · cases hb
      rw [← h]
      simp only [List.map_cons, List.sum_cons]
      omega
    · cases hb
theorem read_sum {s : ByteArray} {bl : Int} {bs : List EntL} {ts : List (EntL × List Tok)} (h : readL (nums s) = some ⟨bl, bs, ts⟩) : (ts.map fun x => x.2.length).sum ≤ s.size := by
  obtain ⟨_, _, _, _, _, l1, l2, h1, h2, _⟩ := read_parts h
  have hl := nums_length s
  simp only [Option.bind_eq_some_iff] at h1 h2
  obtain ⟨a, ha, h1⟩ := h1
  obtain ⟨b, hb, h2⟩ := h2
  have h3 := targets_sum _ _ _ _ h2
  have fl : ∀ {l : List Int} {q : Nat × List Int}, filesP l = some q → q.2.length ≤ l.length := by
    intro l q h
    unfold filesP at h
    simp only [Option.bind_eq_some_iff] at h
    obtain ⟨u, hu, h⟩ := h
    have := num_len hu
    split at h
    · cases h
      simp only
      omega
    · cases h
  have h4 := fl hb
  have h5 := fl ha
  have h6 : ∀ (n : Nat) (last l : List Int) (q : List EntL × List Int), basisP n false last l = some q → q.2.length ≤ l.length := by
    intro n
    induction n with
    | zero => intro last l q h; simp only [basisP, Option.some.injEq] at h; rw [← h]; exact Nat.le_refl _
    | succ n ih =>
      intro last l q h
      rw [basis_step] at h
      simp only [Option.bind_eq_some_iff, Option.map_eq_some_iff] at h
      obtain ⟨a, ha, b, hb, h⟩ := h
      have := entry_len ha
      have := ih _ _ _ hb
      rw [← h]
      simp only
      omega
  have h7 := h6 _ _ _ _ h1
  simp only [List.length_drop] at h5 h7
  simp only at h3
  omega
end Go.Proofs.YtbhccdedcoajmaaDoor
