import Derived.Test.YtbhccdedcoajmaaGreatDoorAsFM
import Derived.Test.YtbhccdedcoajmaaGreatDoorMadeM
import Derived.Maps.AppendAt
import Derived.Lib.Strings
import Derived.Deep.QuietTactic
import Derived.BigQuiet
import Derived.Laws.Strings2
import Derived.Test.YtbhccdedcoajmaaGreatDoorMathM
namespace Go.Proofs.YtbhccdedcoajmaaGreatDoor
open Go Go.RowKit

def tcells (ps : List (Tok × Value)) : List Value := ps.flatMap fun p => [.int .i64 p.1.block, .int .i64 p.1.count, p.2]
theorem tcells_snoc (l : List (Tok × Value)) (t : Tok) (u : Value) : tcells (l ++ [(t, u)]) = tcells l ++ [.int .i64 t.block, .int .i64 t.count, u] := by simp [tcells]
theorem tcells_length (l : List (Tok × Value)) : (tcells l).length = l.length * 3 := by
  induction l with
  | nil => rfl
  | cons p t ih => simp only [tcells, List.flatMap_cons, List.length_append, List.length_cons, List.length_nil] at *; omega
theorem tcells_at : ∀ (l : List (Tok × Value)) (i : Nat) (h : i < l.length), (tcells l)[i * 3]? = some (.int .i64 l[i].1.block) ∧ (tcells l)[i * 3 + 1]? = some (.int .i64 l[i].1.count) ∧ (tcells l)[i * 3 + 2]? = some l[i].2
  | p :: l, 0, _ => by simp [tcells]
  | p :: l, i + 1, h => by
    have := tcells_at l i (by simpa using h)
    have e : tcells (p :: l) = [.int .i64 p.1.block, .int .i64 p.1.count, p.2] ++ tcells l := by simp [tcells]
    rw [e]
    refine ⟨?_, ?_, ?_⟩
    · rw [List.getElem?_append_right (by simp; omega), show (i + 1) * 3 - _ = i * 3 by simp; omega]; exact this.1
    · rw [List.getElem?_append_right (by simp; omega), show (i + 1) * 3 + 1 - _ = i * 3 + 1 by simp; omega]; exact this.2.1
    · rw [List.getElem?_append_right (by simp; omega), show (i + 1) * 3 + 2 - _ = i * 3 + 2 by simp; omega]; exact this.2.2

/-- a row of tokens that a call has built: each with data of its own -/
structure TokRow (w : World) (base : Nat) (v : Value) (ps : List (Tok × Value)) : Prop where
  row : w.ownsRow base 100 3 v ps.length (tcells ps)
  data : ∀ p ∈ ps, w.ownsRow base 5 1 p.2 p.1.data.length (u8s p.1.data)
  apart : ps.Pairwise fun p q => ∀ g g', p.2.ownBlock = some g → q.2.ownBlock = some g' → g < g'
  off : ∀ p ∈ ps, ∀ g, p.2.ownBlock = some g → v.ownBlock ≠ some g

theorem TokRow.nil (w : World) (base : Nat) : TokRow w base (.slice none 0 0) [] := ⟨World.ownsRow_nil _ _ _ _, by simp, List.Pairwise.nil, by simp⟩
theorem TokRow.below {w w' : World} {base : Nat} {v : Value} {ps : List (Tok × Value)} (h : TokRow w base v ps) (hb : Below w.heap.size w w') : TokRow w' base v ps :=
  ⟨ownsRow_below h.row hb, fun p hp => ownsRow_below (h.data p hp) hb, h.apart, h.off⟩
theorem TokRow.grown {w w' : World} {base : Nat} {v : Value} {ps : List (Tok × Value)} {row : Option Nat} (h : TokRow w base v ps) (hg : w.grownBy w' row) (h1 : v.ownBlock = none ∨ v.ownBlock ≠ row) (h2 : ∀ p ∈ ps, p.2.ownBlock = none ∨ p.2.ownBlock ≠ row) : TokRow w' base v ps :=
  ⟨h.row.kept hg h1, fun p hp => (h.data p hp).kept hg (h2 p hp), h.apart, h.off⟩
theorem ownsRow_base {w : World} {base base' : Nat} {e : TypeId} {size : Nat} {v : Value} {n : Nat} {xs : List Value} (h : w.ownsRow base e size v n xs) (hb : base' ≤ base) : w.ownsRow base' e size v n xs := by
  refine ⟨h.1, ?_⟩
  rcases h.2 with h | ⟨g, cap, cur, h1, h2, h3⟩
  · exact .inl h
  · exact .inr ⟨g, cap, cur, h1, by omega, h3⟩
theorem TokRow.base {w : World} {base base' : Nat} {v : Value} {ps : List (Tok × Value)} (h : TokRow w base v ps) (hb : base' ≤ base) : TokRow w base' v ps :=
  ⟨ownsRow_base h.row hb, fun p hp => ownsRow_base (h.data p hp) hb, h.apart, h.off⟩

theorem TokRow.push {w w' : World} {base : Nat} {v v' : Value} {ps : List (Tok × Value)} (h : TokRow w base v ps) (t : Tok) (u : Value)
    (hu : w.ownsRow base 5 1 u t.data.length (u8s t.data)) (hnew : ∀ p ∈ ps, ∀ g g', p.2.ownBlock = some g → u.ownBlock = some g' → g < g') (hoff : ∀ g, u.ownBlock = some g → v.ownBlock ≠ some g)
    (hown : w'.ownsRow base 100 3 v' (ps.length + 1) (tcells ps ++ [.int .i64 t.block, .int .i64 t.count, u])) (hg : w.grownBy w' v.ownBlock) (hloc : v'.ownBlock = v.ownBlock ∨ ∃ k, w.heap.size ≤ k ∧ v'.ownBlock = some k) : TokRow w' base v' (ps ++ [(t, u)]) := by
  have hne : ∀ (u : Value) (n : Nat) (xs : List Value), w.ownsRow base 5 1 u n xs → (∀ g, u.ownBlock = some g → v.ownBlock ≠ some g) → ∀ g, u.ownBlock = some g → v'.ownBlock ≠ some g := by
    intro u n xs hu hoff g hgu
    rcases hloc with e | ⟨k, hk, e⟩
    · rw [e]; exact hoff g hgu
    · rw [e]; intro e'; have := (hu.lt g hgu).2; simp at e'; omega
  have hkeep : ∀ (u : Value) (n : Nat) (xs : List Value), w.ownsRow base 5 1 u n xs → (∀ g, u.ownBlock = some g → v.ownBlock ≠ some g) → w'.ownsRow base 5 1 u n xs := by
    intro u n xs hu hoff
    refine hu.kept hg ?_
    cases hv : u.ownBlock with
    | none => exact .inl rfl
    | some k => exact .inr (fun e => hoff k hv e.symm)
  refine ⟨?_, ?_, ?_, ?_⟩
  · rw [tcells_snoc, List.length_append]; exact hown
  · intro p hp
    rw [List.mem_append] at hp
    rcases hp with hp | hp
    · exact hkeep _ _ _ (h.data p hp) (h.off p hp)
    · simp at hp; subst hp; exact hkeep _ _ _ hu hoff
  · rw [List.pairwise_append]
    exact ⟨h.apart, by simp, fun p hp q hq => by simp at hq; subst hq; exact hnew p hp⟩
  · intro p hp
    rw [List.mem_append] at hp
    rcases hp with hp | hp
    · exact hne _ _ _ (h.data p hp) (h.off p hp)
    · simp at hp; subst hp; exact hne _ _ _ hu hoff

theorem ownsRow_set {w : World} {base : Nat} {e : TypeId} {size g n cap : Nat} {xs : List Value} (h : w.ownsRow base e size (.slice (some ⟨g, 0, none⟩) n cap) n xs) (j : Nat) (u : Value) :
    (w.setCell ⟨g, j, none⟩ u).ownsRow base e size (.slice (some ⟨g, 0, none⟩) n cap) n (xs.set j u) := by
  refine ⟨by rw [List.length_set]; exact h.1, ?_⟩
  rcases h.2 with ⟨h, _⟩ | ⟨g', cap', cur, hv, hb, hg, h1, h2, h3, h4⟩
  · cases h
  · simp only [Value.slice.injEq, Option.some.injEq, Addr.mk.injEq] at hv
    obtain ⟨⟨rfl, _⟩, _, rfl⟩ := hv
    refine .inr ⟨g, cap, cur.set! j u, rfl, hb, heap_setCell_same _ _ _ _ _ _ hg, h1, h2, by simp [h3], ?_⟩
    rw [← h4]; simp [List.take_set]

theorem setCell_grown {w : World} {g j : Nat} (u : Value) : w.grownBy (w.setCell ⟨g, j, none⟩ u) (some g) := by
  have h := (Below.refl 0 w).setCell (p := ⟨g, j, none⟩) (Nat.zero_le _) u
  exact ⟨h.os, h.tape, h.output, h.size, fun k _ hk => Below.heap_setCell _ _ _ _ (by simp at hk ⊢; omega)⟩

theorem ne_of_off {o : Option Nat} {v : Option Nat} (h : ∀ g, o = some g → v ≠ some g) : o = none ∨ v = none ∨ o ≠ v := by
  cases o with
  | none => exact .inl rfl
  | some k => exact .inr (.inr fun e => h k rfl e.symm)

theorem TokRow.setCount {w : World} {base g cap : Nat} {l : List (Tok × Value)} {t : Tok} {u : Value} (h : TokRow w base (.slice (some ⟨g, 0, none⟩) (l.length + 1) cap) (l ++ [(t, u)])) (c : Int) :
    TokRow (w.setCell ⟨g, l.length * 3 + 1, none⟩ (.int .i64 c)) base (.slice (some ⟨g, 0, none⟩) (l.length + 1) cap) (l ++ [(⟨t.block, c, t.data⟩, u)]) := by
  have hd : ∀ p ∈ l ++ [(t, u)], (w.setCell ⟨g, l.length * 3 + 1, none⟩ (.int .i64 c)).ownsRow base 5 1 p.2 p.1.data.length (u8s p.1.data) := by
    intro p hp
    refine ownsRow_setCell_other (h.data p hp) ?_ _
    intro e
    exact h.off p hp g e rfl
  refine ⟨?_, ?_, ?_, ?_⟩
  · have := h.row
    rw [List.length_append, List.length_singleton] at this ⊢
    have := ownsRow_set this (l.length * 3 + 1) (.int .i64 c)
    rw [tcells_snoc] at this ⊢
    rw [List.set_append_right _ _ (by rw [tcells_length]; omega), tcells_length, show l.length * 3 + 1 - l.length * 3 = 1 by omega] at this
    exact this
  · intro p hp
    rw [List.mem_append] at hp
    rcases hp with hp | hp
    · exact hd p (List.mem_append_left _ hp)
    · simp at hp; subst hp; exact hd (t, u) (by simp)
  · have := h.apart
    rw [List.pairwise_append] at this ⊢
    refine ⟨this.1, by simp, fun p hp q hq => ?_⟩
    simp at hq; subst hq
    exact this.2.2 p hp (t, u) (by simp)
  · intro p hp
    rw [List.mem_append] at hp
    rcases hp with hp | hp
    · exact h.off p (List.mem_append_left _ hp)
    · simp at hp; subst hp; exact h.off (t, u) (by simp)

theorem TokRow.setData {w w1 : World} {base g cap : Nat} {l : List (Tok × Value)} {t : Tok} {u : Value} (h : TokRow w base (.slice (some ⟨g, 0, none⟩) (l.length + 1) cap) (l ++ [(t, u)])) (d : List Int) (u' : Value)
    (hu : w1.ownsRow base 5 1 u' d.length (u8s d)) (hg : w.grownBy w1 u.ownBlock) (hloc : u'.ownBlock = u.ownBlock ∨ ∃ k, w.heap.size ≤ k ∧ u'.ownBlock = some k) :
    TokRow (w1.setCell ⟨g, l.length * 3 + 2, none⟩ u') base (.slice (some ⟨g, 0, none⟩) (l.length + 1) cap) (l ++ [(⟨t.block, t.count, d⟩, u')]) := by
  have hgl : g < w.heap.size := (h.row.lt g rfl).2
  have hoffu := h.off (t, u) (by simp)
  have hap := h.apart
  rw [List.pairwise_append] at hap
  have hoff' : ∀ k, u'.ownBlock = some k → some g ≠ some k := by
    intro k hk e
    rcases hloc with e' | ⟨k', hk', e'⟩
    · exact hoffu k (e' ▸ hk) e
    · rw [e'] at hk; simp at hk e; omega
  refine ⟨?_, ?_, ?_, ?_⟩
  · have h0 := h.row.kept hg (by
      right
      intro e
      exact hoffu g e.symm rfl)
    rw [List.length_append, List.length_singleton] at h0 ⊢
    have := ownsRow_set h0 (l.length * 3 + 2) u'
    rw [tcells_snoc] at this ⊢
    rw [List.set_append_right _ _ (by rw [tcells_length]; omega), tcells_length, show l.length * 3 + 2 - l.length * 3 = 2 by omega] at this
    exact this
  · intro p hp
    rw [List.mem_append] at hp
    rcases hp with hp | hp
    · have hpd := h.data p (List.mem_append_left _ hp)
      refine ownsRow_setCell_other (hpd.kept hg ?_) ?_ _
      · cases hv : p.2.ownBlock with
        | none => exact .inl rfl
        | some k =>
          right
          intro e
          have := hap.2.2 p hp (t, u) (by simp) k k hv e.symm
          omega
      · intro e
        exact h.off p (List.mem_append_left _ hp) g e rfl
    · simp at hp; subst hp
      refine ownsRow_setCell_other hu ?_ _
      intro e
      exact hoff' g e rfl
  · rw [List.pairwise_append]
    refine ⟨hap.1, by simp, fun p hp q hq => ?_⟩
    simp at hq; subst hq
    intro k k' hk hk'
    rcases hloc with e' | ⟨k2, hk2, e'⟩
    · exact hap.2.2 p hp (t, u) (by simp) k k' hk (e' ▸ hk')
    · have := ((h.data p (List.mem_append_left _ hp)).lt k hk).2
      rw [e'] at hk'; simp at hk'; omega
  · intro p hp
    rw [List.mem_append] at hp
    rcases hp with hp | hp
    · exact h.off p (List.mem_append_left _ hp)
    · simp at hp; subst hp; exact hoff'

theorem TokRow.shape {w : World} {base : Nat} {v : Value} {ps : List (Tok × Value)} (h : TokRow w base v ps) (h0 : 0 < ps.length) : ∃ g cap, v = .slice (some ⟨g, 0, none⟩) ps.length cap ∧ base ≤ g ∧ g < w.heap.size ∧ ps.length ≤ cap ∧ cap ≤ maxLen := by
  rcases h.row.2 with ⟨_, h⟩ | ⟨g, cap, cur, hv, hb, hg, h1, h2, _⟩
  · omega
  · exact ⟨g, cap, hv, hb, (Array.getElem?_eq_some_iff.1 hg).1, h1, h2⟩
theorem add_at (g j : Nat) : (⟨g, 0, none⟩ : Addr).add j = ⟨g, j, none⟩ := by
  simp only [Addr.add]; split
  · subst_vars; rfl
  · simp
theorem TokRow.cells {w : World} {base g n cap : Nat} {ps : List (Tok × Value)} (h : TokRow w base (.slice (some ⟨g, 0, none⟩) n cap) ps) (i : Nat) (hi : i < ps.length) :
    w.cell? ⟨g, i * 3, none⟩ = some (.int .i64 ps[i].1.block) ∧ w.cell? ⟨g, i * 3 + 1, none⟩ = some (.int .i64 ps[i].1.count) ∧ w.cell? ⟨g, i * 3 + 2, none⟩ = some ps[i].2 := by
  obtain ⟨h0, h1, h2⟩ := tcells_at ps i hi
  have hc := h.row.cells (g := g) rfl
  simp only [add_at] at hc
  exact ⟨hc _ _ h0, hc _ _ h1, hc _ _ h2⟩
theorem own_frozen {w : World} {base : Nat} {e : TypeId} {size g n n' cap : Nat} {xs : List Value} (h : w.ownsRow base e size (.slice (some ⟨g, 0, none⟩) n' cap) n xs) (j : Nat) : w.frozen? ⟨g, j, none⟩ = false := by
  rcases h.2 with ⟨h, _⟩ | ⟨g', cap', cur, hv, _, hg, _⟩
  · cases h
  · simp only [Value.slice.injEq, Option.some.injEq, Addr.mk.injEq] at hv
    obtain ⟨⟨rfl, _⟩, _, rfl⟩ := hv
    exact frozen_of_row _ _ _ _ _ hg

/-- bytes as a text -/
def bytesOf (zs : List Int) : ByteArray := ⟨(zs.map fun z => UInt8.ofNat z.toNat).toArray⟩
theorem bytesOf_size (zs : List Int) : (bytesOf zs).size = zs.length := by simp [bytesOf, ByteArray.size]
theorem nums_bytesOf {zs : List Int} (h : Bytes zs) : nums (bytesOf zs) = zs := by
  simp only [nums, bytesOf, List.map_map]
  refine (List.map_congr_left fun x hx => ?_).trans (List.map_id zs)
  have := h x hx
  simp [Function.comp]; omega
theorem bytesOf_nums (s : ByteArray) : bytesOf (nums s) = s := by
  obtain ⟨⟨l⟩⟩ := s
  simp only [bytesOf, nums, List.map_map]
  congr 2
  refine (List.map_congr_left fun x _ => ?_).trans (List.map_id l)
  simp [Function.comp]
theorem nums_inj {s t : ByteArray} (h : nums s = nums t) : s = t := by rw [← bytesOf_nums s, h, bytesOf_nums]
theorem own_cells {w : World} {base g cap : Nat} {zs : List Int} (h : w.ownsRow base 5 1 (.slice (some ⟨g, 0, none⟩) zs.length cap) zs.length (u8s zs)) : ∀ k (h : k < zs.length), w.cell? ⟨g, k, none⟩ = some (.int .u8 zs[k]) := by
  intro k hk
  have := h.cells (g := g) rfl k (.int .u8 zs[k]) (by simp [u8s, hk])
  rw [add_at] at this; exact this
theorem own_shape {w : World} {base : Nat} {v : Value} {zs : List Int} (h : w.ownsRow base 5 1 v zs.length (u8s zs)) : (v = .slice none 0 0 ∧ zs = []) ∨ ∃ g cap, v = .slice (some ⟨g, 0, none⟩) zs.length cap ∧ base ≤ g ∧ g < w.heap.size ∧ zs.length ≤ cap ∧ cap ≤ maxLen := by
  rcases h.2 with ⟨hv, h⟩ | ⟨g, cap, cur, hv, hb, hg, h1, h2, _⟩
  · exact .inl ⟨hv, List.length_eq_zero_iff.1 h⟩
  · exact .inr ⟨g, cap, hv, hb, (Array.getElem?_eq_some_iff.1 hg).1, h1, h2⟩

/-- a token laid behind a row, its data just made -/
theorem TokRow.pushNew {w w2 w3 : World} {base : Nat} {v v' : Value} {ps : List (Tok × Value)} {t : Tok} {u : Value} {o : Obj} (h : TokRow w base v ps) (hbase : base ≤ w.heap.size) (hb : Below w.heap.size w w2)
    (hu : w2.ownsRow w.heap.size 5 1 u t.data.length (u8s t.data)) (hown : w3.ownsRow base 100 3 v' (ps.length + 1) (tcells ps ++ [.int .i64 t.block, .int .i64 t.count, u])) (hg : (w2.alloc o).grownBy w3 v.ownBlock)
    (hloc : v'.ownBlock = v.ownBlock ∨ v'.ownBlock = some (w2.heap.size + 1)) : TokRow w3 base v' (ps ++ [(t, u)]) ∧ Below base w w3 := by
  refine ⟨(h.below hb).push t u (ownsRow_base hu hbase) ?_ ?_ hown ((World.grownBy_alloc w2 o _).trans hg) ?_, ?_⟩
  · intro p hp g g' hg1 hg2
    have := ((h.data p hp).lt g hg1).2
    have := (hu.lt g' hg2).1
    omega
  · intro g hg1 hg2
    have := (h.row.lt g hg2).2
    have := (hu.lt g hg1).1
    omega
  · rcases hloc with e | e
    · exact .inl e
    · exact .inr ⟨_, by simp, e⟩
  · have hs := hb.size
    exact ((hb.mono hbase).alloc (by omega) o).grown hg (by simp; omega) (fun k hk => (h.row.lt k hk).1)
end Go.Proofs.YtbhccdedcoajmaaGreatDoor
namespace Go.Proofs.YtbhccdedcoajmaaGreatDoor
open Go.RowKit

theorem Tryz.info100 : (Tryz.prog.info? 100).map (fun i => (i.zero, i.size, i.bytes)) = some (some (.agg #[.int .i64 0, .int .i64 0, .slice none 0 0]), 3, 40) := by kernel_rfl
/-- a number that fits -/
def I64 (x : Int) : Prop := -9223372036854775808 ≤ x ∧ x ≤ 9223372036854775807
/-- what a token may hold -/
def Held (t : Tok) : Prop := Bytes t.data ∧ t.data.length ≤ 255 ∧ I64 t.block ∧ I64 t.count
theorem conv_cells (b off cap : Nat) (zs : List Int) (w : World) (hz : Bytes zs) (hc : ∀ k (h : k < zs.length), w.cell? ⟨b, off + k, none⟩ = some (.int .u8 zs[k])) :
    (convert 38 9 (.slice (some ⟨b, off, none⟩) zs.length cap)).run Tryz.prog w = .ok (.string (bytesOf zs)) w := by
  have hn := nums_bytesOf hz
  have hs := bytesOf_size zs
  have := run_convert_bytes_back (P := Tryz.prog) w 38 9 5 ⟨b, off, none⟩ cap (bytesOf zs).data.toList Tryz.underlying38 Tryz.underlying5 Tryz.underlying9 (by
    intro j hj
    have hj' : j < (bytesOf zs).size := by simpa using hj
    have e := nums_at (bytesOf zs) j hj'
    have hj2 : j < zs.length := by omega
    have e2 : zs[j] = ((bytesOf zs)[j].toNat : Int) := by
      rw [← e]; simp only [hn]
    have := hc j hj2
    rw [e2] at this
    simp only [Addr.add]
    split
    · rename_i h0; subst h0; exact this
    · exact this)
  rw [Array.length_toList, ← ByteArray.size, hs] at this
  exact this
theorem Tryz.convNil (w : World) : (convert 38 9 (.slice none 0 0)).run Tryz.prog w = .ok (.string ⟨#[]⟩) w := by kernel_rfl
theorem conv_own {base : Nat} {v : Value} {zs : List Int} {w : World} (hz : Bytes zs) (h : w.ownsRow base 5 1 v zs.length (u8s zs)) :
    (convert 38 9 v).run Tryz.prog w = .ok (.string (bytesOf zs)) w := by
  rcases own_shape h with ⟨rfl, rfl⟩ | ⟨g, cap, rfl, _⟩
  · exact Tryz.convNil w
  · exact conv_cells g 0 cap zs w hz (fun k hk => by rw [Nat.zero_add]; exact own_cells h k hk)

theorem text_eq (a b : ByteArray) : (a.toList == b.toList) = decide (nums a = nums b) := by
  rw [Lib.toList_data, Lib.toList_data, Bool.eq_iff_iff]
  simp only [beq_iff_eq, decide_eq_true_eq]
  constructor
  · intro h; unfold nums; rw [h]
  · intro h; rw [nums_inj h]
theorem textOf_eq {zs ys : List Int} (hz : Bytes zs) (hy : Bytes ys) : ((bytesOf zs).toList == (bytesOf ys).toList) = decide (zs = ys) := by
  rw [text_eq, nums_bytesOf hz, nums_bytesOf hy]
theorem cell_new {w : World} {cs : Array Value} {t : TypeId} {b j : Nat} {v : Value} (hb : b = w.heap.size) (hj : cs[j]? = some v) : (w.alloc (.cells cs t)).cell? ⟨b, j, none⟩ = some v := by
  subst hb; exact cell_row (heap_alloc_new w _) hj
theorem grown_below {w w' : World} {row : Option Nat} (h : Below w.heap.size w w') : w.grownBy w' row := ⟨h.os, h.tape, h.output, h.size, fun k hk _ => h.block k hk⟩
theorem cells_below {w w' : World} {b off : Nat} {zs : List Int} (hc : ∀ k (h : k < zs.length), w.cell? ⟨b, off + k, none⟩ = some (.int .u8 zs[k])) (hb : Below w.heap.size w w') :
    ∀ k (h : k < zs.length), w'.cell? ⟨b, off + k, none⟩ = some (.int .u8 zs[k]) := fun k h => (hb.cell (p := ⟨b, off + k, none⟩) (World.block_lt_of_cell? w _ (hc k h))).trans (hc k h)
theorem cells_chunk {w : World} {b off : Nat} {zs : List Int} (hc : ∀ k (h : k < zs.length), w.cell? ⟨b, off + k, none⟩ = some (.int .u8 zs[k])) (B i : Nat) :
    ∀ k (h : k < (chunk zs B i).length), w.cell? ⟨b, (off + i * B) + k, none⟩ = some (.int .u8 (chunk zs B i)[k]) := by
  intro k h
  obtain ⟨h', e⟩ := chunk_at h
  rw [e, ← hc _ h', Nat.add_assoc]

theorem cells_part {w : World} {b off : Nat} {zs : List Int} (hc : ∀ k (h : k < zs.length), w.cell? ⟨b, off + k, none⟩ = some (.int .u8 zs[k])) (a m : Nat) :
    ∀ k (h : k < ((zs.drop a).take m).length), w.cell? ⟨b, (off + a) + k, none⟩ = some (.int .u8 ((zs.drop a).take m)[k]) := by
  intro k h
  have h' : a + k < zs.length := by rw [List.length_take, List.length_drop] at h; omega
  rw [List.getElem_take, List.getElem_drop, Nat.add_assoc]
  exact hc _ h'

end Go.Proofs.YtbhccdedcoajmaaGreatDoor
namespace Go.Proofs.YtbhccdedcoajmaaGreatDoor
open Go.RowKit

theorem grown_drewN {w w' : World} {row : Option Nat} (h : w.grownBy w' row) (q : Nat) : w.grownBy (w'.drewN q) row := by
  have hb := below_drewN (Below.refl w'.heap.size w') q
  exact h.trans ⟨hb.os, hb.tape, hb.output, hb.size, fun k hk _ => hb.block k hk⟩
theorem grown_refl (w : World) (row : Option Nat) : w.grownBy w row := ⟨rfl, rfl, rfl, Nat.le_refl _, fun _ _ _ => rfl⟩

theorem pow_le8 {m : Nat} (h : m ≤ 8) : (256 : Int) ^ m ≤ 18446744073709551616 := by
  have h : m = 0 ∨ m = 1 ∨ m = 2 ∨ m = 3 ∨ m = 4 ∨ m = 5 ∨ m = 6 ∨ m = 7 ∨ m = 8 := by omega
  rcases h with rfl | rfl | rfl | rfl | rfl | rfl | rfl | rfl | rfl <;> decide
theorem getN_take {l : List Int} {k : Nat} (h : k < l.length) : getN (l.take (k + 1)) = 256 * getN (l.take k) + l[k] := by rw [List.take_succ_eq_append_getElem h, getN_snoc]
theorem getN_bd {l : List Int} (h : Bytes l) : 0 ≤ getN l ∧ getN l < 256 ^ l.length := by
  rcases snoc_cases l with rfl | ⟨i, x, rfl⟩
  · simp [getN]
  · have hi : Bytes i := fun y hy => h y (by simp [hy])
    have hx := h x (by simp)
    have := getN_bd hi
    rw [getN_snoc, List.length_append, List.length_singleton, Int.pow_succ]
    omega
  termination_by l.length
  decreasing_by subst_vars; simp
/-- what a read of n bytes does to the place and to 'all is well' -/
def Step (s : ByteArray) (ok : Bool) (p n p' : Nat) (ok' : Bool) : Prop := (ok = true ∧ p + n ≤ s.size ∧ p' = p + n ∧ ok' = true) ∨ (ok' = false ∧ p' = p ∧ (ok = false ∨ s.size < p + n))
theorem grown_setNew {w w' : World} {row : Option Nat} (h : w.grownBy w' row) {b : Nat} (hb : w.heap.size ≤ b) (j : Nat) (u : Value) : w.grownBy (w'.setCell ⟨b, j, none⟩ u) row := by
  have h2 := (Below.refl 0 w').setCell (p := ⟨b, j, none⟩) (Nat.zero_le _) u
  exact ⟨h2.os.trans h.os, h2.tape.trans h.tape, h2.output.trans h.output, Nat.le_trans h.size h2.size, fun k hk hne => (Below.heap_setCell _ _ _ _ (by simp; omega)).trans (h.block k hk hne)⟩
theorem Step.le {s : ByteArray} {ok ok' : Bool} {p n p' : Nat} (h : Step s ok p n p' ok') (hp : p ≤ s.size) : p' ≤ s.size := by
  rcases h with ⟨_, h1, h2, _⟩ | ⟨_, h2, _⟩ <;> omega
theorem Step.ok {s : ByteArray} {ok ok' : Bool} {p n p' : Nat} (h : Step s ok p n p' ok') : ok' = (ok && decide (p + n ≤ s.size)) := by
  rcases h with ⟨rfl, h1, _, rfl⟩ | ⟨rfl, _, h2⟩
  · simp [h1]
  · rcases h2 with rfl | h2
    · rfl
    · rw [decide_eq_false (by omega)]; simp

theorem less_nums : ∀ x y : List UInt8, Op.bytesLess x y = ltL (x.map fun c => (c.toNat : Int)) (y.map fun c => (c.toNat : Int))
  | [], [] => rfl
  | _ :: _, [] => rfl
  | [], _ :: _ => rfl
  | a :: x, b :: y => by
    simp only [Op.bytesLess, ltL, List.map_cons, less_nums x y]
    congr 1
    · rw [Bool.eq_iff_iff]
      simp only [decide_eq_true_eq, UInt8.lt_iff_toNat_lt]
      omega
    · congr 1
      rw [Bool.eq_iff_iff]
      simp only [beq_iff_eq, decide_eq_true_eq]
      constructor
      · intro h; rw [h]
      · intro h; exact UInt8.toNat_inj.1 (by omega)
theorem ltL_tri : ∀ a b : List Int, (!ltL a b && !decide (a = b)) = ltL b a
  | [], [] => by simp [ltL]
  | _ :: _, [] => by simp [ltL]
  | [], _ :: _ => by simp [ltL]
  | a :: x, b :: y => by
    have ih := ltL_tri x y
    simp only [ltL, List.cons.injEq]
    rcases Int.lt_trichotomy a b with h | h | h
    · simp [h, show ¬ b < a by omega, show ¬ b = a by omega]
    · subst h
      simp [← ih]
    · simp [h, show ¬ a < b by omega, show ¬ a = b by omega]
theorem text_gtr (t l : ByteArray) : (!Op.bytesLess t.toList l.toList && !t.toList == l.toList) = ltL (nums l) (nums t) := by
  rw [← ltL_tri (nums t) (nums l), text_eq, Lib.toList_data, Lib.toList_data, less_nums]
  rfl

end Go.Proofs.YtbhccdedcoajmaaGreatDoor
namespace Go.Proofs.YtbhccdedcoajmaaGreatDoor
open Go.RowKit

set_option maxHeartbeats 400000 in
theorem checkBlock_bad (B : Int) (h : B < 1 ∨ 64 < B) (w : World) :
    Calls Tryz.prog 143 #[.int .i64 B] w fun e w' => e = .returned (.iface 50 (.int .i64 1)) ∧ w' = w := by
  rcases h with h | h
  all_goals
    go_enter Tryz.func143, Tryz.ntmps143
    go_wp2_with fail
    go_ret
    exact ⟨rfl, rfl⟩
set_option maxHeartbeats 400000 in
theorem checkBlock_ok (B : Int) (h1 : 1 ≤ B) (h2 : B ≤ 64) (w : World) :
    Calls Tryz.prog 143 #[.int .i64 B] w fun e w' => e = .returned .nilIface ∧ w' = w := by
  go_enter Tryz.func143, Tryz.ntmps143
  go_wp2_with fail
  go_ret
  exact ⟨rfl, rfl⟩
set_option maxHeartbeats 400000 in
theorem check_block (v : Option Addr) (n cap : Nat) (B : Int) (_hn : n ≤ 70000) (h : B < 1 ∨ 64 < B) (w : World) :
    Calls Tryz.prog 157 #[.slice v n cap, .int .i64 B] w fun e w' => e = .returned (.iface 50 (.int .i64 1)) ∧ w' = w := by
  have HC := hide (fun w => checkBlock_bad B h w)
  clear h
  go_enter Tryz.func157, Tryz.ntmps157
  go_wp2_with fail
  refine (HC.out _).mono ?_
  rintro e w' ⟨rfl, rfl⟩
  go_wp2_with fail
  go_ret
  exact ⟨rfl, rfl⟩
set_option maxHeartbeats 400000 in
theorem check_data (v : Option Addr) (n cap : Nat) (B : Int) (hn : n ≤ 70000) (h1 : 1 ≤ B) (h2 : B ≤ 64) (h : 300 < n) (w : World) :
    Calls Tryz.prog 157 #[.slice v n cap, .int .i64 B] w fun e w' => e = .returned (.iface 50 (.int .i64 2)) ∧ w' = w := by
  have HC := hide (fun w => checkBlock_ok B h1 h2 w)
  go_enter Tryz.func157, Tryz.ntmps157
  go_wp2_with fail
  refine (HC.out _).mono ?_
  rintro e w' ⟨rfl, rfl⟩
  go_wp2_with fail
  go_ret
  exact ⟨rfl, rfl⟩
set_option maxHeartbeats 400000 in
theorem check_ok (v : Option Addr) (n cap : Nat) (B : Int) (h1 : 1 ≤ B) (h2 : B ≤ 64) (h : n ≤ 300) (w : World) :
    Calls Tryz.prog 157 #[.slice v n cap, .int .i64 B] w fun e w' => e = .returned .nilIface ∧ w' = w := by
  have HC := hide (fun w => checkBlock_ok B h1 h2 w)
  go_enter Tryz.func157, Tryz.ntmps157
  go_wp2_with fail
  refine (HC.out _).mono ?_
  rintro e w' ⟨rfl, rfl⟩
  go_wp2_with fail
  go_ret
  exact ⟨rfl, rfl⟩
set_option maxHeartbeats 400000 in
theorem count_any (n B : Nat) (h1 : 1 ≤ B) (h2 : B ≤ 64) (h : n ≤ 300) (w : World) :
    Calls Tryz.prog 170 #[.int .i64 n, .int .i64 B] w fun e w' => e = .returned (.int .i64 (chunks n B : Nat)) ∧ w' = w := by
  have hc : (((n : Int) + (B : Int) - 1) / (B : Int)) = ((chunks n B : Nat) : Int) := by
    unfold chunks; rw [Int.natCast_ediv]; congr 1; omega
  have HC := hide hc
  clear hc
  go_enter Tryz.func170, Tryz.ntmps170
  go_wp2_with fail
  go_ret
  exact ⟨ret_int HC.out, rfl⟩
end Go.Proofs.YtbhccdedcoajmaaGreatDoor
