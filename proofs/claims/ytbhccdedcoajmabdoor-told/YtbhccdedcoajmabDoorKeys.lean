import Derived.Test.YtbhccdedcoajmabDoorTokRow
import Derived.Test.YtbhccdedcoajmabDoorChecked
import Derived.Maps.OwnSet
import Derived.Maps.OwnOps
import Derived.DeepKeys4
namespace Go.Proofs.YtbhccdedcoajmabDoor
open Go Go.RowKit Go.Maps

theorem Tryd.laidOutK : laidOutB Tryd.prog = true := by kernel_rfl
theorem Tryd.pairKeyed : Keyed Tryd.prog 130 := Keyed.of_law (deep_law_laid Tryd.laidOutK (m := 3) (by omega) (of_decide_eq_true (by kernel_rfl)) (by kernel_rfl) (by kernel_rfl))
theorem Tryd.pairKey (a b : Int) (ha : (Lit.int .u32 a).wf = true) (hb : (Lit.int .u64 b).wf = true) : keyOf Tryd.prog 130 (.agg #[.int .u32 a, .int .u64 b]) = some (.string (keyBytes [.int .u32 a, .int .u64 b])) := by
  have h1 : Tryd.prog.keyType 130 = true := by kernel_rfl
  have h2 : (Value.agg #[.int .u32 a, .int .u64 b]).formed Tryd.prog 130 = true := by kernel_rfl
  have c0 : Tryd.prog.cellsOf 130 = 2 := by kernel_rfl
  have c1 : Tryd.prog.cellsOf 128 = 1 := by kernel_rfl
  have c2 : Tryd.prog.cellsOf 36 = 1 := by kernel_rfl
  have hs : Tryd.prog.types.size = 177 := by kernel_rfl
  unfold keyOf
  obtain ⟨d, hd⟩ : ∃ d, 177 + 1 = d + 2 := ⟨177 - 1, rfl⟩
  rw [Tryd.underlying130, hs, hd]
  simp [h1, h2, Program.keyLits, Tryd.underlying130, Tryd.underlying128, Tryd.underlying36, c0, c1, c2, Value.cells, ha, hb]
theorem Tryd.zeroInt (w : World) : (zeroValue 3).run Tryd.prog w = .ok (.int .i64 0) w := by kernel_rfl

/-- what a block is looked up by -/
def keyLit (zs : List Int) : Lit := .string (keyBytes [.int .u32 (weakOf zs), .int .u64 (digestOf zs)])
theorem digestOf_bd (l : List Int) : 0 ≤ digestOf l ∧ digestOf l < 18446744073709551616 := by
  rcases snoc_cases l with rfl | ⟨i, x, rfl⟩
  · rw [digestOf_nil]; omega
  · rw [digestOf_snoc]; unfold dstep; rw [IntKind.wrap_u64]; omega
theorem keyLit_key (zs : List Int) : keyOf Tryd.prog 130 (.agg #[.int .u32 (weakOf zs), .int .u64 (digestOf zs)]) = some (keyLit zs) := by
  refine Tryd.pairKey _ _ ?_ ?_
  · have := weakOf_bd zs
    simp [Lit.wf, IntKind.min, IntKind.max, IntKind.signed, IntKind.bits]; omega
  · have := digestOf_bd zs
    simp [Lit.wf, IntKind.min, IntKind.max, IntKind.signed, IntKind.bits]; omega

/-- the map: of each key the least number below k of a block that has it -/
def MapIs (w : World) (mb k : Nat) (zs : List Int) (B : Nat) : Prop :=
  ∃ D : DataW Unit, w.ownsMap Tryd.prog 130 (plainElem Tryd.prog 3) mb k D ∧ IsMap D ∧
    ∀ l : Lit, (has D l = false ∧ ∀ i, i < k → keyLit (chunk zs B i) ≠ l) ∨ (∃ i, has D l = true ∧ i < k ∧ keyLit (chunk zs B i) = l ∧ (∀ j, j < i → keyLit (chunk zs B j) ≠ l) ∧ D.atKey l (.lit (.int .i64 0)) = .lit (.int .i64 i))
theorem MapIs.below {w w' : World} {mb k : Nat} {zs : List Int} {B : Nat} (h : MapIs w mb k zs B) (hb : Below w.heap.size w w') : MapIs w' mb k zs B := by
  obtain ⟨D, h1, h2⟩ := h
  exact ⟨D, h1.kept (grownBy_of_below hb) (by simp), h2⟩
theorem MapIs.setCell {w : World} {mb k : Nat} {zs : List Int} {B : Nat} (h : MapIs w mb k zs B) {g : Nat} (hg : mb ≠ g) (j : Nat) (u : Value) : MapIs (w.setCell ⟨g, j, none⟩ u) mb k zs B := by
  obtain ⟨D, h1, h2⟩ := h
  exact ⟨D, h1.kept (setCell_grown u) (by simpa using hg), h2⟩
theorem MapIs.made (w : World) (zs : List Int) (B : Nat) : MapIs (w.alloc (.map #[] 0)) w.heap.size 0 zs B :=
  ⟨.map [], World.ownsMap_made _ _ _ _, isMap_empty, fun l => .inl ⟨rfl, fun i hi => by omega⟩⟩
theorem MapIs.kept {D : DataW Unit} {k : Nat} {zs : List Int} {B : Nat}
    (h : ∀ l : Lit, (has D l = false ∧ ∀ i, i < k → keyLit (chunk zs B i) ≠ l) ∨ (∃ i, has D l = true ∧ i < k ∧ keyLit (chunk zs B i) = l ∧ (∀ j, j < i → keyLit (chunk zs B j) ≠ l) ∧ D.atKey l (.lit (.int .i64 0)) = .lit (.int .i64 i)))
    (hh : has D (keyLit (chunk zs B k)) = true) : ∀ l : Lit, (has D l = false ∧ ∀ i, i < k + 1 → keyLit (chunk zs B i) ≠ l) ∨ (∃ i, has D l = true ∧ i < k + 1 ∧ keyLit (chunk zs B i) = l ∧ (∀ j, j < i → keyLit (chunk zs B j) ≠ l) ∧ D.atKey l (.lit (.int .i64 0)) = .lit (.int .i64 i)) := by
  intro l
  rcases h l with ⟨a, b⟩ | ⟨i, a, b, c⟩
  · refine .inl ⟨a, fun i hi => ?_⟩
    rcases Nat.lt_or_ge i k with h' | h'
    · exact b i h'
    · obtain rfl : i = k := by omega
      intro e; rw [← e, hh] at a; cases a
  · exact .inr ⟨i, a, by omega, c⟩
theorem MapIs.put {D : DataW Unit} {k : Nat} {zs : List Int} {B : Nat} (hD : IsMap D)
    (h : ∀ l : Lit, (has D l = false ∧ ∀ i, i < k → keyLit (chunk zs B i) ≠ l) ∨ (∃ i, has D l = true ∧ i < k ∧ keyLit (chunk zs B i) = l ∧ (∀ j, j < i → keyLit (chunk zs B j) ≠ l) ∧ D.atKey l (.lit (.int .i64 0)) = .lit (.int .i64 i)))
    (hh : has D (keyLit (chunk zs B k)) = false) : ∀ l : Lit, (has (D.put (keyLit (chunk zs B k)) (.lit (.int .i64 k))) l = false ∧ ∀ i, i < k + 1 → keyLit (chunk zs B i) ≠ l) ∨ (∃ i, has (D.put (keyLit (chunk zs B k)) (.lit (.int .i64 k))) l = true ∧ i < k + 1 ∧ keyLit (chunk zs B i) = l ∧ (∀ j, j < i → keyLit (chunk zs B j) ≠ l) ∧ (D.put (keyLit (chunk zs B k)) (.lit (.int .i64 k))).atKey l (.lit (.int .i64 0)) = .lit (.int .i64 i)) := by
  intro l
  have hkl : WideAt.IsKeyLit (keyLit (chunk zs B k)) := Tryd.pairKeyed.key (keyLit_key _)
  by_cases hl : l = keyLit (chunk zs B k)
  · subst hl
    refine .inr ⟨k, has_put_same hD hkl _, by omega, rfl, ?_, atKey_put_same hD hkl _ _⟩
    rcases h (keyLit (chunk zs B k)) with ⟨_, b⟩ | ⟨i, a, _⟩
    · exact b
    · rw [hh] at a; cases a
  · rw [has_put_other hl, atKey_put_other hl]
    rcases h l with ⟨a, b⟩ | ⟨i, a, b, c⟩
    · refine .inl ⟨a, fun i hi => ?_⟩
      rcases Nat.lt_or_ge i k with h' | h'
      · exact b i h'
      · obtain rfl : i = k := by omega
        exact fun e => hl e.symm
    · exact .inr ⟨i, a, by omega, c⟩

/-- what a look finds, in every world behind this one -/
theorem MapIs.look {w : World} {mb k : Nat} {zs : List Int} {B : Nat} (h : MapIs w mb k zs B) (ps : List Int) : ∃ (c : Int) (ok : Bool),
    (∀ w', Below w.heap.size w w' → (Instr.lookup 96 (.map (some mb)) (.agg #[.int .u32 (weakOf ps), .int .u64 (digestOf ps)]) true).run Tryd.prog w' = .ok (.tuple #[.int .i64 c, .bool ok]) w') ∧
    ((ok = false ∧ ∀ i, i < k → keyLit (chunk zs B i) ≠ keyLit ps) ∨ (ok = true ∧ ∃ i : Nat, c = i ∧ i < k ∧ ∀ j, j < i → keyLit (chunk zs B j) ≠ keyLit ps)) := by
  obtain ⟨D, h1, h2, h3⟩ := h
  have hrun : ∀ w', Below w.heap.size w w' → ∃ c : Int, (Instr.lookup 96 (.map (some mb)) (.agg #[.int .u32 (weakOf ps), .int .u64 (digestOf ps)]) true).run Tryd.prog w' = .ok (.tuple #[.int .i64 c, .bool (has D (keyLit ps))]) w' ∧ D.atKey (keyLit ps) (.lit (.int .i64 0)) = .lit (.int .i64 c) := by
    intro w' hb
    obtain ⟨v, ps', hr, hv⟩ := (h1.kept (grownBy_of_below hb) (by simp)).look_ok Tryd.pairKeyed Tryd.underlying96 (Tryd.zeroInt w') (plainElem_int Tryd.underlying3 (by decide)) (keyLit_key ps)
    obtain ⟨c, rfl, hc, _⟩ := plainElem_int_inv Tryd.underlying3 hv
    exact ⟨c, hr, congrArg Prod.fst hc⟩
  obtain ⟨c, _, hc⟩ := hrun w (Below.refl _ _)
  refine ⟨c, has D (keyLit ps), fun w' hb => ?_, ?_⟩
  · obtain ⟨c', hr, hc'⟩ := hrun w' hb
    rw [hc] at hc'
    have : c = c' := by simpa using hc'
    rw [this]; exact hr
  · rcases h3 (keyLit ps) with ⟨a, b⟩ | ⟨i, a, b, d, e, f⟩
    · exact .inl ⟨a, b⟩
    · rw [hc] at f
      have : c = i := by simpa using f
      exact .inr ⟨a, i, this, b, e⟩
end Go.Proofs.YtbhccdedcoajmabDoor
