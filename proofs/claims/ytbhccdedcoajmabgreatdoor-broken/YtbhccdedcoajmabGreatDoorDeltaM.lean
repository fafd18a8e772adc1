import Derived.Test.YtbhccdedcoajmabGreatDoorConvM
import Derived.Test.YtbhccdedcoajmabGreatDoorSign
import Derived.Deep.QuietTactic
import Derived.BigQuiet
import Derived.Test.YtbhccdedcoajmabGreatDoorTokRow
import Derived.Test.YtbhccdedcoajmabGreatDoorChecked
import Derived.Maps.OwnSet
import Derived.Maps.OwnOps
import Derived.DeepKeys4
namespace Go.Proofs.YtbhccdedcoajmabGreatDoor
open Go.RowKit

set_option maxRecDepth 10000 in
set_option maxHeartbeats 400000 in
theorem at_ok (b off cap B i mb n p : Nat) (hB1 : 1 ≤ B) (hB2 : B ≤ 64) (hn : n ≤ 300) (hcap : n ≤ cap) (hp : p = i * B) (hi : p + B ≤ n) (w : World) :
    Calls Tryz.prog 131 #[.agg #[.slice (some ⟨b, off, none⟩) n cap, .int .i64 B, .map (some mb)], .int .i64 i] w fun e w' => e = .returned (.slice (some ⟨b, off + p, none⟩) B B) ∧ Below w.heap.size w w' := by
  have hi300 : i ≤ 300 := by
    have := Nat.le_mul_of_pos_right i (show 0 < B by omega)
    omega
  have e1 : (i : Int) * (B : Int) = (p : Int) := by rw [hp]; simp
  have e2 : ((i : Int) + 1) * (B : Int) = (p : Int) + (B : Int) := by rw [Int.add_mul, e1]; omega
  clear hp
  go_enter Tryz.func131, Tryz.ntmps131
  go_wp2_with fail
  go_quiet (fail)
  go_wp2_with fail
  go_ret
  exact ⟨by simp [show p + B - p = B by omega], below_drewN ((Below.refl _ _).alloc (Nat.le_refl _) _) _⟩

set_option maxRecDepth 10000 in
set_option maxHeartbeats 400000 in
theorem whole_ok (v : Option Addr) (cap B mb n : Nat) (hB1 : 1 ≤ B) (hB2 : B ≤ 64) (hn : n ≤ 300) (w : World) :
    Calls Tryz.prog 129 #[.agg #[.slice v n cap, .int .i64 B, .map (some mb)]] w fun e w' => e = .returned (.int .i64 (n / B : Nat)) ∧ Below w.heap.size w w' := by
  have hc : wrap64 ((n : Int) / (B : Int)) = ((n / B : Nat) : Int) := by
    have := Nat.div_le_self n B
    rw [show (n : Int) / (B : Int) = ((n / B : Nat) : Int) by simp]; generalize n / B = q at *; unfold wrap64; omega
  have HC := hide hc
  clear hc
  go_enter Tryz.func129, Tryz.ntmps129
  go_wp2_with fail
  go_ret
  exact ⟨ret_int HC.out, (Below.refl _ _).alloc (Nat.le_refl _) _⟩

set_option maxRecDepth 10000 in
set_option maxHeartbeats 400000 in
theorem pairOf_any (b off cap : Nat) (zs : List Int) (w : World) (hm : zs.length ≤ 70000) (hz : Bytes zs)
    (hc : ∀ k (h : k < zs.length), w.cell? ⟨b, off + k, none⟩ = some (.int .u8 zs[k])) :
    Calls Tryz.prog 130 #[.slice (some ⟨b, off, none⟩) zs.length cap] w fun e w' => e = .returned (.agg #[.int .u32 (weakOf zs), .int .u64 (digestOf zs)]) ∧ Below w.heap.size w w' := by
  have hb1 : ∀ o, Below w.heap.size w (w.alloc o) := fun o => (Below.refl _ _).alloc (Nat.le_refl _) _
  have hbl : ∀ k (h : k < zs.length), b < w.heap.size := fun k h => World.block_lt_of_cell? w _ (hc k h)
  have hc1 : ∀ o k (h : k < zs.length), (w.alloc o).cell? ⟨b, off + k, none⟩ = some (.int .u8 zs[k]) := fun o k h => ((hb1 o).cell (p := ⟨b, off + k, none⟩) (hbl k h)).trans (hc k h)
  have HW := hide (fun o => weak_any b off cap zs (w.alloc o) (by omega) hz (hc1 o))
  have HD := hide (fun o => digest_any b off cap zs (w.alloc o) (by omega) hz (hc1 o))
  clear hb1 hc1 hc hz hbl
  generalize hn : zs.length = n at *
  clear hn
  go_enter Tryz.func130, Tryz.ntmps130
  go_wp2_with fail
  refine (HW.out _).mono ?_
  rintro e w' ⟨rfl, rfl⟩
  go_wp2_with fail
  refine (HD.out _).mono ?_
  rintro e w' ⟨rfl, rfl⟩
  go_wp2_with fail
  refine bodyPost_ret (v := .agg #[.int .u32 (weakOf zs), .int .u64 (digestOf zs)]) (by simp [results, Tryz.results130, go_sem]) rfl ⟨rfl, ?_⟩
  exact (Below.refl _ _).alloc (Nat.le_refl _) _

set_option maxHeartbeats 400000 in
theorem equal_any (b off cap b' off' cap' : Nat) (zs ys : List Int) (w : World) (hz : Bytes zs) (hy : Bytes ys)
    (hc : ∀ k (h : k < zs.length), w.cell? ⟨b, off + k, none⟩ = some (.int .u8 zs[k])) (hd : ∀ k (h : k < ys.length), w.cell? ⟨b', off' + k, none⟩ = some (.int .u8 ys[k])) :
    Calls Tryz.prog 132 #[.slice (some ⟨b, off, none⟩) zs.length cap, .slice (some ⟨b', off', none⟩) ys.length cap'] w fun e w' => e = .returned (.bool (decide (zs = ys))) ∧ w' = w := by
  have h1 := conv_cells b off cap zs w hz hc
  have h2 := conv_cells b' off' cap' ys w hy hd
  have HE := hide (textOf_eq hz hy)
  clear hz hy hc hd
  generalize zs.length = n at *
  generalize ys.length = m at *
  go_enter Tryz.func132, Tryz.ntmps132
  go_wp2_with fail
  go_ret
  exact ⟨congrArg (fun x => Ending.returned (Value.bool x)) HE.out, rfl⟩

theorem Tryz.someBytes (a : Addr) (n c : Nat) (w : World) : (binOp BinOp.eql 25 (.slice (some a) n c) (.slice none 0 0)).run Tryz.prog w = .ok (.bool false) w := by kernel_rfl
set_option maxRecDepth 10000 in
set_option maxHeartbeats 400000 in
theorem clone_any (b off cap : Nat) (zs : List Int) (w : World) (hm : zs.length ≤ 70000)
    (hc : ∀ k (h : k < zs.length), w.cell? ⟨b, off + k, none⟩ = some (.int .u8 zs[k])) :
    Calls Tryz.prog 60 #[.slice (some ⟨b, off, none⟩) zs.length cap] w fun e w' => ∃ v, e = .returned v ∧ w'.ownsRow w.heap.size 5 1 v zs.length (u8s zs) ∧ Below w.heap.size w w' := by
  obtain ⟨i0, hi, z0, z1, z2⟩ := info_parts Tryz.info5
  have hbl : ∀ k (h : k < zs.length), b < w.heap.size := fun k h => World.block_lt_of_cell? w _ (hc k h)
  have HC : Hid (∀ j u, (u8s zs)[j]? = some u → ∀ W, Below w.heap.size w W → W.cell? ((⟨b, off, none⟩ : Addr).add j) = some u) := by
    intro j u hj W hb
    have hj' : j < zs.length := by
      rcases Nat.lt_or_ge j zs.length with h | h
      · exact h
      · rw [List.getElem?_eq_none (by simpa [u8s] using h)] at hj; cases hj
    have := (hb.cell (p := ⟨b, off + j, none⟩) (hbl j hj')).trans (hc j hj')
    simp [u8s, hj'] at hj
    rw [← hj, ← this]
    simp only [Addr.add]
    split
    · subst_vars; rfl
    · rfl
  clear hc hbl
  have hul : (u8s zs).length = zs.length := by simp [u8s]
  generalize hn : zs.length = n at *
  have HN := hide hn
  have HUL := hide hul
  clear hn hul
  have hnil := Tryz.someBytes
  go_enter Tryz.func60, Tryz.ntmps60
  go_wp2_with (at_builtin; refine wpList_append_own_at _ rfl (.tmp 5) (.tmp 6) 25 rfl w.heap.size 5 i0 (.int .u8 0) 1 1 Tryz.underlying25 hi z0 z1 z2 rfl (by decide) _ 0 [] rfl (World.ownsRow_made w #[] 0 (Nat.le_refl _) (by decide) rfl) ⟨b, off, none⟩ n cap (u8s zs) rfl ?ka ?kb ?kc ?kd ?ke ?kf ?kg)
  case ka => rw [HUL.out, Nat.mul_one]
  case kb => intro j u hj; exact HC.out j u hj _ ((Below.refl _ _).alloc (Nat.le_refl _) _)
  case kc => intro u hu; simp only [u8s, List.mem_map] at hu; obtain ⟨x, _, rfl⟩ := hu; rfl
  case kd => unfold maxLen; omega
  case ke => omega
  case kf => simp
  case kg =>
    intro v' w3 hown3 hgrow3 _ _
    have HB3 : Hid (Below w.heap.size w w3) := ((Below.refl _ _).alloc (Nat.le_refl _) _).grown hgrow3 (by simp) (fun j hj => by simp [Value.ownBlock] at hj; omega)
    have HO3 := hide hown3
    clear hown3 hgrow3
    go_wp2_with fail
    go_ret
    exact ⟨_, rfl, HO3.out, HB3.out⟩
end Go.Proofs.YtbhccdedcoajmabGreatDoor
namespace Go.Proofs.YtbhccdedcoajmabGreatDoor
open Go Go.RowKit Go.Maps

theorem Tryz.laidOutK : laidOutB Tryz.prog = true := by kernel_rfl
theorem Tryz.pairKeyed : Keyed Tryz.prog 217 := Keyed.of_law (deep_law_laid Tryz.laidOutK (m := 3) (by omega) (of_decide_eq_true (by kernel_rfl)) (by kernel_rfl) (by kernel_rfl))
theorem Tryz.pairKey (a b : Int) (ha : (Lit.int .u32 a).wf = true) (hb : (Lit.int .u64 b).wf = true) : keyOf Tryz.prog 217 (.agg #[.int .u32 a, .int .u64 b]) = some (.string (keyBytes [.int .u32 a, .int .u64 b])) := by
  have h1 : Tryz.prog.keyType 217 = true := by kernel_rfl
  have h2 : (Value.agg #[.int .u32 a, .int .u64 b]).formed Tryz.prog 217 = true := by kernel_rfl
  have c0 : Tryz.prog.cellsOf 217 = 2 := by kernel_rfl
  have c1 : Tryz.prog.cellsOf 77 = 1 := by kernel_rfl
  have c2 : Tryz.prog.cellsOf 97 = 1 := by kernel_rfl
  have hs : Tryz.prog.types.size = 262 := by kernel_rfl
  unfold keyOf
  obtain ⟨d, hd⟩ : ∃ d, 262 + 1 = d + 2 := ⟨262 - 1, rfl⟩
  rw [Tryz.underlying217, hs, hd]
  simp [h1, h2, Program.keyLits, Tryz.underlying217, Tryz.underlying77, Tryz.underlying97, c0, c1, c2, Value.cells, ha, hb]
theorem Tryz.zeroInt (w : World) : (zeroValue 3).run Tryz.prog w = .ok (.int .i64 0) w := by kernel_rfl

/-- what a block is looked up by -/
def keyLit (zs : List Int) : Lit := .string (keyBytes [.int .u32 (weakOf zs), .int .u64 (digestOf zs)])
theorem digestOf_bd (l : List Int) : 0 ≤ digestOf l ∧ digestOf l < 18446744073709551616 := by
  rcases snoc_cases l with rfl | ⟨i, x, rfl⟩
  · rw [digestOf_nil]; omega
  · rw [digestOf_snoc]; unfold dstep; rw [IntKind.wrap_u64]; omega
theorem keyLit_key (zs : List Int) : keyOf Tryz.prog 217 (.agg #[.int .u32 (weakOf zs), .int .u64 (digestOf zs)]) = some (keyLit zs) := by
  refine Tryz.pairKey _ _ ?_ ?_
  · have := weakOf_bd zs
    simp [Lit.wf, IntKind.min, IntKind.max, IntKind.signed, IntKind.bits]; omega
  · have := digestOf_bd zs
    simp [Lit.wf, IntKind.min, IntKind.max, IntKind.signed, IntKind.bits]; omega

/-- the map: of each key the least number below k of a block that has it -/
def MapIs (w : World) (mb k : Nat) (zs : List Int) (B : Nat) : Prop :=
  ∃ D : DataW Unit, w.ownsMap Tryz.prog 217 (plainElem Tryz.prog 3) mb k D ∧ IsMap D ∧
    ∀ l : Lit, (has D l = false ∧ ∀ i, i < k → keyLit (chunk zs B i) ≠ l) ∨ (∃ i, has D l = true ∧ i < k ∧ keyLit (chunk zs B i) = l ∧ (∀ j, j < i → keyLit (chunk zs B j) ≠ l) ∧ D.atKey l (.lit (.int .i64 0)) = .lit (.int .i64 i))
theorem MapIs.below {w w' : World} {mb k : Nat} {zs : List Int} {B : Nat} (h : MapIs w mb k zs B) (hb : Below w.heap.size w w') : MapIs w' mb k zs B := by
  obtain ⟨D, h1, h2⟩ := h
  exact ⟨D, h1.kept (grownBy_of_below hb) (by simp), h2⟩
theorem MapIs.setCell {w : World} {mb k : Nat} {zs : List Int} {B : Nat} (h : MapIs w mb k zs B) {g : Nat} (hg : mb ≠ g) (j : Nat) (u : Value) : MapIs (w.setCell ⟨g, j, none⟩ u) mb k zs B := by
  obtain ⟨D, h1, h2⟩ := h
  exact ⟨D, h1.kept (setCell_grown u) (by simpa using hg), h2⟩
theorem MapIs.made (w : World) (zs : List Int) (B : Nat) : MapIs (w.alloc (.map #[] 0)) w.heap.size 0 zs B :=
  ⟨.map [], World.ownsMap_made _ _ _ _, isMap_empty, fun l => .inl ⟨rfl, fun i hi => by omega⟩⟩
theorem MapIs.kept {D : DataW Unit} {k : Nat} {zs : List Int} {B : Nat}
    (h : ∀ l : Lit, (has D l = false ∧ ∀ i, i < k → keyLit (chunk zs B i) ≠ l) ∨ (∃ i, has D l = true ∧ i < k ∧ keyLit (chunk zs B i) = l ∧ (∀ j, j < i → keyLit (chunk zs B j) ≠ l) ∧ D.atKey l (.lit (.int .i64 0)) = .lit (.int .i64 i)))
    (hh : has D (keyLit (chunk zs B k)) = true) : ∀ l : Lit, (has D l = false ∧ ∀ i, i < k + 1 → keyLit (chunk zs B i) ≠ l) ∨ (∃ i, has D l = true ∧ i < k + 1 ∧ keyLit (chunk zs B i) = l ∧ (∀ j, j < i → keyLit (chunk zs B j) ≠ l) ∧ D.atKey l (.lit (.int .i64 0)) = .lit (.int .i64 i)) := by
  intro l
  rcases h l with ⟨a, b⟩ | ⟨i, a, b, c⟩
  · refine .inl ⟨a, fun i hi => ?_⟩
    rcases Nat.lt_or_ge i k with h' | h'
    · exact b i h'
    · obtain rfl : i = k := by omega
      intro e; rw [← e, hh] at a; cases a
  · exact .inr ⟨i, a, by omega, c⟩
theorem MapIs.put {D : DataW Unit} {k : Nat} {zs : List Int} {B : Nat} (hD : IsMap D)
    (h : ∀ l : Lit, (has D l = false ∧ ∀ i, i < k → keyLit (chunk zs B i) ≠ l) ∨ (∃ i, has D l = true ∧ i < k ∧ keyLit (chunk zs B i) = l ∧ (∀ j, j < i → keyLit (chunk zs B j) ≠ l) ∧ D.atKey l (.lit (.int .i64 0)) = .lit (.int .i64 i)))
    (hh : has D (keyLit (chunk zs B k)) = false) : ∀ l : Lit, (has (D.put (keyLit (chunk zs B k)) (.lit (.int .i64 k))) l = false ∧ ∀ i, i < k + 1 → keyLit (chunk zs B i) ≠ l) ∨ (∃ i, has (D.put (keyLit (chunk zs B k)) (.lit (.int .i64 k))) l = true ∧ i < k + 1 ∧ keyLit (chunk zs B i) = l ∧ (∀ j, j < i → keyLit (chunk zs B j) ≠ l) ∧ (D.put (keyLit (chunk zs B k)) (.lit (.int .i64 k))).atKey l (.lit (.int .i64 0)) = .lit (.int .i64 i)) := by
  intro l
  have hkl : WideAt.IsKeyLit (keyLit (chunk zs B k)) := Tryz.pairKeyed.key (keyLit_key _)
  by_cases hl : l = keyLit (chunk zs B k)
  · subst hl
    refine .inr ⟨k, has_put_same hD hkl _, by omega, rfl, ?_, atKey_put_same hD hkl _ _⟩
    rcases h (keyLit (chunk zs B k)) with ⟨_, b⟩ | ⟨i, a, _⟩
    · exact b
    · rw [hh] at a; cases a
  · rw [has_put_other hl, atKey_put_other hl]
    rcases h l with ⟨a, b⟩ | ⟨i, a, b, c⟩
    · refine .inl ⟨a, fun i hi => ?_⟩
      rcases Nat.lt_or_ge i k with h' | h'
      · exact b i h'
      · obtain rfl : i = k := by omega
        exact fun e => hl e.symm
    · exact .inr ⟨i, a, by omega, c⟩

/-- what a look finds, in every world behind this one -/
theorem MapIs.look {w : World} {mb k : Nat} {zs : List Int} {B : Nat} (h : MapIs w mb k zs B) (ps : List Int) : ∃ (c : Int) (ok : Bool),
    (∀ w', Below w.heap.size w w' → (Instr.lookup 187 (.map (some mb)) (.agg #[.int .u32 (weakOf ps), .int .u64 (digestOf ps)]) true).run Tryz.prog w' = .ok (.tuple #[.int .i64 c, .bool ok]) w') ∧
    ((ok = false ∧ ∀ i, i < k → keyLit (chunk zs B i) ≠ keyLit ps) ∨ (ok = true ∧ ∃ i : Nat, c = i ∧ i < k ∧ ∀ j, j < i → keyLit (chunk zs B j) ≠ keyLit ps)) := by
  obtain ⟨D, h1, h2, h3⟩ := h
  have hrun : ∀ w', Below w.heap.size w w' → ∃ c : Int, (Instr.lookup 187 (.map (some mb)) (.agg #[.int .u32 (weakOf ps), .int .u64 (digestOf ps)]) true).run Tryz.prog w' = .ok (.tuple #[.int .i64 c, .bool (has D (keyLit ps))]) w' ∧ D.atKey (keyLit ps) (.lit (.int .i64 0)) = .lit (.int .i64 c) := by
    intro w' hb
    obtain ⟨v, ps', hr, hv⟩ := (h1.kept (grownBy_of_below hb) (by simp)).look_ok Tryz.pairKeyed Tryz.underlying187 (Tryz.zeroInt w') (plainElem_int Tryz.underlying3 (by decide)) (keyLit_key ps)
    obtain ⟨c, rfl, hc, _⟩ := plainElem_int_inv Tryz.underlying3 hv
    exact ⟨c, hr, congrArg Prod.fst hc⟩
  obtain ⟨c, _, hc⟩ := hrun w (Below.refl _ _)
  refine ⟨c, has D (keyLit ps), fun w' hb => ?_, ?_⟩
  · obtain ⟨c', hr, hc'⟩ := hrun w' hb
    rw [hc] at hc'
    have : c = c' := by simpa using hc'
    rw [this]; exact hr
  · rcases h3 (keyLit ps) with ⟨a, b⟩ | ⟨i, a, b, d, e, f⟩
    · exact .inl ⟨a, b⟩
    · rw [hc] at f
      have : c = i := by simpa using f
      exact .inr ⟨a, i, this, b, e⟩
end Go.Proofs.YtbhccdedcoajmabGreatDoor
