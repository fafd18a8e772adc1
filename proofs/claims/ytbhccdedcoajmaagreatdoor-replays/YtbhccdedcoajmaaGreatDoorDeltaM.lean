import Derived.Test.YtbhccdedcoajmaaGreatDoorTokRowM
import Derived.Deep.QuietTactic
import Derived.BigQuiet
import Derived.Test.YtbhccdedcoajmaaGreatDoorChecked
import Derived.Maps.OwnSet
import Derived.Maps.OwnOps
import Derived.DeepKeys4
import Derived.Deep.RegionHeld3
namespace Go.Proofs.YtbhccdedcoajmaaGreatDoor
open Go.RowKit

set_option maxRecDepth 10000 in
set_option maxHeartbeats 400000 in
theorem at_ok (b off cap B i mb n p : Nat) (hB1 : 1 ≤ B) (hB2 : B ≤ 64) (hn : n ≤ 300) (hcap : n ≤ cap) (hp : p = i * B) (hi : p + B ≤ n) (w : World) :
    Calls Tryz.prog 162 #[.agg #[.slice (some ⟨b, off, none⟩) n cap, .int .i64 B, .map (some mb)], .int .i64 i] w fun e w' => e = .returned (.slice (some ⟨b, off + p, none⟩) B B) ∧ Below w.heap.size w w' := by
  have hi300 : i ≤ 300 := by
    have := Nat.le_mul_of_pos_right i (show 0 < B by omega)
    omega
  have e1 : (i : Int) * (B : Int) = (p : Int) := by rw [hp]; simp
  have e2 : ((i : Int) + 1) * (B : Int) = (p : Int) + (B : Int) := by rw [Int.add_mul, e1]; omega
  clear hp
  go_enter Tryz.func162, Tryz.ntmps162
  go_wp2_with fail
  go_quiet (fail)
  go_wp2_with fail
  go_ret
  exact ⟨by simp [show p + B - p = B by omega], below_drewN ((Below.refl _ _).alloc (Nat.le_refl _) _) _⟩

set_option maxRecDepth 10000 in
set_option maxHeartbeats 400000 in
theorem whole_ok (v : Option Addr) (cap B mb n : Nat) (hB1 : 1 ≤ B) (hB2 : B ≤ 64) (hn : n ≤ 300) (w : World) :
    Calls Tryz.prog 160 #[.agg #[.slice v n cap, .int .i64 B, .map (some mb)]] w fun e w' => e = .returned (.int .i64 (n / B : Nat)) ∧ Below w.heap.size w w' := by
  have hc : wrap64 ((n : Int) / (B : Int)) = ((n / B : Nat) : Int) := by
    have := Nat.div_le_self n B
    rw [show (n : Int) / (B : Int) = ((n / B : Nat) : Int) by simp]; generalize n / B = q at *; unfold wrap64; omega
  have HC := hide hc
  clear hc
  go_enter Tryz.func160, Tryz.ntmps160
  go_wp2_with fail
  go_ret
  exact ⟨ret_int HC.out, (Below.refl _ _).alloc (Nat.le_refl _) _⟩

set_option maxRecDepth 10000 in
set_option maxHeartbeats 400000 in
theorem pairOf_any (b off cap : Nat) (zs : List Int) (w : World) (hm : zs.length ≤ 70000) (hz : Bytes zs)
    (hc : ∀ k (h : k < zs.length), w.cell? ⟨b, off + k, none⟩ = some (.int .u8 zs[k])) :
    Calls Tryz.prog 161 #[.slice (some ⟨b, off, none⟩) zs.length cap] w fun e w' => e = .returned (.agg #[.int .u32 (weakOf zs), .int .u64 (digestOf zs)]) ∧ Below w.heap.size w w' := by
  have hb1 : ∀ o, Below w.heap.size w (w.alloc o) := fun o => (Below.refl _ _).alloc (Nat.le_refl _) _
  have hbl : ∀ k (h : k < zs.length), b < w.heap.size := fun k h => World.block_lt_of_cell? w _ (hc k h)
  have hc1 : ∀ o k (h : k < zs.length), (w.alloc o).cell? ⟨b, off + k, none⟩ = some (.int .u8 zs[k]) := fun o k h => ((hb1 o).cell (p := ⟨b, off + k, none⟩) (hbl k h)).trans (hc k h)
  have HW := hide (fun o => weak_any b off cap zs (w.alloc o) (by omega) hz (hc1 o))
  have HD := hide (fun o => digest_any b off cap zs (w.alloc o) (by omega) hz (hc1 o))
  clear hb1 hc1 hc hz hbl
  generalize hn : zs.length = n at *
  clear hn
  go_enter Tryz.func161, Tryz.ntmps161
  go_wp2_with fail
  refine (HW.out _).mono ?_
  rintro e w' ⟨rfl, rfl⟩
  go_wp2_with fail
  refine (HD.out _).mono ?_
  rintro e w' ⟨rfl, rfl⟩
  go_wp2_with fail
  refine bodyPost_ret (v := .agg #[.int .u32 (weakOf zs), .int .u64 (digestOf zs)]) (by simp [results, Tryz.results161, go_sem]) rfl ⟨rfl, ?_⟩
  exact (Below.refl _ _).alloc (Nat.le_refl _) _

set_option maxHeartbeats 400000 in
theorem equal_any (b off cap b' off' cap' : Nat) (zs ys : List Int) (w : World) (hz : Bytes zs) (hy : Bytes ys)
    (hc : ∀ k (h : k < zs.length), w.cell? ⟨b, off + k, none⟩ = some (.int .u8 zs[k])) (hd : ∀ k (h : k < ys.length), w.cell? ⟨b', off' + k, none⟩ = some (.int .u8 ys[k])) :
    Calls Tryz.prog 163 #[.slice (some ⟨b, off, none⟩) zs.length cap, .slice (some ⟨b', off', none⟩) ys.length cap'] w fun e w' => e = .returned (.bool (decide (zs = ys))) ∧ w' = w := by
  have h1 := conv_cells b off cap zs w hz hc
  have h2 := conv_cells b' off' cap' ys w hy hd
  have HE := hide (textOf_eq hz hy)
  clear hz hy hc hd
  generalize zs.length = n at *
  generalize ys.length = m at *
  go_enter Tryz.func163, Tryz.ntmps163
  go_wp2_with fail
  go_ret
  exact ⟨congrArg (fun x => Ending.returned (Value.bool x)) HE.out, rfl⟩

theorem Tryz.someBytes (a : Addr) (n c : Nat) (w : World) : (binOp BinOp.eql 38 (.slice (some a) n c) (.slice none 0 0)).run Tryz.prog w = .ok (.bool false) w := by kernel_rfl
set_option maxRecDepth 10000 in
set_option maxHeartbeats 400000 in
theorem clone_any (b off cap : Nat) (zs : List Int) (w : World) (hm : zs.length ≤ 70000)
    (hc : ∀ k (h : k < zs.length), w.cell? ⟨b, off + k, none⟩ = some (.int .u8 zs[k])) :
    Calls Tryz.prog 85 #[.slice (some ⟨b, off, none⟩) zs.length cap] w fun e w' => ∃ v, e = .returned v ∧ w'.ownsRow w.heap.size 5 1 v zs.length (u8s zs) ∧ Below w.heap.size w w' := by
  obtain ⟨i0, hi, z0, z1, z2⟩ := info_parts Tryz.info5
  have hbl : ∀ k (h : k < zs.length), b < w.heap.size := fun k h => World.block_lt_of_cell? w _ (hc k h)
  have HC : Hid (∀ j u, (u8s zs)[j]? = some u → ∀ W, Below w.heap.size w W → W.cell? ((⟨b, off, none⟩ : Addr).add j) = some u) := by
    intro j u hj W hb
    have hj' : j < zs.length := by
      rcases Nat.lt_or_ge j zs.length with h | h
      · exact h
      · rw [List.getElem?_eq_none (by simpa [u8s] using h)] at hj; cases hj
    have := (hb.cell (p := ⟨b, off + j, none⟩) (hbl j hj')).trans (hc j hj')
    simp [u8s, hj'] at hj
    rw [← hj, ← this]
    simp only [Addr.add]
    split
    · subst_vars; rfl
    · rfl
  clear hc hbl
  have hul : (u8s zs).length = zs.length := by simp [u8s]
  generalize hn : zs.length = n at *
  have HN := hide hn
  have HUL := hide hul
  clear hn hul
  have hnil := Tryz.someBytes
  go_enter Tryz.func85, Tryz.ntmps85
  go_wp2_with (at_builtin; refine wpList_append_own_at _ rfl (.tmp 5) (.tmp 6) 38 rfl w.heap.size 5 i0 (.int .u8 0) 1 1 Tryz.underlying38 hi z0 z1 z2 rfl (by decide) _ 0 [] rfl (World.ownsRow_made w #[] 0 (Nat.le_refl _) (by decide) rfl) ⟨b, off, none⟩ n cap (u8s zs) rfl ?ka ?kb ?kc ?kd ?ke ?kf ?kg)
  case ka => rw [HUL.out, Nat.mul_one]
  case kb => intro j u hj; exact HC.out j u hj _ ((Below.refl _ _).alloc (Nat.le_refl _) _)
  case kc => intro u hu; simp only [u8s, List.mem_map] at hu; obtain ⟨x, _, rfl⟩ := hu; rfl
  case kd => unfold maxLen; omega
  case ke => omega
  case kf => simp
  case kg =>
    intro v' w3 hown3 hgrow3 _ _
    have HB3 : Hid (Below w.heap.size w w3) := ((Below.refl _ _).alloc (Nat.le_refl _) _).grown hgrow3 (by simp) (fun j hj => by simp [Value.ownBlock] at hj; omega)
    have HO3 := hide hown3
    clear hown3 hgrow3
    go_wp2_with fail
    go_ret
    exact ⟨_, rfl, HO3.out, HB3.out⟩
end Go.Proofs.YtbhccdedcoajmaaGreatDoor
namespace Go.Proofs.YtbhccdedcoajmaaGreatDoor
open Go Go.RowKit Go.Maps

theorem Tryz.laidOutK : laidOutB Tryz.prog = true := by kernel_rfl
theorem Tryz.pairKeyed : Keyed Tryz.prog 272 := Keyed.of_law (deep_law_laid Tryz.laidOutK (m := 3) (by omega) (of_decide_eq_true (by kernel_rfl)) (by kernel_rfl) (by kernel_rfl))
theorem Tryz.pairKey (a b : Int) (ha : (Lit.int .u32 a).wf = true) (hb : (Lit.int .u64 b).wf = true) : keyOf Tryz.prog 272 (.agg #[.int .u32 a, .int .u64 b]) = some (.string (keyBytes [.int .u32 a, .int .u64 b])) := by
  have h1 : Tryz.prog.keyType 272 = true := by kernel_rfl
  have h2 : (Value.agg #[.int .u32 a, .int .u64 b]).formed Tryz.prog 272 = true := by kernel_rfl
  have c0 : Tryz.prog.cellsOf 272 = 2 := by kernel_rfl
  have c1 : Tryz.prog.cellsOf 131 = 1 := by kernel_rfl
  have c2 : Tryz.prog.cellsOf 88 = 1 := by kernel_rfl
  have hs : Tryz.prog.types.size = 316 := by kernel_rfl
  unfold keyOf
  obtain ⟨d, hd⟩ : ∃ d, 316 + 1 = d + 2 := ⟨316 - 1, rfl⟩
  rw [Tryz.underlying272, hs, hd]
  simp [h1, h2, Program.keyLits, Tryz.underlying272, Tryz.underlying131, Tryz.underlying88, c0, c1, c2, Value.cells, ha, hb]
theorem Tryz.zeroInt (w : World) : (zeroValue 3).run Tryz.prog w = .ok (.int .i64 0) w := by kernel_rfl

/-- what a block is looked up by -/
def keyLit (zs : List Int) : Lit := .string (keyBytes [.int .u32 (weakOf zs), .int .u64 (digestOf zs)])
theorem digestOf_bd (l : List Int) : 0 ≤ digestOf l ∧ digestOf l < 18446744073709551616 := by
  rcases snoc_cases l with rfl | ⟨i, x, rfl⟩
  · rw [digestOf_nil]; omega
  · rw [digestOf_snoc]; unfold dstep; rw [IntKind.wrap_u64]; omega
theorem keyLit_key (zs : List Int) : keyOf Tryz.prog 272 (.agg #[.int .u32 (weakOf zs), .int .u64 (digestOf zs)]) = some (keyLit zs) := by
  refine Tryz.pairKey _ _ ?_ ?_
  · have := weakOf_bd zs
    simp [Lit.wf, IntKind.min, IntKind.max, IntKind.signed, IntKind.bits]; omega
  · have := digestOf_bd zs
    simp [Lit.wf, IntKind.min, IntKind.max, IntKind.signed, IntKind.bits]; omega

/-- the map: of each key the least number below k of a block that has it -/
def MapIs (w : World) (mb k : Nat) (zs : List Int) (B : Nat) : Prop :=
  ∃ D : DataW Unit, w.ownsMap Tryz.prog 272 (plainElem Tryz.prog 3) mb k D ∧ IsMap D ∧
    ∀ l : Lit, (has D l = false ∧ ∀ i, i < k → keyLit (chunk zs B i) ≠ l) ∨ (∃ i, has D l = true ∧ i < k ∧ keyLit (chunk zs B i) = l ∧ (∀ j, j < i → keyLit (chunk zs B j) ≠ l) ∧ D.atKey l (.lit (.int .i64 0)) = .lit (.int .i64 i))
theorem MapIs.below {w w' : World} {mb k : Nat} {zs : List Int} {B : Nat} (h : MapIs w mb k zs B) (hb : Below w.heap.size w w') : MapIs w' mb k zs B := by
  obtain ⟨D, h1, h2⟩ := h
  exact ⟨D, h1.kept (grownBy_of_below hb) (by simp), h2⟩
theorem MapIs.setCell {w : World} {mb k : Nat} {zs : List Int} {B : Nat} (h : MapIs w mb k zs B) {g : Nat} (hg : mb ≠ g) (j : Nat) (u : Value) : MapIs (w.setCell ⟨g, j, none⟩ u) mb k zs B := by
  obtain ⟨D, h1, h2⟩ := h
  exact ⟨D, h1.kept (setCell_grown u) (by simpa using hg), h2⟩
theorem MapIs.made (w : World) (zs : List Int) (B : Nat) : MapIs (w.alloc (.map #[] 0)) w.heap.size 0 zs B :=
  ⟨.map [], World.ownsMap_made _ _ _ _, isMap_empty, fun l => .inl ⟨rfl, fun i hi => by omega⟩⟩
theorem MapIs.kept {D : DataW Unit} {k : Nat} {zs : List Int} {B : Nat}
    (h : ∀ l : Lit, (has D l = false ∧ ∀ i, i < k → keyLit (chunk zs B i) ≠ l) ∨ (∃ i, has D l = true ∧ i < k ∧ keyLit (chunk zs B i) = l ∧ (∀ j, j < i → keyLit (chunk zs B j) ≠ l) ∧ D.atKey l (.lit (.int .i64 0)) = .lit (.int .i64 i)))
    (hh : has D (keyLit (chunk zs B k)) = true) : ∀ l : Lit, (has D l = false ∧ ∀ i, i < k + 1 → keyLit (chunk zs B i) ≠ l) ∨ (∃ i, has D l = true ∧ i < k + 1 ∧ keyLit (chunk zs B i) = l ∧ (∀ j, j < i → keyLit (chunk zs B j) ≠ l) ∧ D.atKey l (.lit (.int .i64 0)) = .lit (.int .i64 i)) := by
  intro l
  rcases h l with ⟨a, b⟩ | ⟨i, a, b, c⟩
  · refine .inl ⟨a, fun i hi => ?_⟩
    rcases Nat.lt_or_ge i k with h' | h'
    · exact b i h'
    · obtain rfl : i = k := by omega
      intro e; rw [← e, hh] at a; cases a
  · exact .inr ⟨i, a, by omega, c⟩
theorem MapIs.put {D : DataW Unit} {k : Nat} {zs : List Int} {B : Nat} (hD : IsMap D)
    (h : ∀ l : Lit, (has D l = false ∧ ∀ i, i < k → keyLit (chunk zs B i) ≠ l) ∨ (∃ i, has D l = true ∧ i < k ∧ keyLit (chunk zs B i) = l ∧ (∀ j, j < i → keyLit (chunk zs B j) ≠ l) ∧ D.atKey l (.lit (.int .i64 0)) = .lit (.int .i64 i)))
    (hh : has D (keyLit (chunk zs B k)) = false) : ∀ l : Lit, (has (D.put (keyLit (chunk zs B k)) (.lit (.int .i64 k))) l = false ∧ ∀ i, i < k + 1 → keyLit (chunk zs B i) ≠ l) ∨ (∃ i, has (D.put (keyLit (chunk zs B k)) (.lit (.int .i64 k))) l = true ∧ i < k + 1 ∧ keyLit (chunk zs B i) = l ∧ (∀ j, j < i → keyLit (chunk zs B j) ≠ l) ∧ (D.put (keyLit (chunk zs B k)) (.lit (.int .i64 k))).atKey l (.lit (.int .i64 0)) = .lit (.int .i64 i)) := by
  intro l
  have hkl : WideAt.IsKeyLit (keyLit (chunk zs B k)) := Tryz.pairKeyed.key (keyLit_key _)
  by_cases hl : l = keyLit (chunk zs B k)
  · subst hl
    refine .inr ⟨k, has_put_same hD hkl _, by omega, rfl, ?_, atKey_put_same hD hkl _ _⟩
    rcases h (keyLit (chunk zs B k)) with ⟨_, b⟩ | ⟨i, a, _⟩
    · exact b
    · rw [hh] at a; cases a
  · rw [has_put_other hl, atKey_put_other hl]
    rcases h l with ⟨a, b⟩ | ⟨i, a, b, c⟩
    · refine .inl ⟨a, fun i hi => ?_⟩
      rcases Nat.lt_or_ge i k with h' | h'
      · exact b i h'
      · obtain rfl : i = k := by omega
        exact fun e => hl e.symm
    · exact .inr ⟨i, a, by omega, c⟩

/-- what a look finds, in every world behind this one -/
theorem MapIs.look {w : World} {mb k : Nat} {zs : List Int} {B : Nat} (h : MapIs w mb k zs B) (ps : List Int) : ∃ (c : Int) (ok : Bool),
    (∀ w', Below w.heap.size w w' → (Instr.lookup 253 (.map (some mb)) (.agg #[.int .u32 (weakOf ps), .int .u64 (digestOf ps)]) true).run Tryz.prog w' = .ok (.tuple #[.int .i64 c, .bool ok]) w') ∧
    ((ok = false ∧ ∀ i, i < k → keyLit (chunk zs B i) ≠ keyLit ps) ∨ (ok = true ∧ ∃ i : Nat, c = i ∧ i < k ∧ ∀ j, j < i → keyLit (chunk zs B j) ≠ keyLit ps)) := by
  obtain ⟨D, h1, h2, h3⟩ := h
  have hrun : ∀ w', Below w.heap.size w w' → ∃ c : Int, (Instr.lookup 253 (.map (some mb)) (.agg #[.int .u32 (weakOf ps), .int .u64 (digestOf ps)]) true).run Tryz.prog w' = .ok (.tuple #[.int .i64 c, .bool (has D (keyLit ps))]) w' ∧ D.atKey (keyLit ps) (.lit (.int .i64 0)) = .lit (.int .i64 c) := by
    intro w' hb
    obtain ⟨v, ps', hr, hv⟩ := (h1.kept (grownBy_of_below hb) (by simp)).look_ok Tryz.pairKeyed Tryz.underlying253 (Tryz.zeroInt w') (plainElem_int Tryz.underlying3 (by decide)) (keyLit_key ps)
    obtain ⟨c, rfl, hc, _⟩ := plainElem_int_inv Tryz.underlying3 hv
    exact ⟨c, hr, congrArg Prod.fst hc⟩
  obtain ⟨c, _, hc⟩ := hrun w (Below.refl _ _)
  refine ⟨c, has D (keyLit ps), fun w' hb => ?_, ?_⟩
  · obtain ⟨c', hr, hc'⟩ := hrun w' hb
    rw [hc] at hc'
    have : c = c' := by simpa using hc'
    rw [this]; exact hr
  · rcases h3 (keyLit ps) with ⟨a, b⟩ | ⟨i, a, b, d, e, f⟩
    · exact .inl ⟨a, b⟩
    · rw [hc] at f
      have : c = i := by simpa using f
      exact .inr ⟨a, i, this, b, e⟩
end Go.Proofs.YtbhccdedcoajmaaGreatDoor
namespace Go.Proofs.YtbhccdedcoajmaaGreatDoor
open Go.RowKit Go.Maps

set_option maxRecDepth 10000 in
set_option maxHeartbeats 1000000 in
theorem indexOf_ok (va : Option Addr) (b off cap B : Nat) (zs : List Int) (hva : 0 < zs.length → va = some ⟨b, off, none⟩) (w : World) (hB1 : 1 ≤ B) (hB2 : B ≤ 64) (hm : zs.length ≤ 300) (hcap : zs.length ≤ cap) (hz : Bytes zs)
    (hc : ∀ k (h : k < zs.length), w.cell? ⟨b, off + k, none⟩ = some (.int .u8 zs[k])) :
    Calls Tryz.prog 145 #[.slice va zs.length cap, .int .i64 B] w fun e w' => ∃ mb, e = .returned (.agg #[.slice va zs.length cap, .int .i64 B, .map (some mb)]) ∧ MapIs w' mb (zs.length / B) zs B ∧ Below w.heap.size w w' := by
  have HAT : Hid (∀ i mb W, i < zs.length / B → Calls Tryz.prog 162 #[.agg #[.slice va zs.length cap, .int .i64 B, .map (some mb)], .int .i64 i] W fun e w' => e = .returned (.slice (some ⟨b, off + i * B, none⟩) B B) ∧ Below W.heap.size W w') := by
    intro i mb W hi
    have := (whole_chunk hB1 hi).1
    rw [hva (by rw [Nat.add_mul] at this; omega)]
    exact at_ok b off cap B i mb zs.length (i * B) hB1 hB2 hm hcap rfl (by rw [Nat.add_mul] at this; omega) W
  have HPR : Hid (∀ i W, i < zs.length / B → Below w.heap.size w W → Calls Tryz.prog 161 #[.slice (some ⟨b, off + i * B, none⟩) B B] W fun e w' => e = .returned (.agg #[.int .u32 (weakOf (chunk zs B i)), .int .u64 (digestOf (chunk zs B i))]) ∧ Below W.heap.size W w') := by
    intro i W hi hb
    have h2 := (whole_chunk hB1 hi).2
    have := pairOf_any b (off + i * B) B (chunk zs B i) W (by omega) (hz.chunk B i) (cells_chunk (cells_below hc hb) B i)
    rw [h2] at this
    exact this
  have HWH := hide (fun v cap mb w => whole_ok v cap B mb zs.length hB1 hB2 hm w)
  have HKL : Hid (∀ i, keyOf Tryz.prog 272 (.agg #[.int .u32 (weakOf (chunk zs B i)), .int .u64 (digestOf (chunk zs B i))]) = some (keyLit (chunk zs B i))) := fun i => keyLit_key _
  have hq : zs.length / B ≤ 300 := Nat.le_trans (Nat.div_le_self _ _) hm
  clear hc hz hva
  generalize zs.length / B = M at *
  generalize zs.length = n at *
  have hmk := @run_makeMap Tryz.prog
  go_enter Tryz.func145, Tryz.ntmps145
  go_wp2_with fail
  refine (HWH.out _ _ _ _).mono ?_
  rintro e w1 ⟨rfl, hb⟩
  have HMD := hide (MapIs.made (w.alloc (.cells #[.slice none 0 0, .int .i64 0, .map none] 255)) zs B)
  have HB : Hid (Below w.heap.size w w1) := by
    show Below _ _ _
    exact below_all ((((Below.refl _ _).alloc (Nat.le_refl _) _).alloc (by simp) _).alloc (by simp; omega) _) hb
  have hc0 : w1.cell? ⟨w.heap.size + 1 + 1, 0, none⟩ = some (.slice va n cap) := by rw [hb.cell (p := ⟨w.heap.size + 1 + 1, 0, none⟩) (by simp)]; exact cell_new (by simp) rfl
  have hc1 : w1.cell? ⟨w.heap.size + 1 + 1, 1, none⟩ = some (.int .i64 B) := by rw [hb.cell (p := ⟨w.heap.size + 1 + 1, 1, none⟩) (by simp)]; exact cell_new (by simp) rfl
  have hc2 : w1.cell? ⟨w.heap.size + 1 + 1, 2, none⟩ = some (.map (some (w.heap.size + 1))) := by rw [hb.cell (p := ⟨w.heap.size + 1 + 1, 2, none⟩) (by simp)]; exact cell_new (by simp) rfl
  have HG0 : Hid (w1.heap[w.heap.size]? = some (.cells #[.slice none 0 0, .int .i64 0, .map none] 255 (0, 0))) := by
    show _ = _
    rw [hb.block _ (by simp; omega), Below.heap_alloc _ _ _ (by simp; omega), Below.heap_alloc _ _ _ (by simp)]
    exact heap_alloc_new _ _
  have HM : Hid (MapIs w1 (w.heap.size + 1) 0 zs B) := by
    refine MapIs.below ?_ hb
    have := (HMD.out).below ((Below.refl _ _).alloc (Nat.le_refl _) (.cells #[.slice va n cap, .int .i64 B, .map (some (w.heap.size + 1))] 255))
    simpa using this
  clear hb HMD
  have hlb : w.heap.size + 1 + 1 < w1.heap.size := World.block_lt_of_cell? w1 _ hc0
  have H0 := hide hc0
  have H1 := hide hc1
  have H2 := hide hc2
  have HLB := hide hlb
  clear hc0 hc1 hc2 hlb
  go_wp2_with fail
  go_loopw [16] (fun i wr => ∃ k : Nat, k ≤ M ∧ i = .int .i64 k ∧ Hid (w1.grownBy wr (some (w.heap.size + 1))) ∧ Hid (MapIs wr (w.heap.size + 1) k zs B)) (fun i _ => M - (intOf i).toNat)
  case atStart => exact ⟨0, Nat.zero_le _, rfl, grown_below (Below.refl _ _), HM.out⟩
  case round =>
    obtain ⟨k, hk, rfl, HGr, HMr⟩ := hrel
    have hcr : ∀ j v, w1.cell? ⟨w.heap.size + 1 + 1, j, none⟩ = some v → wr.cell? ⟨w.heap.size + 1 + 1, j, none⟩ = some v := fun j v h => HGr.out.cell h (by simp)
    have hd0 := hcr _ _ H0.out
    have hd1 := hcr _ _ H1.out
    have hd2 := hcr _ _ H2.out
    clear hcr
    have hszr : w.heap.size + 1 + 1 < wr.heap.size := World.block_lt_of_cell? wr _ hd0
    have HSR := hide hszr
    clear hszr
    by_cases hlt : k < M
    · go_wp2_with fail
      refine (HAT.out k _ _ hlt).mono ?_
      rintro e w2 ⟨rfl, hb2⟩
      have HB2 := hide hb2
      clear hb2
      go_wp2_with fail
      refine (HPR.out k _ hlt ?hp).mono ?_
      case hp => exact below_all ((HB.out).grown HGr.out HB.out.size (fun j hj => by simp at hj; omega)) HB2.out
      rintro e w3 ⟨rfl, hb3⟩
      have HB3 : Hid (Below wr.heap.size wr w3) := below_all HB2.out hb3
      have hM3 := (HMr.out.below HB3.out).below ((Below.refl _ _).alloc (Nat.le_refl _) (.cells #[.int .u32 (weakOf (chunk zs B k)), .int .u64 (digestOf (chunk zs B k))] 272))
      have hd2' : w3.cell? ⟨w.heap.size + 1 + 1, 2, none⟩ = some (.map (some (w.heap.size + 1))) := by rw [HB3.out.cell (p := ⟨w.heap.size + 1 + 1, 2, none⟩) HSR.out]; exact hd2
      have hsz3 : w.heap.size + 1 + 1 < w3.heap.size := World.block_lt_of_cell? w3 _ hd2'
      clear hb3
      obtain ⟨D, hD1, hD2, hD3⟩ := hM3
      have HD1 := hide hD1
      have HD2 := hide hD2
      have HD3 := hide hD3
      clear hD1 hD2 hD3
      have HB4 : Hid (w1.grownBy (w3.alloc (.cells #[.int .u32 (weakOf (chunk zs B k)), .int .u64 (digestOf (chunk zs B k))] 272)) (some (w.heap.size + 1))) := HGr.out.trans (grown_below (below_all HB3.out ((Below.refl _ _).alloc (Nat.le_refl _) _)))
      cases hh : has D (keyLit (chunk zs B k)) with
      | true =>
        go_wp2_with (at_lookup; refine wpList_lookup_own_ok_int _ rfl _ _ 253 rfl 272 3 .i64 Tryz.pairKeyed Tryz.underlying253 Tryz.underlying3 (Tryz.zeroInt _) (w.heap.size + 1) k D rfl HD1.out _ _ rfl (HKL.out k) ?_; intro c hat hwc)
        go_roundw
        case rel => exact ⟨k + 1, by omega, by go_num, HB4.out, ⟨D, HD1.out.mono (Nat.le_succ _), HD2.out, MapIs.kept HD3.out hh⟩⟩
        case measure => simp [intOf]; omega
      | false =>
        go_wp2_with (first | (at_lookup; refine wpList_lookup_own_ok_int _ rfl _ _ 253 rfl 272 3 .i64 Tryz.pairKeyed Tryz.underlying253 Tryz.underlying3 (Tryz.zeroInt _) (w.heap.size + 1) k D rfl HD1.out _ _ rfl (HKL.out k) ?_; intro c hat hwc) | (at_mapUpdate; refine wpList_mapUpdate_own _ rfl _ _ _ 253 rfl 272 3 Tryz.pairKeyed Tryz.underlying253 _ (w.heap.size + 1) k D rfl HD1.out (by unfold maxLen; omega) _ _ _ rfl rfl (HKL.out k) (.lit (.int .i64 k)) [] (plainElem_int Tryz.underlying3 (WalkArith.wf_i64 (by omega))) ?_; intro w4 hown4 hgrow4))
        go_roundw
        case rel => exact ⟨k + 1, by omega, by go_num, HB4.out.trans hgrow4, ⟨_, hown4, HD2.out.put _ _, MapIs.put HD2.out HD3.out hh⟩⟩
        case measure => simp [intOf]; omega
    · have hkM : k = M := by omega
      have HKM := hide hkM
      clear hkM
      have hg0 : wr.heap[w.heap.size]? = some (.cells #[.slice none 0 0, .int .i64 0, .map none] 255 (0, 0)) := (HGr.out.block _ (by have := HLB.out; omega) (by simp)).trans HG0.out
      have he0 : wr.cell? ⟨w.heap.size, 0, none⟩ = some (.slice none 0 0) := cell_row hg0 rfl
      have he1 : wr.cell? ⟨w.heap.size, 1, none⟩ = some (.int .i64 0) := cell_row hg0 rfl
      have he2 : wr.cell? ⟨w.heap.size, 2, none⟩ = some (.map none) := cell_row hg0 rfl
      have hf : ∀ j, wr.frozen? ⟨w.heap.size, j, none⟩ = false := fun j => frozen_of_row _ _ _ _ _ hg0
      have HFIN : Hid (Below w.heap.size w wr) := (HB.out).grown HGr.out HB.out.size (fun j hj => by simp at hj; omega)
      clear hg0
      go_wp2_with fail
      refine bodyPost_ret (v := .agg #[.slice va n cap, .int .i64 B, .map (some (w.heap.size + 1))]) (by simp [results, Tryz.results145, go_sem, he0, he1, he2]) rfl ⟨_, rfl, ?_, ?_⟩
      · have := HMr.out
        rw [HKM.out] at this
        exact ((this.setCell (by omega) _ _).setCell (by omega) _ _).setCell (by omega) _ _
      · exact ((HFIN.out.setCell (p := ⟨w.heap.size, 0, none⟩) (Nat.le_refl _) _).setCell (p := ⟨w.heap.size, 1, none⟩) (Nat.le_refl _) _).setCell (p := ⟨w.heap.size, 2, none⟩) (Nat.le_refl _) _
end Go.Proofs.YtbhccdedcoajmaaGreatDoor
namespace Go.Proofs.YtbhccdedcoajmaaGreatDoor
open Go.RowKit Go.Maps

def foundV (r : Option Nat) : Value := .tuple #[.int .i64 (r.getD 0 : Nat), .bool r.isSome]

set_option maxRecDepth 10000 in
set_option maxHeartbeats 1000000 in
theorem find_ok (va : Option Addr) (b off cap B mb : Nat) (zs : List Int) (hva : 0 < zs.length → va = some ⟨b, off, none⟩) (b' off' cap' : Nat) (ps : List Int) (w : World) (hB1 : 1 ≤ B) (hB2 : B ≤ 64) (hm : zs.length ≤ 300) (hcap : zs.length ≤ cap) (hz : Bytes zs) (hp : Bytes ps) (hpl : ps.length = B)
    (hc : ∀ k (h : k < zs.length), w.cell? ⟨b, off + k, none⟩ = some (.int .u8 zs[k])) (hd : ∀ k (h : k < ps.length), w.cell? ⟨b', off' + k, none⟩ = some (.int .u8 ps[k])) (hM : MapIs w mb (zs.length / B) zs B) :
    Calls Tryz.prog 146 #[.agg #[.slice va zs.length cap, .int .i64 B, .map (some mb)], .slice (some ⟨b', off', none⟩) B cap'] w fun e w' => e = .returned (foundV (findBlk zs B ps)) ∧ Below w.heap.size w w' := by
  have HAT : Hid (∀ i mb W, i < zs.length / B → Calls Tryz.prog 162 #[.agg #[.slice va zs.length cap, .int .i64 B, .map (some mb)], .int .i64 i] W fun e w' => e = .returned (.slice (some ⟨b, off + i * B, none⟩) B B) ∧ Below W.heap.size W w') := by
    intro i mb W hi
    have := (whole_chunk hB1 hi).1
    rw [hva (by rw [Nat.add_mul] at this; omega)]
    exact at_ok b off cap B i mb zs.length (i * B) hB1 hB2 hm hcap rfl (by rw [Nat.add_mul] at this; omega) W
  have HPR : Hid (∀ W, Below w.heap.size w W → Calls Tryz.prog 161 #[.slice (some ⟨b', off', none⟩) B cap'] W fun e w' => e = .returned (.agg #[.int .u32 (weakOf ps), .int .u64 (digestOf ps)]) ∧ Below W.heap.size W w') := by
    intro W hb
    have := pairOf_any b' off' cap' ps W (by omega) hp (cells_below hd hb)
    rw [hpl] at this
    exact this
  have HEQ : Hid (∀ i W, i < zs.length / B → Below w.heap.size w W → Calls Tryz.prog 163 #[.slice (some ⟨b, off + i * B, none⟩) B B, .slice (some ⟨b', off', none⟩) B cap'] W fun e w' => e = .returned (.bool (decide (chunk zs B i = ps))) ∧ w' = W) := by
    intro i W hi hb
    have := equal_any b (off + i * B) B b' off' cap' (chunk zs B i) ps W (hz.chunk B i) hp (cells_chunk (cells_below hc hb) B i) (cells_below hd hb)
    rw [hpl, (whole_chunk hB1 hi).2] at this
    exact this
  have HWH := hide (fun v cap mb w => whole_ok v cap B mb zs.length hB1 hB2 hm w)
  obtain ⟨c, ok, hrun, hwhat⟩ := hM.look ps
  have HR := hide hrun
  have HF : Hid (∀ k : Nat, k ≤ zs.length / B → (∀ j, j < k → chunk zs B j ≠ ps) → (k < zs.length / B → chunk zs B k = ps) → findBlk zs B ps = if k < zs.length / B then some k else none) := by
    intro k _ h2 h3
    split
    · rename_i h
      exact findBlk_some.2 ⟨h, h3 h, h2⟩
    · rename_i h
      exact findBlk_none.2 (fun j hj => h2 j (by omega))
  have hq : zs.length / B ≤ 300 := Nat.le_trans (Nat.div_le_self _ _) hm
  have hwhat2 : (ok = false ∧ findBlk zs B ps = none) ∨ (ok = true ∧ ∃ i : Nat, c = i ∧ i < zs.length / B ∧ ∀ j, j < i → chunk zs B j ≠ ps) := by
    rcases hwhat with ⟨a, h⟩ | ⟨a, i, h1, h2, h3⟩
    · exact .inl ⟨a, findBlk_none.2 fun j hj e => h j hj (by rw [e])⟩
    · exact .inr ⟨a, i, h1, h2, fun j hj e => h3 j hj (by rw [e])⟩
  clear hc hz hd hp hM hrun hwhat hva
  generalize zs.length / B = M at *
  generalize zs.length = n at *
  have HB1 : Hid (∀ o, Below w.heap.size w (w.alloc o).drew) := fun o => ((Below.refl _ _).alloc (Nat.le_refl _) o).drew
  rcases hwhat2 with ⟨rfl, hno⟩ | ⟨rfl, i, rfl, hi, hall⟩
  · go_enter Tryz.func146, Tryz.ntmps146
    go_wp2_with fail
    go_region_held3 (fun w' => w'.cell? ⟨w.heap.size, 2, none⟩ = some (.map (some mb)) ∧ (Instr.lookup 253 (.map (some mb)) (.agg #[.int .u32 (weakOf ps), .int .u64 (digestOf ps)]) true).run Tryz.prog w' = .ok (.tuple #[.int .i64 c, .bool false]) w')
      (first | exact ⟨by go_keep, HR.out _ (HB1.out _)⟩ | exact ⟨by rw [hb2.cell (p := ⟨w.heap.size, 2, none⟩) (by simp)]; go_keep, HR.out _ (below_all (HB1.out _) hb2)⟩)
      ((go_at_call 161; refine (HPR.out _ (HB1.out _)).mono ?_; rintro e w2 ⟨rfl, hb2⟩))
    have HB2 : Hid (Below w.heap.size w w2) := below_all (HB1.out _) hb2
    clear hb2
    go_wp2_with fail
    go_ret2
    exact ⟨by rw [hno]; rfl, HB2.out⟩
  · have HALL := hide hall
    clear hall
    go_enter Tryz.func146, Tryz.ntmps146
    go_wp2_with fail
    go_region_held3 (fun w' => w'.cell? ⟨w.heap.size, 2, none⟩ = some (.map (some mb)) ∧ (Instr.lookup 253 (.map (some mb)) (.agg #[.int .u32 (weakOf ps), .int .u64 (digestOf ps)]) true).run Tryz.prog w' = .ok (.tuple #[.int .i64 i, .bool true]) w')
      (first | exact ⟨by go_keep, HR.out _ (HB1.out _)⟩ | exact ⟨by rw [hb2.cell (p := ⟨w.heap.size, 2, none⟩) (by simp)]; go_keep, HR.out _ (below_all (HB1.out _) hb2)⟩)
      ((go_at_call 161; refine (HPR.out _ (HB1.out _)).mono ?_; rintro e w2 ⟨rfl, hb2⟩))
    have HB2 : Hid (Below w.heap.size w w2) := below_all (HB1.out _) hb2
    have hx0 : w2.cell? ⟨w.heap.size, 0, none⟩ = some (.slice va n cap) := by rw [hb2.cell (p := ⟨w.heap.size, 0, none⟩) (by simp)]; exact cell_new rfl rfl
    have hx1 : w2.cell? ⟨w.heap.size, 1, none⟩ = some (.int .i64 B) := by rw [hb2.cell (p := ⟨w.heap.size, 1, none⟩) (by simp)]; exact cell_new rfl rfl
    have hx2 : w2.cell? ⟨w.heap.size, 2, none⟩ = some (.map (some mb)) := by rw [hb2.cell (p := ⟨w.heap.size, 2, none⟩) (by simp)]; exact cell_new rfl rfl
    have H0 := hide hx0
    have H1 := hide hx1
    have H2 := hide hx2
    have HLB : Hid (w.heap.size < w2.heap.size) := World.block_lt_of_cell? w2 _ hx0
    clear hb2 hx0 hx1 hx2
    go_wp2_with fail
    go_loopw [6] (fun v wr => ∃ k : Nat, k ≤ M ∧ v = .int .i64 k ∧ Hid (∀ j, j < k → chunk zs B j ≠ ps) ∧ Hid (Below w2.heap.size w2 wr)) (fun v _ => M - (intOf v).toNat)
    case atStart => exact ⟨i, Nat.le_of_lt hi, rfl, HALL.out, Below.refl _ _⟩
    case round =>
      obtain ⟨k, hk, rfl, HAr, HBr⟩ := hrel
      have hd0 := (HBr.out.cell (p := ⟨w.heap.size, 0, none⟩) HLB.out).trans H0.out
      have hd1 := (HBr.out.cell (p := ⟨w.heap.size, 1, none⟩) HLB.out).trans H1.out
      have hd2 := (HBr.out.cell (p := ⟨w.heap.size, 2, none⟩) HLB.out).trans H2.out
      go_wp2_with fail
      refine (HWH.out _ _ _ _).mono ?_
      rintro e w3 ⟨rfl, hb3⟩
      have he0 := (hb3.cell (p := ⟨w.heap.size, 0, none⟩) (Nat.lt_of_lt_of_le HLB.out HBr.out.size)).trans hd0
      have he1 := (hb3.cell (p := ⟨w.heap.size, 1, none⟩) (Nat.lt_of_lt_of_le HLB.out HBr.out.size)).trans hd1
      have he2 := (hb3.cell (p := ⟨w.heap.size, 2, none⟩) (Nat.lt_of_lt_of_le HLB.out HBr.out.size)).trans hd2
      have HB3 : Hid (Below w2.heap.size w2 w3) := below_all HBr.out hb3
      clear hb3 hd0 hd1 hd2
      by_cases hlt : k < M
      · go_wp2_with fail
        refine (HAT.out k _ _ hlt).mono ?_
        rintro e w4 ⟨rfl, hb4⟩
        have HB4 : Hid (Below w2.heap.size w2 w4) := below_all HB3.out hb4
        clear hb4 he0 he1 he2
        go_wp2_with fail
        refine (HEQ.out k _ hlt (below_all HB2.out HB4.out)).mono ?_
        rintro e w5 ⟨rfl, hw5⟩
        obtain rfl := hw5.symm
        by_cases hh : chunk zs B k = ps
        · have hdt : decide (chunk zs B k = ps) = true := decide_eq_true hh
          have HH := hide hh
          clear hh
          rw [hdt]
          clear hdt
          go_wp2_with fail
          go_ret2
          refine ⟨?_, below_all HB2.out HB4.out⟩
          rw [HF.out k (by omega) HAr.out (fun _ => HH.out), if_pos hlt]
          rfl
        · have hdt : decide (chunk zs B k = ps) = false := decide_eq_false hh
          have HH := hide hh
          clear hh
          rw [hdt]
          clear hdt
          go_wp2_with fail
          go_roundw
          case rel =>
            refine ⟨k + 1, by omega, by go_num, fun j hj => ?_, HB4.out⟩
            rcases Nat.lt_or_ge j k with h | h
            · exact HAr.out j h
            · obtain rfl : j = k := by omega
              exact HH.out
          case measure => simp [intOf]; omega
      · go_wp2_with fail
        go_ret2
        refine ⟨?_, below_all HB2.out HB3.out⟩
        rw [HF.out k (by omega) HAr.out (fun h => absurd h hlt), if_neg hlt]
        rfl
end Go.Proofs.YtbhccdedcoajmaaGreatDoor
