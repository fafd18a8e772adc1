import Derived.Test.YtbhccdedcoajmaaGreatDoorLOpenM
import Derived.Test.YtbhccdedcoajmaaGreatDoorSpoiltM
import Derived.Deep.RegionHeldLaw
import Derived.Deep.AppendLies
import Derived.Deep.RegionHeld3
import Derived.Deep.DeepCutAuto
import Derived.Deep.CutBlock
namespace Go.Proofs.YtbhccdedcoajmaaGreatDoor
open Go.RowKit

/-- one step of a script, as a value -/
def opV (k a b c : Int) (s t : ByteArray) : Value := .agg #[.int .i64 k, .int .i64 a, .int .i64 b, .int .i64 c, .string s, .string t]
def opObj (k a b c : Int) (s t : ByteArray) : Obj := .cells #[.int .i64 k, .int .i64 a, .int .i64 b, .int .i64 c, .string s, .string t] 35 (0, 0)

theorem Tryz.info27 : (Tryz.prog.info? 27).map (fun i => (i.zero, i.size, i.bytes)) = some (some (.slice none 0 0), 1, 24) := by kernel_rfl

set_option maxRecDepth 10000 in
set_option maxHeartbeats 1000000 in
theorem lists_none (W0 : Nat) (k a b c : Int) (s t : ByteArray) (w : World) (hk : k ≠ 1 ∧ k ≠ 2 ∧ k ≠ 3 ∧ k ≠ 4 ∧ k ≠ 5) :
    Calls Tryz.prog 10 #[.pointer (some ⟨W0, 0, none⟩), .agg #[.int .i64 k, .int .i64 a, .int .i64 b, .int .i64 c, .string s, .string t]] w fun e w' => e = .returned (.tuple #[.bool false, .bool true]) ∧ Below w.heap.size w w' := by
  obtain ⟨h1, h2, h3, h4, h5⟩ := hk
  go_enter Tryz.func10, Tryz.ntmps10
  go_wp2_with fail
  go_ret2
  exact ⟨rfl, (Below.refl _ _).alloc (Nat.le_refl _) _⟩

set_option maxRecDepth 10000 in
set_option maxHeartbeats 1000000 in
theorem lists_file {w : World} {wz : World} {B0 W0 K O : Nat} {ρ : Nat → Nat} {st : St} (hI : Inv wz w B0 W0 K O ρ st) (hK : K ≤ 65536) (a b c : Int) (s t : ByteArray) (hs : s.size ≤ 65536) (ht : t.size ≤ 65536) :
    Calls Tryz.prog 10 #[.pointer (some ⟨W0, 0, none⟩), .agg #[.int .i64 1, .int .i64 a, .int .i64 b, .int .i64 c, .string s, .string t]] w fun e w' => e = .returned (.tuple #[.bool true, .bool true]) ∧ ∃ ρ' s', Inv wz w' B0 W0 (K + 1) O ρ' s' := by
  obtain ⟨i0, hi, z0, z1, z2⟩ := info_parts Tryz.info54
  obtain ⟨ob, hob⟩ : ∃ ob, ob = Obj.cells #[.int .i64 1, .int .i64 a, .int .i64 b, .int .i64 c, .string s, .string t] 35 := ⟨_, rfl⟩
  have hIb : Inv wz (w.alloc ob) B0 W0 K O ρ st := hI.keep (Nat.le_refl _) (Nat.le_refl _) (below_keeps ((Below.refl _ _).alloc (Nat.le_refl _) _) _)
  have d4 : (w.alloc ob).cell? ⟨w.heap.size, 4, none⟩ = some (.string s) := by rw [hob]; exact cell_new rfl rfl
  have d5 : (w.alloc ob).cell? ⟨w.heap.size, 5, none⟩ = some (.string t) := by rw [hob]; exact cell_new rfl rfl
  have hbw : w.heap.size < (w.alloc ob).heap.size := by simp
  have hzb : ρ w.heap.size = 0 := hI.zero _ (Nat.le_refl _)
  generalize hWB : w.alloc ob = wb at *
  obtain ⟨na, nc, hvn⟩ := row_len hIb.rn.1
  have hrn : wb.ownsRow B0 54 2 (.slice na st.now.length nc) st.now.length (flCells st.now) := by
    have h9 := hIb.rn.1
    rw [hvn] at h9
    exact h9
  have d0 : wb.cell? ⟨W0, 0, none⟩ = some (.slice na st.now.length nc) := by rw [← hvn]; exact cell_row hIb.blk rfl
  have hW5 : W0 < wb.heap.size := hIb.lt
  have hkn := hIb.kn
  have hbb : B0 ≤ wb.heap.size := hIb.b0
  have HNE : Hid (∀ j, (Value.slice na st.now.length nc).ownBlock = some j → j ≠ W0 ∧ j ≠ w.heap.size ∧ B0 ≤ j) := by
    intro j hj
    have h9 := hIb.rn.2 j (by rw [hvn]; exact hj)
    refine ⟨fun e => ?_, fun e => ?_, (hrn.lt j hj).1⟩
    · have h10 := hIb.r0; rw [e] at h9; omega
    · rw [e] at h9; omega
  have HI := hide hIb
  have HVN := hide hvn
  have HOA : Hid (∀ ob, (wb.alloc ob).drew.ownsRow B0 54 2 (.slice na st.now.length nc) st.now.length (flCells st.now)) := fun ob => (hrn.alloc ob).drew
  have HWB := hide hWB
  rw [hob] at HWB
  clear hI hIb hvn hrn hWB hob
  go_enter Tryz.func10, Tryz.ntmps10
  go_wp2_with fail
  rw [HWB.out]
  go_region_held_law (fun w' => w'.cell? ⟨W0, 0, none⟩ = some (.slice na st.now.length nc) ∧ w'.cell? ⟨w.heap.size, 4, none⟩ = some (.string s) ∧ w'.cell? ⟨w.heap.size, 5, none⟩ = some (.string t))
    (first | exact ⟨d0, d4, d5⟩ | exact ⟨by go_keep, by go_keep, by go_keep⟩ | (refine ⟨(hgrow.cell_far ⟨W0, 0, none⟩ (by simp; omega) (fun e => (HNE.out _ e.symm).1 rfl)).trans (by go_keep), (hgrow.cell_far ⟨w.heap.size, 4, none⟩ (by simp; omega) (fun e => (HNE.out _ e.symm).2.1 rfl)).trans (by go_keep), (hgrow.cell_far ⟨w.heap.size, 5, none⟩ (by simp; omega) (fun e => (HNE.out _ e.symm).2.1 rfl)).trans (by go_keep)⟩))
    ((refine step_append_lies _ (by rfl) _ _ _ (by rfl) B0 54 i0 _ 2 32 Tryz.underlying27 hi z0 z1 z2 rfl (by omega) (.slice na st.now.length nc) st.now.length (flCells st.now) (by rfl) (HOA.out _) ⟨wb.heap.size, 0, none⟩ 1 1 [.string s, .string t] (by rfl) (by rfl) (World.news_of_block (cs := #[.string s, .string t]) (t := 54) (fr := (0, 0)) (heap_alloc_new wb _)) (by simp [Value.oneCell']) (by omega) (by unfold maxLen; omega) (by omega) (by simp; omega) (wb.heap.size + 1) (by simp) ?_; intro g3 c3 w3 hown3 hgrow hat hlt3))
  have hg53 : wb.grownBy w3 st.vn.ownBlock := by
    rw [HVN.out]
    exact (grown_drew2 (World.grownBy_alloc wb _ _)).trans hgrow
  have hat5 : st.vn.ownBlock = some g3 ∨ wb.heap.size ≤ g3 := by
    rw [HVN.out]
    exact hat.imp id (fun e => by omega)
  have hblk3 := HI.out.blk3 (q := 2) (by omega) hg53 HI.out.rn.2
  have HI6 := hide (HI.out.pushNow (s, t) hown3 hg53 hat5 hlt3 ⟨hs, ht⟩)
  have x0 : w3.cell? ⟨W0, 0, none⟩ = some (.slice na st.now.length nc) := by rw [← HVN.out]; exact cell_row hblk3 rfl
  have x1 : w3.frozen? ⟨W0, 0, none⟩ = false := frozen_of_row _ _ _ _ _ hblk3
  rename_i hHeld
  clear hHeld hown3 hgrow hat hat5 hblk3 hg53 d0 d4 d5 HOA HNE HWB
  go_wp2_with fail
  go_ret2
  exact ⟨rfl, _, _, HI6.out⟩

set_option maxRecDepth 10000 in
set_option maxHeartbeats 1000000 in
theorem lists_tree {w : World} {wz : World} {B0 W0 K O : Nat} {ρ : Nat → Nat} {st : St} (hI : Inv wz w B0 W0 K O ρ st) (hK : K ≤ 65536) (a b c : Int) (s t : ByteArray) :
    Calls Tryz.prog 10 #[.pointer (some ⟨W0, 0, none⟩), .agg #[.int .i64 2, .int .i64 a, .int .i64 b, .int .i64 c, .string s, .string t]] w fun e w' => e = .returned (.tuple #[.bool true, .bool true]) ∧ ∃ ρ' s', Inv wz w' B0 W0 (K + 1) O ρ' s' := by
  obtain ⟨i0, hi, z0, z1, z2⟩ := info_parts Tryz.info27
  obtain ⟨ob, hob⟩ : ∃ ob, ob = Obj.cells #[.int .i64 2, .int .i64 a, .int .i64 b, .int .i64 c, .string s, .string t] 35 := ⟨_, rfl⟩
  have hIb : Inv wz (w.alloc ob) B0 W0 K O ρ st := hI.keep (Nat.le_refl _) (Nat.le_refl _) (below_keeps ((Below.refl _ _).alloc (Nat.le_refl _) _) _)
  generalize hWB : w.alloc ob = wb at *
  obtain ⟨na, nc, hvn⟩ := row_len hIb.rn.1
  obtain ⟨ta, tc, hvt⟩ := row_len hIb.rt.1
  have hrn : wb.ownsRow B0 27 1 (.slice ta st.trees.length tc) st.trees.length (st.trees.map Prod.fst) := by
    have h9 := hIb.rt.1
    rw [hvt] at h9
    exact h9
  have d0 : wb.cell? ⟨W0, 1, none⟩ = some (.slice ta st.trees.length tc) := by rw [← hvt]; exact cell_row hIb.blk rfl
  have d4 : wb.cell? ⟨W0, 0, none⟩ = some (.slice na st.now.length nc) := by rw [← hvn]; exact cell_row hIb.blk rfl
  have hW5 : W0 < wb.heap.size := hIb.lt
  have hkn := hIb.kt
  have hbb : B0 ≤ wb.heap.size := hIb.b0
  have HNE : Hid (∀ j, (Value.slice ta st.trees.length tc).ownBlock = some j → j ≠ W0) := by
    intro j hj e
    have h9 := hIb.rt.2 j (by rw [hvt]; exact hj)
    have h10 := hIb.r0
    rw [e] at h9; omega
  have HI := hide hIb
  have HVN := hide hvn
  have HVT := hide hvt
  have HOA : Hid (∀ ob, (wb.alloc ob).drew.ownsRow B0 27 1 (.slice ta st.trees.length tc) st.trees.length (st.trees.map Prod.fst)) := fun ob => (hrn.alloc ob).drew
  have HWB := hide hWB
  rw [hob] at HWB
  clear hI hIb hvn hvt hrn hWB hob
  go_enter Tryz.func10, Tryz.ntmps10
  go_wp2_with fail
  rw [HWB.out]
  go_region_held_law (fun w' => w'.cell? ⟨W0, 1, none⟩ = some (.slice ta st.trees.length tc) ∧ w'.cell? ⟨W0, 0, none⟩ = some (.slice na st.now.length nc))
    (first | exact ⟨d0, d4⟩ | exact ⟨by go_keep, by go_keep⟩ | (refine ⟨(hgrow.cell_far ⟨W0, 1, none⟩ (by simp; omega) (fun e => HNE.out _ e.symm rfl)).trans (by go_keep), (hgrow.cell_far ⟨W0, 0, none⟩ (by simp; omega) (fun e => HNE.out _ e.symm rfl)).trans (by go_keep)⟩))
    ((refine step_append_lies _ (by rfl) _ _ _ (by rfl) B0 27 i0 _ 1 24 Tryz.underlying28 hi z0 z1 z2 rfl (by omega) (.slice ta st.trees.length tc) st.trees.length (st.trees.map Prod.fst) (by rfl) (HOA.out _) ⟨wb.heap.size, 0, none⟩ 1 1 [.slice na st.now.length nc] (by rfl) (by rfl) (World.news_of_block (cs := #[.slice na st.now.length nc]) (t := 27) (fr := (0, 0)) (heap_alloc_new wb _)) (by simp [Value.oneCell']) (by omega) (by unfold maxLen; omega) (by omega) (by simp; omega) (wb.heap.size + 1) (by simp) ?_; intro g3 c3 w3 hown3 hgrow hat hlt3))
  have hg53 : wb.grownBy w3 st.vt.ownBlock := by
    rw [HVT.out]
    exact (grown_drew2 (World.grownBy_alloc wb _ _)).trans hgrow
  have hat5 : st.vt.ownBlock = some g3 ∨ wb.heap.size ≤ g3 := by
    rw [HVT.out]
    exact hat.imp id (fun e => by omega)
  have hblk3 := HI.out.blk3 (q := 3) (by omega) hg53 HI.out.rt.2
  rw [← HVN.out] at hown3
  have HI6 := hide (HI.out.pushTree hown3 hg53 hat5 hlt3)
  have x0 : w3.cell? ⟨W0, 1, none⟩ = some (.slice ta st.trees.length tc) := by rw [← HVT.out]; exact cell_row hblk3 rfl
  have x1 : w3.frozen? ⟨W0, 1, none⟩ = false := frozen_of_row _ _ _ _ _ hblk3
  have x2 : w3.cell? ⟨W0, 0, none⟩ = some (.slice na st.now.length nc) := by rw [← HVN.out]; exact cell_row hblk3 rfl
  have x3 : w3.frozen? ⟨W0, 0, none⟩ = false := frozen_of_row _ _ _ _ _ hblk3
  rename_i hHeld
  clear hHeld hown3 hgrow hat hat5 hblk3 hg53 d0 d4 HOA HNE HWB
  go_wp2_with fail
  go_ret2
  exact ⟨rfl, _, _, HI6.out⟩

set_option maxRecDepth 10000 in
set_option maxHeartbeats 1000000 in
theorem lists_bytes {w : World} {wz : World} {B0 W0 K O : Nat} {ρ : Nat → Nat} {st : St} (hI : Inv wz w B0 W0 K O ρ st) (hK : K ≤ 65536) (a b c : Int) (s t : ByteArray) (hs : s.size ≤ 65536) :
    Calls Tryz.prog 10 #[.pointer (some ⟨W0, 0, none⟩), .agg #[.int .i64 4, .int .i64 a, .int .i64 b, .int .i64 c, .string s, .string t]] w fun e w' => e = .returned (.tuple #[.bool true, .bool true]) ∧ ∃ ρ' s', Inv wz w' B0 W0 (K + 1) O ρ' s' := by
  obtain ⟨i0, hi, z0, z1, z2⟩ := info_parts Tryz.info9
  obtain ⟨ob, hob⟩ : ∃ ob, ob = Obj.cells #[.int .i64 4, .int .i64 a, .int .i64 b, .int .i64 c, .string s, .string t] 35 := ⟨_, rfl⟩
  have hIb : Inv wz (w.alloc ob) B0 W0 K O ρ st := hI.keep (Nat.le_refl _) (Nat.le_refl _) (below_keeps ((Below.refl _ _).alloc (Nat.le_refl _) _) _)
  have d4 : (w.alloc ob).cell? ⟨w.heap.size, 4, none⟩ = some (.string s) := by rw [hob]; exact cell_new rfl rfl
  have hbw : w.heap.size < (w.alloc ob).heap.size := by simp
  have hzb : ρ w.heap.size = 0 := hI.zero _ (Nat.le_refl _)
  generalize hWB : w.alloc ob = wb at *
  obtain ⟨ba, bc, hvb⟩ := row_len hIb.rb.1
  have hrn : wb.ownsRow B0 9 1 (.slice ba st.batches.length bc) st.batches.length (st.batches.map .string) := by
    have h9 := hIb.rb.1
    rw [hvb] at h9
    exact h9
  have d0 : wb.cell? ⟨W0, 2, none⟩ = some (.slice ba st.batches.length bc) := by rw [← hvb]; exact cell_row hIb.blk rfl
  have hW5 : W0 < wb.heap.size := hIb.lt
  have hkn := hIb.kb
  have hbb : B0 ≤ wb.heap.size := hIb.b0
  have HNE : Hid (∀ j, (Value.slice ba st.batches.length bc).ownBlock = some j → j ≠ W0 ∧ j ≠ w.heap.size ∧ B0 ≤ j) := by
    intro j hj
    have h9 := hIb.rb.2 j (by rw [hvb]; exact hj)
    refine ⟨fun e => ?_, fun e => ?_, (hrn.lt j hj).1⟩
    · have h10 := hIb.r0; rw [e] at h9; omega
    · rw [e] at h9; omega
  have HI := hide hIb
  have HVB := hide hvb
  have HOA : Hid (∀ ob, (wb.alloc ob).drew.ownsRow B0 9 1 (.slice ba st.batches.length bc) st.batches.length (st.batches.map .string)) := fun ob => (hrn.alloc ob).drew
  have HWB := hide hWB
  rw [hob] at HWB
  clear hI hIb hvb hrn hWB hob
  go_enter Tryz.func10, Tryz.ntmps10
  go_wp2_with fail
  rw [HWB.out]
  go_region_held_law (fun w' => w'.cell? ⟨W0, 2, none⟩ = some (.slice ba st.batches.length bc) ∧ w'.cell? ⟨w.heap.size, 4, none⟩ = some (.string s))
    (first | exact ⟨d0, d4⟩ | exact ⟨by go_keep, by go_keep⟩ | (refine ⟨(hgrow.cell_far ⟨W0, 2, none⟩ (by simp; omega) (fun e => (HNE.out _ e.symm).1 rfl)).trans (by go_keep), (hgrow.cell_far ⟨w.heap.size, 4, none⟩ (by simp; omega) (fun e => (HNE.out _ e.symm).2.1 rfl)).trans (by go_keep)⟩))
    ((refine step_append_lies _ (by rfl) _ _ _ (by rfl) B0 9 i0 _ 1 16 Tryz.underlying29 hi z0 z1 z2 rfl (by omega) (.slice ba st.batches.length bc) st.batches.length (st.batches.map .string) (by rfl) (HOA.out _) ⟨wb.heap.size, 0, none⟩ 1 1 [.string s] (by rfl) (by rfl) (World.news_of_block (cs := #[.string s]) (t := 9) (fr := (0, 0)) (heap_alloc_new wb _)) (by simp [Value.oneCell']) (by omega) (by unfold maxLen; omega) (by omega) (by simp; omega) (wb.heap.size + 1) (by simp) ?_; intro g3 c3 w3 hown3 hgrow hat hlt3))
  have hg53 : wb.grownBy w3 st.vb.ownBlock := by
    rw [HVB.out]
    exact (grown_drew2 (World.grownBy_alloc wb _ _)).trans hgrow
  have hat5 : st.vb.ownBlock = some g3 ∨ wb.heap.size ≤ g3 := by
    rw [HVB.out]
    exact hat.imp id (fun e => by omega)
  have hblk3 := HI.out.blk3 (q := 4) (by omega) hg53 HI.out.rb.2
  have HI6 := hide (HI.out.pushBatch s hown3 hg53 hat5 hlt3 (by omega))
  have x0 : w3.cell? ⟨W0, 2, none⟩ = some (.slice ba st.batches.length bc) := by rw [← HVB.out]; exact cell_row hblk3 rfl
  have x1 : w3.frozen? ⟨W0, 2, none⟩ = false := frozen_of_row _ _ _ _ _ hblk3
  rename_i hHeld
  clear hHeld hown3 hgrow hat hat5 hblk3 hg53 d0 d4 HOA HNE HWB
  go_wp2_with fail
  go_ret2
  exact ⟨rfl, _, _, HI6.out⟩
end Go.Proofs.YtbhccdedcoajmaaGreatDoor
namespace Go.Proofs.YtbhccdedcoajmaaGreatDoor
open Go.RowKit

set_option maxRecDepth 10000 in
set_option maxHeartbeats 1000000 in
theorem lists_turn0 {w : World} {wz : World} {B0 W0 K O : Nat} {ρ : Nat → Nat} {st : St} (hI : Inv wz w B0 W0 K O ρ st) (a b c : Int) (s t : ByteArray) (h0 : st.batches.length = 0) :
    Calls Tryz.prog 10 #[.pointer (some ⟨W0, 0, none⟩), .agg #[.int .i64 5, .int .i64 a, .int .i64 b, .int .i64 c, .string s, .string t]] w fun e w' => e = .returned (.tuple #[.bool true, .bool true]) ∧ Below w.heap.size w w' := by
  obtain ⟨ba, bc, hvb⟩ := row_len hI.rb.1
  rw [h0] at hvb
  have hlt := hI.lt
  have d0 : ∀ ob, (w.alloc ob).cell? ⟨W0, 2, none⟩ = some (.slice ba 0 bc) := fun ob => by
    rw [World.cell?_alloc_lt _ _ _ hlt, ← hvb]
    exact cell_row hI.blk rfl
  clear hI hvb h0
  go_enter Tryz.func10, Tryz.ntmps10
  go_wp2_with fail
  go_ret2
  exact ⟨rfl, (Below.refl _ _).alloc (Nat.le_refl _) _⟩

set_option maxRecDepth 10000 in
set_option maxHeartbeats 2000000 in
theorem lists_turn {w : World} {wz : World} {B0 W0 K O : Nat} {ρ : Nat → Nat} {st : St} (hI : Inv wz w B0 W0 K O ρ st) (hK : K ≤ 65536) (a b c : Int) (ha : (Lit.int .i64 a).wf = true) (hb : (Lit.int .i64 b).wf = true) (s t : ByteArray) (h0 : 0 < st.batches.length) :
    Calls Tryz.prog 10 #[.pointer (some ⟨W0, 0, none⟩), .agg #[.int .i64 5, .int .i64 a, .int .i64 b, .int .i64 c, .string s, .string t]] w fun e w' => e = .returned (.tuple #[.bool true, .bool true]) ∧ ∃ ρ' s', Inv wz w' B0 W0 (K + 1) O ρ' s' := by
  obtain ⟨i0, hi, z0, z1, z2⟩ := info_parts Tryz.info9
  obtain ⟨ob, hob⟩ : ∃ ob, ob = Obj.cells #[.int .i64 5, .int .i64 a, .int .i64 b, .int .i64 c, .string s, .string t] 35 := ⟨_, rfl⟩
  have hIb : Inv wz (w.alloc ob) B0 W0 K O ρ st := hI.keep (Nat.le_refl _) (Nat.le_refl _) (below_keeps ((Below.refl _ _).alloc (Nat.le_refl _) _) _)
  have d1 : (w.alloc ob).cell? ⟨w.heap.size, 1, none⟩ = some (.int .i64 a) := by rw [hob]; exact cell_new rfl rfl
  have d2 : (w.alloc ob).cell? ⟨w.heap.size, 2, none⟩ = some (.int .i64 b) := by rw [hob]; exact cell_new rfl rfl
  have d3 : (w.alloc ob).cell? ⟨w.heap.size, 3, none⟩ = some (.int .i64 c) := by rw [hob]; exact cell_new rfl rfl
  have hbw : w.heap.size < (w.alloc ob).heap.size := by simp
  generalize hWB : w.alloc ob = wb at *
  obtain ⟨g, bc, hvb, hglt⟩ : ∃ g bc, st.vb = .slice (some ⟨g, 0, none⟩) st.batches.length bc ∧ g < wb.heap.size := by
    rcases hIb.rb.1.2 with ⟨_, h9⟩ | ⟨g, c, cur, h9, _, hg, _⟩
    · omega
    · exact ⟨g, c, h9, (Array.getElem?_eq_some_iff.1 hg).1⟩
  have hkn := hIb.kb
  obtain ⟨k, hk, hpk⟩ := lpick a ha st.batches.length (by omega) (by omega)
  have d0 : wb.cell? ⟨W0, 2, none⟩ = some (.slice (some ⟨g, 0, none⟩) st.batches.length bc) := by rw [← hvb]; exact cell_row hIb.blk rfl
  obtain ⟨bt, hbt, hbz⟩ : ∃ bt, wb.cell? ⟨g, k, none⟩ = some (.string bt) ∧ bt.size ≤ 70000 := by
    refine ⟨st.batches[k], ?_, hIb.bz _ (List.getElem_mem hk)⟩
    have h9 := hIb.rb.1.cells (g := g) (by rw [hvb]; rfl) k (.string st.batches[k]) (by simp [hk])
    rw [add_at] at h9
    exact h9
  have hW5 : W0 < wb.heap.size := hIb.lt
  have HTU : Hid (∀ (an : Bool) (W : World), Below wb.heap.size wb W → Calls Tryz.prog 18 #[.string bt, .int .i64 b, .bool an] W fun e w' => ∃ t : ByteArray, e = .returned (.string t) ∧ t.size ≤ 70000 ∧ Below wb.heap.size wb w') := by
    intro an W hbW
    refine (turned_any bt b hb an W hbz).mono ?_
    rintro e w' ⟨t, rfl, ht, hb'⟩
    exact ⟨t, rfl, by omega, below_all hbW hb'⟩
  have HP := hide hpk
  have HI := hide hIb
  have HVB := hide hvb
  have HWB := hide hWB
  rw [hob] at HWB
  have hnz : 0 < (st.batches.length : Int) := by omega
  clear hI hIb hvb hWB hob hpk ha hb
  go_enter Tryz.func10, Tryz.ntmps10
  go_upto_region 14 with fail
  rw [HWB.out]
  go_upto_region 15 with fail
  go_cut [9] (fun v9 wc => ∃ t : ByteArray, v9 = .string t ∧ Hid (t.size ≤ 70000) ∧ Hid (Below wb.heap.size wb wc))
  case first =>
    go_wp2_with fail
    go_region_held3 (fun w' => w'.cell? ⟨W0, 2, none⟩ = some (.slice (some ⟨g, 0, none⟩) st.batches.length bc) ∧ w'.cell? ⟨w.heap.size, 1, none⟩ = some (.int .i64 a) ∧ w'.cell? ⟨w.heap.size, 2, none⟩ = some (.int .i64 b) ∧ w'.cell? ⟨w.heap.size, 3, none⟩ = some (.int .i64 c) ∧ w'.cell? ⟨g, k, none⟩ = some (.string bt))
      (first | exact ⟨d0, d1, d2, d3, hbt⟩ | exact ⟨(hb3.cell (p := ⟨W0, 2, none⟩) hW5).trans d0, (hb3.cell (p := ⟨w.heap.size, 1, none⟩) hbw).trans d1, (hb3.cell (p := ⟨w.heap.size, 2, none⟩) hbw).trans d2, (hb3.cell (p := ⟨w.heap.size, 3, none⟩) hbw).trans d3, (hb3.cell (p := ⟨g, k, none⟩) hglt).trans hbt⟩ | exact ⟨by go_keep, by go_keep, by go_keep, by go_keep, by go_keep⟩)
      ((first | (go_at_call 12; refine (HP.out _).mono ?_; rintro e w2 ⟨rfl, hw2⟩; obtain rfl := hw2.symm) | (go_at_call 18; refine (HTU.out _ _ ((Below.refl wb.heap.size wb).drew)).mono ?_; rintro e w3 ⟨t3, rfl, ht3, hb3⟩)))
    go_wp2_with fail
    go_meet
    exact ⟨t3, rfl, ht3, hb3⟩
  case rest =>
    obtain ⟨t9, rfl, HT9, HBc⟩ := hcut
    have hIc := HI.out.keep (Nat.le_refl K) (Nat.le_refl O) (below_keeps HBc.out _)
    have HIc := hide hIc
    have hrow : wc.ownsRow B0 9 1 (.slice (some ⟨g, 0, none⟩) st.batches.length bc) st.batches.length (st.batches.map .string) := by
      have h9 := hIc.rb.1
      rw [HVB.out] at h9
      exact h9
    have HROW := hide hrow
    have e0 : wc.cell? ⟨W0, 2, none⟩ = some (.slice (some ⟨g, 0, none⟩) st.batches.length bc) := by rw [← HVB.out]; exact cell_row hIc.blk rfl
    have hbb : B0 ≤ wc.heap.size := hIc.b0
    clear hIc hrow HTU HP HI d0 d1 d2 d3 hbt HBc HWB
    go_wp2_with (at_builtin; refine wpList_append_own_at _ rfl (.tmp 104) (.tmp 106) 29 rfl B0 9 i0 (.string ⟨#[]⟩) 1 16 Tryz.underlying29 hi z0 z1 z2 rfl (by decide) _ st.batches.length (st.batches.map .string) rfl (HROW.out.alloc _) ⟨wc.heap.size, 0, none⟩ 1 1 [.string t9] rfl rfl ?ka ?kb ?kc ?kd ?ke ?kf)
    case ka =>
      intro j x hj
      match j, hj with
      | 0, hj => simp at hj; subst hj; simp [Addr.add]
    case kb => intro x hx; simp at hx; subst hx; rfl
    case kc => unfold maxLen; omega
    case kd => omega
    case ke => simp; omega
    case kf =>
      intro v' w6 hown6 hgrow6 hv6 hloc6
      obtain ⟨g6, c6, rfl, hglt6⟩ := row_some hown6
      have hg6 : wc.grownBy w6 st.vb.ownBlock := by
        rw [HVB.out]
        exact (World.grownBy_alloc wc _ _).trans hgrow6
      have hat : st.vb.ownBlock = some g6 ∨ wc.heap.size ≤ g6 := by
        rw [HVB.out]
        rcases hloc6 with h9 | h9
        · exact .inl (h9 ▸ rfl)
        · right
          have h10 : g6 = wc.heap.size + 1 := by simpa [Value.ownBlock] using h9
          omega
      have hblk6 := HIc.out.blk3 (q := 4) (by omega) hg6 HIc.out.rb.2
      have HI6 := hide (HIc.out.pushBatch t9 hown6 hg6 hat hglt6 HT9.out)
      have x0 : w6.cell? ⟨W0, 2, none⟩ = some (.slice (some ⟨g, 0, none⟩) st.batches.length bc) := by rw [← HVB.out]; exact cell_row hblk6 rfl
      have x1 : w6.frozen? ⟨W0, 2, none⟩ = false := frozen_of_row _ _ _ _ _ hblk6
      clear hown6 hgrow6 hv6 hloc6 hat hblk6 hg6 e0 HROW
      go_wp2_with fail
      go_ret2
      exact ⟨rfl, _, _, HI6.out⟩
end Go.Proofs.YtbhccdedcoajmaaGreatDoor
