import Derived.Test.YtbhccdedcoajmaaGreatDoorPEndAM
import Derived.Test.YtbhccdedcoajmaaGreatDoorPReadBM
import Derived.Test.YtbhccdedcoajmaaGreatDoorPCheckBM
import Derived.Test.YtbhccdedcoajmaaGreatDoorRMirWM
import Derived.Test.YtbhccdedcoajmaaGreatDoorPApplyM
namespace Go.Proofs.YtbhccdedcoajmaaGreatDoor
open Go.RowKit

set_option maxRecDepth 10000 in
set_option maxHeartbeats 400000 in
theorem bread_bad (b cap : Nat) (s : ByteArray) (w : World) (he : ErrT w) (hs : s.size ≤ 70000) (hcap : s.size ≤ cap) (h0 : 0 < cap) (hb : b < w.heap.size) (hc : ∀ k (h : k < (nums s).length), w.cell? ⟨b, 0 + k, none⟩ = some (.int .u8 (nums s)[k])) (hread : readL (nums s) = none) :
    Calls Tryz.prog 107 #[.slice (some ⟨b, 0, none⟩) s.size cap] w fun e w' => e = .returned (.tuple #[.agg #[.int .i64 0, .slice none 0 0, .slice none 0 0], .iface 50 (.int .i64 5)]) ∧ Below w.heap.size w w' := by
  obtain ⟨o1, ho1⟩ : ∃ o, o = Obj.cells #[.int .i64 0, .slice none 0 0, .slice none 0 0] 110 := ⟨_, rfl⟩
  obtain ⟨o2, ho2⟩ : ∃ o, o = Obj.cells #[.slice (some ⟨b, 0, none⟩) s.size cap, .int .i64 0, .nilIface] 245 := ⟨_, rfl⟩
  have hB0 : Below w.heap.size w ((w.alloc o1).alloc o2) := ((Below.refl _ _).alloc (Nat.le_refl _) _).alloc (by simp) _
  have hR0 : PRd ((w.alloc o1).alloc o2) (w.heap.size + 1) b cap s 0 true := by
    refine ⟨.nilIface, rfl, ?_⟩
    have := heap_alloc_new (w.alloc o1) o2
    rw [show (w.alloc o1).heap.size = w.heap.size + 1 by simp] at this
    rw [this, ho2]
    rfl
  have hz0 : ((w.alloc o1).alloc o2).heap.size = w.heap.size + 2 := by simp
  have HBT := hide (pbatch_bad (w.heap.size + 1) b cap s ((w.alloc o1).alloc o2) hs hcap h0 hR0 (by omega) (by omega) (cells_below hc hB0) hread)
  have HGR : Hid (∀ W, ((w.alloc o1).alloc o2).grownBy W (some (w.heap.size + 1)) → W.heap[w.heap.size]? = some (.cells #[.int .i64 0, .slice none 0 0, .slice none 0 0] 110 (0, 0))) := by
    intro W hW
    rw [hW.block _ (by simp; omega) (by simp), (((Below.refl (w.alloc o1).heap.size (w.alloc o1)).alloc (Nat.le_refl _) o2).block _ (by simp)), heap_alloc_new, ho1]
  have HB0 := hide hB0
  have HE := hide he
  rw [ho1, ho2] at HBT HGR HB0
  clear hB0 hR0 hz0 ho1 ho2 hc hread he
  go_enter Tryz.func107, Tryz.ntmps107
  go_wp2_with fail
  refine HBT.out.mono ?_
  rintro e w1 ⟨bl, ba, bn, bc, ta, tn, tc, p1, rfl, hR1, hg1⟩
  have hw1 : w.heap.size + 2 ≤ w1.heap.size := by have := hg1.size; simpa using this
  have HB1 : Hid (Below w.heap.size w w1) := HB0.out.grown hg1 (by simp; omega) (fun j hj => by simp at hj; omega)
  have hgr := HGR.out w1 hg1
  obtain ⟨ev, hev, c0, c1, c2, cf⟩ := hR1.open
  obtain ⟨fb, rfl⟩ : ∃ fb, ev = .iface 276 (.pointer (some ⟨fb, 0, none⟩)) := hev
  have hrl := hR1.lt
  clear hg1 hR1 HBT HGR HB0
  obtain ⟨o3, ho3⟩ : ∃ o, o = Obj.cells #[.int .i64 bl, .slice ba bn bc, .slice ta tn tc] 110 := ⟨_, rfl⟩
  obtain ⟨o4, ho4⟩ : ∃ o, o = Obj.cells #[.int .i64 0] 50 := ⟨_, rfl⟩
  have hB3 : Below w1.heap.size w1 ((w1.alloc o3).alloc o4) := ((Below.refl _ _).alloc (Nat.le_refl _) _).alloc (by simp) _
  have d2 : ((w1.alloc o3).alloc o4).cell? ⟨w.heap.size + 1, 2, none⟩ = some (.iface 276 (.pointer (some ⟨fb, 0, none⟩))) := (hB3.cell (p := ⟨w.heap.size + 1, 2, none⟩) hrl).trans c2
  have hgr3 : ((w1.alloc o3).alloc o4).heap[w.heap.size]? = some (.cells #[.int .i64 0, .slice none 0 0, .slice none 0 0] 110 (0, 0)) := (hB3.block _ (by omega)).trans hgr
  have hk4 : ((w1.alloc o3).alloc o4).heap[w1.heap.size + 1]? = some (.cells #[.int .i64 0] 50 (0, 0)) := by
    have := heap_alloc_new (w1.alloc o3) o4
    rw [show (w1.alloc o3).heap.size = w1.heap.size + 1 by simp] at this
    rw [this, ho4]
  have HE3 : Hid (ErrT ((w1.alloc o3).alloc o4)) := (HE.out.keep HB1.out).keep hB3
  have HB3 : Hid (Below w.heap.size w ((w1.alloc o3).alloc o4)) := below_all HB1.out hB3
  rw [ho3, ho4] at d2 hgr3 hk4 HE3 HB3
  clear hgr hB3 ho3 ho4 c0 c1 c2 cf HE HB1
  go_wp2_with fail
  generalize hWA : (w1.alloc (.cells #[.int .i64 bl, .slice ba bn bc, .slice ta tn tc] 110)).alloc (.cells #[.int .i64 0] 50) = wa at *
  clear hWA
  have HAS := hide (as_hitU ⟨fb, 0, none⟩ ⟨w1.heap.size + 1, 0, none⟩ (.int .i64 0) wa HE3.out (cell_row hk4 rfl) (frozen_of_row _ _ _ _ _ hk4))
  go_wp2_with fail
  refine HAS.out.mono ?_
  rintro e w2 ⟨rfl, hw2⟩
  clear HAS d2
  have hka : w1.heap.size + 1 < wa.heap.size := (Array.getElem?_eq_some_iff.1 hk4).1
  obtain ⟨w4, hb4, rfl⟩ : ∃ w4, Below wa.heap.size wa w4 ∧ w2 = w4.setCell ⟨w1.heap.size + 1, 0, none⟩ (.int .i64 5) := ⟨_, ((((Below.refl _ _).alloc (Nat.le_refl _) _).alloc (by simp) _).alloc (by simp; omega) _).alloc (by simp; omega) _, hw2⟩
  have hk5 := (hb4.block _ hka).trans hk4
  have hg5 := (hb4.block _ (by omega)).trans hgr3
  have hg6 := (Below.heap_setCell w4 ⟨w1.heap.size + 1, 0, none⟩ (.int .i64 5) w.heap.size (by simp; omega)).trans hg5
  have hk6 : (w4.setCell ⟨w1.heap.size + 1, 0, none⟩ (.int .i64 5)).heap[w1.heap.size + 1]? = some (.cells #[.int .i64 5] 50 (0, 0)) := by
    rw [heap_setCell_same _ _ _ _ _ _ hk5]; rfl
  have HB6 : Hid (Below w.heap.size w (w4.setCell ⟨w1.heap.size + 1, 0, none⟩ (.int .i64 5))) := (below_all HB3.out hb4).setCell (p := ⟨w1.heap.size + 1, 0, none⟩) (by simp; omega) _
  clear hw2 hb4 hk4 hgr3 hk5 hg5 HB3 HE3
  generalize w4.setCell ⟨w1.heap.size + 1, 0, none⟩ (.int .i64 5) = w6 at *
  have k0 : w6.cell? ⟨w.heap.size, 0, none⟩ = some (.int .i64 0) := cell_row hg6 rfl
  have k1 : w6.cell? ⟨w.heap.size, 1, none⟩ = some (.slice none 0 0) := cell_row hg6 rfl
  have k2 : w6.cell? ⟨w.heap.size, 2, none⟩ = some (.slice none 0 0) := cell_row hg6 rfl
  have kf : ∀ j, w6.frozen? ⟨w.heap.size, j, none⟩ = false := fun j => frozen_of_row _ _ _ _ _ hg6
  have kk : w6.cell? ⟨w1.heap.size + 1, 0, none⟩ = some (.int .i64 5) := cell_row hk6 rfl
  have hne : w1.heap.size + 1 ≠ w.heap.size := by omega
  clear hg6 hk6
  go_wp2_with fail
  go_region
  go_wp2_with fail
  refine bodyPost_ret (v := .tuple #[.agg #[.int .i64 0, .slice none 0 0, .slice none 0 0], .iface 50 (.int .i64 5)]) (by simp [results, Tryz.results107, go_sem, k0, k1, k2]) rfl ⟨rfl, ?_⟩
  exact (below_set3 HB6.out (Nat.le_refl _) _ _ _).drew

end Go.Proofs.YtbhccdedcoajmaaGreatDoor
namespace Go.Proofs.YtbhccdedcoajmaaGreatDoor
open Go.RowKit

/-- a list of targets in memory, to be read -/
def Tl (w : World) (v : Value) (xs : List Tg) : Prop :=
  ∃ ta tc, v = .slice ta xs.length tc ∧ xs.length ≤ tc ∧ ∀ i (hi : i < xs.length), ∃ gt, ta = some ⟨gt, 0, none⟩ ∧ gt < w.heap.size ∧ w.cell? ⟨gt, i * 4, none⟩ = some (.string xs[i].ent.1) ∧ w.cell? ⟨gt, i * 4 + 1, none⟩ = some (.int .i64 xs[i].ent.2.1) ∧ w.cell? ⟨gt, i * 4 + 2, none⟩ = some (.int .u64 xs[i].ent.2.2) ∧ w.cell? ⟨gt, i * 4 + 3, none⟩ = some xs[i].v
theorem Tl.below {w w' : World} {v : Value} {xs : List Tg} (h : Tl w v xs) (hb : Below w.heap.size w w') : Tl w' v xs := by
  obtain ⟨ta, tc, h1, h2, h3⟩ := h
  refine ⟨ta, tc, h1, h2, fun i hi => ?_⟩
  obtain ⟨g, e, hg, c0, c1, c2, c3⟩ := h3 i hi
  exact ⟨g, e, Nat.lt_of_lt_of_le hg hb.size, (hb.cell (p := ⟨g, _, none⟩) hg).trans c0, (hb.cell (p := ⟨g, _, none⟩) hg).trans c1, (hb.cell (p := ⟨g, _, none⟩) hg).trans c2, (hb.cell (p := ⟨g, _, none⟩) hg).trans c3⟩
theorem Tl_of_row {w : World} {base : Nat} {tv : Value} {xs : List Tg} (h : w.ownsRow base 117 4 tv xs.length (tgCells xs)) : Tl w tv xs := by
  rcases h.2 with ⟨hv, h0⟩ | ⟨gt, cap, cur, hv, _, hgt, h1, _⟩
  · exact ⟨none, 0, by rw [hv, h0], by omega, fun i hi => by omega⟩
  · refine ⟨some ⟨gt, 0, none⟩, cap, hv, h1, fun i hi => ⟨gt, rfl, (Array.getElem?_eq_some_iff.1 hgt).1, ?_, ?_, ?_, ?_⟩⟩
    · have := h.cells (g := gt) (by rw [hv]; rfl) (i * 4) _ (tgCells_at xs i hi).1
      rw [add_at] at this; exact this
    · have := h.cells (g := gt) (by rw [hv]; rfl) (i * 4 + 1) _ (tgCells_at xs i hi).2.1
      rw [add_at] at this; exact this
    · have := h.cells (g := gt) (by rw [hv]; rfl) (i * 4 + 2) _ (tgCells_at xs i hi).2.2.1
      rw [add_at] at this; exact this
    · have := h.cells (g := gt) (by rw [hv]; rfl) (i * 4 + 3) _ (tgCells_at xs i hi).2.2.2
      rw [add_at] at this; exact this
/-- the sizes of the targets, all together -/
def sizesN (xs : List Tg) : Nat := (xs.map fun x => x.ent.2.1).sum
theorem sizesN_cast (xs : List Tg) : sizesL (xs.map tgV) = (sizesN xs : Int) := by
  unfold sizesL sizesN
  induction xs with
  | nil => rfl
  | cons x xs ih =>
    simp only [List.map_cons, List.sum_cons] at *
    rw [ih]
    show ((x.ent.2.1 : Nat) : Int) + _ = _
    omega
theorem sizesN_take {xs : List Tg} {k : Nat} (hk : k < xs.length) : sizesN (xs.take (k + 1)) = sizesN (xs.take k) + xs[k].ent.2.1 := by
  unfold sizesN
  rw [List.take_succ_eq_append_getElem hk, List.map_append, List.sum_append]
  simp
theorem sizesN_le {xs : List Tg} (h : ∀ x ∈ xs, x.ent.2.1 ≤ 65535) : sizesN xs ≤ xs.length * 65535 := by
  unfold sizesN
  induction xs with
  | nil => simp
  | cons x xs ih =>
    have := ih (fun q hq => h q (by simp [hq]))
    have := h x (by simp)
    rw [List.map_cons, List.sum_cons, List.length_cons, Nat.add_mul]
    omega
set_option maxRecDepth 10000 in
set_option maxHeartbeats 1000000 in
theorem rsizeOf_any (v : Value) (xs : List Tg) (w : World) (hl : xs.length ≤ 8) (hz : ∀ x ∈ xs, x.ent.2.1 ≤ 65535) (hT : Tl w v xs) (hsl : ∀ x ∈ xs, ∃ a n c, x.v = .slice a n c) :
    Calls Tryz.prog 109 #[v] w fun e w' => e = .returned (.int .i64 (sizesN xs : Nat)) ∧ Below w.heap.size w w' := by
  obtain ⟨ta, tc, rfl, htc, hcell⟩ := hT
  have HC : Hid (∀ k, k < xs.length → ∃ (g z : Nat) (a : ByteArray) (d : Int) (va : Option Addr) (vn vc : Nat), ta = some ⟨g, 0, none⟩ ∧ g < w.heap.size ∧ w.cell? ⟨g, k * 4, none⟩ = some (.string a) ∧ w.cell? ⟨g, k * 4 + 1, none⟩ = some (.int .i64 z) ∧ w.cell? ⟨g, k * 4 + 2, none⟩ = some (.int .u64 d) ∧ w.cell? ⟨g, k * 4 + 3, none⟩ = some (.slice va vn vc) ∧ z ≤ 65535 ∧ sizesN (xs.take (k + 1)) = sizesN (xs.take k) + z) := by
    intro k hk
    obtain ⟨g, e, hg, c0, c1, c2, c3⟩ := hcell k hk
    obtain ⟨va, vn, vc, hv⟩ := hsl _ (List.getElem_mem hk)
    exact ⟨g, _, _, _, va, vn, vc, e, hg, c0, c1, c2, by rw [c3, hv], hz _ (List.getElem_mem hk), sizesN_take hk⟩
  have HB : Hid (∀ k, sizesN (xs.take k) ≤ 524280) := by
    intro k
    have h1 := sizesN_le (xs := xs.take k) (fun p hp => hz p (List.mem_of_mem_take hp))
    have h2 : (xs.take k).length ≤ 8 := by rw [List.length_take]; omega
    omega
  have HTK : Hid (xs.take xs.length = xs) := List.take_of_length_le (Nat.le_refl _)
  clear hcell hz hsl
  go_enter Tryz.func109, Tryz.ntmps109
  go_wp2_with fail
  go_loopw [3, 8] (fun v3 v8 wr => ∃ k : Nat, k ≤ xs.length ∧ v8 = .int .i64 k ∧ v3 = .int .i64 (sizesN (xs.take k) : Nat) ∧ Hid (Below w.heap.size w wr)) (fun _ v8 _ => xs.length - (intOf v8).toNat)
  case atStart => exact ⟨0, Nat.zero_le _, rfl, rfl, Below.refl _ _⟩
  case round =>
    obtain ⟨k, hk, rfl, rfl, HBr⟩ := hrel
    by_cases hlt : k < xs.length
    · obtain ⟨g, z, a, d, va, vn, vc, rfl, hg, c0, c1, c2, c3, hz3, hst⟩ := HC.out k hlt
      have x0 := (HBr.out.cell (p := ⟨g, k * 4, none⟩) hg).trans c0
      have x1 := (HBr.out.cell (p := ⟨g, k * 4 + 1, none⟩) hg).trans c1
      have x2 := (HBr.out.cell (p := ⟨g, k * 4 + 2, none⟩) hg).trans c2
      have x3 := (HBr.out.cell (p := ⟨g, k * 4 + 3, none⟩) hg).trans c3
      have HS := hide hst
      have hB := HB.out k
      have HB1 : Hid (∀ o, Below w.heap.size w (wr.alloc o)) := fun o => HBr.out.alloc HBr.out.size _
      clear hst c0 c1 c2 c3
      generalize sizesN (xs.take k) = x at *
      go_wp2_with fail
      go_roundw
      case rel => exact ⟨k + 1, by omega, by go_num, by rw [HS.out]; go_num, HB1.out _⟩
      case measure => simp [intOf]; omega
    · have hkn : k = xs.length := by omega
      subst hkn
      rw [HTK.out]
      go_wp2_with fail
      go_ret
      exact ⟨rfl, HBr.out⟩
end Go.Proofs.YtbhccdedcoajmaaGreatDoor
