import Derived.Test.YtbhccdedcoajmaaDoorPReadBM
import Derived.Test.YtbhccdedcoajmaaDoorAsU
namespace Go.Proofs.YtbhccdedcoajmaaDoor
open Go.RowKit

set_option maxRecDepth 10000 in
set_option maxHeartbeats 400000 in
theorem bread_bad (b cap : Nat) (s : ByteArray) (w : World) (he : ErrT w) (hs : s.size ≤ 70000) (hcap : s.size ≤ cap) (h0 : 0 < cap) (hb : b < w.heap.size) (hc : ∀ k (h : k < (nums s).length), w.cell? ⟨b, 0 + k, none⟩ = some (.int .u8 (nums s)[k])) (hread : readL (nums s) = none) :
    Calls Tryd.prog 59 #[.slice (some ⟨b, 0, none⟩) s.size cap] w fun e w' => e = .returned (.tuple #[.agg #[.int .i64 0, .slice none 0 0, .slice none 0 0], .iface 23 (.int .i64 5)]) ∧ Below w.heap.size w w' := by
  obtain ⟨o1, ho1⟩ : ∃ o, o = Obj.cells #[.int .i64 0, .slice none 0 0, .slice none 0 0] 65 := ⟨_, rfl⟩
  obtain ⟨o2, ho2⟩ : ∃ o, o = Obj.cells #[.slice (some ⟨b, 0, none⟩) s.size cap, .int .i64 0, .nilIface] 151 := ⟨_, rfl⟩
  have hB0 : Below w.heap.size w ((w.alloc o1).alloc o2) := ((Below.refl _ _).alloc (Nat.le_refl _) _).alloc (by simp) _
  have hR0 : PRd ((w.alloc o1).alloc o2) (w.heap.size + 1) b cap s 0 true := by
    refine ⟨.nilIface, rfl, ?_⟩
    have := heap_alloc_new (w.alloc o1) o2
    rw [show (w.alloc o1).heap.size = w.heap.size + 1 by simp] at this
    rw [this, ho2]
    rfl
  have hz0 : ((w.alloc o1).alloc o2).heap.size = w.heap.size + 2 := by simp
  have HBT := hide (pbatch_bad (w.heap.size + 1) b cap s ((w.alloc o1).alloc o2) hs hcap h0 hR0 (by omega) (by omega) (cells_below hc hB0) hread)
  have HGR : Hid (∀ W, ((w.alloc o1).alloc o2).grownBy W (some (w.heap.size + 1)) → W.heap[w.heap.size]? = some (.cells #[.int .i64 0, .slice none 0 0, .slice none 0 0] 65 (0, 0))) := by
    intro W hW
    rw [hW.block _ (by simp; omega) (by simp), (((Below.refl (w.alloc o1).heap.size (w.alloc o1)).alloc (Nat.le_refl _) o2).block _ (by simp)), heap_alloc_new, ho1]
  have HB0 := hide hB0
  have HE := hide he
  rw [ho1, ho2] at HBT HGR HB0
  clear hB0 hR0 hz0 ho1 ho2 hc hread he
  go_enter Tryd.func59, Tryd.ntmps59
  go_wp2_with fail
  refine HBT.out.mono ?_
  rintro e w1 ⟨bl, ba, bn, bc, ta, tn, tc, p1, rfl, hR1, hg1⟩
  have hw1 : w.heap.size + 2 ≤ w1.heap.size := by have := hg1.size; simpa using this
  have HB1 : Hid (Below w.heap.size w w1) := HB0.out.grown hg1 (by simp; omega) (fun j hj => by simp at hj; omega)
  have hgr := HGR.out w1 hg1
  obtain ⟨ev, hev, c0, c1, c2, cf⟩ := hR1.open
  obtain ⟨fb, rfl⟩ : ∃ fb, ev = .iface 193 (.pointer (some ⟨fb, 0, none⟩)) := hev
  have hrl := hR1.lt
  clear hg1 hR1 HBT HGR HB0
  obtain ⟨o3, ho3⟩ : ∃ o, o = Obj.cells #[.int .i64 bl, .slice ba bn bc, .slice ta tn tc] 65 := ⟨_, rfl⟩
  obtain ⟨o4, ho4⟩ : ∃ o, o = Obj.cells #[.int .i64 0] 23 := ⟨_, rfl⟩
  have hB3 : Below w1.heap.size w1 ((w1.alloc o3).alloc o4) := ((Below.refl _ _).alloc (Nat.le_refl _) _).alloc (by simp) _
  have d2 : ((w1.alloc o3).alloc o4).cell? ⟨w.heap.size + 1, 2, none⟩ = some (.iface 193 (.pointer (some ⟨fb, 0, none⟩))) := (hB3.cell (p := ⟨w.heap.size + 1, 2, none⟩) hrl).trans c2
  have hgr3 : ((w1.alloc o3).alloc o4).heap[w.heap.size]? = some (.cells #[.int .i64 0, .slice none 0 0, .slice none 0 0] 65 (0, 0)) := (hB3.block _ (by omega)).trans hgr
  have hk4 : ((w1.alloc o3).alloc o4).heap[w1.heap.size + 1]? = some (.cells #[.int .i64 0] 23 (0, 0)) := by
    have := heap_alloc_new (w1.alloc o3) o4
    rw [show (w1.alloc o3).heap.size = w1.heap.size + 1 by simp] at this
    rw [this, ho4]
  have HE3 : Hid (ErrT ((w1.alloc o3).alloc o4)) := (HE.out.keep HB1.out).keep hB3
  have HB3 : Hid (Below w.heap.size w ((w1.alloc o3).alloc o4)) := below_all HB1.out hB3
  rw [ho3, ho4] at d2 hgr3 hk4 HE3 HB3
  clear hgr hB3 ho3 ho4 c0 c1 c2 cf HE HB1
  go_wp2_with fail
  generalize hWA : (w1.alloc (.cells #[.int .i64 bl, .slice ba bn bc, .slice ta tn tc] 65)).alloc (.cells #[.int .i64 0] 23) = wa at *
  clear hWA
  have HAS := hide (as_hitU ⟨fb, 0, none⟩ ⟨w1.heap.size + 1, 0, none⟩ (.int .i64 0) wa HE3.out (cell_row hk4 rfl) (frozen_of_row _ _ _ _ _ hk4))
  go_wp2_with fail
  refine HAS.out.mono ?_
  rintro e w2 ⟨rfl, hw2⟩
  clear HAS d2
  have hka : w1.heap.size + 1 < wa.heap.size := (Array.getElem?_eq_some_iff.1 hk4).1
  obtain ⟨w4, hb4, rfl⟩ : ∃ w4, Below wa.heap.size wa w4 ∧ w2 = w4.setCell ⟨w1.heap.size + 1, 0, none⟩ (.int .i64 5) := ⟨_, ((((Below.refl _ _).alloc (Nat.le_refl _) _).alloc (by simp) _).alloc (by simp; omega) _).alloc (by simp; omega) _, hw2⟩
  have hk5 := (hb4.block _ hka).trans hk4
  have hg5 := (hb4.block _ (by omega)).trans hgr3
  have hg6 := (Below.heap_setCell w4 ⟨w1.heap.size + 1, 0, none⟩ (.int .i64 5) w.heap.size (by simp; omega)).trans hg5
  have hk6 : (w4.setCell ⟨w1.heap.size + 1, 0, none⟩ (.int .i64 5)).heap[w1.heap.size + 1]? = some (.cells #[.int .i64 5] 23 (0, 0)) := by
    rw [heap_setCell_same _ _ _ _ _ _ hk5]; rfl
  have HB6 : Hid (Below w.heap.size w (w4.setCell ⟨w1.heap.size + 1, 0, none⟩ (.int .i64 5))) := (below_all HB3.out hb4).setCell (p := ⟨w1.heap.size + 1, 0, none⟩) (by simp; omega) _
  clear hw2 hb4 hk4 hgr3 hk5 hg5 HB3 HE3
  generalize w4.setCell ⟨w1.heap.size + 1, 0, none⟩ (.int .i64 5) = w6 at *
  have k0 : w6.cell? ⟨w.heap.size, 0, none⟩ = some (.int .i64 0) := cell_row hg6 rfl
  have k1 : w6.cell? ⟨w.heap.size, 1, none⟩ = some (.slice none 0 0) := cell_row hg6 rfl
  have k2 : w6.cell? ⟨w.heap.size, 2, none⟩ = some (.slice none 0 0) := cell_row hg6 rfl
  have kf : ∀ j, w6.frozen? ⟨w.heap.size, j, none⟩ = false := fun j => frozen_of_row _ _ _ _ _ hg6
  have kk : w6.cell? ⟨w1.heap.size + 1, 0, none⟩ = some (.int .i64 5) := cell_row hk6 rfl
  have hne : w1.heap.size + 1 ≠ w.heap.size := by omega
  clear hg6 hk6
  go_wp2_with fail
  go_region
  go_wp2_with fail
  refine bodyPost_ret (v := .tuple #[.agg #[.int .i64 0, .slice none 0 0, .slice none 0 0], .iface 23 (.int .i64 5)]) (by simp [results, Tryd.results59, go_sem, k0, k1, k2]) rfl ⟨rfl, ?_⟩
  exact (below_set3 HB6.out (Nat.le_refl _) _ _ _).drew

set_option maxRecDepth 10000 in
set_option maxHeartbeats 400000 in
theorem mread_bad (v : Value) (w : World) (hc : ∀ W, Below w.heap.size w W → Calls Tryd.prog 59 #[v] W fun e w' => e = .returned (.tuple #[.agg #[.int .i64 0, .slice none 0 0, .slice none 0 0], .iface 23 (.int .i64 5)]) ∧ Below W.heap.size W w') :
    Calls Tryd.prog 44 #[v] w fun e w' => e = .returned (.tuple #[.agg #[.int .i64 0, .slice none 0 0, .slice none 0 0], .iface 23 (.int .i64 5)]) ∧ Below w.heap.size w w' := by
  have HA : Hid (∀ o, Below w.heap.size w (w.alloc o)) := fun o => (Below.refl _ _).alloc (Nat.le_refl _) o
  have HC := hide (fun o => hc (w.alloc o) (HA.out o))
  clear hc
  go_enter Tryd.func44, Tryd.ntmps44
  go_wp2_with fail
  refine (HC.out _).mono ?_
  rintro e w1 ⟨rfl, hb1⟩
  have hgr : w1.heap[w.heap.size]? = some (.cells #[.int .i64 0, .slice none 0 0, .slice none 0 0] 65 (0, 0)) := (hb1.block _ (by simp)).trans (heap_alloc_new _ _)
  have k0 : w1.cell? ⟨w.heap.size, 0, none⟩ = some (.int .i64 0) := cell_row hgr rfl
  have k1 : w1.cell? ⟨w.heap.size, 1, none⟩ = some (.slice none 0 0) := cell_row hgr rfl
  have k2 : w1.cell? ⟨w.heap.size, 2, none⟩ = some (.slice none 0 0) := cell_row hgr rfl
  have kf : ∀ j, w1.frozen? ⟨w.heap.size, j, none⟩ = false := fun j => frozen_of_row _ _ _ _ _ hgr
  have HB1 : Hid (Below w.heap.size w w1) := below_all (HA.out _) hb1
  clear hgr hb1 HC
  go_wp2_with fail
  exact bodyPost_ret (v := .tuple #[.agg #[.int .i64 0, .slice none 0 0, .slice none 0 0], .iface 23 (.int .i64 5)]) (by simp [results, Tryd.results44, go_sem, k0, k1, k2]) rfl ⟨rfl, below_set3 HB1.out (Nat.le_refl _) _ _ _⟩

set_option maxRecDepth 10000 in
set_option maxHeartbeats 400000 in
/-- bytes that are no batch, read by the program -/
theorem pRead_bad (b cap : Nat) (s : ByteArray) (w : World) (he : ErrT w) (hs : s.size ≤ 70000) (hcap : s.size ≤ cap) (h0 : 0 < cap) (hb : b < w.heap.size) (hc : ∀ k (h : k < (nums s).length), w.cell? ⟨b, 0 + k, none⟩ = some (.int .u8 (nums s)[k])) (hread : readL (nums s) = none) :
    Calls Tryd.prog 29 #[.slice (some ⟨b, 0, none⟩) s.size cap] w fun e w' => e = .returned (.tuple #[.agg #[.int .i64 0, .slice none 0 0, .slice none 0 0], .int .i64 5]) ∧ Below w.heap.size w w' := by
  have HA : Hid (∀ o, Below w.heap.size w (w.alloc o)) := fun o => (Below.refl _ _).alloc (Nat.le_refl _) o
  have HC : Hid (∀ o, Calls Tryd.prog 44 #[.slice (some ⟨b, 0, none⟩) s.size cap] (w.alloc o) fun e w' => e = .returned (.tuple #[.agg #[.int .i64 0, .slice none 0 0, .slice none 0 0], .iface 23 (.int .i64 5)]) ∧ Below (w.alloc o).heap.size (w.alloc o) w') := by
    intro o
    refine mread_bad _ (w.alloc o) (fun W hW => ?_)
    have hbW := below_all (HA.out o) hW
    exact bread_bad b cap s W (he.keep hbW) hs hcap h0 (Nat.lt_of_lt_of_le hb hbW.size) (cells_below hc hbW) hread
  have HE := hide he
  clear hc hread he
  go_enter Tryd.func29, Tryd.ntmps29
  go_wp2_with fail
  refine (HC.out _).mono ?_
  rintro e w1 ⟨rfl, hb1⟩
  have hgr : w1.heap[w.heap.size]? = some (.cells #[.int .i64 0, .slice none 0 0, .slice none 0 0] 65 (0, 0)) := (hb1.block _ (by simp)).trans (heap_alloc_new _ _)
  have hw1 : w.heap.size < w1.heap.size := (Array.getElem?_eq_some_iff.1 hgr).1
  have HGR := hide hgr
  have HB1 : Hid (Below w.heap.size w w1) := below_all (HA.out _) hb1
  obtain ⟨o, ho⟩ : ∃ o, o = Obj.cells #[.int .i64 0, .slice none 0 0, .slice none 0 0] 65 := ⟨_, rfl⟩
  have hx0 : (w1.alloc o).cell? ⟨w1.heap.size, 0, none⟩ = some (.int .i64 0) := by rw [ho]; exact cell_new rfl rfl
  have hx1 : (w1.alloc o).cell? ⟨w1.heap.size, 1, none⟩ = some (.slice none 0 0) := by rw [ho]; exact cell_new rfl rfl
  have hx2 : (w1.alloc o).cell? ⟨w1.heap.size, 2, none⟩ = some (.slice none 0 0) := by rw [ho]; exact cell_new rfl rfl
  have HA1 : Hid (Below w1.heap.size w1 (w1.alloc o)) := (Below.refl _ _).alloc (Nat.le_refl _) _
  rw [ho] at hx0 hx1 hx2 HA1
  clear hgr hb1 HC ho
  go_wp2_with fail
  generalize hWA : w1.alloc (.cells #[.int .i64 0, .slice none 0 0, .slice none 0 0] 65) = wa at *
  clear hWA
  have hwa : w1.heap.size < wa.heap.size := World.block_lt_of_cell? wa _ hx0
  refine (told_kind 5 _ ((HE.out.keep HB1.out).keep HA1.out)).mono ?_
  rintro e w2 ⟨rfl, hb2⟩
  have y0 := (hb2.cell (p := ⟨w1.heap.size, 0, none⟩) hwa).trans hx0
  have y1 := (hb2.cell (p := ⟨w1.heap.size, 1, none⟩) hwa).trans hx1
  have y2 := (hb2.cell (p := ⟨w1.heap.size, 2, none⟩) hwa).trans hx2
  have hB12 := below_all HA1.out hb2
  have HB2 : Hid (Below w.heap.size w w2) := below_all HB1.out hB12
  have hgr : w2.heap[w.heap.size]? = some (.cells #[.int .i64 0, .slice none 0 0, .slice none 0 0] 65 (0, 0)) := (hB12.block _ hw1).trans HGR.out
  have k0 : w2.cell? ⟨w.heap.size, 0, none⟩ = some (.int .i64 0) := cell_row hgr rfl
  have k1 : w2.cell? ⟨w.heap.size, 1, none⟩ = some (.slice none 0 0) := cell_row hgr rfl
  have k2 : w2.cell? ⟨w.heap.size, 2, none⟩ = some (.slice none 0 0) := cell_row hgr rfl
  have kf : ∀ j, w2.frozen? ⟨w.heap.size, j, none⟩ = false := fun j => frozen_of_row _ _ _ _ _ hgr
  clear hgr hb2 hB12 hx0 hx1 hx2
  go_wp2_with fail
  exact bodyPost_ret (v := .tuple #[.agg #[.int .i64 0, .slice none 0 0, .slice none 0 0], .int .i64 5]) (by simp [results, Tryd.results29, go_sem, k0, k1, k2]) rfl ⟨rfl, below_set3 HB2.out (Nat.le_refl _) _ _ _⟩
end Go.Proofs.YtbhccdedcoajmaaDoor
