import Derived.Test.YtbhccdedcoajmabGreatDoorPReadB
namespace Go.Proofs.YtbhccdedcoajmabGreatDoor
open Go.RowKit

theorem below_set3 {base : Nat} {w w' : World} (h : Below base w w') {g : Nat} (hg : base ≤ g) (x y z : Value) : Below base w (((w'.setCell ⟨g, 0, none⟩ x).setCell ⟨g, 1, none⟩ y).setCell ⟨g, 2, none⟩ z) := ((h.setCell (p := ⟨g, 0, none⟩) hg _).setCell (p := ⟨g, 1, none⟩) hg _).setCell (p := ⟨g, 2, none⟩) hg _

set_option maxRecDepth 10000 in
set_option maxHeartbeats 400000 in
theorem bread_ok (b cap : Nat) (s : ByteArray) (bl : Int) (bs : List EntL) (ts : List (EntL × List Tok)) (w : World) (hs : s.size ≤ 70000) (hcap : s.size ≤ cap) (hb : b < w.heap.size) (hc : ∀ k (h : k < (nums s).length), w.cell? ⟨b, 0 + k, none⟩ = some (.int .u8 (nums s)[k])) (hread : readL (nums s) = some ⟨bl, bs, ts⟩) :
    Calls Tryz.prog 53 #[.slice (some ⟨b, 0, none⟩) s.size cap] w fun e w' => ∃ bv tv, e = .returned (.tuple #[.agg #[.int .i64 bl, bv, tv], .nilIface]) ∧ BatR w' w.heap.size bs ts bv tv ∧ Below w.heap.size w w' := by
  obtain ⟨o1, ho1⟩ : ∃ o, o = Obj.cells #[.int .i64 0, .slice none 0 0, .slice none 0 0] 119 := ⟨_, rfl⟩
  obtain ⟨o2, ho2⟩ : ∃ o, o = Obj.cells #[.slice (some ⟨b, 0, none⟩) s.size cap, .int .i64 0, .nilIface] 175 := ⟨_, rfl⟩
  have hB0 : Below w.heap.size w ((w.alloc o1).alloc o2) := ((Below.refl _ _).alloc (Nat.le_refl _) _).alloc (by simp) _
  have hR0 : PRd ((w.alloc o1).alloc o2) (w.heap.size + 1) b cap s 0 true := by
    refine ⟨.nilIface, rfl, ?_⟩
    have := heap_alloc_new (w.alloc o1) o2
    rw [show (w.alloc o1).heap.size = w.heap.size + 1 by simp] at this
    rw [this, ho2]
    rfl
  have hz0 : ((w.alloc o1).alloc o2).heap.size = w.heap.size + 2 := by simp
  have HBT := hide (pbatch_ok (w.heap.size + 1) b cap s bl bs ts ((w.alloc o1).alloc o2) hs hcap hR0 (by omega) (by omega) (cells_below hc hB0) hread)
  have HGR : Hid (∀ W, ((w.alloc o1).alloc o2).grownBy W (some (w.heap.size + 1)) → W.heap[w.heap.size]? = some (.cells #[.int .i64 0, .slice none 0 0, .slice none 0 0] 119 (0, 0))) := by
    intro W hW
    rw [hW.block _ (by simp; omega) (by simp), (((Below.refl (w.alloc o1).heap.size (w.alloc o1)).alloc (Nat.le_refl _) o2).block _ (by simp)), heap_alloc_new, ho1]
  rw [hz0] at HBT
  have HB0 := hide hB0
  rw [ho1, ho2] at HBT HGR HB0
  clear hB0 hR0 hz0 ho1 ho2 hc hread
  go_enter Tryz.func53, Tryz.ntmps53
  go_wp2_with fail
  refine HBT.out.mono ?_
  rintro e w1 ⟨bv, tv, rfl, hR1, hbr, hg1⟩
  obtain ⟨ba, bn, bc, rfl⟩ : ∃ a n c, bv = .slice a n c := by obtain ⟨es, xs, h1, _⟩ := hbr; exact row_slice h1
  obtain ⟨ta, tn, tc, rfl⟩ : ∃ a n c, tv = .slice a n c := by obtain ⟨es, xs, _, _, _, h4, _⟩ := hbr; exact row_slice h4
  have hw1 : w.heap.size + 2 ≤ w1.heap.size := by have := hg1.size; simpa using this
  have HB1 : Hid (Below w.heap.size w w1) := HB0.out.grown hg1 (by simp; omega) (fun j hj => by simp at hj; omega)
  have hgr := HGR.out w1 hg1
  obtain ⟨ev, hev, c0, c1, c2, cf⟩ := hR1.open
  obtain rfl : ev = .nilIface := hev
  have HBR := hide hbr
  have hrl := hR1.lt
  clear hbr hg1 hR1 HBT HGR HB0
  obtain ⟨o3, ho3⟩ : ∃ o, o = Obj.cells #[.int .i64 bl, .slice ba bn bc, .slice ta tn tc] 119 := ⟨_, rfl⟩
  obtain ⟨o4, ho4⟩ : ∃ o, o = Obj.cells #[.int .i64 0] 30 := ⟨_, rfl⟩
  have hB3 : Below w1.heap.size w1 ((w1.alloc o3).alloc o4) := ((Below.refl _ _).alloc (Nat.le_refl _) _).alloc (by simp) _
  have d2 : ((w1.alloc o3).alloc o4).cell? ⟨w.heap.size + 1, 2, none⟩ = some .nilIface := (hB3.cell (p := ⟨w.heap.size + 1, 2, none⟩) hrl).trans c2
  have hgr3 : ((w1.alloc o3).alloc o4).heap[w.heap.size]? = some (.cells #[.int .i64 0, .slice none 0 0, .slice none 0 0] 119 (0, 0)) := (hB3.block _ (by omega)).trans hgr
  have hn3 : ((w1.alloc o3).alloc o4).heap[w1.heap.size]? = some (.cells #[.int .i64 bl, .slice ba bn bc, .slice ta tn tc] 119 (0, 0)) := by
    rw [(((Below.refl (w1.alloc o3).heap.size (w1.alloc o3)).alloc (Nat.le_refl _) o4).block _ (by simp)), heap_alloc_new, ho3]
  have k0 : ((w1.alloc o3).alloc o4).cell? ⟨w.heap.size, 0, none⟩ = some (.int .i64 0) := cell_row hgr3 rfl
  have k1 : ((w1.alloc o3).alloc o4).cell? ⟨w.heap.size, 1, none⟩ = some (.slice none 0 0) := cell_row hgr3 rfl
  have k2 : ((w1.alloc o3).alloc o4).cell? ⟨w.heap.size, 2, none⟩ = some (.slice none 0 0) := cell_row hgr3 rfl
  have kf : ∀ j, ((w1.alloc o3).alloc o4).frozen? ⟨w.heap.size, j, none⟩ = false := fun j => frozen_of_row _ _ _ _ _ hgr3
  have n0 : ((w1.alloc o3).alloc o4).cell? ⟨w1.heap.size, 0, none⟩ = some (.int .i64 bl) := cell_row hn3 rfl
  have n1 : ((w1.alloc o3).alloc o4).cell? ⟨w1.heap.size, 1, none⟩ = some (.slice ba bn bc) := cell_row hn3 rfl
  have n2 : ((w1.alloc o3).alloc o4).cell? ⟨w1.heap.size, 2, none⟩ = some (.slice ta tn tc) := cell_row hn3 rfl
  have HB3 := hide hB3
  have hne : w1.heap.size ≠ w.heap.size := by omega
  rw [ho3, ho4] at d2 k0 k1 k2 kf n0 n1 n2 HB3
  clear hgr hgr3 hn3 hB3 ho3 ho4 c0 c1 c2 cf
  go_wp2_with fail
  generalize hWA : (w1.alloc (.cells #[.int .i64 bl, .slice ba bn bc, .slice ta tn tc] 119)).alloc (.cells #[.int .i64 0] 30) = wa at *
  clear hWA
  go_wp2_with fail
  refine (as_nil _ _).mono ?_
  rintro e w2 ⟨rfl, hw2⟩
  obtain rfl := hw2.symm
  go_wp2_with fail
  refine bodyPost_ret (v := .tuple #[.agg #[.int .i64 bl, .slice ba bn bc, .slice ta tn tc], .nilIface]) (by simp [results, Tryz.results53, go_sem, k0, k1, k2]) rfl ⟨_, _, rfl, ?_, ?_⟩
  · exact ((HBR.out.below HB3.out).set3 (by omega) _ _ _).base (by omega)
  · exact below_set3 (below_all HB1.out HB3.out) (Nat.le_refl _) _ _ _

end Go.Proofs.YtbhccdedcoajmabGreatDoor
