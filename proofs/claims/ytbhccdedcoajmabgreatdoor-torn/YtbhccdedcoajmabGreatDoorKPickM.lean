import Derived.Test.YtbhccdedcoajmabGreatDoorPRepPM
import Derived.RegionDies
import Derived.Test.YtbhccdedcoajmabGreatDoorClip
import Derived.Test.YtbhccdedcoajmabGreatDoorLTreeM
import Derived.Test.YtbhccdedcoajmabGreatDoorRows
import Derived.SevenTiedAt
namespace Go.Proofs.YtbhccdedcoajmabGreatDoor
open Go.RowKit Go.MuLone

/-- what the disk's Clean leaves of a mirror -/
def ClnQ (w : World) (m : Nat) (l0 s0 : Value) (room : Int) (tv dn : Value) (c : Int) (e : Ending) (w' : World) : Prop :=
  ∃ bv', w'.heap[m]? = some (.cells #[l0, s0, .int .i64 room, tv, bv', dn] 85 (0, 0)) ∧ (∃ a n c, bv' = .slice a n c) ∧ w.grownBy w' (some m) ∧ ((e = .panicked [{ v := crash12, recovered := false }] ∧ c = 1) ∨ (e = .returned (.tuple #[]) ∧ c ≠ 1))
set_option maxRecDepth 10000 in
set_option maxHeartbeats 1000000 in
theorem clean_any (m : Nat) (l0 s0 : Value) (room : Int) (tv bv dn : Value) (c : Int) (w : World) (hm : w.heap[m]? = some (.cells #[l0, s0, .int .i64 room, tv, bv, dn] 85 (0, 0))) (hbv : ∃ a n c, bv = .slice a n c) :
    Calls Tryz.prog 40 #[.pointer (some ⟨m, 3, none⟩), .int .i64 c] w fun e w' => ClnQ w m l0 s0 room tv dn c e w' := by
  have hmw : m < w.heap.size := (Array.getElem?_eq_some_iff.1 hm).1
  obtain ⟨ba, bn, bc, rfl⟩ := hbv
  obtain ⟨o, ho⟩ : ∃ o, o = Obj.cells #[.int .i64 0, .int .i64 c] 127 := ⟨_, rfl⟩
  have hp0 : (w.alloc o).heap[w.heap.size]? = some (.cells #[.int .i64 0, .int .i64 c] 127 (0, 0)) := by rw [heap_alloc_new, ho]
  have HB0 : Hid (Below w.heap.size w (w.alloc o)) := (Below.refl _ _).alloc (Nat.le_refl _) _
  have HP0 := hide hp0
  have HM := hide hm
  rw [ho] at HB0 HP0
  clear hp0 ho hm
  by_cases hc : c = 1
  · subst hc
    go_enter Tryz.func40, Tryz.ntmps40
    go_wp2_with fail
    generalize hWA : w.alloc (.cells #[.int .i64 0, .int .i64 1] 127) = wa at *
    clear hWA
    refine (step_fail w.heap.size 0 wa HP0.out (by omega) (by omega)).mono ?_
    rintro e w2 ⟨rfl, hg2⟩
    have HR : Hid (ClnQ w m l0 s0 room tv dn 1 (.panicked [{ v := crash12, recovered := false }]) w2) := ⟨_, (hg2.block m (by have := HB0.out.size; omega) (by simp; omega)).trans ((HB0.out.block m hmw).trans HM.out), ⟨_, _, _, rfl⟩, grown_comp (grown_of_below HB0.out) hg2 (fun j hj => by simp at hj; omega), .inl ⟨rfl, rfl⟩⟩
    clear hg2
    go_wp2_with fail
    exact ⟨rfl, HR.out⟩
  · go_enter Tryz.func40, Tryz.ntmps40
    go_wp2_with fail
    generalize hWA : w.alloc (.cells #[.int .i64 0, .int .i64 c] 127) = wa at *
    clear hWA
    refine (step_go w.heap.size 0 c wa HP0.out (by omega) (by omega) (by omega)).mono ?_
    rintro e w2 ⟨rfl, _, hg2⟩
    have hm2 := (hg2.block m (by have := HB0.out.size; omega) (by simp; omega)).trans ((HB0.out.block m hmw).trans HM.out)
    have q4 : w2.cell? ⟨m, 4, none⟩ = some (.slice ba bn bc) := cell_row hm2 rfl
    have qf : w2.frozen? ⟨m, 4, none⟩ = false := frozen_of_row _ _ _ _ _ hm2
    have HR : Hid (ClnQ w m l0 s0 room tv dn c (.returned (.tuple #[])) (w2.setCell ⟨m, 4, none⟩ (.slice none 0 0))) := by
      refine ⟨.slice none 0 0, ?_, ⟨_, _, _, rfl⟩, (grown_comp (grown_of_below HB0.out) hg2 (fun j hj => by simp at hj; omega)).trans (setCell_grown _), .inr ⟨rfl, hc⟩⟩
      rw [heap_setCell_same _ _ _ _ _ _ hm2]; rfl
    clear hg2 hm2
    go_wp2_with fail
    go_end0
    exact HR.out

set_option maxRecDepth 10000 in
set_option maxHeartbeats 1000000 in
theorem steps_recover (pm pc m : Nat) (l0 s0 : Value) (room : Int) (tv bv dn : Value) (c : Int) (w : World) (h1 : w.cell? ⟨pm, 0, none⟩ = some (.pointer (some ⟨m, 0, none⟩))) (h3 : w.cell? ⟨pc, 0, none⟩ = some (.int .i64 c)) (hpm : pm ≠ m) (hpc : pc ≠ m) (hm : w.heap[m]? = some (.cells #[l0, s0, .int .i64 room, tv, bv, dn] 85 (0, 0))) (hbv : ∃ a n c, bv = .slice a n c) :
    Calls Tryz.prog 39 #[.pointer (some ⟨pm, 0, none⟩), .pointer (some ⟨pc, 0, none⟩)] w fun e w' => ClnQ w m l0 s0 room tv dn c e w' := by
  have HR : Hid (Calls Tryz.prog 40 #[.pointer (some ⟨m, 3, none⟩), .int .i64 c] w.drew fun e w' => ClnQ w.drew m l0 s0 room tv dn c e w') := clean_any m l0 s0 room tv bv dn c w.drew hm hbv
  clear hm hbv
  by_cases hc : c = 1
  · subst hc
    have HR2 : Hid (Calls Tryz.prog 40 #[.pointer (some ⟨m, 3, none⟩), .int .i64 1] w.drew fun e w' => e = .panicked [{ v := crash12, recovered := false }] ∧ ClnQ w m l0 s0 room tv dn 1 (.panicked [{ v := crash12, recovered := false }]) w') := by
      refine HR.out.mono ?_
      rintro e w' ⟨bv', a1, a2, a3, a4⟩
      have a3' : w.grownBy w' (some m) := (grown_of_below (Below.refl w.heap.size w).drew).trans a3
      rcases a4 with ⟨rfl, b1⟩ | ⟨_, b1⟩
      · exact ⟨rfl, bv', a1, a2, a3', .inl ⟨rfl, b1⟩⟩
      · exact absurd rfl b1
    clear HR
    go_enter Tryz.func39, Tryz.ntmps39
    go_wp2_with fail
    go_region_dies
    all_goals
      refine HR2.out.mono ?_
      rintro e w2 ⟨rfl, hq⟩
      exact ⟨rfl, hq⟩
  · have HR2 : Hid (Calls Tryz.prog 40 #[.pointer (some ⟨m, 3, none⟩), .int .i64 c] w.drew fun e w' => e = .returned (.tuple #[]) ∧ ClnQ w m l0 s0 room tv dn c (.returned (.tuple #[])) w') := by
      refine HR.out.mono ?_
      rintro e w' ⟨bv', a1, a2, a3, a4⟩
      have a3' : w.grownBy w' (some m) := (grown_of_below (Below.refl w.heap.size w).drew).trans a3
      rcases a4 with ⟨_, b1⟩ | ⟨rfl, b1⟩
      · exact absurd b1 hc
      · exact ⟨rfl, bv', a1, a2, a3', .inr ⟨rfl, b1⟩⟩
    have HCE : Hid (∀ w', ClnQ w m l0 s0 room tv dn c (.returned (.tuple #[])) w' → w'.cell? ⟨pm, 0, none⟩ = some (.pointer (some ⟨m, 0, none⟩)) ∧ w'.cell? ⟨pc, 0, none⟩ = some (.int .i64 c)) := by
      rintro w' ⟨_, _, _, a3, _⟩
      exact ⟨a3.cell h1 (by simp; exact hpm), a3.cell h3 (by simp; exact hpc)⟩
    clear HR
    go_enter Tryz.func39, Tryz.ntmps39
    go_wp2_with fail
    go_region_held3 (fun w' => w'.cell? ⟨pm, 0, none⟩ = some (.pointer (some ⟨m, 0, none⟩)) ∧ w'.cell? ⟨pc, 0, none⟩ = some (.int .i64 c))
      (first | exact ⟨h1, h3⟩ | exact ⟨k1, k3⟩)
      ((go_at_call 40; refine HR2.out.mono ?_; rintro e w2 ⟨rfl, hq⟩; obtain ⟨k1, k3⟩ := HCE.out w2 hq))
    go_wp2_with fail
    go_end0
    exact hq
theorem Tryz.enter39 (a : Array Value) (W : World) : (callFunc 39 a).run Tryz.prog W = .ok (.enter 39 a) W := by
  simp [go_sem]
theorem fin_blk2 {w : World} {m E : Nat} {s0 : Value} {room : Int} {tv bv : Value} {d0 d : Bool} {x : Value} (h : w.heap[m]? = some (.cells #[.int .i32 1, s0, .int .i64 room, tv, bv, .bool d0] 85 (0, 0))) (hE : E ≠ m) : ((w.setCell ⟨m, 5, none⟩ (.bool d)).setCell ⟨E, 0, none⟩ x).heap[m]? = some (.cells #[.int .i32 1, s0, .int .i64 room, tv, bv, .bool d] 85 (0, 0)) := by
  rw [Below.heap_setCell _ _ _ _ (by simp; exact Ne.symm hE), heap_setCell_same _ _ _ _ _ _ h]; rfl

/-- what Recover leaves of a mirror that is down -/
def RecQ (w : World) (m : Nat) (room : Int) (lo hi : Nat) (v : Value) (fs : List (ByteArray × ByteArray)) (c : Int) (k : Int) (w' : World) : Prop :=
  w.grownBy w' (some m) ∧ ∃ bv', (c = 1 ∧ k = 12 ∧ Mir w' m room lo hi v bv' fs true) ∨ (c ≠ 1 ∧ k = 0 ∧ Mir w' m room lo hi v bv' fs false)
set_option maxRecDepth 10000 in
set_option maxHeartbeats 1000000 in
theorem mrecover_down (m : Nat) (room : Int) (lo hi : Nat) (v v2 : Value) (fs : List (ByteArray × ByteArray)) (c : Int) (w : World) (hM : Mir w m room lo hi v v2 fs true) :
    Calls Tryz.prog 25 #[.pointer (some ⟨m, 0, none⟩), .int .i64 c] w fun e w' => ∃ e0, e = .returned e0 ∧ ((e0 = crash12 ∧ RecQ w m room lo hi v fs c 12 w') ∨ (e0 = .nilIface ∧ RecQ w m room lo hi v fs c 0 w')) := by
  obtain ⟨va, vn, vc, rfl⟩ := hM.vsl
  have hmw := hM.lt
  obtain ⟨o1, ho1⟩ : ∃ o, o = Obj.cells #[.pointer (some ⟨m, 0, none⟩)] 26 := ⟨_, rfl⟩
  obtain ⟨o2, ho2⟩ : ∃ o, o = Obj.cells #[.int .i64 c] 3 := ⟨_, rfl⟩
  obtain ⟨W0, hW0⟩ : ∃ W0, W0 = (w.alloc o1).alloc o2 := ⟨_, rfl⟩
  have hb0 : Below w.heap.size w W0 := by rw [hW0]; exact ((Below.refl _ _).alloc (Nat.le_refl _) _).alloc (by simp) _
  have hsz0 : W0.heap.size = w.heap.size + 2 := by rw [hW0]; simp
  have a1 : W0.cell? ⟨w.heap.size, 0, none⟩ = some (.pointer (some ⟨m, 0, none⟩)) := by
    rw [hW0, World.cell?_alloc_lt _ _ _ (by simp), ho1]; exact cell_new rfl rfl
  have a2 : W0.cell? ⟨w.heap.size + 1, 0, none⟩ = some (.int .i64 c) := by
    rw [hW0, ho2]; exact cell_new (by simp) rfl
  have hM0 := hM.below hb0
  have c0 : W0.cell? ⟨m, 0, none⟩ = some (.int .i32 0) := cell_row hM0.blk rfl
  have f0 : W0.frozen? ⟨m, 0, none⟩ = false := frozen_of_row _ _ _ _ _ hM0.blk
  obtain ⟨W1, hW1⟩ : ∃ W1, W1 = W0.setCell ⟨m, 0, none⟩ (.int .i32 1) := ⟨_, rfl⟩
  have hb1 : W1.heap[m]? = some (.cells #[.int .i32 1, .int .u32 0, .int .i64 room, .slice va vn vc, v2, .bool true] 85 (0, 0)) := by
    rw [hW1, heap_setCell_same _ _ _ _ _ _ hM0.blk]; rfl
  have hg1 : W0.grownBy W1 (some m) := by rw [hW1]; exact setCell_grown _
  have hs1 : W1.heap.size = w.heap.size + 2 := by rw [hW1]; simp [hsz0]
  have b1 : W1.cell? ⟨w.heap.size, 0, none⟩ = some (.pointer (some ⟨m, 0, none⟩)) := hg1.cell a1 (by simp; omega)
  have b2 : W1.cell? ⟨w.heap.size + 1, 0, none⟩ = some (.int .i64 c) := hg1.cell a2 (by simp; omega)
  have b5 : W1.cell? ⟨m, 5, none⟩ = some (.bool true) := cell_row hb1 rfl
  have HLK := hide (lock_free Tryz.muLib ⟨m, 0, none⟩ W0 c0 f0)
  rw [← hW1] at HLK
  have hrb := runW_below W1 m
  have HGC : Hid (w.grownBy W1 (some m)) := (grown_of_below hb0).trans hg1
  have HST : Hid (Calls Tryz.prog 39 #[.pointer (some ⟨w.heap.size, 0, none⟩), .pointer (some ⟨w.heap.size + 1, 0, none⟩)] (runW W1 m) fun e w' => ClnQ (runW W1 m) m (.int .i32 1) (.int .u32 0) room (.slice va vn vc) (.bool true) c e w') :=
    steps_recover w.heap.size (w.heap.size + 1) m (.int .i32 1) (.int .u32 0) room (.slice va vn vc) v2 (.bool true) c (runW W1 m) ((hrb.cell (p := ⟨w.heap.size, 0, none⟩) (by show w.heap.size < _; omega)).trans b1) ((hrb.cell (p := ⟨w.heap.size + 1, 0, none⟩) (by show w.heap.size + 1 < _; omega)).trans b2) (by omega) (by omega) ((hrb.block m (by omega)).trans hb1) hM.sl
  have HKP : Hid (∀ e w', ClnQ (runW W1 m) m (.int .i32 1) (.int .u32 0) room (.slice va vn vc) (.bool true) c e w' → Kept W1 m w') := by
    rintro e w' ⟨bv', r1, r2, r3, _⟩
    exact ⟨r3.cell (runW_c1 W1 m) (by simp; omega), ⟨_, cell_row r1 rfl⟩, frozen_of_row _ _ _ _ _ r1, (r3.block _ (by rw [runW_size]; omega) (by simp; omega)).trans (runW_blk W1 m)⟩
  have HFIN : Hid (∀ (w1 : World) (bv' : Value) (d : Bool) (x : Value), (∃ a n c, bv' = .slice a n c) → w1.heap[m]? = some (.cells #[.int .i32 1, .int .u32 0, .int .i64 room, .slice va vn vc, bv', .bool true] 85 (0, 0)) → (runW W1 m).grownBy w1 (some m) → w.grownBy (((w1.setCell ⟨m, 5, none⟩ (.bool d)).setCell ⟨W1.heap.size + 1, 0, none⟩ x).setCell ⟨m, 0, none⟩ (.int .i32 0)) (some m) ∧ Mir (((w1.setCell ⟨m, 5, none⟩ (.bool d)).setCell ⟨W1.heap.size + 1, 0, none⟩ x).setCell ⟨m, 0, none⟩ (.int .i32 0)) m room lo hi (.slice va vn vc) bv' fs d) := by
    intro w1 bv' d x hsl h1 h2
    have hgg : w.grownBy (((w1.setCell ⟨m, 5, none⟩ (.bool d)).setCell ⟨W1.heap.size + 1, 0, none⟩ x).setCell ⟨m, 0, none⟩ (.int .i32 0)) (some m) := ((grown_comp ((HGC.out.trans (grown_of_below hrb)).trans h2 |>.trans (setCell_grown _)) (setCell_grown (g := W1.heap.size + 1) (j := 0) x) (fun k hk => by simp at hk; omega))).trans (setCell_grown _)
    refine ⟨hgg, ?_, hM.tr.grown hgg (fun k hk => by simp at hk; have := hM.off; omega), hM.off, hsl⟩
    rw [heap_setCell_same _ _ _ _ _ _ (fin_blk2 h1 (by omega))]; rfl
  have HB1 := hide hb1
  have HW0 := hide hW0
  rw [ho1, ho2] at HW0
  have hmW1 : m < W1.heap.size := by omega
  clear hb0 hM0 c0 f0 hb1 hg1 hM hW0 ho1 ho2 hW1 a1 a2 hrb hs1 hsz0
  have hmf : ∀ (fn : Fn) (first cap : Array Value) (w : World), (Instr.makeFunc fn first cap).run Tryz.prog w = .ok (.func fn first cap) w := fun _ _ _ _ => rfl
  have HEN := hide (Tryz.enter39 #[.pointer (some ⟨w.heap.size, 0, none⟩), .pointer (some ⟨w.heap.size + 1, 0, none⟩)])
  by_cases hcc : c = 1
  · subst hcc
    have HRUN := hide (run_pan m 39 #[.pointer (some ⟨w.heap.size, 0, none⟩), .pointer (some ⟨w.heap.size + 1, 0, none⟩)] W1 (fun w' => ClnQ (runW W1 m) m (.int .i32 1) (.int .u32 0) room (.slice va vn vc) (.bool true) 1 (.panicked [{ v := crash12, recovered := false }]) w') hmW1 HEN.out (HST.out.mono (by
      rintro e w' hq
      have hq' := hq
      obtain ⟨bv', r1, r2, r3, r4⟩ := hq
      rcases r4 with ⟨rfl, _⟩ | ⟨rfl, p1⟩
      · exact ⟨rfl, HKP.out _ _ hq', hq'⟩
      · exact absurd rfl p1)))
    go_enter_defers Tryz.func25, Tryz.ntmps25
    go_wp2_with fail
    rw [← HW0.out]
    refine HLK.out.mono ?_
    rintro e w1 ⟨rfl, hw1⟩
    obtain rfl := hw1.symm
    go_wp2_with fail
    refine HRUN.out.mono ?_
    rintro e w5 ⟨rfl, w1, ⟨bv', r1, r2, r3, r4⟩, rfl⟩
    have hb5 := fin_blk2 (d := true) (x := crash12) r1 (show W1.heap.size + 1 ≠ m by omega)
    go_wp2_with fail
    refine leaves_cons (f := 30) (args := #[.pointer (some ⟨m, 0, none⟩)]) (by simp) (by simp [go_sem]) ?_
    refine (unlock_deferred Tryz.muLib ⟨m, 0, none⟩ .returning _ (cell_row hb5 rfl) (frozen_of_row _ _ _ _ _ hb5)).mono ?_
    rintro e u' w'' ⟨rfl, rfl, rfl⟩
    obtain ⟨g1, g2⟩ := HFIN.out w1 bv' true crash12 r2 r1 r3
    exact ⟨_, results_tmp rfl _ _ _, _, rfl, .inl ⟨rfl, g1, bv', .inl ⟨rfl, rfl, g2⟩⟩⟩
  · have HRUN := hide (run_well m 39 #[.pointer (some ⟨w.heap.size, 0, none⟩), .pointer (some ⟨w.heap.size + 1, 0, none⟩)] W1 (fun w' => ClnQ (runW W1 m) m (.int .i32 1) (.int .u32 0) room (.slice va vn vc) (.bool true) c (.returned (.tuple #[])) w') hmW1 HEN.out (HST.out.mono (by
      rintro e w' hq
      have hq' := hq
      obtain ⟨bv', r1, r2, r3, r4⟩ := hq
      rcases r4 with ⟨rfl, p1⟩ | ⟨rfl, _⟩
      · exact absurd p1 hcc
      · exact ⟨rfl, HKP.out _ _ hq', hq'⟩)))
    go_enter_defers Tryz.func25, Tryz.ntmps25
    go_wp2_with fail
    rw [← HW0.out]
    refine HLK.out.mono ?_
    rintro e w1 ⟨rfl, hw1⟩
    obtain rfl := hw1.symm
    go_wp2_with fail
    refine HRUN.out.mono ?_
    rintro e w5 ⟨rfl, w1, ⟨bv', r1, r2, r3, r4⟩, rfl⟩
    have hb5 := fin_blk2 (d := false) (x := .nilIface) r1 (show W1.heap.size + 1 ≠ m by omega)
    go_wp2_with fail
    refine leaves_cons (f := 30) (args := #[.pointer (some ⟨m, 0, none⟩)]) (by simp) (by simp [go_sem]) ?_
    refine (unlock_deferred Tryz.muLib ⟨m, 0, none⟩ .returning _ (cell_row hb5 rfl) (frozen_of_row _ _ _ _ _ hb5)).mono ?_
    rintro e u' w'' ⟨rfl, rfl, rfl⟩
    obtain ⟨g1, g2⟩ := HFIN.out w1 bv' false .nilIface r2 r1 r3
    exact ⟨_, results_tmp rfl _ _ _, _, rfl, .inr ⟨rfl, g1, bv', .inr ⟨hcc, rfl, g2⟩⟩⟩

set_option maxRecDepth 10000 in
set_option maxHeartbeats 1000000 in
theorem mrecover_up (m : Nat) (room : Int) (lo hi : Nat) (v v2 : Value) (fs : List (ByteArray × ByteArray)) (c : Int) (w : World) (hM : Mir w m room lo hi v v2 fs false) :
    Calls Tryz.prog 25 #[.pointer (some ⟨m, 0, none⟩), .int .i64 c] w fun e w' => e = .returned (.iface 30 (.int .i64 8)) ∧ Below w.heap.size w w' := by
  have hmw := hM.lt
  obtain ⟨o1, ho1⟩ : ∃ o, o = Obj.cells #[.pointer (some ⟨m, 0, none⟩)] 26 := ⟨_, rfl⟩
  obtain ⟨o2, ho2⟩ : ∃ o, o = Obj.cells #[.int .i64 c] 3 := ⟨_, rfl⟩
  obtain ⟨W0, hW0⟩ : ∃ W0, W0 = (w.alloc o1).alloc o2 := ⟨_, rfl⟩
  have hb0 : Below w.heap.size w W0 := by rw [hW0]; exact ((Below.refl _ _).alloc (Nat.le_refl _) _).alloc (by simp) _
  have a1 : W0.cell? ⟨w.heap.size, 0, none⟩ = some (.pointer (some ⟨m, 0, none⟩)) := by
    rw [hW0, World.cell?_alloc_lt _ _ _ (by simp), ho1]; exact cell_new rfl rfl
  have hM0 := hM.below hb0
  have c0 : W0.cell? ⟨m, 0, none⟩ = some (.int .i32 0) := cell_row hM0.blk rfl
  have f0 : W0.frozen? ⟨m, 0, none⟩ = false := frozen_of_row _ _ _ _ _ hM0.blk
  obtain ⟨W1, hW1⟩ : ∃ W1, W1 = W0.setCell ⟨m, 0, none⟩ (.int .i32 1) := ⟨_, rfl⟩
  have hb1 : W1.heap[m]? = some (.cells #[.int .i32 1, .int .u32 0, .int .i64 room, v, v2, .bool false] 85 (0, 0)) := by
    rw [hW1, heap_setCell_same _ _ _ _ _ _ hM0.blk]; rfl
  have hg1 : W0.grownBy W1 (some m) := by rw [hW1]; exact setCell_grown _
  have b1 : W1.cell? ⟨w.heap.size, 0, none⟩ = some (.pointer (some ⟨m, 0, none⟩)) := hg1.cell a1 (by simp; omega)
  have b5 : W1.cell? ⟨m, 5, none⟩ = some (.bool false) := cell_row hb1 rfl
  have HLK := hide (lock_free Tryz.muLib ⟨m, 0, none⟩ W0 c0 f0)
  rw [← hW1] at HLK
  have HGC : Hid (w.grownBy W1 (some m)) := (grown_of_below hb0).trans hg1
  have HB1 := hide hb1
  have HW0 := hide hW0
  have HM := hide hM
  rw [ho1, ho2] at HW0
  clear hb0 hM0 c0 f0 hb1 hg1 hM hW0 ho1 ho2 hW1 a1
  go_enter_defers Tryz.func25, Tryz.ntmps25
  go_wp2_with fail
  rw [← HW0.out]
  refine HLK.out.mono ?_
  rintro e w1 ⟨rfl, hw1⟩
  obtain rfl := hw1.symm
  go_wp2_with fail
  refine leaves_cons (f := 30) (args := #[.pointer (some ⟨m, 0, none⟩)]) (by simp) (by simp [go_sem]) ?_
  refine (unlock_deferred Tryz.muLib ⟨m, 0, none⟩ .returning _ (cell_row HB1.out rfl) (frozen_of_row _ _ _ _ _ HB1.out)).mono ?_
  rintro e u' w'' ⟨rfl, rfl, rfl⟩
  have hbe : (W1.setCell ⟨m, 0, none⟩ (.int .i32 0)).heap[m]? = w.heap[m]? := by
    rw [heap_setCell_same _ _ _ _ _ _ HB1.out, HM.out.blk]; rfl
  exact ⟨_, results_tmp rfl _ _ _, rfl, below_of_grown (HGC.out.trans (setCell_grown _)) hbe⟩

set_option maxRecDepth 10000 in
set_option maxHeartbeats 1000000 in
theorem mreplay_down (m : Nat) (room : Int) (lo hi : Nat) (v v2 bv : Value) (fs : List (ByteArray × ByteArray)) (c : Int) (w : World) (hM : Mir w m room lo hi v v2 fs true) :
    Calls Tryz.prog 22 #[.pointer (some ⟨m, 0, none⟩), bv, .int .i64 c] w fun e w' => e = .returned (.iface 30 (.int .i64 7)) ∧ Below w.heap.size w w' := by
  have hmw := hM.lt
  obtain ⟨o1, ho1⟩ : ∃ o, o = Obj.cells #[.pointer (some ⟨m, 0, none⟩)] 26 := ⟨_, rfl⟩
  obtain ⟨o2, ho2⟩ : ∃ o, o = Obj.cells #[.int .i64 c] 3 := ⟨_, rfl⟩
  obtain ⟨W0, hW0⟩ : ∃ W0, W0 = (w.alloc o1).alloc o2 := ⟨_, rfl⟩
  have hb0 : Below w.heap.size w W0 := by rw [hW0]; exact ((Below.refl _ _).alloc (Nat.le_refl _) _).alloc (by simp) _
  have a1 : W0.cell? ⟨w.heap.size, 0, none⟩ = some (.pointer (some ⟨m, 0, none⟩)) := by
    rw [hW0, World.cell?_alloc_lt _ _ _ (by simp), ho1]; exact cell_new rfl rfl
  have hM0 := hM.below hb0
  have c0 : W0.cell? ⟨m, 0, none⟩ = some (.int .i32 0) := cell_row hM0.blk rfl
  have f0 : W0.frozen? ⟨m, 0, none⟩ = false := frozen_of_row _ _ _ _ _ hM0.blk
  obtain ⟨W1, hW1⟩ : ∃ W1, W1 = W0.setCell ⟨m, 0, none⟩ (.int .i32 1) := ⟨_, rfl⟩
  have hb1 : W1.heap[m]? = some (.cells #[.int .i32 1, .int .u32 0, .int .i64 room, v, v2, .bool true] 85 (0, 0)) := by
    rw [hW1, heap_setCell_same _ _ _ _ _ _ hM0.blk]; rfl
  have hg1 : W0.grownBy W1 (some m) := by rw [hW1]; exact setCell_grown _
  have b1 : W1.cell? ⟨w.heap.size, 0, none⟩ = some (.pointer (some ⟨m, 0, none⟩)) := hg1.cell a1 (by simp; omega)
  have b5 : W1.cell? ⟨m, 5, none⟩ = some (.bool true) := cell_row hb1 rfl
  have HLK := hide (lock_free Tryz.muLib ⟨m, 0, none⟩ W0 c0 f0)
  rw [← hW1] at HLK
  have HGC : Hid (w.grownBy W1 (some m)) := (grown_of_below hb0).trans hg1
  have HB1 := hide hb1
  have HW0 := hide hW0
  have HM := hide hM
  rw [ho1, ho2] at HW0
  clear hb0 hM0 c0 f0 hb1 hg1 hM hW0 ho1 ho2 hW1 a1
  go_enter_defers Tryz.func22, Tryz.ntmps22
  go_wp2_with fail
  rw [← HW0.out]
  refine HLK.out.mono ?_
  rintro e w1 ⟨rfl, hw1⟩
  obtain rfl := hw1.symm
  go_wp2_with fail
  refine leaves_cons (f := 30) (args := #[.pointer (some ⟨m, 0, none⟩)]) (by simp) (by simp [go_sem]) ?_
  refine (unlock_deferred Tryz.muLib ⟨m, 0, none⟩ .returning _ (cell_row HB1.out rfl) (frozen_of_row _ _ _ _ _ HB1.out)).mono ?_
  rintro e u' w'' ⟨rfl, rfl, rfl⟩
  have hbe : (W1.setCell ⟨m, 0, none⟩ (.int .i32 0)).heap[m]? = w.heap[m]? := by
    rw [heap_setCell_same _ _ _ _ _ _ HB1.out, HM.out.blk]; rfl
  exact ⟨_, results_tmp rfl _ _ _, rfl, below_of_grown (HGC.out.trans (setCell_grown _)) hbe⟩
theorem pReplay_down (m : Nat) (room : Int) (lo hi : Nat) (v v2 bv : Value) (fs : List (ByteArray × ByteArray)) (c : Int) (w : World) (he : ErrT w) (hM : Mir w m room lo hi v v2 fs true) :
    Calls Tryz.prog 11 #[.pointer (some ⟨m, 0, none⟩), bv, .int .i64 c] w fun e w' => ∃ k n, e = .returned (.tuple #[.int .i64 k, .string n]) ∧ k = 7 ∧ n = ⟨#[]⟩ ∧ Below w.heap.size w w' := by
  refine plainReplay_any _ _ _ w (fun k n w' => k = 7 ∧ n = ⟨#[]⟩ ∧ Below w.heap.size w w') ((mreplay_down m room lo hi v v2 bv fs c w hM).mono ?_)
  rintro e w' ⟨rfl, hb⟩
  exact ⟨_, rfl, (told_kind 7 w' (he.keep hb)).mono (by rintro e w2 ⟨rfl, hb2⟩; exact ⟨_, _, rfl, rfl, rfl, below_all hb hb2⟩)⟩

theorem plainRecover_any (pv cv : Value) (w : World) (Q : Int → World → Prop)
    (hc : Calls Tryz.prog 25 #[pv, cv] w fun e w' => ∃ e0, e = .returned e0 ∧ Calls Tryz.prog 21 #[e0] w' fun e w2 => ∃ k n, e = .returned (.tuple #[.int .i64 k, .string n]) ∧ Q k w2) :
    Calls Tryz.prog 17 #[pv, cv] w fun e w' => ∃ k, e = .returned (.int .i64 k) ∧ Q k w' := by
  have HC := hide hc
  clear hc
  go_enter Tryz.func17, Tryz.ntmps17
  go_wp2_with fail
  refine HC.out.mono ?_
  rintro e w1 ⟨e0, rfl, ht⟩
  have HT := hide ht
  clear ht HC
  go_wp2_with fail
  refine HT.out.mono ?_
  rintro e w2 ⟨k, n, rfl, hq⟩
  have HQ := hide hq
  clear hq HT
  go_wp2_with fail
  go_ret
  exact ⟨_, rfl, HQ.out⟩
theorem pRecover_up (m : Nat) (room : Int) (lo hi : Nat) (v v2 : Value) (fs : List (ByteArray × ByteArray)) (c : Int) (w : World) (he : ErrT w) (hM : Mir w m room lo hi v v2 fs false) :
    Calls Tryz.prog 17 #[.pointer (some ⟨m, 0, none⟩), .int .i64 c] w fun e w' => ∃ k, e = .returned (.int .i64 k) ∧ k = 8 ∧ Below w.heap.size w w' := by
  refine plainRecover_any _ _ w (fun k w' => k = 8 ∧ Below w.heap.size w w') ((mrecover_up m room lo hi v v2 fs c w hM).mono ?_)
  rintro e w' ⟨rfl, hb⟩
  exact ⟨_, rfl, (told_kind 8 w' (he.keep hb)).mono (by rintro e w2 ⟨rfl, hb2⟩; exact ⟨_, _, rfl, rfl, below_all hb hb2⟩)⟩
theorem pRecover_down (m : Nat) (room : Int) (lo hi : Nat) (v v2 : Value) (fs : List (ByteArray × ByteArray)) (c : Int) (w : World) (he : ErrT w) (hM : Mir w m room lo hi v v2 fs true) :
    Calls Tryz.prog 17 #[.pointer (some ⟨m, 0, none⟩), .int .i64 c] w fun e w' => ∃ k, e = .returned (.int .i64 k) ∧ RecQ w m room lo hi v fs c k w' := by
  have hme := hM.ne_err he
  refine plainRecover_any _ _ w (fun k w' => RecQ w m room lo hi v fs c k w') ((mrecover_down m room lo hi v v2 fs c w hM).mono ?_)
  rintro e w' ⟨e0, rfl, hq⟩
  refine ⟨_, rfl, ?_⟩
  have hk : ∀ k w2, RecQ w m room lo hi v fs c k w' → Below w'.heap.size w' w2 → RecQ w m room lo hi v fs c k w2 := by
    rintro k w2 ⟨h1, bv', h2⟩ hb
    exact ⟨h1.trans (grown_of_below hb), bv', h2.imp (fun h => ⟨h.1, h.2.1, h.2.2.below hb⟩) (fun h => ⟨h.1, h.2.1, h.2.2.below hb⟩)⟩
  rcases hq with ⟨rfl, hq⟩ | ⟨rfl, hq⟩
  · exact (told_kind 12 w' (he.grown hq.1 hme)).mono (by rintro e w2 ⟨rfl, hb2⟩; exact ⟨_, _, rfl, hk _ _ hq hb2⟩)
  · exact (told_nil w').mono (by rintro e w2 ⟨rfl, hb2⟩; exact ⟨_, _, rfl, hk _ _ hq hb2⟩)
end Go.Proofs.YtbhccdedcoajmabGreatDoor
namespace Go.Proofs.YtbhccdedcoajmabGreatDoor
open Go.RowKit

set_option maxHeartbeats 400000 in
theorem pick_gen (c : Int) (hc : (Lit.int .i64 c).wf = true) (n : Nat) (h1 : 1 ≤ n) (h2 : n ≤ 70000) : ∃ k : Nat, k < n ∧ ∀ w, Calls Tryz.prog 15 #[.int .i64 c, .int .i64 n] w fun e w' => e = .returned (.int .i64 k) ∧ w' = w := by
  have hb : -9223372036854775808 ≤ c ∧ c ≤ 9223372036854775807 := by
    simpa [Lit.wf, IntKind.min, IntKind.max, IntKind.signed, IntKind.bits] using hc
  obtain ⟨hb1, hb2⟩ := hb
  clear hc
  have hz : ((n : Int) == 0) = false := by simp; omega
  have hz2 : ((n : Int) = 0) = False := by simp; omega
  rcases Int.lt_or_le c 0 with h | h
  · obtain ⟨r, hr⟩ : ∃ r, (-(c + 1)).tmod (n : Int) = r := ⟨_, rfl⟩
    have hr' : r = (-(c + 1)) % (n : Int) := by rw [← hr, Int.tmod_eq_emod_of_nonneg (by omega)]
    have hr0 : 0 ≤ r := by rw [hr']; exact Int.emod_nonneg _ (by omega)
    have hr1 : r < n := by rw [hr']; exact Int.emod_lt_of_pos _ (by omega)
    refine ⟨r.toNat, by omega, fun w => ?_⟩
    have hw1 : IntKind.i64.wrap (-(c + 1)) = -(c + 1) := by rw [IntKind.wrap_i64]; omega
    have hw2 : IntKind.i64.wrap r = r := by rw [IntKind.wrap_i64]; omega
    have hrn : (r.toNat : Int) = r := by omega
    rw [hrn]
    have hneg : -((c + 1).tmod (n : Int)) = r := by rw [← Int.neg_tmod]; exact hr
    clear hr'
    go_enter Tryz.func15, Tryz.ntmps15
    go_wp2_with fail
    go_ret
    refine ⟨ret_int ?_, rfl⟩
    first
    | rfl
    | exact hr
    | exact hneg
    | (rw [← Int.neg_tmod]; exact hr)
  · obtain ⟨r, hr⟩ : ∃ r, c.tmod (n : Int) = r := ⟨_, rfl⟩
    have hr' : r = c % (n : Int) := by rw [← hr, Int.tmod_eq_emod_of_nonneg (by omega)]
    have hr0 : 0 ≤ r := by rw [hr']; exact Int.emod_nonneg _ (by omega)
    have hr1 : r < n := by rw [hr']; exact Int.emod_lt_of_pos _ (by omega)
    refine ⟨r.toNat, by omega, fun w => ?_⟩
    have hw2 : IntKind.i64.wrap r = r := by rw [IntKind.wrap_i64]; omega
    have hrn : (r.toNat : Int) = r := by omega
    rw [hrn]
    clear hr'
    go_enter Tryz.func15, Tryz.ntmps15
    go_wp2_with fail
    go_ret
    refine ⟨ret_int ?_, rfl⟩
    first
    | rfl
    | exact hr
end Go.Proofs.YtbhccdedcoajmabGreatDoor
namespace Go.Proofs.YtbhccdedcoajmabGreatDoor
open Go.RowKit Go.MuLone

theorem files_inj {fs gs : List (ByteArray × ByteArray)} (h : gs.map (fun p => (nums p.1, nums p.2)) = fs.map fun p => (nums p.1, nums p.2)) : gs = fs := by
  have hl : gs.length = fs.length := by have := congrArg List.length h; simpa using this
  refine List.ext_getElem hl fun i h1 h2 => ?_
  have := congrArg (fun l => l[i]?) h
  simp [List.getElem?_map, List.getElem?_eq_getElem h1, List.getElem?_eq_getElem h2] at this
  exact Prod.ext (nums_inj this.1) (nums_inj this.2)

set_option maxRecDepth 10000 in
set_option maxHeartbeats 2000000 in
theorem walk_torn (v0 : Value) (s0 : List ByteArray) (bits : Int) (v1 : Value) (s1 : List ByteArray) (older blk crash again : Int) (w : World) (he : ErrT w)
    (h0 : Sl w v0 s0) (l0 : s0.length ≤ maxLen) (z0 : ∀ s ∈ s0, s.size ≤ maxLen) (hbits : (Lit.int .i64 bits).wf = true) (h1 : Sl w v1 s1) (l1 : s1.length ≤ maxLen) (z1 : ∀ s ∈ s1, s.size ≤ maxLen) (holder : (Lit.int .i64 older).wf = true) (hblk : (Lit.int .i64 blk).wf = true) (hcr : (Lit.int .i64 crash).wf = true) (hag : (Lit.int .i64 again).wf = true) :
    Calls Tryz.prog 5 #[v0, .int .i64 bits, v1, .int .i64 older, .int .i64 blk, .int .i64 crash, .int .i64 again] w fun e w' => e = .returned (.bool true) ∧ Below w.heap.size w w' := by
  have HT1 := hide (ktree_any v0 s0 bits w h0 l0 z0 hbits)
  have HT2 : Hid (∀ W, Below w.heap.size w W → Calls Tryz.prog 8 #[v1, .int .i64 older] W fun e w' => ∃ u fs, e = .returned u ∧ Af w' u fs ∧ TreeOk fs ∧ Below W.heap.size W w') := fun W hb => ktree_any v1 s1 older W (h1.below hb) l1 z1 holder
  have HE := hide he
  have HBL := hide hblk
  have HCR := hide hcr
  obtain ⟨p4, hp4, hpick4⟩ := pick_gen again hag 4 (by omega) (by omega)
  obtain ⟨p5, hp5, hpick5⟩ := pick_gen again hag 5 (by omega) (by omega)
  have HP4 := hide hpick4
  have HP5 := hide hpick5
  clear h0 l0 z0 hbits h1 l1 z1 holder hblk he hcr hag hpick4 hpick5
  go_enter Tryz.func5, Tryz.ntmps5
  go_wp2_with fail
  refine HT1.out.mono ?_
  rintro e w1 ⟨u1, fs, rfl, hA1, hTs, hb1⟩
  have HA1 := hide hA1
  have HTS := hide hTs
  have HB1 := hide hb1
  clear hA1 hTs hb1 HT1
  go_wp2_with fail
  refine (HT2.out _ HB1.out).mono ?_
  rintro e w2 ⟨u2, fr, rfl, hA2, hTr, hb2⟩
  have HA1b := hide (HA1.out.below hb2)
  have HA2 := hide hA2
  have HTR := hide hTr
  have HB2 : Hid (Below w.heap.size w w2) := below_all HB1.out hb2
  clear hA2 hTr hb2 HT2 HA1 HB1
  have h8 := HTS.out.len
  have g8 := HTR.out.len
  have hbn : bytesIn fs ≤ 2400 := by have := bytesIn_le (fs := fs) (fun p hp => (HTS.out.sizes p hp).2); omega
  obtain ⟨fa, fcp, hfu, hfc, _⟩ := HA1b.out
  subst hfu
  have HBR := hide (brought_ok (.slice fa fs.length fcp) u2 fs fr blk 4000 w2 HBL.out (by omega) (by omega) HA1b.out HA2.out HTS.out HTR.out)
  go_wp2_with fail
  refine HBR.out.mono ?_
  rintro e w4 ⟨B, g, cap, m, lo, hi, u, s, rfl, hB1, hB2, hsn, hsl, hs0, hcap, hg1, hglo, hgm, hown, hM, hb4⟩
  obtain ⟨l, hl⟩ : ∃ l, l = fs.map fun p => (nums p.1, nums p.2) := ⟨_, rfl⟩
  have HRS : Hid (replayS fr (nums s) 4000 = .ok l) := by
    show _ = _
    rw [replay_told hB1 hB2 HTS.out HTR.out hsn, if_neg (by omega), hl]
  have hll : l.length = fs.length := by rw [hl]; simp
  have HINJ : Hid (∀ gs, gs.map (fun p => (nums p.1, nums p.2)) = l → gs = fs) := fun gs h => files_inj (h.trans hl)
  have hgl : g < w4.heap.size := (hown.lt g rfl).2
  have HCE := hide (own_cells0 hown)
  have HE4 : Hid (ErrT w4) := HE.out.keep (below_all HB2.out hb4)
  have HNE : Hid (m ≠ 0) := hM.ne_err HE4.out
  have hm2 : w2.heap.size ≤ m := by omega
  have HM4 := hide hM
  have HB4 : Hid (Below w2.heap.size w2 w4) := hb4
  have HZS : Hid (∀ p ∈ fs, p.2.size ≤ 300) := fun p hp => (HTS.out.sizes p hp).2
  have HZR : Hid (∀ p ∈ fr, p.2.size ≤ 300) := fun p hp => (HTR.out.sizes p hp).2
  -- what every later world keeps
  have HKEEP : Hid (∀ W, w4.grownBy W (some m) → Below w2.heap.size w2 W ∧ ErrT W ∧ g < W.heap.size ∧ (∀ k (h : k < (nums s).length), W.cell? ⟨g, 0 + k, none⟩ = some (.int .u8 (nums s)[k])) ∧ Ag W (.slice fa fs.length fcp) fs ∧ Ag W u2 fr) := by
    intro W hW
    have hb := HB4.out.grown hW HB4.out.size (fun j hj => by simp at hj; omega)
    exact ⟨hb, HE4.out.grown hW HNE.out, by have := hW.size; omega, fun k h => hW.cell (HCE.out k h) (by simp; omega), (HA1b.out.below hb).ag, (HA2.out.below hb).ag⟩
  clear hown hM hb4 HBR hsn hl
  obtain ⟨pc, hpc, hpick⟩ := pick_gen crash HCR.out (fs.length + 3) (by omega) (by omega)
  have HPC := hide hpick
  have hcast : ((fs.length + 3 : Nat) : Int) = (fs.length : Int) + 3 := by omega
  rw [hcast] at HPC
  clear hpick hcast
  go_wp2_with fail
  refine (HPC.out _).mono ?_
  rintro e w5 ⟨rfl, hw5⟩
  obtain rfl := hw5.symm
  have HRP := hide (pReplay_any m 4000 lo hi u (.slice none 0 0) fr g cap s (1 + (pc : Int)) w4 HE4.out HM4.out (by omega) hcap (by omega) hgl (by omega) HCE.out (by omega) HZR.out)
  go_wp2_with fail
  refine HRP.out.mono ?_
  rintro e w5 ⟨k, nm, rfl, hq⟩
  unfold PRplQ at hq
  rw [HRS.out] at hq
  obtain ⟨_, hg5, hq⟩ := hq
  obtain ⟨T, lo5, hi5, v5, bv5, rfl, hM5, hTT, hTl, hTz⟩ : ∃ (T : List (ByteArray × ByteArray)) (lo5 hi5 : Nat) (v5 bv5 : Value), k = 12 ∧ Mir w5 m 4000 lo5 hi5 v5 bv5 T true ∧ ((1 + (pc : Int) = (fs.length : Int) + 3 ∧ T = fs) ∨ (¬ 1 + (pc : Int) = (fs.length : Int) + 3 ∧ T = fr)) ∧ T.length ≤ 8 ∧ ∀ p ∈ T, p.2.size ≤ 300 := by
    rcases hq with ⟨_, c2, hk, bv', hM'⟩ | ⟨gs, lo', hi', tv', bv', hgs, _, hq⟩
    · exact ⟨fr, lo, hi, u, bv', hk, hM', .inr ⟨by omega, rfl⟩, g8, HZR.out⟩
    · obtain rfl := HINJ.out gs hgs
      rcases hq with ⟨c1, hk, hM'⟩ | ⟨c1, _, _⟩
      · exact ⟨gs, lo', hi', tv', bv', hk, hM', .inl ⟨by omega, rfl⟩, h8, HZS.out⟩
      · omega
  have HG5 := hide hg5
  have HM5 := hide hM5
  have HTT := hide hTT
  clear hq hg5 hM5 hTT HRP HM4
  go_wp2_with fail
  refine (pFiles_down m 4000 lo5 hi5 v5 bv5 T w5 (HKEEP.out _ HG5.out).2.1 HM5.out).mono ?_
  rintro e w6 ⟨rfl, hb6⟩
  have HG6 : Hid (w4.grownBy w6 (some m)) := HG5.out.trans (grown_of_below hb6)
  have HM6 := hide (HM5.out.below hb6)
  clear hb6 HG5 HM5
  go_wp2_with fail
  refine (pReplay_down m 4000 lo5 hi5 v5 bv5 _ T 0 w6 (HKEEP.out _ HG6.out).2.1 HM6.out).mono ?_
  rintro e w7 ⟨k7, n7, rfl, rfl, rfl, hb7⟩
  have HG7 : Hid (w4.grownBy w7 (some m)) := HG6.out.trans (grown_of_below hb7)
  have HM7 := hide (HM6.out.below hb7)
  clear hb7 HG6 HM6
  go_wp2_with fail
  go_loopw [28] (fun v28 wr => ∃ (j : Nat) (bv : Value), j ≤ p4 ∧ v28 = .int .i64 j ∧ Hid (w4.grownBy wr (some m)) ∧ Hid (Mir wr m 4000 lo5 hi5 v5 bv T true)) (fun v28 _ => p4 - (intOf v28).toNat)
  case atStart => exact ⟨0, bv5, Nat.zero_le _, rfl, HG7.out, HM7.out⟩
  case round =>
    clear HG7 HM7
    obtain ⟨j, bv, hj, rfl, HGr, HMr⟩ := hrel
    by_cases hjl : j < p4
    · go_wp2_with fail
      refine (HP4.out _).mono ?_
      rintro e w8 ⟨rfl, hw8⟩
      obtain rfl := hw8.symm
      go_wp2_with fail
      refine (pRecover_down m 4000 lo5 hi5 v5 bv T 1 wr (HKEEP.out _ HGr.out).2.1 HMr.out).mono ?_
      rintro e w9 ⟨k9, rfl, hg9, bv9, hq9⟩
      obtain ⟨rfl, hM9⟩ : k9 = 12 ∧ Mir w9 m 4000 lo5 hi5 v5 bv9 T true := by
        rcases hq9 with ⟨_, h1, h2⟩ | ⟨h, _⟩
        · exact ⟨h1, h2⟩
        · exact absurd rfl h
      have HG9 : Hid (w4.grownBy w9 (some m)) := HGr.out.trans hg9
      have HM9 := hide hM9
      clear hg9 hq9 hM9
      go_wp2_with fail
      go_roundw
      case rel => exact ⟨j + 1, bv9, by omega, by go_num, HG9.out, HM9.out⟩
      case measure => simp [intOf]; omega
    · have hjn : j = p4 := by omega
      subst hjn
      go_wp2_with fail
      refine (HP4.out _).mono ?_
      rintro e w8 ⟨rfl, hw8⟩
      obtain rfl := hw8.symm
      go_wp2_with fail
      refine (pRecover_down m 4000 lo5 hi5 v5 bv T 0 wr (HKEEP.out _ HGr.out).2.1 HMr.out).mono ?_
      rintro e w9 ⟨k9, rfl, hg9, bv9, hq9⟩
      obtain ⟨rfl, hM9⟩ : k9 = 0 ∧ Mir w9 m 4000 lo5 hi5 v5 bv9 T false := by
        rcases hq9 with ⟨h, _⟩ | ⟨_, h1, h2⟩
        · cases h
        · exact ⟨h1, h2⟩
      have HG9 : Hid (w4.grownBy w9 (some m)) := HGr.out.trans hg9
      have HM9 := hide hM9
      clear hg9 hq9 hM9 HGr HMr
      go_wp2_with fail
      refine (pRecover_up m 4000 lo5 hi5 v5 bv9 T 0 w9 (HKEEP.out _ HG9.out).2.1 HM9.out).mono ?_
      rintro e w10 ⟨k10, rfl, rfl, hb10⟩
      have HG10 : Hid (w4.grownBy w10 (some m)) := HG9.out.trans (grown_of_below hb10)
      have HM10 := hide (HM9.out.below hb10)
      clear hb10 HG9 HM9
      have hTT := HTT.out
      rcases hTT with ⟨hat, rfl⟩ | ⟨hat, rfl⟩
      · go_wp2_with fail
        refine (has_any m 4000 lo5 hi5 v5 bv9 T (.slice fa T.length fcp) T w10 HM10.out (by omega) (fun p hp => by have := hTz p hp; omega) (HKEEP.out _ HG10.out).2.2.2.2.1).mono ?_
        rintro e w11 ⟨r, rfl, ⟨b, rfl, hb⟩, hb11⟩
        obtain rfl := hb.2 rfl
        have HB11 : Hid (Below w.heap.size w w11) := below_all HB2.out (below_all (HKEEP.out _ HG10.out).1 hb11)
        clear hb hb11
        go_wp2_with fail
        go_ret
        exact ⟨rfl, HB11.out⟩
      · go_wp2_with fail
        refine (has_any m 4000 lo5 hi5 v5 bv9 T u2 T w10 HM10.out (by omega) (fun p hp => by have := hTz p hp; omega) (HKEEP.out _ HG10.out).2.2.2.2.2).mono ?_
        rintro e w11 ⟨r, rfl, ⟨b, rfl, hb⟩, hb11⟩
        obtain rfl := hb.2 rfl
        have HG11 : Hid (w4.grownBy w11 (some m)) := HG10.out.trans (grown_of_below hb11)
        have HM11 := hide (HM10.out.below hb11)
        clear hb hb11 HG10 HM10
        go_wp2_with fail
        refine (HP5.out _).mono ?_
        rintro e w12 ⟨rfl, hw12⟩
        obtain rfl := hw12.symm
        obtain ⟨cc, hcc⟩ : ∃ cc : Int, cc = (fs.length : Int) + 3 + 1 + (p5 : Int) := ⟨_, rfl⟩
        have hK := HKEEP.out _ HG11.out
        have HRP := hide (pReplay_any m 4000 lo5 hi5 v5 bv9 T g cap s cc w11 hK.2.1 HM11.out (by omega) hcap (by omega) hK.2.2.1 (by omega) hK.2.2.2.1 (by omega) hTz)
        rw [hcc] at HRP
        clear hK
        go_wp2_with fail
        refine HRP.out.mono ?_
        rintro e w12 ⟨k12, n12, rfl, hq⟩
        unfold PRplQ at hq
        rw [HRS.out] at hq
        obtain ⟨_, hg12, hq⟩ := hq
        obtain ⟨lo12, hi12, v12, bv12, rfl, hM12⟩ : ∃ (lo12 hi12 : Nat) (v12 bv12 : Value), k12 = 0 ∧ Mir w12 m 4000 lo12 hi12 v12 bv12 fs false := by
          rcases hq with ⟨_, c2, _⟩ | ⟨gs, lo', hi', tv', bv', hgs, _, hq⟩
          · omega
          · obtain rfl := HINJ.out gs hgs
            rcases hq with ⟨c1, _⟩ | ⟨_, hk, hM'⟩
            · omega
            · exact ⟨lo', hi', tv', bv', hk, hM'⟩
        have HG12 : Hid (w4.grownBy w12 (some m)) := HG11.out.trans hg12
        have HM12 := hide hM12
        clear hq hg12 hM12 HRP HG11 HM11
        go_wp2_with fail
        refine (has_any m 4000 lo12 hi12 v12 bv12 fs (.slice fa fs.length fcp) fs w12 HM12.out (by omega) (fun p hp => by have := HZS.out p hp; omega) (HKEEP.out _ HG12.out).2.2.2.2.1).mono ?_
        rintro e w13 ⟨r, rfl, ⟨b, rfl, hb⟩, hb13⟩
        obtain rfl := hb.2 rfl
        have HB13 : Hid (Below w.heap.size w w13) := below_all HB2.out (below_all (HKEEP.out _ HG12.out).1 hb13)
        clear hb hb13
        go_wp2_with fail
        go_ret
        exact ⟨rfl, HB13.out⟩
end Go.Proofs.YtbhccdedcoajmabGreatDoor
namespace Go.Proofs.YtbhccdedcoajmabGreatDoor
open Go

/-- a tied card without a companion, of a function whose road meets a 'go' -/
theorem holds_tied_goes (Lk : Looks) {p : Pinned} {s : OpenSpec} {c : OpenClaim} (al : List (List PathCond)) (kinds : List LaidKind) (tests : Bool) (har : Bool × String) (lk : Bool)
    (hc : c.holds p s) (hal : ∀ D ∈ al, (c.withDomain D).holds p s) (hw : c.wfByText s = true) (hwal : ∀ D ∈ al, (c.withDomain D).wfByText s = true)
    (htie : c.laidByTextAt Lk p kinds tests)
    (hst : c.start = .entering) (hnb : c.noBlocks = false ∧ c.again = false) (hm : p.checked.prog.mainIs = some (har.1, har.2.toList)) (hn : (!har.1 && har.2.isEmpty && !lk) = false)
    (hl : ∀ f fn, p.checked.prog.funcNamed c.func = some f → p.checked.prog.funcs[f]? = some fn → lk = p.checked.prog.looks [] ∧ ∀ (j : Nat) t, fn.params[j]? = some t → p.checked.prog.wantsStandIn t = false)
    (hg : true = c.goesBy p.checked.prog) :
    Claim7.holds p (.plain s) { stood := { row := c, standIns := [], harness := har, looks := lk }, kinds := [], alts := al, goes := true, laidByText := true, laidKinds := kinds, laidTests := tests, laidLooks := Lk } := by
  have h6 : ∀ r : OpenClaim, Claim7.isSixth { stood := { row := r, standIns := [], harness := har, looks := lk }, kinds := [] } = false := fun r => by simpa [Claim7.isSixth] using hn
  refine ⟨?_, fun D hD => ?_, htie, (fun h => by cases h), hg⟩
  · obtain ⟨_, rest⟩ := Claim7.new_of_sixth hc har lk hst hnb hm (h6 c) hl
    exact ⟨hw, rest⟩
  · obtain ⟨_, rest⟩ := Claim7.new_of_sixth (hal D hD) har lk hst hnb hm (h6 _) hl
    exact ⟨hwal D hD, rest⟩
end Go.Proofs.YtbhccdedcoajmabGreatDoor
