import Derived.Test.YtbhccdedcoajmabGreatDoorPStep
import Derived.RegionDies
namespace Go.Proofs.YtbhccdedcoajmabGreatDoor
open Go.RowKit Go.MuLone

set_option maxRecDepth 10000 in
set_option maxHeartbeats 1000000 in
/-- the steps of a replay, as run calls them -/
theorem steps_replay (pm pf pc m : Nat) (l0 s0 : Value) (room : Int) (tv bv dn : Value) (c : Int) (base : Nat) (r : Value) (ps : List (ByteArray × ByteArray × Value)) (w : World) (h1 : w.cell? ⟨pm, 0, none⟩ = some (.pointer (some ⟨m, 0, none⟩))) (h2 : w.cell? ⟨pf, 0, none⟩ = some r) (h3 : w.cell? ⟨pc, 0, none⟩ = some (.int .i64 c)) (hpm : pm ≠ m) (hpf : pf ≠ m) (hpc : pc ≠ m) (hm : w.heap[m]? = some (.cells #[l0, s0, .int .i64 room, tv, bv, dn] 85 (0, 0))) (hmb : m < base) (hbase : base ≤ w.heap.size) (htv : ∃ a n c, tv = .slice a n c) (hbv : ∃ a n c, bv = .slice a n c) (hF : FileRow w base r ps) (hl : ps.length ≤ 60000) :
    Calls Tryz.prog 34 #[.pointer (some ⟨pm, 0, none⟩), .pointer (some ⟨pf, 0, none⟩), .pointer (some ⟨pc, 0, none⟩)] w fun e w' => RepQ w m l0 s0 room tv dn c base ps e w' := by
  have HR : Hid (Calls Tryz.prog 35 #[.pointer (some ⟨m, 3, none⟩), r, .int .i64 c] w.drew fun e w' => RepQ w.drew m l0 s0 room tv dn c base ps e w') := by
    have hb : Below w.heap.size w w.drew := (Below.refl _ _).drew
    exact replace_any m l0 s0 room tv bv dn c base r ps w.drew hm hmb hbase htv hbv (hF.below hb) hl
  obtain ⟨ra, rn, rc, rfl⟩ := row_slice hF.row
  clear hm htv hbv hF
  by_cases hc : c < 1 ∨ ps.length + 3 < c
  · have HR2 : Hid (Calls Tryz.prog 35 #[.pointer (some ⟨m, 3, none⟩), .slice ra rn rc, .int .i64 c] w.drew fun e w' => e = .returned (.tuple #[]) ∧ RepQ w m l0 s0 room tv dn c base ps (.returned (.tuple #[])) w') := by
      refine HR.out.mono ?_
      rintro e w' ⟨tv', bv', a1, a2, a3, a4⟩
      have a3' : w.grownBy w' (some m) := (grown_of_below (Below.refl w.heap.size w).drew).trans a3
      rcases a4 with ⟨_, b1, b2, _⟩ | ⟨_, b1, _⟩ | ⟨rfl, b1, b2⟩
      · omega
      · omega
      · exact ⟨rfl, tv', bv', a1, a2, a3', .inr (.inr ⟨rfl, b1, b2⟩)⟩
    have HCE : Hid (∀ w', RepQ w m l0 s0 room tv dn c base ps (.returned (.tuple #[])) w' → w'.cell? ⟨pm, 0, none⟩ = some (.pointer (some ⟨m, 0, none⟩)) ∧ w'.cell? ⟨pf, 0, none⟩ = some (.slice ra rn rc) ∧ w'.cell? ⟨pc, 0, none⟩ = some (.int .i64 c)) := by
      rintro w' ⟨_, _, _, _, a3, _⟩
      exact ⟨a3.cell h1 (by simp; exact hpm), a3.cell h2 (by simp; exact hpf), a3.cell h3 (by simp; exact hpc)⟩
    clear HR
    go_enter Tryz.func34, Tryz.ntmps34
    go_wp2_with fail
    go_region_held3 (fun w' => w'.cell? ⟨pm, 0, none⟩ = some (.pointer (some ⟨m, 0, none⟩)) ∧ w'.cell? ⟨pf, 0, none⟩ = some (.slice ra rn rc) ∧ w'.cell? ⟨pc, 0, none⟩ = some (.int .i64 c))
      (first | exact ⟨h1, h2, h3⟩ | exact ⟨k1, k2, k3⟩)
      ((go_at_call 35; refine HR2.out.mono ?_; rintro e w2 ⟨rfl, hq⟩; obtain ⟨k1, k2, k3⟩ := HCE.out w2 hq))
    go_wp2_with fail
    go_end0
    exact hq
  · have HR2 : Hid (Calls Tryz.prog 35 #[.pointer (some ⟨m, 3, none⟩), .slice ra rn rc, .int .i64 c] w.drew fun e w' => e = .panicked [{ v := crash12, recovered := false }] ∧ RepQ w m l0 s0 room tv dn c base ps (.panicked [{ v := crash12, recovered := false }]) w') := by
      refine HR.out.mono ?_
      rintro e w' ⟨tv', bv', a1, a2, a3, a4⟩
      have a3' : w.grownBy w' (some m) := (grown_of_below (Below.refl w.heap.size w).drew).trans a3
      rcases a4 with ⟨rfl, b1, b2, b3⟩ | ⟨rfl, b1, b2⟩ | ⟨rfl, b1, b2⟩
      · exact ⟨rfl, tv', bv', a1, a2, a3', .inl ⟨rfl, b1, b2, b3⟩⟩
      · exact ⟨rfl, tv', bv', a1, a2, a3', .inr (.inl ⟨rfl, b1, b2⟩)⟩
      · exact absurd b1 hc
    clear HR
    go_enter Tryz.func34, Tryz.ntmps34
    go_wp2_with fail
    go_region_dies
    all_goals
      refine HR2.out.mono ?_
      rintro e w2 ⟨rfl, hq⟩
      exact ⟨rfl, hq⟩

end Go.Proofs.YtbhccdedcoajmabGreatDoor
namespace Go.Proofs.YtbhccdedcoajmabGreatDoor
open Go.RowKit Go.MuLone

/-- what run defers, behind a failure -/
theorem caught (M1 E m : Nat) (x y : Value) (u : TypeId) (pv : Value) (older : List PanicEntry) (w : World) (h1 : w.cell? ⟨M1, 0, none⟩ = some (.pointer (some ⟨m, 0, none⟩))) (h2 : w.cell? ⟨m, 5, none⟩ = some x) (h3 : w.cell? ⟨E, 0, none⟩ = some y) (f2 : w.frozen? ⟨m, 5, none⟩ = false) (f3 : w.frozen? ⟨E, 0, none⟩ = false) :
    CallsD Tryz.prog 57 #[.pointer (some ⟨M1, 0, none⟩), .pointer (some ⟨E, 0, none⟩)] (.panicking ({ v := .iface u pv, recovered := false } :: older)) w fun e u' w' =>
      e = .returned (.tuple #[]) ∧ u' = .panicking ({ v := .iface u pv, recovered := true } :: older) ∧ w' = (w.setCell ⟨m, 5, none⟩ (.bool true)).setCell ⟨E, 0, none⟩ crash12 := by
  refine callsD_of_wpS Tryz.func57 rfl fun c₀ cs hu => ?_
  apply wpS_seq
  apply wpS_region
  simp [wpOpsS, go_sem, recoverD, hu, Tryz.ntmps57, Exit.thenS]
  refine wpS_cond (t := true) (by simp [Act.eval, Array.replicate]) ?_
  simp only [if_true]
  apply wpS_region
  simp [wpOpsS, go_sem, h1, h2, h3, f2, f3, bodyPostS, results, Tryz.results57]
/-- what run defers, where all went well -/
theorem caught_none (M1 E : Nat) (w : World) :
    CallsD Tryz.prog 57 #[.pointer (some ⟨M1, 0, none⟩), .pointer (some ⟨E, 0, none⟩)] .returning w fun e u' w' => e = .returned (.tuple #[]) ∧ u' = .returning ∧ w' = w := by
  refine callsD_of_wpS Tryz.func57 rfl fun c₀ cs hu => ?_
  apply wpS_seq
  apply wpS_region
  simp [wpOpsS, go_sem, recoverD, hu, Tryz.ntmps57, Exit.thenS]
  refine wpS_cond (t := false) (by simp [Act.eval, Array.replicate]) ?_
  simp only [Bool.false_eq_true, if_false]
  refine wpS_of_wp (wp_skip ?_)
  cases c₀
  simp_all [bodyPostS, results, Tryz.results57]

/-- the world in which run calls the steps -/
def runW (w : World) (m : Nat) : World := (w.alloc (.cells #[.pointer (some ⟨m, 0, none⟩)] 26)).alloc (.cells #[.nilIface] 56)
theorem runW_below (w : World) (m : Nat) : Below w.heap.size w (runW w m) := ((Below.refl _ _).alloc (Nat.le_refl _) _).alloc (by simp) _
theorem runW_size (w : World) (m : Nat) : (runW w m).heap.size = w.heap.size + 2 := by simp [runW]
theorem runW_c1 (w : World) (m : Nat) : (runW w m).cell? ⟨w.heap.size, 0, none⟩ = some (.pointer (some ⟨m, 0, none⟩)) := by
  unfold runW
  rw [World.cell?_alloc_lt _ _ _ (by simp)]; exact cell_new rfl rfl
theorem runW_blk (w : World) (m : Nat) : (runW w m).heap[w.heap.size + 1]? = some (.cells #[.nilIface] 56 (0, 0)) := by
  have := heap_alloc_new (w.alloc (.cells #[.pointer (some ⟨m, 0, none⟩)] 26)) (.cells #[.nilIface] 56)
  rw [show (w.alloc (.cells #[.pointer (some ⟨m, 0, none⟩)] 26)).heap.size = w.heap.size + 1 by simp] at this
  exact this
/-- what the steps must leave for run -/
structure Kept (w : World) (m : Nat) (w' : World) : Prop where
  c1 : w'.cell? ⟨w.heap.size, 0, none⟩ = some (.pointer (some ⟨m, 0, none⟩))
  c5 : ∃ x, w'.cell? ⟨m, 5, none⟩ = some x
  f5 : w'.frozen? ⟨m, 5, none⟩ = false
  blk : w'.heap[w.heap.size + 1]? = some (.cells #[.nilIface] 56 (0, 0))

set_option maxRecDepth 10000 in
set_option maxHeartbeats 1000000 in
theorem run_pan (m fn : Nat) (caps : Array Value) (w : World) (R : World → Prop) (_hm : m < w.heap.size) (hfn : ∀ W : World, (callFunc fn caps).run Tryz.prog W = .ok (.enter fn caps) W) (hs : Calls Tryz.prog fn caps (runW w m) fun e w' => e = .panicked [{ v := crash12, recovered := false }] ∧ Kept w m w' ∧ R w') :
    Calls Tryz.prog 33 #[.pointer (some ⟨m, 0, none⟩), .func (.func fn) #[] caps] w fun e w' => e = .returned crash12 ∧ ∃ w1, R w1 ∧ w' = (w1.setCell ⟨m, 5, none⟩ (.bool true)).setCell ⟨w.heap.size + 1, 0, none⟩ crash12 := by
  have hmf : ∀ (fn : Fn) (first cap : Array Value) (w : World), (Instr.makeFunc fn first cap).run Tryz.prog w = .ok (.func fn first cap) w := fun _ _ _ _ => rfl
  have HS := hide hs
  unfold runW at HS
  clear hs
  go_enter_defers Tryz.func33, Tryz.ntmps33
  go_wp2_with fail
  refine HS.out.mono ?_
  rintro e w1 ⟨rfl, hk, hr⟩
  obtain ⟨x, hx⟩ := hk.c5
  have h3 : w1.cell? ⟨w.heap.size + 1, 0, none⟩ = some .nilIface := cell_row hk.blk rfl
  have f3 : w1.frozen? ⟨w.heap.size + 1, 0, none⟩ = false := frozen_of_row _ _ _ _ _ hk.blk
  refine leaves_cons (f := 57) (args := #[.pointer (some ⟨w.heap.size, 0, none⟩), .pointer (some ⟨w.heap.size + 1, 0, none⟩)]) (by simp) (by simp [go_sem]) ?_
  refine (caught w.heap.size (w.heap.size + 1) m x .nilIface _ _ [] w1 hk.c1 hx h3 hk.f5 f3).mono ?_
  rintro e u' w'' ⟨rfl, rfl, rfl⟩
  have hce : ((w1.setCell ⟨m, 5, none⟩ (.bool true)).setCell ⟨w.heap.size + 1, 0, none⟩ crash12).cell? ⟨w.heap.size + 1, 0, none⟩ = some crash12 := World.cell?_setCell_same _ _ _ ((World.cell?_setCell_other w1 ⟨m, 5, none⟩ ⟨w.heap.size + 1, 0, none⟩ _ (by simp)).trans h3)
  simp [Leaves, settle, results, Tryz.results33, go_sem, hce]
  exact ⟨w1, hr, rfl⟩

set_option maxRecDepth 10000 in
set_option maxHeartbeats 1000000 in
theorem run_well (m fn : Nat) (caps : Array Value) (w : World) (R : World → Prop) (hm : m < w.heap.size) (hfn : ∀ W : World, (callFunc fn caps).run Tryz.prog W = .ok (.enter fn caps) W) (hs : Calls Tryz.prog fn caps (runW w m) fun e w' => e = .returned (.tuple #[]) ∧ Kept w m w' ∧ R w') :
    Calls Tryz.prog 33 #[.pointer (some ⟨m, 0, none⟩), .func (.func fn) #[] caps] w fun e w' => e = .returned .nilIface ∧ ∃ w1, R w1 ∧ w' = (w1.setCell ⟨m, 5, none⟩ (.bool false)).setCell ⟨w.heap.size + 1, 0, none⟩ .nilIface := by
  have hmf : ∀ (fn : Fn) (first cap : Array Value) (w : World), (Instr.makeFunc fn first cap).run Tryz.prog w = .ok (.func fn first cap) w := fun _ _ _ _ => rfl
  have HS := hide hs
  unfold runW at HS
  clear hs
  go_enter_defers Tryz.func33, Tryz.ntmps33
  go_wp2_with fail
  refine HS.out.mono ?_
  rintro e w1 ⟨rfl, hk, hr⟩
  obtain ⟨x, hx⟩ := hk.c5
  have h1 := hk.c1
  have h5 := hk.f5
  have h3 : w1.cell? ⟨w.heap.size + 1, 0, none⟩ = some .nilIface := cell_row hk.blk rfl
  have f3 : w1.frozen? ⟨w.heap.size + 1, 0, none⟩ = false := frozen_of_row _ _ _ _ _ hk.blk
  have hne : m ≠ w.heap.size + 1 := by omega
  have HR := hide hr
  clear hr hk HS
  go_wp2_with fail
  refine leaves_cons (f := 57) (args := #[.pointer (some ⟨w.heap.size, 0, none⟩), .pointer (some ⟨w.heap.size + 1, 0, none⟩)]) (by simp) (by simp [go_sem]) ?_
  refine (caught_none w.heap.size (w.heap.size + 1) _).mono ?_
  rintro e u' w'' ⟨rfl, rfl, rfl⟩
  have hce : ((w1.setCell ⟨m, 5, none⟩ (.bool false)).setCell ⟨w.heap.size + 1, 0, none⟩ .nilIface).cell? ⟨w.heap.size + 1, 0, none⟩ = some .nilIface := World.cell?_setCell_same _ _ _ ((World.cell?_setCell_other w1 ⟨m, 5, none⟩ ⟨w.heap.size + 1, 0, none⟩ _ (by simp)).trans h3)
  simp [Leaves, settle, results, Tryz.results33, go_sem, hce]
  exact ⟨w1, HR.out, rfl⟩
end Go.Proofs.YtbhccdedcoajmabGreatDoor
