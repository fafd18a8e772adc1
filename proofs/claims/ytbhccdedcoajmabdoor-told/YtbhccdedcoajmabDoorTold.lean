import Derived.Test.YtbhccdedcoajmabDoorSw
import Derived.Test.YtbhccdedcoajmabDoorAsF
import Derived.Test.YtbhccdedcoajmabDoorAsK
import Derived.Test.YtbhccdedcoajmabDoorAsM
import Derived.Deep.QuietTactic
import Derived.BigQuiet
namespace Go.Proofs.YtbhccdedcoajmabDoor
open Go.RowKit Go.Extern.Stop Go.Stop Go.Extern

/-- the one package-level variable that errors.As reads: the handle of the type error -/
def ErrT (w : World) : Prop := w.cell? ⟨0, 0, none⟩ = some (.iface 106 (.agg #[.pointer (some ⟨1, 50, none⟩)]))
theorem ErrT.lt {w : World} (h : ErrT w) : 0 < w.heap.size := by
  rcases Nat.lt_or_ge 0 w.heap.size with h' | h'
  · exact h'
  · simp [ErrT, World.cell?, Array.getElem?_eq_none h'] at h
theorem ErrT.below {B : Nat} {w w' : World} (h : ErrT w) (hb : Below B w w') (hB : 0 < B) : ErrT w' := by
  unfold ErrT; rw [hb.cell (p := ⟨0, 0, none⟩) hB]; exact h
theorem ErrT.keep {w w' : World} (h : ErrT w) (hb : Below w.heap.size w w') : ErrT w' := h.below hb h.lt

theorem cell_set {w : World} {a : Addr} {old v : Value} (h : w.cell? a = some old) : (w.setCell a v).cell? a = some v := by
  exact World.cell?_setCell_same' w a v (by rw [h]; rfl)

set_option maxHeartbeats 1000000 in
theorem told_nil (w : World) :
    Calls Tryd.prog 12 #[.nilIface] w fun e w' => e = .returned (.tuple #[.int .i64 0, .string ⟨#[]⟩]) ∧ Below w.heap.size w w' := by
  go_enter Tryd.func12, Tryd.ntmps12
  go_wp2_with fail
  refine (as_nil _ _).mono ?_
  rintro e w' ⟨rfl, rfl⟩
  go_wp2_with fail
  refine (as_nil _ _).mono ?_
  rintro e w' ⟨rfl, rfl⟩
  go_wp2_with fail
  go_ret2
  exact ⟨rfl, ((Below.refl _ _).alloc (Nat.le_refl _) _).alloc (by simp) _⟩

set_option maxHeartbeats 1000000 in
theorem told_kind (x : Int) (w : World) (he : ErrT w) :
    Calls Tryd.prog 12 #[.iface 27 (.int .i64 x)] w fun e w' => e = .returned (.tuple #[.int .i64 x, .string ⟨#[]⟩]) ∧ Below w.heap.size w w' := by
  have hb1 : Below w.heap.size w (w.alloc (.cells #[.pointer none] 58)) := (Below.refl _ _).alloc (Nat.le_refl _) _
  have HM := hide (as_miss x ⟨w.heap.size, 0, none⟩ _ (he.keep hb1))
  have HE := hide he
  clear he hb1
  go_enter Tryd.func12, Tryd.ntmps12
  go_wp2_with fail
  refine HM.out.mono ?_
  rintro e w1 ⟨rfl, hw1⟩
  have hz : w.heap.size < w1.heap.size := by rw [hw1]; simp; omega
  have hb : Below w.heap.size w w1 := by
    rw [hw1]
    exact ((((Below.refl _ _).alloc (Nat.le_refl _) _).alloc (by simp) _).alloc (by simp; omega) _).alloc (by simp; omega) _
  have HB := hide hb
  have HZ := hide hz
  clear hw1 hb hz
  have hb2 : Below w1.heap.size w1 (w1.alloc (.cells #[.int .i64 0] 27)) := (Below.refl _ _).alloc (Nat.le_refl _) _
  have HK := hide (as_hitK x ⟨w1.heap.size, 0, none⟩ (.int .i64 0) (w1.alloc (.cells #[.int .i64 0] 27)) ((HE.out.keep HB.out).keep hb2) (by simp) (by simp))
  clear hb2
  go_wp2_with fail
  refine HK.out.mono ?_
  rintro e w2 ⟨rfl, hw2⟩
  have hc : w2.cell? ⟨w1.heap.size, 0, none⟩ = some (.int .i64 x) := by
    rw [hw2]
    refine cell_set (old := .int .i64 0) ?_
    rw [World.cell?_alloc_lt _ _ _ (by simp; omega), World.cell?_alloc_lt _ _ _ (by simp; omega), World.cell?_alloc_lt _ _ _ (by simp; omega), World.cell?_alloc_lt _ _ _ (by simp)]
    simp
  have hb : Below w1.heap.size w1 w2 := by
    rw [hw2]
    exact ((((((Below.refl _ _).alloc (Nat.le_refl _) _).alloc (by simp) _).alloc (by simp; omega) _).alloc (by simp; omega) _).alloc (by simp; omega) _).setCell (by simp) _
  have HB2 := hide hb
  clear hw2 hb
  go_wp2_with fail
  go_ret2
  exact ⟨rfl, HB.out.trans (HB2.out.mono (Nat.le_of_lt HZ.out))⟩

set_option maxHeartbeats 1000000 in
theorem told_file (b : Nat) (name : ByteArray) (x : Int) (w : World) (he : ErrT w) (h0 : w.cell? ⟨b, 0, none⟩ = some (.string name)) (h1 : w.cell? ⟨b, 1, none⟩ = some (.int .i64 x)) :
    Calls Tryd.prog 12 #[.iface 58 (.pointer (some ⟨b, 0, none⟩))] w fun e w' => e = .returned (.tuple #[.int .i64 x, .string name]) ∧ Below w.heap.size w w' := by
  have hbl : b < w.heap.size := World.block_lt_of_cell? w _ h0
  have hb1 : Below w.heap.size w (w.alloc (.cells #[.pointer none] 58)) := (Below.refl _ _).alloc (Nat.le_refl _) _
  have HM := hide (as_hitF ⟨b, 0, none⟩ ⟨w.heap.size, 0, none⟩ (.pointer none) _ (he.keep hb1) (by simp) (by simp))
  have HE := hide he
  have H0 := hide h0
  have H1 := hide h1
  clear he hb1 h0 h1
  go_enter Tryd.func12, Tryd.ntmps12
  go_wp2_with fail
  refine HM.out.mono ?_
  rintro e w1 ⟨rfl, hw1⟩
  have hc : w1.cell? ⟨w.heap.size, 0, none⟩ = some (.pointer (some ⟨b, 0, none⟩)) := by
    rw [hw1]
    refine cell_set (old := .pointer none) ?_
    rw [World.cell?_alloc_lt _ _ _ (by simp; omega), World.cell?_alloc_lt _ _ _ (by simp; omega), World.cell?_alloc_lt _ _ _ (by simp; omega), World.cell?_alloc_lt _ _ _ (by simp)]
    simp
  have hb : Below w.heap.size w w1 := by
    rw [hw1]
    exact ((((((Below.refl _ _).alloc (Nat.le_refl _) _).alloc (by simp) _).alloc (by simp; omega) _).alloc (by simp; omega) _).alloc (by simp; omega) _).setCell (by simp) _
  have h0 : w1.cell? ⟨b, 0, none⟩ = some (.string name) := (hb.cell (p := ⟨b, 0, none⟩) hbl).trans H0.out
  have h1 : w1.cell? ⟨b, 1, none⟩ = some (.int .i64 x) := (hb.cell (p := ⟨b, 1, none⟩) hbl).trans H1.out
  have HB := hide hb
  clear hw1 hb
  go_wp2_with fail
  go_quiet (fail)
  go_wp2_with fail
  go_ret2
  exact ⟨rfl, below_drewN HB.out _⟩
end Go.Proofs.YtbhccdedcoajmabDoor
