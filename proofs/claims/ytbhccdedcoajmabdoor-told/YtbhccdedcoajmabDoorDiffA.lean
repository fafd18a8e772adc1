import Derived.Test.YtbhccdedcoajmabDoorIndexM
import Derived.Test.YtbhccdedcoajmabDoorAddTok
namespace Go.Proofs.YtbhccdedcoajmabDoor
open Go.RowKit Go.Maps

theorem Tryd.elemBytes : Tryd.prog.elem 26 = 5 := by kernel_rfl
theorem slice3 (b off n cap a : Nat) (E : Int) (e : Nat) (hE : E = (e : Int)) (h1 : a < e) (h2 : e ≤ cap) (W : World) :
    (Instr.slice 26 (.slice (some ⟨b, off, none⟩) n cap) (some (.int .i64 a)) (some (.int .i64 E)) (some (.int .i64 E))).run Tryd.prog W = .ok (.slice (some ⟨b, off + a, none⟩) (e - a) (e - a)) W := by
  have hu : Tryd.prog.underlying 26 = some (.slice (Tryd.prog.elem 26)) := by kernel_rfl
  have hs : (sizeOf (Tryd.prog.elem 26)).run Tryd.prog W = .ok 1 W := by kernel_rfl
  have hb : (Instr.sliceBounds true n cap (some (.int .i64 a)) (some (.int .i64 E)) (some (.int .i64 E))).run Tryd.prog W = .ok (a, e, e) W := by
    subst hE
    simp [Instr.sliceBounds, run_sliceBound, show (a : Int) ≤ (e : Int) by omega, show (e : Int) ≤ (cap : Int) by omega]
  rw [run_slice_any W 26 _ n cap hu, hb]
  simp only [Result.andThen_ok, hs, sliced]
  rw [if_neg (by omega)]
  simp [Addr.add]

set_option maxHeartbeats 400000 in
theorem checkBoth_bad (v v2 : Option Addr) (n cap n2 cap2 : Nat) (B k : Int) (w : World) (hc : Calls Tryd.prog 31 #[.slice v n cap, .int .i64 B] w fun e w' => e = .returned (.iface 27 (.int .i64 k)) ∧ w' = w) :
    Calls Tryd.prog 36 #[.slice v n cap, .slice v2 n2 cap2, .int .i64 B] w fun e w' => e = .returned (.iface 27 (.int .i64 k)) ∧ w' = w := by
  have HC := hide hc
  clear hc
  go_enter Tryd.func36, Tryd.ntmps36
  go_wp2_with fail
  refine HC.out.mono ?_
  rintro e w' ⟨rfl, rfl⟩
  go_wp2_with fail
  go_ret
  exact ⟨rfl, rfl⟩
set_option maxHeartbeats 400000 in
theorem checkBoth_next (v v2 : Option Addr) (n cap n2 cap2 : Nat) (B : Int) (r : Value) (w : World) (hc : Calls Tryd.prog 31 #[.slice v n cap, .int .i64 B] w fun e w' => e = .returned .nilIface ∧ w' = w)
    (hd : Calls Tryd.prog 31 #[.slice v2 n2 cap2, .int .i64 B] w fun e w' => e = .returned r ∧ w' = w) :
    Calls Tryd.prog 36 #[.slice v n cap, .slice v2 n2 cap2, .int .i64 B] w fun e w' => e = .returned r ∧ w' = w := by
  have HC := hide hc
  have HD := hide hd
  clear hc hd
  go_enter Tryd.func36, Tryd.ntmps36
  go_wp2_with fail
  refine HC.out.mono ?_
  rintro e w1 ⟨rfl, hw1⟩
  obtain rfl := hw1.symm
  go_wp2_with fail
  refine HD.out.mono ?_
  rintro e w1 ⟨rfl, hw1⟩
  obtain rfl := hw1.symm
  go_wp2_with fail
  go_ret
  exact ⟨rfl, rfl⟩
set_option maxRecDepth 10000 in
set_option maxHeartbeats 400000 in
theorem diff_bad (v v2 : Option Addr) (n cap n2 cap2 : Nat) (B k : Int) (w : World) (hc : Calls Tryd.prog 36 #[.slice v n cap, .slice v2 n2 cap2, .int .i64 B] w fun e w' => e = .returned (.iface 27 (.int .i64 k)) ∧ w' = w) :
    Calls Tryd.prog 23 #[.slice v n cap, .slice v2 n2 cap2, .int .i64 B] w fun e w' => e = .returned (.tuple #[.slice none 0 0, .iface 27 (.int .i64 k)]) ∧ w' = w := by
  have HC := hide hc
  clear hc
  go_enter Tryd.func23, Tryd.ntmps23
  go_wp2_with fail
  refine HC.out.mono ?_
  rintro e w' ⟨rfl, rfl⟩
  go_wp2_with fail
  go_ret2
  exact ⟨rfl, rfl⟩

end Go.Proofs.YtbhccdedcoajmabDoor
