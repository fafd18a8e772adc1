import Derived.Test.YtihigdhnmmfpaaaDoorFind
import Derived.Test.YtihigdhnmmfpaaaDoorAddTok
namespace Go.Proofs.YtihigdhnmmfpaaaDoor
open Go.RowKit Go.Maps

theorem cells_part {w : World} {b off : Nat} {zs : List Int} (hc : ∀ k (h : k < zs.length), w.cell? ⟨b, off + k, none⟩ = some (.int .u8 zs[k])) (a m : Nat) :
    ∀ k (h : k < ((zs.drop a).take m).length), w.cell? ⟨b, (off + a) + k, none⟩ = some (.int .u8 ((zs.drop a).take m)[k]) := by
  intro k h
  have h' : a + k < zs.length := by rw [List.length_take, List.length_drop] at h; omega
  rw [List.getElem_take, List.getElem_drop, Nat.add_assoc]
  exact hc _ h'

theorem Tryd.elemBytes : Tryd.prog.elem 25 = 5 := by kernel_rfl
theorem slice3 (b off n cap a : Nat) (E : Int) (e : Nat) (hE : E = (e : Int)) (h1 : a < e) (h2 : e ≤ cap) (W : World) :
    (Instr.slice 25 (.slice (some ⟨b, off, none⟩) n cap) (some (.int .i64 a)) (some (.int .i64 E)) (some (.int .i64 E))).run Tryd.prog W = .ok (.slice (some ⟨b, off + a, none⟩) (e - a) (e - a)) W := by
  have hu : Tryd.prog.underlying 25 = some (.slice (Tryd.prog.elem 25)) := by kernel_rfl
  have hs : (sizeOf (Tryd.prog.elem 25)).run Tryd.prog W = .ok 1 W := by kernel_rfl
  have hb : (Instr.sliceBounds true n cap (some (.int .i64 a)) (some (.int .i64 E)) (some (.int .i64 E))).run Tryd.prog W = .ok (a, e, e) W := by
    subst hE
    simp [Instr.sliceBounds, run_sliceBound, show (a : Int) ≤ (e : Int) by omega, show (e : Int) ≤ (cap : Int) by omega]
  rw [run_slice_any W 25 _ n cap hu, hb]
  simp only [Result.andThen_ok, hs, sliced]
  rw [if_neg (by omega)]
  simp [Addr.add]

set_option maxHeartbeats 400000 in
theorem checkBoth_bad (v v2 : Option Addr) (n cap n2 cap2 : Nat) (B k : Int) (w : World) (hc : Calls Tryd.prog 36 #[.slice v n cap, .int .i64 B] w fun e w' => e = .returned (.iface 23 (.int .i64 k)) ∧ w' = w) :
    Calls Tryd.prog 43 #[.slice v n cap, .slice v2 n2 cap2, .int .i64 B] w fun e w' => e = .returned (.iface 23 (.int .i64 k)) ∧ w' = w := by
  have HC := hide hc
  clear hc
  go_enter Tryd.func43, Tryd.ntmps43
  go_wp2_with fail
  refine HC.out.mono ?_
  rintro e w' ⟨rfl, rfl⟩
  go_wp2_with fail
  go_ret
  exact ⟨rfl, rfl⟩
set_option maxHeartbeats 400000 in
theorem checkBoth_next (v v2 : Option Addr) (n cap n2 cap2 : Nat) (B : Int) (r : Value) (w : World) (hc : Calls Tryd.prog 36 #[.slice v n cap, .int .i64 B] w fun e w' => e = .returned .nilIface ∧ w' = w)
    (hd : Calls Tryd.prog 36 #[.slice v2 n2 cap2, .int .i64 B] w fun e w' => e = .returned r ∧ w' = w) :
    Calls Tryd.prog 43 #[.slice v n cap, .slice v2 n2 cap2, .int .i64 B] w fun e w' => e = .returned r ∧ w' = w := by
  have HC := hide hc
  have HD := hide hd
  clear hc hd
  go_enter Tryd.func43, Tryd.ntmps43
  go_wp2_with fail
  refine HC.out.mono ?_
  rintro e w1 ⟨rfl, hw1⟩
  obtain rfl := hw1.symm
  go_wp2_with fail
  refine HD.out.mono ?_
  rintro e w1 ⟨rfl, hw1⟩
  obtain rfl := hw1.symm
  go_wp2_with fail
  go_ret
  exact ⟨rfl, rfl⟩
set_option maxRecDepth 10000 in
set_option maxHeartbeats 400000 in
theorem diff_bad (v v2 : Option Addr) (n cap n2 cap2 : Nat) (B k : Int) (w : World) (hc : Calls Tryd.prog 43 #[.slice v n cap, .slice v2 n2 cap2, .int .i64 B] w fun e w' => e = .returned (.iface 23 (.int .i64 k)) ∧ w' = w) :
    Calls Tryd.prog 34 #[.slice v n cap, .slice v2 n2 cap2, .int .i64 B] w fun e w' => e = .returned (.tuple #[.slice none 0 0, .iface 23 (.int .i64 k)]) ∧ w' = w := by
  have HC := hide hc
  clear hc
  go_enter Tryd.func34, Tryd.ntmps34
  go_wp2_with fail
  refine HC.out.mono ?_
  rintro e w' ⟨rfl, rfl⟩
  go_wp2_with fail
  go_ret2
  exact ⟨rfl, rfl⟩

end Go.Proofs.YtihigdhnmmfpaaaDoor
