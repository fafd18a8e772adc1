import Derived.Test.YtbhccdedcoajmabGreatDoorMathM
import Derived.Test.YtbhccdedcoajmabGreatDoorToldM
namespace Go.Proofs.YtbhccdedcoajmabGreatDoor
open Go.RowKit

set_option maxHeartbeats 400000 in
theorem checkBlock_bad (B : Int) (h : B < 1 ∨ 64 < B) (w : World) :
    Calls Tryz.prog 99 #[.int .i64 B] w fun e w' => e = .returned (.iface 30 (.int .i64 1)) ∧ w' = w := by
  rcases h with h | h
  all_goals
    go_enter Tryz.func99, Tryz.ntmps99
    go_wp2_with fail
    go_ret
    exact ⟨rfl, rfl⟩
set_option maxHeartbeats 400000 in
theorem checkBlock_ok (B : Int) (h1 : 1 ≤ B) (h2 : B ≤ 64) (w : World) :
    Calls Tryz.prog 99 #[.int .i64 B] w fun e w' => e = .returned .nilIface ∧ w' = w := by
  go_enter Tryz.func99, Tryz.ntmps99
  go_wp2_with fail
  go_ret
  exact ⟨rfl, rfl⟩
set_option maxHeartbeats 400000 in
theorem check_block (v : Option Addr) (n cap : Nat) (B : Int) (_hn : n ≤ 70000) (h : B < 1 ∨ 64 < B) (w : World) :
    Calls Tryz.prog 125 #[.slice v n cap, .int .i64 B] w fun e w' => e = .returned (.iface 30 (.int .i64 1)) ∧ w' = w := by
  have HC := hide (fun w => checkBlock_bad B h w)
  clear h
  go_enter Tryz.func125, Tryz.ntmps125
  go_wp2_with fail
  refine (HC.out _).mono ?_
  rintro e w' ⟨rfl, rfl⟩
  go_wp2_with fail
  go_ret
  exact ⟨rfl, rfl⟩
set_option maxHeartbeats 400000 in
theorem check_data (v : Option Addr) (n cap : Nat) (B : Int) (hn : n ≤ 70000) (h1 : 1 ≤ B) (h2 : B ≤ 64) (h : 300 < n) (w : World) :
    Calls Tryz.prog 125 #[.slice v n cap, .int .i64 B] w fun e w' => e = .returned (.iface 30 (.int .i64 2)) ∧ w' = w := by
  have HC := hide (fun w => checkBlock_ok B h1 h2 w)
  go_enter Tryz.func125, Tryz.ntmps125
  go_wp2_with fail
  refine (HC.out _).mono ?_
  rintro e w' ⟨rfl, rfl⟩
  go_wp2_with fail
  go_ret
  exact ⟨rfl, rfl⟩
set_option maxHeartbeats 400000 in
theorem check_ok (v : Option Addr) (n cap : Nat) (B : Int) (h1 : 1 ≤ B) (h2 : B ≤ 64) (h : n ≤ 300) (w : World) :
    Calls Tryz.prog 125 #[.slice v n cap, .int .i64 B] w fun e w' => e = .returned .nilIface ∧ w' = w := by
  have HC := hide (fun w => checkBlock_ok B h1 h2 w)
  go_enter Tryz.func125, Tryz.ntmps125
  go_wp2_with fail
  refine (HC.out _).mono ?_
  rintro e w' ⟨rfl, rfl⟩
  go_wp2_with fail
  go_ret
  exact ⟨rfl, rfl⟩
set_option maxHeartbeats 400000 in
theorem count_any (n B : Nat) (h1 : 1 ≤ B) (h2 : B ≤ 64) (h : n ≤ 300) (w : World) :
    Calls Tryz.prog 139 #[.int .i64 n, .int .i64 B] w fun e w' => e = .returned (.int .i64 (chunks n B : Nat)) ∧ w' = w := by
  have hc : (((n : Int) + (B : Int) - 1) / (B : Int)) = ((chunks n B : Nat) : Int) := by
    unfold chunks; rw [Int.natCast_ediv]; congr 1; omega
  have HC := hide hc
  clear hc
  go_enter Tryz.func139, Tryz.ntmps139
  go_wp2_with fail
  go_ret
  exact ⟨ret_int HC.out, rfl⟩
end Go.Proofs.YtbhccdedcoajmabGreatDoor
