import Derived.Test.YtbhccdedcoajmaaRoomy
import Derived.Test.YtbhccdedcoajmaaSx
namespace Go.Proofs.Ytbhccdedcoajmaa
open Go.RowKit

set_option maxHeartbeats 400000 in
theorem sums_great (s : ByteArray) (hs : 65536 < s.size) (hm : s.size ≤ maxLen) (a1 a2 a3 a4 : Int) (w : World) :
    Calls Try.prog 3 #[.string s, .int .i64 a1, .int .i64 a2, .int .i64 a3, .int .i64 a4] w fun e w' => e = .returned (.bool true) ∧ Below w.heap.size w w' := by
  unfold maxLen at hm
  go_enter Try.func3, Try.ntmps3
  go_wp2_with fail
  go_ret
  exact ⟨rfl, Below.refl _ _⟩

set_option maxHeartbeats 400000 in
theorem sums_small (s : ByteArray) (hs : s.size ≤ 65536) (a1 a2 a3 a4 : Int) (h20 : -9223372036854775808 ≤ a2) (h21 : a2 ≤ 9223372036854775807) (w : World) :
    Calls Try.prog 3 #[.string s, .int .i64 a1, .int .i64 a2, .int .i64 a3, .int .i64 a4] w fun e w' => e = .returned (.bool true) ∧ Below w.heap.size w w' := by
  go_enter Try.func3, Try.ntmps3
  go_wp2_with fail
  refine (roomy_any s (by omega) _).mono ?_
  rintro e w1 ⟨rfl, hg, hb⟩
  have HG := hide hg
  have HB := hide hb
  clear hg hb
  have HD := mDigest_any w.heap.size 0 (s.size + 2) (nums s) w1 (by rw [nums_length]; omega) (nums_bytes s) (row_cells HG.out)
  have HW := mWeak_any w.heap.size 0 (s.size + 2) (nums s) w1 (by rw [nums_length]; omega) (nums_bytes s) (row_cells HG.out)
  rw [nums_length] at HD HW
  have HST := still_any s (by omega) w.heap.size w1 HG.out
  have u1 : 0 ≤ IntKind.u32.wrap a1 ∧ IntKind.u32.wrap a1 < 4294967296 := by rw [IntKind.wrap_u32]; omega
  have u3 : 0 ≤ IntKind.u8.wrap a3 ∧ IntKind.u8.wrap a3 < 256 := by rw [IntKind.wrap_u8']; omega
  have u4 : 0 ≤ IntKind.u8.wrap a4 ∧ IntKind.u8.wrap a4 < 256 := by rw [IntKind.wrap_u8']; omega
  have HD' := hide HD
  have HW' := hide HW
  have HST' := hide HST
  clear HD HW HST
  go_wp2_with fail
  refine HD'.out.mono ?_
  rintro e w' ⟨rfl, rfl⟩
  go_wp2_with fail
  refine HW'.out.mono ?_
  rintro e w' ⟨rfl, rfl⟩
  go_wp2_with fail
  refine (mRoll_any _ _ _ _ u1.1 u1.2 u3.1 u3.2 u4.1 u4.2 _).mono ?_
  rintro e w' ⟨rfl, rfl⟩
  go_wp2_with fail
  refine HST'.out.mono ?_
  rintro e w' ⟨rfl, rfl⟩
  go_wp2_with fail
  refine (rdigest_any s (by omega) _).mono ?_
  rintro e w' ⟨rfl, rfl⟩
  go_wp2_with fail
  refine (rweak_any s (by omega) _).mono ?_
  rintro e w' ⟨rfl, rfl⟩
  go_wp2_with fail
  refine (rroll_any _ _ _ _ u1.1 u1.2 u3.1 u3.2 u4.1 u4.2 h20 h21 _).mono ?_
  rintro e w' ⟨rfl, rfl⟩
  go_wp2_with fail
  go_ret
  exact ⟨rfl, HB.out⟩
end Go.Proofs.Ytbhccdedcoajmaa
