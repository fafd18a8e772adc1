import Derived.Test.YtbhccdedcoajmaaSw
namespace Go.Proofs.Ytbhccdedcoajmaa
open Go.RowKit

set_option maxHeartbeats 400000 in
theorem split_any (x : Int) (h0 : 0 ≤ x) (h1 : x < 4294967296) (w : World) :
    Calls Try.prog 19 #[.int .u32 x] w fun e w' => e = .returned (.tuple #[.int .u16 (x % 65536), .int .u16 (x / 65536)]) ∧ w' = w := by
  go_enter Try.func19, Try.ntmps19
  go_wp2
  go_ret2
  refine ⟨?_, rfl⟩
  show Ending.returned (.tuple #[.int .u16 (IntKind.u16.wrap x), .int .u16 (x / 65536)]) = _
  rw [IntKind.wrap_u16]

set_option maxHeartbeats 400000 in
theorem roll_any (x n o i : Int) (h0 : 0 ≤ x) (h1 : x < 4294967296) (ho0 : 0 ≤ o) (ho1 : o < 256) (hi0 : 0 ≤ i) (hi1 : i < 256) (w : World) :
    Calls Try.prog 16 #[.int .u32 x, .int .i64 n, .int .u8 o, .int .u8 i] w fun e w' => e = .returned (.int .u32 (rollOf x n o i)) ∧ w' = w := by
  go_enter Try.func16, Try.ntmps16
  go_wp2_with fail
  refine (split_any _ (by omega) (by omega) _).mono ?_
  rintro e w' ⟨rfl, rfl⟩
  go_wp2_with fail
  rw [roll_a, roll_b]
  have ha := rollA_bd x o i
  have hb := rollB_bd x n o i
  refine (join_any _ _ ha.1 ha.2 hb.1 hb.2 _).mono ?_
  rintro e w' ⟨rfl, rfl⟩
  go_wp2
  go_ret
  exact ⟨rfl, rfl⟩

set_option maxHeartbeats 400000 in
theorem mod_any (v : Int) (_h0 : -9223372036854775808 ≤ v) (_h1 : v ≤ 9223372036854775807) (w : World) :
    Calls Try.prog 17 #[.int .i64 v] w fun e w' => e = .returned (.int .i64 (v % 65536)) ∧ w' = w := by
  have hb := tmod_bd v
  by_cases h : v.tmod 65536 < 0
  · go_enter Try.func17, Try.ntmps17
    go_wp2
    go_ret
    exact ⟨ret_int (tmod_neg v h), rfl⟩
  · go_enter Try.func17, Try.ntmps17
    go_wp2
    go_ret
    exact ⟨ret_int (tmod_pos v (by omega)), rfl⟩

set_option maxHeartbeats 400000 in
theorem rroll_any (x n o i : Int) (h0 : 0 ≤ x) (h1 : x < 4294967296) (ho0 : 0 ≤ o) (ho1 : o < 256) (hi0 : 0 ≤ i) (hi1 : i < 256) (hn0 : -9223372036854775808 ≤ n) (hn1 : n ≤ 9223372036854775807) (w : World) :
    Calls Try.prog 12 #[.int .u32 x, .int .i64 n, .int .u8 o, .int .u8 i] w fun e w' => e = .returned (.int .u32 (rollOf x n o i)) ∧ w' = w := by
  have hm0 : 0 ≤ n % 65536 * o := Int.mul_nonneg (by omega) ho0
  have hm1 : n % 65536 * o ≤ 16777216 := by
    have := Int.mul_le_mul (show n % 65536 ≤ 65536 by omega) (show o ≤ 256 by omega) (by omega) (by omega)
    omega
  have ha := rollA_bd x o i
  have hb := rollB_bd x n o i
  go_enter Try.func12, Try.ntmps12
  go_wp2_with fail
  refine (mod_any _ (by omega) (by omega) _).mono ?_
  rintro e w' ⟨rfl, rfl⟩
  rw [ref_a]
  go_wp2_with fail
  refine (mod_any _ (by omega) (by omega) _).mono ?_
  rintro e w' ⟨rfl, rfl⟩
  go_wp2_with fail
  refine (mod_any _ (by omega) (by omega) _).mono ?_
  rintro e w' ⟨rfl, rfl⟩
  go_wp2_with fail
  refine (mod_any _ (by omega) (by omega) _).mono ?_
  rintro e w' ⟨rfl, rfl⟩
  rw [ref_b]
  go_wp2_with fail
  go_ret
  exact ⟨rfl, rfl⟩

set_option maxHeartbeats 400000 in
theorem mDigest_any (b off cap : Nat) (zs : List Int) (w : World) (hm : zs.length ≤ 70000) (hz : Bytes zs)
    (hc : ∀ k (h : k < zs.length), w.cell? ⟨b, off + k, none⟩ = some (.int .u8 zs[k])) :
    Calls Try.prog 6 #[.slice (some ⟨b, off, none⟩) zs.length cap] w fun e w' => e = .returned (.int .u64 (digestOf zs)) ∧ w' = w := by
  have H := digest_any b off cap zs w hm hz hc
  clear hc hz
  go_enter Try.func6, Try.ntmps6
  go_wp2_with fail
  refine H.mono ?_
  rintro e w' ⟨rfl, rfl⟩
  go_wp2_with fail
  go_ret
  exact ⟨rfl, rfl⟩

set_option maxHeartbeats 400000 in
theorem mWeak_any (b off cap : Nat) (zs : List Int) (w : World) (hm : zs.length ≤ 70001) (hz : Bytes zs)
    (hc : ∀ k (h : k < zs.length), w.cell? ⟨b, off + k, none⟩ = some (.int .u8 zs[k])) :
    Calls Try.prog 7 #[.slice (some ⟨b, off, none⟩) zs.length cap] w fun e w' => e = .returned (.int .u32 (weakOf zs)) ∧ w' = w := by
  have H := weak_any b off cap zs w hm hz hc
  clear hc hz
  go_enter Try.func7, Try.ntmps7
  go_wp2_with fail
  refine H.mono ?_
  rintro e w' ⟨rfl, rfl⟩
  go_wp2_with fail
  go_ret
  exact ⟨rfl, rfl⟩

set_option maxHeartbeats 400000 in
theorem mWeak_nil (w : World) :
    Calls Try.prog 7 #[.slice none 0 0] w fun e w' => e = .returned (.int .u32 0) ∧ w' = w := by
  go_enter Try.func7, Try.ntmps7
  go_wp2_with fail
  refine (weak_nil _).mono ?_
  rintro e w' ⟨rfl, rfl⟩
  go_wp2_with fail
  go_ret
  exact ⟨rfl, rfl⟩

set_option maxHeartbeats 400000 in
theorem mRoll_any (x n o i : Int) (h0 : 0 ≤ x) (h1 : x < 4294967296) (ho0 : 0 ≤ o) (ho1 : o < 256) (hi0 : 0 ≤ i) (hi1 : i < 256) (w : World) :
    Calls Try.prog 8 #[.int .u32 x, .int .i64 n, .int .u8 o, .int .u8 i] w fun e w' => e = .returned (.int .u32 (rollOf x n o i)) ∧ w' = w := by
  go_enter Try.func8, Try.ntmps8
  go_wp2_with fail
  refine (roll_any _ _ _ _ h0 h1 ho0 ho1 hi0 hi1 _).mono ?_
  rintro e w' ⟨rfl, rfl⟩
  go_wp2_with fail
  go_ret
  exact ⟨rfl, rfl⟩
end Go.Proofs.Ytbhccdedcoajmaa
