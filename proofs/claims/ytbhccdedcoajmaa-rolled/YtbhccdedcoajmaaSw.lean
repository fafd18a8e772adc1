import Derived.Test.YtbhccdedcoajmaaProg
import Derived.Test.YtbhccdedcoajmaaMath
import Derived.WalkKit
import Derived.WalkLawsBesides
namespace Go.Proofs.Ytbhccdedcoajmaa
open Go.RowKit

theorem hide {p : Prop} (h : p) : Hid p := h
theorem ret_int {k : IntKind} {a b : Int} (h : a = b) : Ending.returned (.int k a) = .returned (.int k b) := by rw [h]

set_option maxHeartbeats 400000 in
theorem join_any (a b : Int) (ha0 : 0 ≤ a) (ha1 : a < 65536) (hb0 : 0 ≤ b) (hb1 : b < 65536) (w : World) :
    Calls Try.prog 18 #[.int .u16 a, .int .u16 b] w fun e w' => e = .returned (.int .u32 (b * 65536 + a)) ∧ w' = w := by
  go_enter Try.func18, Try.ntmps18
  go_wp2
  go_ret
  exact ⟨ret_int (or_join a b ⟨ha0, ha1⟩ ⟨hb0, hb1⟩), rfl⟩

set_option maxHeartbeats 400000 in
theorem digest_any (b off cap : Nat) (zs : List Int) (w : World) (hm : zs.length ≤ 70000) (hz : Bytes zs)
    (hc : ∀ k (h : k < zs.length), w.cell? ⟨b, off + k, none⟩ = some (.int .u8 zs[k])) :
    Calls Try.prog 14 #[.slice (some ⟨b, off, none⟩) zs.length cap] w fun e w' => e = .returned (.int .u64 (digestOf zs)) ∧ w' = w := by
  obtain ⟨n, hn⟩ : ∃ n, n = zs.length := ⟨_, rfl⟩
  have HN : Hid (n = zs.length) := hn
  rw [← hn] at hm ⊢
  have hc' : ∀ k, k < n → ∃ x, w.cell? ⟨b, off + k, none⟩ = some (.int .u8 x) ∧ 0 ≤ x ∧ x < 256 ∧ digestOf (zs.take (k + 1)) = dstep (digestOf (zs.take k)) x := by
    intro k hk
    have hk' : k < zs.length := by omega
    exact ⟨zs[k], hc k hk', (hz _ (List.getElem_mem hk')).1, (hz _ (List.getElem_mem hk')).2, digestOf_take hk'⟩
  clear hc hz hn
  go_enter Try.func14, Try.ntmps14
  go_wp2
  go_loop [3, 8] (fun v i => ∃ (k : Nat), k ≤ n ∧ i = .int .i64 k ∧ v = .int .u64 (digestOf (zs.take k))) (fun _ i => n - (intOf i).toNat)
  case atStart => exact ⟨0, Nat.zero_le _, rfl, rfl⟩
  case round =>
    obtain ⟨k, hk, rfl, rfl⟩ := hrel
    by_cases hlt : k < n
    · obtain ⟨x, hcell, hx0, hx1, hs⟩ := hc' k hlt
      have HS := hide hs
      clear hs hc'
      generalize digestOf (zs.take k) = d at *
      go_wp2
      go_round
      case rel => exact ⟨k + 1, by omega, by go_num, by rw [HS.out]; rfl⟩
      case measure => simp [intOf]; omega
    · go_wp2
      go_ret
      exact ⟨ret_int (by rw [List.take_of_length_le (by have := HN.out; omega)]), rfl⟩

set_option maxHeartbeats 400000 in
theorem weak_any (b off cap : Nat) (zs : List Int) (w : World) (hm : zs.length ≤ 70001) (hz : Bytes zs)
    (hc : ∀ k (h : k < zs.length), w.cell? ⟨b, off + k, none⟩ = some (.int .u8 zs[k])) :
    Calls Try.prog 15 #[.slice (some ⟨b, off, none⟩) zs.length cap] w fun e w' => e = .returned (.int .u32 (weakOf zs)) ∧ w' = w := by
  obtain ⟨n, hn⟩ : ∃ n, n = zs.length := ⟨_, rfl⟩
  have HN : Hid (n = zs.length) := hn
  rw [← hn] at hm ⊢
  have hc' : ∀ k, k < n → ∃ x, w.cell? ⟨b, off + k, none⟩ = some (.int .u8 x) ∧ 0 ≤ x ∧ x < 256 ∧ sumA (zs.take (k + 1)) = sumA (zs.take k) + x ∧ sumB (zs.take (k + 1)) = sumB (zs.take k) + sumA (zs.take k) + x := by
    intro k hk
    have hk' : k < zs.length := by omega
    exact ⟨zs[k], hc k hk', (hz _ (List.getElem_mem hk')).1, (hz _ (List.getElem_mem hk')).2, sumA_take hk', sumB_take hk'⟩
  clear hc hz hn
  go_enter Try.func15, Try.ntmps15
  go_wp2
  go_loop [3, 4, 9] (fun a b i => ∃ (k : Nat), k ≤ n ∧ i = .int .i64 k ∧ a = .int .u16 (sumA (zs.take k) % 65536) ∧ b = .int .u16 (sumB (zs.take k) % 65536)) (fun _ _ i => n - (intOf i).toNat)
  case atStart => exact ⟨0, Nat.zero_le _, rfl, rfl, rfl⟩
  case round =>
    obtain ⟨k, hk, rfl, rfl, rfl⟩ := hrel
    by_cases hlt : k < n
    · obtain ⟨x, hcell, hx0, hx1, hs⟩ := hc' k hlt
      have HS := hide hs
      clear hs hc'
      generalize sumA (zs.take k) = A at *
      generalize sumB (zs.take k) = B at *
      go_wp2_with fail
      go_round
      case rel =>
        have hs := HS.out
        exact ⟨k + 1, by omega, by go_num, by rw [hs.1, IntKind.wrap_u16]; congr 1; omega, by rw [hs.2, IntKind.wrap_u16, IntKind.wrap_u16]; congr 1; omega⟩
      case measure => simp [intOf]; omega
    · go_wp2_with fail
      refine (join_any _ _ (by omega) (by omega) (by omega) (by omega) _).mono ?_
      rintro e w' ⟨rfl, rfl⟩
      go_wp2
      go_ret
      exact ⟨ret_int (by rw [List.take_of_length_le (by have := HN.out; omega)]; rfl), rfl⟩

set_option maxHeartbeats 400000 in
theorem weak_nil (w : World) :
    Calls Try.prog 15 #[.slice none 0 0] w fun e w' => e = .returned (.int .u32 0) ∧ w' = w := by
  go_enter Try.func15, Try.ntmps15
  go_wp2
  refine wp_loop_rounds 1 ?_
  rw [rounds_succ]
  go_wp2_with fail
  refine (join_any _ _ (by omega) (by omega) (by omega) (by omega) _).mono ?_
  rintro e w' ⟨rfl, rfl⟩
  go_wp2
  go_ret
  exact ⟨ret_int (by omega), rfl⟩

set_option maxHeartbeats 400000 in
theorem rdigest_any (s : ByteArray) (hm : s.size ≤ 70000) (w : World) :
    Calls Try.prog 10 #[.string s] w fun e w' => e = .returned (.int .u64 (digestOf (nums s))) ∧ w' = w := by
  have hc' : ∀ k (h : k < s.size), digestOf ((nums s).take (k + 1)) = dstep (digestOf ((nums s).take k)) (s[k].toNat : Int) := by
    intro k h; rw [← nums_at s k h]; exact digestOf_take (by rw [nums_length]; exact h)
  have HC := hide hc'
  clear hc'
  go_enter Try.func10, Try.ntmps10
  go_wp2
  go_loop [3, 4] (fun v i => ∃ (k : Nat), k ≤ s.size ∧ i = .int .i64 k ∧ v = .int .u64 (digestOf ((nums s).take k))) (fun _ i => s.size - (intOf i).toNat)
  case atStart => exact ⟨0, Nat.zero_le _, rfl, rfl⟩
  case round =>
    obtain ⟨k, hk, rfl, rfl⟩ := hrel
    by_cases hlt : k < s.size
    · have HS := hide (HC.out k hlt)
      have hx := s[k].toNat_lt
      generalize digestOf ((nums s).take k) = d at *
      go_wp2
      go_round
      case rel => exact ⟨k + 1, by omega, by go_num, by rw [HS.out]; rfl⟩
      case measure => simp [intOf]; omega
    · go_wp2
      go_ret
      exact ⟨ret_int (by rw [List.take_of_length_le (by rw [nums_length]; omega)]), rfl⟩

set_option maxHeartbeats 400000 in
theorem rweak_any (s : ByteArray) (hm : s.size ≤ 70000) (w : World) :
    Calls Try.prog 11 #[.string s] w fun e w' => e = .returned (.int .u32 (weakOf (nums s))) ∧ w' = w := by
  have hc' : ∀ k (h : k < s.size), sumA ((nums s).take (k + 1)) = sumA ((nums s).take k) + (s[k].toNat : Int) ∧ sumB ((nums s).take (k + 1)) = sumB ((nums s).take k) + sumA ((nums s).take k) + (s[k].toNat : Int) := by
    intro k h; rw [← nums_at s k h]; exact ⟨sumA_take (by rw [nums_length]; exact h), sumB_take (by rw [nums_length]; exact h)⟩
  have HC := hide hc'
  clear hc'
  have HF : Hid ((nums s).take s.size = nums s) := List.take_of_length_le (by rw [nums_length]; omega)
  go_enter Try.func11, Try.ntmps11
  go_wp2
  go_loop [3, 4, 5] (fun a b i => ∃ (k : Nat) (A B : Int), k ≤ s.size ∧ i = .int .i64 k ∧ a = .int .i64 A ∧ b = .int .i64 B ∧ 0 ≤ A ∧ A ≤ 255 * k ∧ 0 ≤ B ∧ B ≤ 17850000 * k ∧ Hid (A = sumA ((nums s).take k)) ∧ Hid (B = sumB ((nums s).take k) + ((s.size : Int) - k) * sumA ((nums s).take k))) (fun _ _ i => s.size - (intOf i).toNat)
  case atStart => exact ⟨0, 0, 0, Nat.zero_le _, rfl, rfl, rfl, by omega, by omega, by omega, by omega, rfl, by simp [sumA, sumB, Hid]⟩
  case round =>
    obtain ⟨k, A, B, hk, rfl, rfl, rfl, hA0, hA1, hB0, hB1, EA, EB⟩ := hrel
    by_cases hlt : k < s.size
    · have HS := hide (HC.out k hlt)
      have hx := s[k].toNat_lt
      have hp0 : (0 : Int) ≤ ((s.size : Int) - (k : Int)) * (s[k].toNat : Int) := Int.mul_nonneg (by omega) (by omega)
      have hp1 : ((s.size : Int) - (k : Int)) * (s[k].toNat : Int) ≤ 17850000 := by
        have := Int.mul_le_mul (show (s.size : Int) - (k : Int) ≤ 70000 by omega) (show (s[k].toNat : Int) ≤ 255 by omega) (by omega) (by omega)
        omega
      go_wp2
      go_round
      case rel =>
        have hs := HS.out
        have ea := EA.out
        have eb := EB.out
        refine ⟨k + 1, _, _, by omega, by go_num, rfl, rfl, by omega, by omega, by omega, by omega, ?_, ?_⟩
        · show _ = _; rw [hs.1, ea]
        · show _ = _; rw [hs.1, hs.2, eb]
          have := ref_step s.size k (sumA ((nums s).take k)) (sumB ((nums s).take k)) (s[k].toNat : Int)
          rw [show (((k + 1 : Nat) : Int)) = (k : Int) + 1 by omega]
          omega
      case measure => simp [intOf]; omega
    · obtain rfl : k = s.size := by omega
      have ea := EA.out
      have eb := EB.out
      rw [HF.out] at ea eb
      have EW : Hid (B % 65536 * 65536 + A % 65536 = weakOf (nums s)) := by
        show _ = _; rw [show B = sumB (nums s) by rw [eb]; omega, ea]; rfl
      clear ea eb
      go_wp2
      go_ret
      exact ⟨ret_int EW.out, rfl⟩

end Go.Proofs.Ytbhccdedcoajmaa
