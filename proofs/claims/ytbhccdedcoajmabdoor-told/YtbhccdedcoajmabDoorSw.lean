import Derived.Test.YtbhccdedcoajmabDoorProg
import Derived.Test.YtbhccdedcoajmabDoorMath
import Derived.WalkKit
import Derived.WalkLawsBesides
namespace Go.Proofs.YtbhccdedcoajmabDoor
open Go.RowKit

theorem hide {p : Prop} (h : p) : Hid p := h
theorem ret_int {k : IntKind} {a b : Int} (h : a = b) : Ending.returned (.int k a) = .returned (.int k b) := by rw [h]

set_option maxHeartbeats 400000 in
theorem join_any (a b : Int) (ha0 : 0 ≤ a) (ha1 : a < 65536) (hb0 : 0 ≤ b) (hb1 : b < 65536) (w : World) :
    Calls Tryd.prog 70 #[.int .u16 a, .int .u16 b] w fun e w' => e = .returned (.int .u32 (b * 65536 + a)) ∧ w' = w := by
  go_enter Tryd.func70, Tryd.ntmps70
  go_wp2
  go_ret
  exact ⟨ret_int (or_join a b ⟨ha0, ha1⟩ ⟨hb0, hb1⟩), rfl⟩

set_option maxHeartbeats 400000 in
theorem digest_any (b off cap : Nat) (zs : List Int) (w : World) (hm : zs.length ≤ 70000) (hz : Bytes zs)
    (hc : ∀ k (h : k < zs.length), w.cell? ⟨b, off + k, none⟩ = some (.int .u8 zs[k])) :
    Calls Tryd.prog 14 #[.slice (some ⟨b, off, none⟩) zs.length cap] w fun e w' => e = .returned (.int .u64 (digestOf zs)) ∧ w' = w := by
  obtain ⟨n, hn⟩ : ∃ n, n = zs.length := ⟨_, rfl⟩
  have HN : Hid (n = zs.length) := hn
  rw [← hn] at hm ⊢
  have hc' : ∀ k, k < n → ∃ x, w.cell? ⟨b, off + k, none⟩ = some (.int .u8 x) ∧ 0 ≤ x ∧ x < 256 ∧ digestOf (zs.take (k + 1)) = dstep (digestOf (zs.take k)) x := by
    intro k hk
    have hk' : k < zs.length := by omega
    exact ⟨zs[k], hc k hk', (hz _ (List.getElem_mem hk')).1, (hz _ (List.getElem_mem hk')).2, digestOf_take hk'⟩
  clear hc hz hn
  go_enter Tryd.func14, Tryd.ntmps14
  go_wp2
  go_loop [3, 8] (fun v i => ∃ (k : Nat), k ≤ n ∧ i = .int .i64 k ∧ v = .int .u64 (digestOf (zs.take k))) (fun _ i => n - (intOf i).toNat)
  case atStart => exact ⟨0, Nat.zero_le _, rfl, rfl⟩
  case round =>
    obtain ⟨k, hk, rfl, rfl⟩ := hrel
    by_cases hlt : k < n
    · obtain ⟨x, hcell, hx0, hx1, hs⟩ := hc' k hlt
      have HS := hide hs
      clear hs hc'
      generalize digestOf (zs.take k) = d at *
      go_wp2
      go_round
      case rel => exact ⟨k + 1, by omega, by go_num, by rw [HS.out]; rfl⟩
      case measure => simp [intOf]; omega
    · go_wp2
      go_ret
      exact ⟨ret_int (by rw [List.take_of_length_le (by have := HN.out; omega)]), rfl⟩

set_option maxHeartbeats 400000 in
theorem weak_any (b off cap : Nat) (zs : List Int) (w : World) (hm : zs.length ≤ 70001) (hz : Bytes zs)
    (hc : ∀ k (h : k < zs.length), w.cell? ⟨b, off + k, none⟩ = some (.int .u8 zs[k])) :
    Calls Tryd.prog 66 #[.slice (some ⟨b, off, none⟩) zs.length cap] w fun e w' => e = .returned (.int .u32 (weakOf zs)) ∧ w' = w := by
  obtain ⟨n, hn⟩ : ∃ n, n = zs.length := ⟨_, rfl⟩
  have HN : Hid (n = zs.length) := hn
  rw [← hn] at hm ⊢
  have hc' : ∀ k, k < n → ∃ x, w.cell? ⟨b, off + k, none⟩ = some (.int .u8 x) ∧ 0 ≤ x ∧ x < 256 ∧ sumA (zs.take (k + 1)) = sumA (zs.take k) + x ∧ sumB (zs.take (k + 1)) = sumB (zs.take k) + sumA (zs.take k) + x := by
    intro k hk
    have hk' : k < zs.length := by omega
    exact ⟨zs[k], hc k hk', (hz _ (List.getElem_mem hk')).1, (hz _ (List.getElem_mem hk')).2, sumA_take hk', sumB_take hk'⟩
  clear hc hz hn
  go_enter Tryd.func66, Tryd.ntmps66
  go_wp2
  go_loop [3, 4, 9] (fun a b i => ∃ (k : Nat), k ≤ n ∧ i = .int .i64 k ∧ a = .int .u16 (sumA (zs.take k) % 65536) ∧ b = .int .u16 (sumB (zs.take k) % 65536)) (fun _ _ i => n - (intOf i).toNat)
  case atStart => exact ⟨0, Nat.zero_le _, rfl, rfl, rfl⟩
  case round =>
    obtain ⟨k, hk, rfl, rfl, rfl⟩ := hrel
    by_cases hlt : k < n
    · obtain ⟨x, hcell, hx0, hx1, hs⟩ := hc' k hlt
      have HS := hide hs
      clear hs hc'
      generalize sumA (zs.take k) = A at *
      generalize sumB (zs.take k) = B at *
      go_wp2_with fail
      go_round
      case rel =>
        have hs := HS.out
        exact ⟨k + 1, by omega, by go_num, by rw [hs.1, IntKind.wrap_u16]; congr 1; omega, by rw [hs.2, IntKind.wrap_u16, IntKind.wrap_u16]; congr 1; omega⟩
      case measure => simp [intOf]; omega
    · go_wp2_with fail
      refine (join_any _ _ (by omega) (by omega) (by omega) (by omega) _).mono ?_
      rintro e w' ⟨rfl, rfl⟩
      go_wp2
      go_ret
      exact ⟨ret_int (by rw [List.take_of_length_le (by have := HN.out; omega)]; rfl), rfl⟩

set_option maxHeartbeats 400000 in
theorem weak_nil (w : World) :
    Calls Tryd.prog 66 #[.slice none 0 0] w fun e w' => e = .returned (.int .u32 0) ∧ w' = w := by
  go_enter Tryd.func66, Tryd.ntmps66
  go_wp2
  refine wp_loop_rounds 1 ?_
  rw [rounds_succ]
  go_wp2_with fail
  refine (join_any _ _ (by omega) (by omega) (by omega) (by omega) _).mono ?_
  rintro e w' ⟨rfl, rfl⟩
  go_wp2
  go_ret
  exact ⟨ret_int (by omega), rfl⟩

end Go.Proofs.YtbhccdedcoajmabDoor
