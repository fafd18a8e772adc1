import Derived.Test.YtbhccdedcoajmaaDoorBatch
import Derived.Test.YtbhccdedcoajmaaDoorConv
namespace Go.Proofs.YtbhccdedcoajmaaDoor
open Go.RowKit

def charB (c : Int) : Bool := decide (97 ≤ c ∧ c ≤ 122) || decide (48 ≤ c ∧ c ≤ 57) || decide (c = 46) || decide (c = 47)
theorem charB_iff (c : Int) : charB c = true ↔ (97 ≤ c ∧ c ≤ 122) ∨ (48 ≤ c ∧ c ≤ 57) ∨ c = 46 ∨ c = 47 := by
  simp only [charB, Bool.or_eq_true, decide_eq_true_eq]
  omega
theorem nameB_no {l : List Int} {k : Nat} (h : k < l.length) (hc : charB l[k] = false) : nameB l = false := by
  cases hn : nameB l with
  | false => rfl
  | true =>
    simp only [nameB, Bool.and_eq_true, List.all_eq_true] at hn
    have := hn.2 l[k] (List.getElem_mem h)
    rw [show (decide (97 ≤ l[k] ∧ l[k] ≤ 122) || decide (48 ≤ l[k] ∧ l[k] ≤ 57) || decide (l[k] = 46) || decide (l[k] = 47)) = charB l[k] from rfl, hc] at this
    cases this
theorem nameB_all {l : List Int} (h : ∀ k (hk : k < l.length), charB l[k] = true) : nameB l = (decide (1 ≤ l.length) && decide (l.length ≤ 12)) := by
  have : (l.all fun c => decide (97 ≤ c ∧ c ≤ 122) || decide (48 ≤ c ∧ c ≤ 57) || decide (c = 46) || decide (c = 47)) = true := by
    rw [List.all_eq_true]
    intro x hx
    obtain ⟨k, hk, rfl⟩ := List.getElem_of_mem hx
    exact h k hk
  rw [nameB, this, Bool.and_true]

set_option maxRecDepth 10000 in
set_option maxHeartbeats 1000000 in
theorem named_any (s : ByteArray) (hs : s.size ≤ 70000) (w : World) :
    Calls Tryd.prog 55 #[.string s] w fun e w' => e = .returned (.bool (nameB (nums s))) ∧ w' = w := by
  have HNO : Hid (∀ k (h : k < s.size), charB (s[k].toNat : Int) = false → nameB (nums s) = false) := by
    intro k h hc
    refine nameB_no (k := k) (by rw [nums_length]; exact h) ?_
    rw [nums_at s k h]; exact hc
  have HALL : Hid ((∀ k (h : k < s.size), charB (s[k].toNat : Int) = true) → nameB (nums s) = (decide (1 ≤ s.size) && decide (s.size ≤ 12))) := by
    intro h
    have := nameB_all (l := nums s) (fun k hk => by rw [nums_length] at hk; rw [nums_at s k hk]; exact h k hk)
    rw [nums_length] at this
    exact this
  go_enter Tryd.func55, Tryd.ntmps55
  go_wp2_with fail
  go_loop [3] (fun i => ∃ k : Nat, k ≤ s.size ∧ i = .int .i64 k ∧ Hid (∀ j (h : j < s.size), j < k → charB (s[j].toNat : Int) = true)) (fun i => s.size - (intOf i).toNat)
  case atStart => exact ⟨0, Nat.zero_le _, rfl, fun j _ hj => by omega⟩
  case round =>
    obtain ⟨k, hk, rfl, HA⟩ := hrel
    by_cases hlt : k < s.size
    · have hc := charB_iff (s[k].toNat : Int)
      have HC := hide hc
      have hb := s[k].toNat_lt
      clear hc
      by_cases hA : (s[k].toNat : Int) < 46
      · have hd : ((s[k].toNat : Int) != 46) = true := by simp; omega
        have hd2 : ((s[k].toNat : Int) != 47) = true := by simp; omega
        go_wp2_with fail
        go_ret
        refine ⟨?_, rfl⟩
        rw [HNO.out k hlt (Bool.eq_false_iff.2 fun h => by have := HC.out.1 h; omega)]
        rfl
      by_cases hA : (s[k].toNat : Int) = 46
      · have hd : ((s[k].toNat : Int) != 46) = false := by rw [hA]; rfl
        go_wp2_with fail
        go_round
        case rel =>
          refine ⟨k + 1, by omega, by go_num, fun j h hj => ?_⟩
          rcases Nat.lt_or_ge j k with h' | h'
          · exact HA.out j h h'
          · obtain rfl : j = k := by omega
            exact HC.out.2 (by omega)
        case measure => simp [intOf]; omega
      by_cases hA : (s[k].toNat : Int) = 47
      · have hd : ((s[k].toNat : Int) != 47) = false := by rw [hA]; rfl
        have hd2 : ((s[k].toNat : Int) != 46) = true := by rw [hA]; rfl
        go_wp2_with fail
        go_round
        case rel =>
          refine ⟨k + 1, by omega, by go_num, fun j h hj => ?_⟩
          rcases Nat.lt_or_ge j k with h' | h'
          · exact HA.out j h h'
          · obtain rfl : j = k := by omega
            exact HC.out.2 (by omega)
        case measure => simp [intOf]; omega
      by_cases hA : (s[k].toNat : Int) < 58
      · go_wp2_with fail
        go_round
        case rel =>
          refine ⟨k + 1, by omega, by go_num, fun j h hj => ?_⟩
          rcases Nat.lt_or_ge j k with h' | h'
          · exact HA.out j h h'
          · obtain rfl : j = k := by omega
            exact HC.out.2 (by omega)
        case measure => simp [intOf]; omega
      by_cases hA : (s[k].toNat : Int) < 97
      · have hd : ((s[k].toNat : Int) != 46) = true := by simp; omega
        have hd2 : ((s[k].toNat : Int) != 47) = true := by simp; omega
        go_wp2_with fail
        go_ret
        refine ⟨?_, rfl⟩
        rw [HNO.out k hlt (Bool.eq_false_iff.2 fun h => by have := HC.out.1 h; omega)]
        rfl
      by_cases hA : (s[k].toNat : Int) < 123
      · go_wp2_with fail
        go_round
        case rel =>
          refine ⟨k + 1, by omega, by go_num, fun j h hj => ?_⟩
          rcases Nat.lt_or_ge j k with h' | h'
          · exact HA.out j h h'
          · obtain rfl : j = k := by omega
            exact HC.out.2 (by omega)
        case measure => simp [intOf]; omega
      have hd : ((s[k].toNat : Int) != 46) = true := by simp; omega
      have hd2 : ((s[k].toNat : Int) != 47) = true := by simp; omega
      go_wp2_with fail
      go_ret
      refine ⟨?_, rfl⟩
      rw [HNO.out k hlt (Bool.eq_false_iff.2 fun h => by have := HC.out.1 h; omega)]
      rfl
    · have hkn : k = s.size := by omega
      have HR : Hid (nameB (nums s) = (decide (1 ≤ s.size) && decide (s.size ≤ 12))) := HALL.out fun j h => HA.out j h (by omega)
      clear hkn
      by_cases h1 : 1 ≤ s.size
      · by_cases h2 : s.size ≤ 12
        · go_wp2_with fail
          go_ret
          refine ⟨congrArg (fun x => Ending.returned (Value.bool x)) ?_, rfl⟩
          rw [HR.out, Bool.eq_iff_iff]
          simp
          try omega
        · go_wp2_with fail
          go_ret
          refine ⟨congrArg (fun x => Ending.returned (Value.bool x)) ?_, rfl⟩
          rw [HR.out, Bool.eq_iff_iff]
          simp
          try omega
      · go_wp2_with fail
        go_ret
        refine ⟨congrArg (fun x => Ending.returned (Value.bool x)) ?_, rfl⟩
        rw [HR.out, Bool.eq_iff_iff]
        simp
        try omega
end Go.Proofs.YtbhccdedcoajmaaDoor
