import Derived.Test.YtbhccdedcoajmabGreatDoorRFindM
namespace Go.Proofs.YtbhccdedcoajmabGreatDoor
open Go.RowKit

set_option maxRecDepth 10000 in
set_option maxHeartbeats 1000000 in
theorem isSign_any (c : Int) (h0 : 0 ≤ c) (h1 : c ≤ 255) (w : World) :
    Calls Tryz.prog 128 #[.int .u8 c] w fun e w' => e = .returned (.bool (charB c)) ∧ w' = w := by
  have HC := hide (charB_iff c)
  by_cases hA : c < 46
  · have hd : (c == 46) = false := by simp; omega
    have hd2 : (c == 47) = false := by simp; omega
    have HV : Hid (charB c = false) := Bool.eq_false_iff.2 fun h => by have := HC.out.1 h; omega
    go_enter Tryz.func128, Tryz.ntmps128
    go_wp2_with fail
    go_ret
    exact ⟨by rw [HV.out]; first | done | rfl, rfl⟩
  by_cases hB : c = 46
  · subst hB
    have HV : Hid (charB 46 = true) := HC.out.2 (by omega)
    go_enter Tryz.func128, Tryz.ntmps128
    go_wp2_with fail
    go_ret
    exact ⟨by rw [HV.out]; first | done | rfl, rfl⟩
  by_cases hC : c = 47
  · subst hC
    have HV : Hid (charB 47 = true) := HC.out.2 (by omega)
    go_enter Tryz.func128, Tryz.ntmps128
    go_wp2_with fail
    go_ret
    exact ⟨by rw [HV.out]; first | done | rfl, rfl⟩
  by_cases hD : c ≤ 57
  · have hd : (c == 46) = false := by simp; omega
    have hd2 : (c == 47) = false := by simp; omega
    have HV : Hid (charB c = true) := HC.out.2 (by omega)
    go_enter Tryz.func128, Tryz.ntmps128
    go_wp2_with fail
    go_ret
    exact ⟨by rw [HV.out]; first | done | rfl, rfl⟩
  by_cases hE : c < 97
  · have hd : (c == 46) = false := by simp; omega
    have hd2 : (c == 47) = false := by simp; omega
    have HV : Hid (charB c = false) := Bool.eq_false_iff.2 fun h => by have := HC.out.1 h; omega
    go_enter Tryz.func128, Tryz.ntmps128
    go_wp2_with fail
    go_ret
    exact ⟨by rw [HV.out]; first | done | rfl, rfl⟩
  by_cases hF : c ≤ 122
  · have hd : (c == 46) = false := by simp; omega
    have hd2 : (c == 47) = false := by simp; omega
    have HV : Hid (charB c = true) := HC.out.2 (by omega)
    go_enter Tryz.func128, Tryz.ntmps128
    go_wp2_with fail
    go_ret
    exact ⟨by rw [HV.out]; first | done | rfl, rfl⟩
  have hd : (c == 46) = false := by simp; omega
  have hd2 : (c == 47) = false := by simp; omega
  have HV : Hid (charB c = false) := Bool.eq_false_iff.2 fun h => by have := HC.out.1 h; omega
  go_enter Tryz.func128, Tryz.ntmps128
  go_wp2_with fail
  go_ret
  exact ⟨by rw [HV.out]; first | done | rfl, rfl⟩

set_option maxRecDepth 10000 in
set_option maxHeartbeats 1000000 in
theorem isName_any (s : ByteArray) (hs : s.size ≤ 70000) (w : World) :
    Calls Tryz.prog 98 #[.string s] w fun e w' => e = .returned (.bool (nameB (nums s))) ∧ w' = w := by
  by_cases hz : s.size < 1 ∨ 12 < s.size
  · have HV : Hid (nameB (nums s) = false) := Bool.eq_false_iff.2 fun h => by have := nameB_size h; rw [nums_length] at this; omega
    rcases hz with hz | hz
    all_goals
      go_enter Tryz.func98, Tryz.ntmps98
      go_wp2_with fail
      go_ret
      exact ⟨by rw [HV.out]; first | done | rfl, rfl⟩
  · have hz1 : 1 ≤ s.size := by omega
    have hz2 : s.size ≤ 12 := by omega
    clear hz
    have HNO : Hid (∀ k (h : k < s.size), charB (s[k].toNat : Int) = false → nameB (nums s) = false) := by
      intro k h hc
      refine nameB_no (k := k) (by rw [nums_length]; exact h) ?_
      rw [nums_at s k h]; exact hc
    have HALL : Hid ((∀ k (h : k < s.size), charB (s[k].toNat : Int) = true) → nameB (nums s) = true) := by
      intro h
      have := nameB_all (l := nums s) (fun k hk => by rw [nums_length] at hk; rw [nums_at s k hk]; exact h k hk)
      rw [nums_length] at this
      rw [this]
      simp; omega
    have HSIGN : Hid (∀ k (h : k < s.size) W, Calls Tryz.prog 128 #[.int .u8 (s[k].toNat : Int)] W fun e w' => e = .returned (.bool (charB (s[k].toNat : Int))) ∧ w' = W) := fun k h W => isSign_any _ (by omega) (by have := s[k].toNat_lt; omega) W
    go_enter Tryz.func98, Tryz.ntmps98
    go_wp2_with fail
    go_loop [14] (fun i => ∃ k : Nat, k ≤ s.size ∧ i = .int .i64 k ∧ Hid (∀ j (h : j < s.size), j < k → charB (s[j].toNat : Int) = true)) (fun i => s.size - (intOf i).toNat)
    case atStart => exact ⟨0, Nat.zero_le _, rfl, fun j _ hj => by omega⟩
    case round =>
      obtain ⟨k, hk, rfl, HA⟩ := hrel
      by_cases hlt : k < s.size
      · go_wp2_with fail
        refine (HSIGN.out k hlt _).mono ?_
        rintro e w1 ⟨rfl, hw1⟩
        obtain rfl := hw1.symm
        cases hc : charB (s[k].toNat : Int) with
        | false =>
          have HN := hide (HNO.out k hlt hc)
          go_wp2_with fail
          go_ret
          exact ⟨by rw [HN.out]; first | done | rfl, rfl⟩
        | true =>
          have HX := hide hc
          clear hc
          go_wp2_with fail
          go_round
          case rel =>
            refine ⟨k + 1, by omega, by go_num, fun j h hj => ?_⟩
            rcases Nat.lt_or_ge j k with h' | h'
            · exact HA.out j h h'
            · obtain rfl : j = k := by omega
              exact HX.out
          case measure => simp [intOf]; omega
      · have HR : Hid (nameB (nums s) = true) := HALL.out fun j h => HA.out j h (by omega)
        go_wp2_with fail
        go_ret
        exact ⟨by rw [HR.out]; first | done | rfl, rfl⟩

set_option maxRecDepth 10000 in
set_option maxHeartbeats 1000000 in
theorem follows_any (l t : ByteArray) (z : Nat) (ht : t.size ≤ 70000) (hz : z ≤ 70000) (w : World) :
    Calls Tryz.prog 59 #[.string l, .string t, .int .i64 z] w fun e w' => e = .returned (.bool (nameB (nums t) && ltL (nums l) (nums t) && decide (z ≤ 300))) ∧ w' = w := by
  have HN := hide (fun W => isName_any t ht W)
  have HG := hide (text_gtr t l)
  go_enter Tryz.func59, Tryz.ntmps59
  go_wp2_with fail
  refine (HN.out _).mono ?_
  rintro e w1 ⟨rfl, hw1⟩
  obtain rfl := hw1.symm
  cases hnb : nameB (nums t) with
  | false =>
    have HNB := hide hnb
    clear hnb
    go_wp2_with fail
    go_ret
    exact ⟨by simp [HNB.out], rfl⟩
  | true =>
    have HNB := hide hnb
    clear hnb
    cases hx : Op.bytesLess t.toList l.toList with
    | true =>
      have HX : Hid (ltL (nums l) (nums t) = false) := by rw [← HG.out, hx]; rfl
      go_wp2_with fail
      go_ret
      exact ⟨by simp [HNB.out, HX.out], rfl⟩
    | false =>
      cases hy : t.toList == l.toList with
      | true =>
        have HX : Hid (ltL (nums l) (nums t) = false) := by rw [← HG.out, hx, hy]; rfl
        go_wp2_with fail
        go_ret
        exact ⟨by simp [HNB.out, HX.out], rfl⟩
      | false =>
        have HX : Hid (ltL (nums l) (nums t) = true) := by rw [← HG.out, hx, hy]; rfl
        by_cases h3 : z ≤ 300
        · have h31 : (z : Int) ≤ 300 := by omega
          go_wp2_with fail
          go_ret
          exact ⟨by simp [HNB.out, HX.out]; try omega, rfl⟩
        · have h31 : 300 < (z : Int) := by omega
          go_wp2_with fail
          go_ret
          exact ⟨by simp [HNB.out, HX.out]; omega, rfl⟩

set_option maxRecDepth 10000 in
set_option maxHeartbeats 2000000 in
theorem tcheck_any (v : Value) (fs : List (ByteArray × ByteArray)) (w : World) (_hl : fs.length ≤ 70000) (hsz : ∀ p ∈ fs, p.1.size ≤ 70000 ∧ p.2.size ≤ 70000) (hF : Af w v fs) :
    Calls Tryz.prog 36 #[v] w fun e w' => ((e = .returned .nilIface ∧ TreeOk fs) ∨ ∃ i b, ∃ h : BadAt fs i, e = .returned (.iface 69 (.pointer (some ⟨b, 0, none⟩))) ∧ w'.cell? ⟨b, 0, none⟩ = some (.string (fs[i]'h.1).1) ∧ w'.cell? ⟨b, 1, none⟩ = some (.int .i64 4)) ∧ Below w.heap.size w w' := by
  obtain ⟨va, cap, rfl, hcap, hcell⟩ := hF
  have HC : Hid (∀ k, k < fs.length → ∃ (g : Nat) (a : ByteArray) (b cp z : Nat), va = some ⟨g, 0, none⟩ ∧ g < w.heap.size ∧ w.cell? ⟨g, k * 2, none⟩ = some (.string a) ∧ w.cell? ⟨g, k * 2 + 1, none⟩ = some (.slice (some ⟨b, 0, none⟩) z cp) ∧ z ≤ cp ∧ a.size ≤ 70000 ∧ z ≤ 70000 ∧ (OkAt fs k ↔ (nameB (nums a) && ltL (nums (aheadOf fs k)) (nums a) && decide (z ≤ 300)) = true ∧ k < 8) ∧ aheadOf fs (k + 1) = a ∧
      (∀ (e : Ending) (w' : World) (p : Nat), e = .returned (.iface 69 (.pointer (some ⟨p, 0, none⟩))) → w'.cell? ⟨p, 0, none⟩ = some (.string a) → w'.cell? ⟨p, 1, none⟩ = some (.int .i64 4) → (∀ j, j < k → OkAt fs j) → ¬ OkAt fs k → ∃ i b, ∃ h : BadAt fs i, e = .returned (.iface 69 (.pointer (some ⟨b, 0, none⟩))) ∧ w'.cell? ⟨b, 0, none⟩ = some (.string (fs[i]'h.1).1) ∧ w'.cell? ⟨b, 1, none⟩ = some (.int .i64 4))) := by
    intro k hk
    obtain ⟨g, b, cp, e, hg, c0, c1, _, hcp, _⟩ := hcell k hk
    have hz := hsz _ (List.getElem_mem hk)
    exact ⟨g, fs[k].1, b, cp, fs[k].2.size, e, hg, c0, c1, hcp, hz.1, hz.2, okAt_iff hk, aheadOf_succ hk, fun e w' p he h0 h1 ha hb => ⟨k, p, ⟨hk, ha, hb⟩, he, h0, h1⟩⟩
  clear hcell hsz
  generalize hn : fs.length = n at *
  have HN := hide hn
  clear hn
  go_enter Tryz.func36, Tryz.ntmps36
  go_wp2_with fail
  go_loopw [3, 8] (fun a i wr => ∃ k : Nat, k ≤ n ∧ i = .int .i64 k ∧ a = .string (aheadOf fs k) ∧ Hid (∀ j, j < k → OkAt fs j) ∧ Hid (Below w.heap.size w wr)) (fun _ i _ => n - (intOf i).toNat)
  case atStart => exact ⟨0, Nat.zero_le _, rfl, rfl, (fun j hj => by omega), Below.refl _ _⟩
  case round =>
    obtain ⟨k, hk, rfl, rfl, HA, HBr⟩ := hrel
    by_cases hlt : k < n
    · obtain ⟨g, a, b, cp, z, rfl, hg, c0, c1, hcp, ha, hz, hok, hahead, hbad⟩ := HC.out k hlt
      have d0 := (HBr.out.cell (p := ⟨g, k * 2, none⟩) hg).trans c0
      have d1 := (HBr.out.cell (p := ⟨g, k * 2 + 1, none⟩) hg).trans c1
      have HOK := hide hok
      have HAH := hide hahead
      have HBAD := hide hbad
      have HFO := hide (fun W => follows_any (aheadOf fs k) a z ha hz W)
      have HNEXT : Hid (OkAt fs k → ∀ j, j < k + 1 → OkAt fs j) := by
        intro h j hj
        rcases Nat.lt_or_ge j k with h' | h'
        · exact HA.out j h'
        · obtain rfl : j = k := by omega
          exact h
      clear c0 c1 hok hahead hbad
      generalize aheadOf fs k = l at *
      have HB1 : Hid (∀ o, Below w.heap.size w (wr.alloc o)) := fun o => HBr.out.alloc HBr.out.size _
      go_wp2_with fail
      refine (HFO.out _).mono ?_
      rintro e w1 ⟨rfl, hw1⟩
      obtain rfl := hw1.symm
      cases hb : (nameB (nums a) && ltL (nums l) (nums a) && decide (z ≤ 300)) with
      | false =>
        have HNO : Hid (¬ OkAt fs k) := fun h => by rw [(HOK.out.1 h).1] at hb; cases hb
        clear hb
        go_wp2_with fail
        go_ret
        exact ⟨.inr (HBAD.out _ _ _ rfl (by simp) (by simp) HA.out HNO.out), (HB1.out _).alloc (HB1.out _).size _⟩
      | true =>
        by_cases h8 : k < 8
        · have h81 : (k : Int) < 8 := by omega
          have HY : Hid (OkAt fs k) := HOK.out.2 ⟨hb, h8⟩
          clear hb
          go_wp2_with fail
          go_roundw
          case rel => exact ⟨k + 1, by omega, by go_num, by rw [HAH.out], HNEXT.out HY.out, HB1.out _⟩
          case measure => simp [intOf]; omega
        · have h81 : 8 ≤ (k : Int) := by omega
          have HNO : Hid (¬ OkAt fs k) := fun h => by have := (HOK.out.1 h).2; omega
          clear hb
          go_wp2_with fail
          go_ret
          exact ⟨.inr (HBAD.out _ _ _ rfl (by simp) (by simp) HA.out HNO.out), (HB1.out _).alloc (HB1.out _).size _⟩
    · have hkn : k = n := by omega
      go_wp2_with fail
      go_ret
      exact ⟨.inl ⟨rfl, fun i hi => HA.out i (by rw [HN.out] at hi; omega)⟩, HBr.out⟩
end Go.Proofs.YtbhccdedcoajmabGreatDoor
