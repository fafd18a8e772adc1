import Derived.Test.YtbhccdedcoajmaaDoorTreeL
namespace Go.Proofs.YtbhccdedcoajmaaDoor
open Go.RowKit

set_option maxRecDepth 10000 in
set_option maxHeartbeats 6000000 in
theorem rtree_any (v : Value) (fs : List (ByteArray × ByteArray)) (w : World) (hl : fs.length ≤ 70000) (hsz : ∀ p ∈ fs, p.1.size ≤ 70000 ∧ p.2.size ≤ 70000) (hF : Fl w v fs) :
    Calls Tryd.prog 42 #[v] w fun e w' => ((e = .returned (.tuple #[.bool true, .string ⟨#[]⟩]) ∧ ∀ i, i < fs.length → OkAt fs i) ∨ ∃ i, ∃ hi : i < fs.length, (∀ j, j < i → OkAt fs j) ∧ ¬ OkAt fs i ∧ e = .returned (.tuple #[.bool false, .string fs[i].1])) ∧ Below w.heap.size w w' := by
  obtain ⟨va, cap, rfl, hcap, hcell⟩ := hF
  have HC : Hid (∀ k, k < fs.length → ∃ (g : Nat) (a p b : ByteArray), va = some ⟨g, 0, none⟩ ∧ g < w.heap.size ∧ w.cell? ⟨g, k * 2, none⟩ = some (.string a) ∧ w.cell? ⟨g, k * 2 + 1, none⟩ = some (.string b) ∧ (0 < k → w.cell? ⟨g, (k - 1) * 2, none⟩ = some (.string p)) ∧ a.size ≤ 70000 ∧ b.size ≤ 70000 ∧ (OkAt fs k ↔ nameB (nums a) = true ∧ (0 < k → ltL (nums p) (nums a) = true) ∧ b.size ≤ 300 ∧ k < 8) ∧
      (∀ e : Ending, e = .returned (.tuple #[.bool false, .string a]) → (∀ j, j < k → OkAt fs j) → ¬ OkAt fs k → ∃ i, ∃ hi : i < fs.length, (∀ j, j < i → OkAt fs j) ∧ ¬ OkAt fs i ∧ e = .returned (.tuple #[.bool false, .string fs[i].1]))) := by
    intro k hk
    obtain ⟨g, e, hg, c0, c1⟩ := hcell k hk
    have hz := hsz _ (List.getElem_mem hk)
    refine ⟨g, fs[k].1, (fs[k - 1]'(by omega)).1, fs[k].2, e, hg, c0, c1, fun h0 => ?_, hz.1, hz.2, ⟨fun ⟨_, h⟩ => h, fun h => ⟨hk, h⟩⟩, fun e he h1 h2 => ⟨k, hk, h1, h2, he⟩⟩
    obtain ⟨g', e', _, c0', _⟩ := hcell (k - 1) (by omega)
    rw [e] at e'
    obtain rfl : g = g' := by simpa using e'
    exact c0'
  clear hcell hsz
  go_enter Tryd.func42, Tryd.ntmps42
  go_wp2_with fail
  go_loopw [4] (fun i wr => ∃ k : Nat, k ≤ fs.length ∧ i = .int .i64 k ∧ Hid (∀ j, j < k → OkAt fs j) ∧ Hid (Below w.heap.size w wr)) (fun i _ => fs.length - (intOf i).toNat)
  case atStart => exact ⟨0, Nat.zero_le _, rfl, (fun j hj => by omega), Below.refl _ _⟩
  case round =>
    obtain ⟨k, hk, rfl, HA, HBr⟩ := hrel
    by_cases hlt : k < fs.length
    · obtain ⟨g, a, p, b, rfl, hg, c0, c1, cp, ha, hb, hok, hbad⟩ := HC.out k hlt
      have d0 := (HBr.out.cell (p := ⟨g, k * 2, none⟩) hg).trans c0
      have d1 := (HBr.out.cell (p := ⟨g, k * 2 + 1, none⟩) hg).trans c1
      have HDP : Hid (0 < k → wr.cell? ⟨g, (k - 1) * 2, none⟩ = some (.string p)) := fun h => (HBr.out.cell (p := ⟨g, (k - 1) * 2, none⟩) hg).trans (cp h)
      have HOK := hide hok
      have HBAD := hide hbad
      have hgt := text_gtr a p
      have HGT := hide hgt
      have HNEXT : Hid (OkAt fs k → ∀ j, j < k + 1 → OkAt fs j) := by
        intro h j hj
        rcases Nat.lt_or_ge j k with h' | h'
        · exact HA.out j h'
        · obtain rfl : j = k := by omega
          exact h
      clear c0 c1 cp hok hbad hgt
      go_wp2_with fail
      refine (named_any a ha wr).mono ?_
      rintro e w1 ⟨rfl, hw1⟩
      obtain rfl := hw1.symm
      cases hnb : nameB (nums a) with
      | false =>
        have HNB := hide hnb
        clear hnb
        go_wp2_with fail
        go_quiet (fail)
        go_wp2_with fail
        go_quiet (fail)
        go_wp2_with fail
        go_ret2
        exact ⟨.inr (HBAD.out _ rfl HA.out (fun h => by obtain ⟨h1, h2, h3, h4⟩ := HOK.out.1 h; rw [HNB.out] at h1; cases h1)), below_drewN (below_drewN HBr.out _) _⟩
      | true =>
        have HNB := hide hnb
        clear hnb
        by_cases hs : b.size ≤ 300
        · have hs1 : decide ((300 : Int) < (b.size : Int)) = false := decide_eq_false (by omega)
          by_cases hk0 : 0 < k
          · have dp := HDP.out hk0
            have hk1 : IntKind.i64.wrap ((k : Int) - 1) = ((k - 1 : Nat) : Int) := by rw [IntKind.wrap_i64] <;> omega
            have hk2 : (0 : Int) < (k : Int) := by omega
            have hk5 : decide ((0 : Int) < (k : Int)) = true := decide_eq_true hk2
            have hkl : k - 1 < fs.length := by omega
            cases hx : Op.bytesLess a.toList p.toList with
            | true =>
              have HX : Hid (ltL (nums p) (nums a) = false) := by rw [← HGT.out, hx]; rfl
              go_wp2_with fail
              go_quiet (fail)
              go_wp2_with fail
              go_quiet (fail)
              go_wp2_with fail
              go_ret2
              exact ⟨.inr (HBAD.out _ rfl HA.out (fun h => by obtain ⟨h1, h2, h3, h4⟩ := HOK.out.1 h; have := h2 hk0; rw [HX.out] at this; cases this)), below_drewN (below_drewN HBr.out _) _⟩
            | false =>
              cases hy : a.toList == p.toList with
              | true =>
                have HX : Hid (ltL (nums p) (nums a) = false) := by rw [← HGT.out, hx, hy]; rfl
                go_wp2_with fail
                go_quiet (fail)
                go_wp2_with fail
                go_quiet (fail)
                go_wp2_with fail
                go_ret2
                exact ⟨.inr (HBAD.out _ rfl HA.out (fun h => by obtain ⟨h1, h2, h3, h4⟩ := HOK.out.1 h; have := h2 hk0; rw [HX.out] at this; cases this)), below_drewN (below_drewN HBr.out _) _⟩
              | false =>
                have HX : Hid (ltL (nums p) (nums a) = true) := by rw [← HGT.out, hx, hy]; rfl
                by_cases h8 : k < 8
                · have h81 : decide ((8 : Int) ≤ (k : Int)) = false := decide_eq_false (by omega)
                  have h82 : (k : Int) < 8 := by omega
                  go_wp2_with fail
                  go_quiet (fail)
                  go_wp2_with fail
                  go_roundw
                  case rel => exact ⟨k + 1, by omega, by go_num, HNEXT.out (HOK.out.2 ⟨HNB.out, fun _ => HX.out, hs, h8⟩), below_drewN HBr.out _⟩
                  case measure => simp [intOf]; omega
                · have h81 : decide ((8 : Int) ≤ (k : Int)) = true := decide_eq_true (by omega)
                  have h82 : 8 ≤ (k : Int) := by omega
                  go_wp2_with fail
                  go_quiet (fail)
                  go_wp2_with fail
                  go_quiet (fail)
                  go_wp2_with fail
                  go_ret2
                  exact ⟨.inr (HBAD.out _ rfl HA.out (fun h => by obtain ⟨h1, h2, h3, h4⟩ := HOK.out.1 h; omega)), below_drewN (below_drewN HBr.out _) _⟩
          · obtain rfl : k = 0 := by omega
            rw [Nat.zero_mul] at d0
            rw [Nat.zero_mul, Nat.zero_add] at d1
            clear hk0
            go_wp2_with fail
            go_quiet (fail)
            go_wp2_with fail
            go_roundw
            case rel => exact ⟨0 + 1, by omega, by go_num, HNEXT.out (HOK.out.2 ⟨HNB.out, fun h => absurd h (Nat.lt_irrefl 0), hs, by omega⟩), below_drewN HBr.out _⟩
            case measure => simp [intOf]; omega
        · have hs1 : decide ((300 : Int) < (b.size : Int)) = true := decide_eq_true (by omega)
          by_cases hk0 : 0 < k
          · have dp := HDP.out hk0
            have hk1 : IntKind.i64.wrap ((k : Int) - 1) = ((k - 1 : Nat) : Int) := by rw [IntKind.wrap_i64] <;> omega
            have hk2 : (0 : Int) < (k : Int) := by omega
            have hk5 : decide ((0 : Int) < (k : Int)) = true := decide_eq_true hk2
            have hkl : k - 1 < fs.length := by omega
            cases hx : Op.bytesLess a.toList p.toList with
            | true =>
              have HX : Hid (ltL (nums p) (nums a) = false) := by rw [← HGT.out, hx]; rfl
              go_wp2_with fail
              go_quiet (fail)
              go_wp2_with fail
              go_quiet (fail)
              go_wp2_with fail
              go_ret2
              exact ⟨.inr (HBAD.out _ rfl HA.out (fun h => by obtain ⟨h1, h2, h3, h4⟩ := HOK.out.1 h; have := h2 hk0; rw [HX.out] at this; cases this)), below_drewN (below_drewN HBr.out _) _⟩
            | false =>
              cases hy : a.toList == p.toList with
              | true =>
                have HX : Hid (ltL (nums p) (nums a) = false) := by rw [← HGT.out, hx, hy]; rfl
                go_wp2_with fail
                go_quiet (fail)
                go_wp2_with fail
                go_quiet (fail)
                go_wp2_with fail
                go_ret2
                exact ⟨.inr (HBAD.out _ rfl HA.out (fun h => by obtain ⟨h1, h2, h3, h4⟩ := HOK.out.1 h; have := h2 hk0; rw [HX.out] at this; cases this)), below_drewN (below_drewN HBr.out _) _⟩
              | false =>
                have HX : Hid (ltL (nums p) (nums a) = true) := by rw [← HGT.out, hx, hy]; rfl
                go_wp2_with fail
                go_quiet (fail)
                go_wp2_with fail
                go_quiet (fail)
                go_wp2_with fail
                go_ret2
                exact ⟨.inr (HBAD.out _ rfl HA.out (fun h => by obtain ⟨h1, h2, h3, h4⟩ := HOK.out.1 h; omega)), below_drewN (below_drewN HBr.out _) _⟩
          · obtain rfl : k = 0 := by omega
            rw [Nat.zero_mul] at d0
            rw [Nat.zero_mul, Nat.zero_add] at d1
            clear hk0
            go_wp2_with fail
            go_quiet (fail)
            go_wp2_with fail
            go_quiet (fail)
            go_wp2_with fail
            go_ret2
            exact ⟨.inr (HBAD.out _ rfl HA.out (fun h => by obtain ⟨h1, h2, h3, h4⟩ := HOK.out.1 h; omega)), below_drewN (below_drewN HBr.out _) _⟩
    · have hkn : k = fs.length := by omega
      go_wp2_with fail
      go_ret2
      exact ⟨.inl ⟨rfl, fun i hi => HA.out i (by omega)⟩, HBr.out⟩
end Go.Proofs.YtbhccdedcoajmaaDoor
