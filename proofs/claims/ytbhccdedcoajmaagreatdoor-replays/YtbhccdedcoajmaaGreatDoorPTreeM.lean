import Derived.Test.YtbhccdedcoajmaaGreatDoorDiffAM
namespace Go.Proofs.YtbhccdedcoajmaaGreatDoor
open Go.RowKit

set_option maxRecDepth 10000 in
set_option maxHeartbeats 1000000 in
theorem isSign_any (c : Int) (h0 : 0 ≤ c) (h1 : c ≤ 255) (w : World) :
    Calls Tryz.prog 150 #[.int .u8 c] w fun e w' => e = .returned (.bool (charB c)) ∧ w' = w := by
  have HC := hide (charB_iff c)
  by_cases hA : c < 46
  · have hd : (c == 46) = false := by simp; omega
    have hd2 : (c == 47) = false := by simp; omega
    have HV : Hid (charB c = false) := Bool.eq_false_iff.2 fun h => by have := HC.out.1 h; omega
    go_enter Tryz.func150, Tryz.ntmps150
    go_wp2_with fail
    go_ret
    exact ⟨by rw [HV.out]; first | done | rfl, rfl⟩
  by_cases hB : c = 46
  · subst hB
    have HV : Hid (charB 46 = true) := HC.out.2 (by omega)
    go_enter Tryz.func150, Tryz.ntmps150
    go_wp2_with fail
    go_ret
    exact ⟨by rw [HV.out]; first | done | rfl, rfl⟩
  by_cases hC : c = 47
  · subst hC
    have HV : Hid (charB 47 = true) := HC.out.2 (by omega)
    go_enter Tryz.func150, Tryz.ntmps150
    go_wp2_with fail
    go_ret
    exact ⟨by rw [HV.out]; first | done | rfl, rfl⟩
  by_cases hD : c ≤ 57
  · have hd : (c == 46) = false := by simp; omega
    have hd2 : (c == 47) = false := by simp; omega
    have HV : Hid (charB c = true) := HC.out.2 (by omega)
    go_enter Tryz.func150, Tryz.ntmps150
    go_wp2_with fail
    go_ret
    exact ⟨by rw [HV.out]; first | done | rfl, rfl⟩
  by_cases hE : c < 97
  · have hd : (c == 46) = false := by simp; omega
    have hd2 : (c == 47) = false := by simp; omega
    have HV : Hid (charB c = false) := Bool.eq_false_iff.2 fun h => by have := HC.out.1 h; omega
    go_enter Tryz.func150, Tryz.ntmps150
    go_wp2_with fail
    go_ret
    exact ⟨by rw [HV.out]; first | done | rfl, rfl⟩
  by_cases hF : c ≤ 122
  · have hd : (c == 46) = false := by simp; omega
    have hd2 : (c == 47) = false := by simp; omega
    have HV : Hid (charB c = true) := HC.out.2 (by omega)
    go_enter Tryz.func150, Tryz.ntmps150
    go_wp2_with fail
    go_ret
    exact ⟨by rw [HV.out]; first | done | rfl, rfl⟩
  have hd : (c == 46) = false := by simp; omega
  have hd2 : (c == 47) = false := by simp; omega
  have HV : Hid (charB c = false) := Bool.eq_false_iff.2 fun h => by have := HC.out.1 h; omega
  go_enter Tryz.func150, Tryz.ntmps150
  go_wp2_with fail
  go_ret
  exact ⟨by rw [HV.out]; first | done | rfl, rfl⟩

set_option maxRecDepth 10000 in
set_option maxHeartbeats 1000000 in
theorem isName_any (s : ByteArray) (hs : s.size ≤ 70000) (w : World) :
    Calls Tryz.prog 125 #[.string s] w fun e w' => e = .returned (.bool (nameB (nums s))) ∧ w' = w := by
  by_cases hz : s.size < 1 ∨ 12 < s.size
  · have HV : Hid (nameB (nums s) = false) := Bool.eq_false_iff.2 fun h => by have := nameB_size h; rw [nums_length] at this; omega
    rcases hz with hz | hz
    all_goals
      go_enter Tryz.func125, Tryz.ntmps125
      go_wp2_with fail
      go_ret
      exact ⟨by rw [HV.out]; first | done | rfl, rfl⟩
  · have hz1 : 1 ≤ s.size := by omega
    have hz2 : s.size ≤ 12 := by omega
    clear hz
    have HNO : Hid (∀ k (h : k < s.size), charB (s[k].toNat : Int) = false → nameB (nums s) = false) := by
      intro k h hc
      refine nameB_no (k := k) (by rw [nums_length]; exact h) ?_
      rw [nums_at s k h]; exact hc
    have HALL : Hid ((∀ k (h : k < s.size), charB (s[k].toNat : Int) = true) → nameB (nums s) = true) := by
      intro h
      have := nameB_all (l := nums s) (fun k hk => by rw [nums_length] at hk; rw [nums_at s k hk]; exact h k hk)
      rw [nums_length] at this
      rw [this]
      simp; omega
    have HSIGN : Hid (∀ k (h : k < s.size) W, Calls Tryz.prog 150 #[.int .u8 (s[k].toNat : Int)] W fun e w' => e = .returned (.bool (charB (s[k].toNat : Int))) ∧ w' = W) := fun k h W => isSign_any _ (by omega) (by have := s[k].toNat_lt; omega) W
    go_enter Tryz.func125, Tryz.ntmps125
    go_wp2_with fail
    go_loop [14] (fun i => ∃ k : Nat, k ≤ s.size ∧ i = .int .i64 k ∧ Hid (∀ j (h : j < s.size), j < k → charB (s[j].toNat : Int) = true)) (fun i => s.size - (intOf i).toNat)
    case atStart => exact ⟨0, Nat.zero_le _, rfl, fun j _ hj => by omega⟩
    case round =>
      obtain ⟨k, hk, rfl, HA⟩ := hrel
      by_cases hlt : k < s.size
      · go_wp2_with fail
        refine (HSIGN.out k hlt _).mono ?_
        rintro e w1 ⟨rfl, hw1⟩
        obtain rfl := hw1.symm
        cases hc : charB (s[k].toNat : Int) with
        | false =>
          have HN := hide (HNO.out k hlt hc)
          go_wp2_with fail
          go_ret
          exact ⟨by rw [HN.out]; first | done | rfl, rfl⟩
        | true =>
          have HX := hide hc
          clear hc
          go_wp2_with fail
          go_round
          case rel =>
            refine ⟨k + 1, by omega, by go_num, fun j h hj => ?_⟩
            rcases Nat.lt_or_ge j k with h' | h'
            · exact HA.out j h h'
            · obtain rfl : j = k := by omega
              exact HX.out
          case measure => simp [intOf]; omega
      · have HR : Hid (nameB (nums s) = true) := HALL.out fun j h => HA.out j h (by omega)
        go_wp2_with fail
        go_ret
        exact ⟨by rw [HR.out]; first | done | rfl, rfl⟩

set_option maxRecDepth 10000 in
set_option maxHeartbeats 1000000 in
theorem follows_any (l t : ByteArray) (z : Nat) (ht : t.size ≤ 70000) (hz : z ≤ 70000) (w : World) :
    Calls Tryz.prog 84 #[.string l, .string t, .int .i64 z] w fun e w' => e = .returned (.bool (nameB (nums t) && ltL (nums l) (nums t) && decide (z ≤ 300))) ∧ w' = w := by
  have HN := hide (fun W => isName_any t ht W)
  have HG := hide (text_gtr t l)
  go_enter Tryz.func84, Tryz.ntmps84
  go_wp2_with fail
  refine (HN.out _).mono ?_
  rintro e w1 ⟨rfl, hw1⟩
  obtain rfl := hw1.symm
  cases hnb : nameB (nums t) with
  | false =>
    have HNB := hide hnb
    clear hnb
    go_wp2_with fail
    go_ret
    exact ⟨by simp [HNB.out], rfl⟩
  | true =>
    have HNB := hide hnb
    clear hnb
    cases hx : Op.bytesLess t.toList l.toList with
    | true =>
      have HX : Hid (ltL (nums l) (nums t) = false) := by rw [← HG.out, hx]; rfl
      go_wp2_with fail
      go_ret
      exact ⟨by simp [HNB.out, HX.out], rfl⟩
    | false =>
      cases hy : t.toList == l.toList with
      | true =>
        have HX : Hid (ltL (nums l) (nums t) = false) := by rw [← HG.out, hx, hy]; rfl
        go_wp2_with fail
        go_ret
        exact ⟨by simp [HNB.out, HX.out], rfl⟩
      | false =>
        have HX : Hid (ltL (nums l) (nums t) = true) := by rw [← HG.out, hx, hy]; rfl
        by_cases h3 : z ≤ 300
        · have h31 : (z : Int) ≤ 300 := by omega
          go_wp2_with fail
          go_ret
          exact ⟨by simp [HNB.out, HX.out]; try omega, rfl⟩
        · have h31 : 300 < (z : Int) := by omega
          go_wp2_with fail
          go_ret
          exact ⟨by simp [HNB.out, HX.out]; omega, rfl⟩

set_option maxRecDepth 10000 in
set_option maxHeartbeats 2000000 in
theorem tcheck_any (v : Value) (fs : List (ByteArray × ByteArray)) (w : World) (_hl : fs.length ≤ 70000) (hsz : ∀ p ∈ fs, p.1.size ≤ 70000 ∧ p.2.size ≤ 70000) (hF : Af w v fs) :
    Calls Tryz.prog 58 #[v] w fun e w' => ((e = .returned .nilIface ∧ TreeOk fs) ∨ ∃ i b, ∃ h : BadAt fs i, e = .returned (.iface 123 (.pointer (some ⟨b, 0, none⟩))) ∧ w'.cell? ⟨b, 0, none⟩ = some (.string (fs[i]'h.1).1) ∧ w'.cell? ⟨b, 1, none⟩ = some (.int .i64 4)) ∧ Below w.heap.size w w' := by
  obtain ⟨va, cap, rfl, hcap, hcell⟩ := hF
  have HC : Hid (∀ k, k < fs.length → ∃ (g : Nat) (a : ByteArray) (b cp z : Nat), va = some ⟨g, 0, none⟩ ∧ g < w.heap.size ∧ w.cell? ⟨g, k * 2, none⟩ = some (.string a) ∧ w.cell? ⟨g, k * 2 + 1, none⟩ = some (.slice (some ⟨b, 0, none⟩) z cp) ∧ z ≤ cp ∧ a.size ≤ 70000 ∧ z ≤ 70000 ∧ (OkAt fs k ↔ (nameB (nums a) && ltL (nums (aheadOf fs k)) (nums a) && decide (z ≤ 300)) = true ∧ k < 8) ∧ aheadOf fs (k + 1) = a ∧
      (∀ (e : Ending) (w' : World) (p : Nat), e = .returned (.iface 123 (.pointer (some ⟨p, 0, none⟩))) → w'.cell? ⟨p, 0, none⟩ = some (.string a) → w'.cell? ⟨p, 1, none⟩ = some (.int .i64 4) → (∀ j, j < k → OkAt fs j) → ¬ OkAt fs k → ∃ i b, ∃ h : BadAt fs i, e = .returned (.iface 123 (.pointer (some ⟨b, 0, none⟩))) ∧ w'.cell? ⟨b, 0, none⟩ = some (.string (fs[i]'h.1).1) ∧ w'.cell? ⟨b, 1, none⟩ = some (.int .i64 4))) := by
    intro k hk
    obtain ⟨g, b, cp, e, hg, c0, c1, _, hcp, _⟩ := hcell k hk
    have hz := hsz _ (List.getElem_mem hk)
    exact ⟨g, fs[k].1, b, cp, fs[k].2.size, e, hg, c0, c1, hcp, hz.1, hz.2, okAt_iff hk, aheadOf_succ hk, fun e w' p he h0 h1 ha hb => ⟨k, p, ⟨hk, ha, hb⟩, he, h0, h1⟩⟩
  clear hcell hsz
  generalize hn : fs.length = n at *
  have HN := hide hn
  clear hn
  go_enter Tryz.func58, Tryz.ntmps58
  go_wp2_with fail
  go_loopw [3, 8] (fun a i wr => ∃ k : Nat, k ≤ n ∧ i = .int .i64 k ∧ a = .string (aheadOf fs k) ∧ Hid (∀ j, j < k → OkAt fs j) ∧ Hid (Below w.heap.size w wr)) (fun _ i _ => n - (intOf i).toNat)
  case atStart => exact ⟨0, Nat.zero_le _, rfl, rfl, (fun j hj => by omega), Below.refl _ _⟩
  case round =>
    obtain ⟨k, hk, rfl, rfl, HA, HBr⟩ := hrel
    by_cases hlt : k < n
    · obtain ⟨g, a, b, cp, z, rfl, hg, c0, c1, hcp, ha, hz, hok, hahead, hbad⟩ := HC.out k hlt
      have d0 := (HBr.out.cell (p := ⟨g, k * 2, none⟩) hg).trans c0
      have d1 := (HBr.out.cell (p := ⟨g, k * 2 + 1, none⟩) hg).trans c1
      have HOK := hide hok
      have HAH := hide hahead
      have HBAD := hide hbad
      have HFO := hide (fun W => follows_any (aheadOf fs k) a z ha hz W)
      have HNEXT : Hid (OkAt fs k → ∀ j, j < k + 1 → OkAt fs j) := by
        intro h j hj
        rcases Nat.lt_or_ge j k with h' | h'
        · exact HA.out j h'
        · obtain rfl : j = k := by omega
          exact h
      clear c0 c1 hok hahead hbad
      generalize aheadOf fs k = l at *
      have HB1 : Hid (∀ o, Below w.heap.size w (wr.alloc o)) := fun o => HBr.out.alloc HBr.out.size _
      go_wp2_with fail
      refine (HFO.out _).mono ?_
      rintro e w1 ⟨rfl, hw1⟩
      obtain rfl := hw1.symm
      cases hb : (nameB (nums a) && ltL (nums l) (nums a) && decide (z ≤ 300)) with
      | false =>
        have HNO : Hid (¬ OkAt fs k) := fun h => by rw [(HOK.out.1 h).1] at hb; cases hb
        clear hb
        go_wp2_with fail
        go_ret
        exact ⟨.inr (HBAD.out _ _ _ rfl (by simp) (by simp) HA.out HNO.out), (HB1.out _).alloc (HB1.out _).size _⟩
      | true =>
        by_cases h8 : k < 8
        · have h81 : (k : Int) < 8 := by omega
          have HY : Hid (OkAt fs k) := HOK.out.2 ⟨hb, h8⟩
          clear hb
          go_wp2_with fail
          go_roundw
          case rel => exact ⟨k + 1, by omega, by go_num, by rw [HAH.out], HNEXT.out HY.out, HB1.out _⟩
          case measure => simp [intOf]; omega
        · have h81 : 8 ≤ (k : Int) := by omega
          have HNO : Hid (¬ OkAt fs k) := fun h => by have := (HOK.out.1 h).2; omega
          clear hb
          go_wp2_with fail
          go_ret
          exact ⟨.inr (HBAD.out _ _ _ rfl (by simp) (by simp) HA.out HNO.out), (HB1.out _).alloc (HB1.out _).size _⟩
    · have hkn : k = n := by omega
      go_wp2_with fail
      go_ret
      exact ⟨.inl ⟨rfl, fun i hi => HA.out i (by rw [HN.out] at hi; omega)⟩, HBr.out⟩
end Go.Proofs.YtbhccdedcoajmaaGreatDoor
namespace Go.Proofs.YtbhccdedcoajmaaGreatDoor
open Go.RowKit

theorem num_at {s : ByteArray} {q n : Nat} (h : q + n ≤ s.size) : numP n ((nums s).drop q) = some (getN (((nums s).drop q).take n), (nums s).drop (q + n)) := by
  have hl := nums_length s
  unfold numP
  rw [if_neg (by rw [List.length_drop]; omega), List.drop_drop]
theorem num_no {s : ByteArray} {q n : Nat} (h : s.size < q + n) (hq : q ≤ s.size) : numP n ((nums s).drop q) = none := by
  have hl := nums_length s
  unfold numP
  rw [if_pos (by rw [List.length_drop]; omega)]
theorem txt_at {s : ByteArray} {q n : Nat} (h : q + n ≤ s.size) : txtP n ((nums s).drop q) = some (((nums s).drop q).take n, (nums s).drop (q + n)) := by
  have hl := nums_length s
  unfold txtP
  rw [if_neg (by rw [List.length_drop]; omega), List.drop_drop]
theorem txt_no {s : ByteArray} {q n : Nat} (h : s.size < q + n) (hq : q ≤ s.size) : txtP n ((nums s).drop q) = none := by
  have hl := nums_length s
  unfold txtP
  rw [if_pos (by rw [List.length_drop]; omega)]

/-- the program's reads of an entry, as one -/
theorem pentry_sem {s : ByteArray} {ok ok1 ok2 ok3 ok4 ok5 : Bool} {p p1 p2 p3 p5 m : Nat} {last nm : List Int} {sz dg : Int} (hp : p ≤ s.size)
    (S1 : Step s ok p 1 p1 ok1) (v1 : ok1 = true → (m : Int) = getN (((nums s).drop p).take 1)) (S2 : Step s ok1 p1 m p2 ok2) (v2 : ok2 = true → nm = ((nums s).drop p1).take m)
    (S3 : Step s ok2 p2 2 p3 ok3) (v3 : ok3 = true → sz = getN (((nums s).drop p2).take 2)) (h4 : ok4 = (ok3 && (nameB nm && ltL last nm && decide (sz ≤ 300)))) (S5 : Step s ok4 p3 8 p5 ok5) (v5 : ok5 = true → dg = getN (((nums s).drop p3).take 8)) :
    (ok5 = true → ok = true ∧ entryP false last ((nums s).drop p) = some (⟨nm, sz, dg⟩, (nums s).drop p5)) ∧ (ok5 = false → ok = false ∨ entryP false last ((nums s).drop p) = none) := by
  unfold entryP
  rcases S1 with ⟨rfl, a1, rfl, rfl⟩ | ⟨rfl, rfl, a1⟩
  · rw [num_at a1, ← v1 rfl]
    simp only [Option.bind_eq_bind, Option.bind_some, Int.toNat_natCast, Bool.false_or]
    rcases S2 with ⟨_, a2, rfl, rfl⟩ | ⟨rfl, rfl, a2⟩
    · rw [txt_at a2, ← v2 rfl]
      simp only [Option.bind_some]
      rcases S3 with ⟨_, a3, rfl, rfl⟩ | ⟨rfl, rfl, a3⟩
      · rw [num_at a3, ← v3 rfl]
        simp only [Option.bind_some]
        rw [Bool.true_and] at h4
        by_cases hn : (nameB nm && ltL last nm) = true
        · rw [if_pos hn]
          rw [hn, Bool.true_and] at h4
          by_cases hz : sz ≤ 300
          · rw [if_pos hz]
            rw [decide_eq_true hz] at h4
            subst h4
            rcases S5 with ⟨_, a5, rfl, rfl⟩ | ⟨rfl, rfl, a5⟩
            · rw [num_at a5, ← v5 rfl]
              first | exact ⟨fun _ => ⟨rfl, rfl⟩, fun h => (by cases h)⟩ | simp
            · rw [num_no (by simpa using a5) (by omega)]
              exact ⟨fun h => (by cases h), fun _ => .inr rfl⟩
          · rw [if_neg hz]
            rw [decide_eq_false hz] at h4
            subst h4
            rcases S5 with ⟨h, _⟩ | ⟨rfl, _⟩
            · cases h
            · exact ⟨fun h => (by cases h), fun _ => .inr rfl⟩
        · rw [if_neg hn]
          rw [Bool.eq_false_iff.2 hn, Bool.false_and] at h4
          subst h4
          rcases S5 with ⟨h, _⟩ | ⟨rfl, _⟩
          · cases h
          · exact ⟨fun h => (by cases h), fun _ => .inr rfl⟩
      · rw [Bool.false_and] at h4
        subst h4
        rw [num_no (by simpa using a3) (by omega)]
        rcases S5 with ⟨h, _⟩ | ⟨rfl, _⟩
        · cases h
        · exact ⟨fun h => (by cases h), fun _ => .inr (by split <;> rfl)⟩
    · have e3 : ok3 = false := by
        rcases S3 with ⟨h, _⟩ | ⟨h, _⟩
        · cases h
        · exact h
      subst e3
      rw [Bool.false_and] at h4
      subst h4
      rw [txt_no (by simpa using a2) (by omega)]
      rcases S5 with ⟨h, _⟩ | ⟨rfl, _⟩
      · cases h
      · exact ⟨fun h => (by cases h), fun _ => .inr rfl⟩
  · have e2 : ok2 = false := by
      rcases S2 with ⟨h, _⟩ | ⟨h, _⟩
      · cases h
      · exact h
    subst e2
    have e3 : ok3 = false := by
      rcases S3 with ⟨h, _⟩ | ⟨h, _⟩
      · cases h
      · exact h
    subst e3
    rw [Bool.false_and] at h4
    subst h4
    have e5 : ok5 = false := by
      rcases S5 with ⟨h, _⟩ | ⟨h, _⟩
      · cases h
      · exact h
    subst e5
    refine ⟨fun h => (by cases h), fun _ => ?_⟩
    rcases a1 with rfl | a1
    · exact .inl rfl
    · right
      rw [num_no a1 hp]
      rfl

theorem conv_zero (va : Option Addr) (W : World) : (convert 38 9 (.slice va 0 0)).run Tryz.prog W = .ok (.string ⟨#[]⟩) W := by
  cases va with
  | none => exact Tryz.convNil W
  | some a => exact run_convert_bytes_back (P := Tryz.prog) W 38 9 5 a 0 [] Tryz.underlying38 Tryz.underlying5 Tryz.underlying9 (fun j hj => by simp at hj)
/-- the text of bytes that were taken -/
theorem conv_take {s : ByteArray} {b p n m : Nat} {va : Option Addr} {ok' : Bool} {W : World} (hp : ok' = true → p + n ≤ s.size) (hyes : ok' = true → m = n ∧ (0 < n → va = some ⟨b, p, none⟩)) (hno : ok' = false → m = 0 ∧ va = none) (hc : ∀ k (h : k < s.size), W.cell? ⟨b, k, none⟩ = some (.int .u8 (s[k].toNat : Int))) :
    ∃ t : ByteArray, (convert 38 9 (.slice va m m)).run Tryz.prog W = .ok (.string t) W ∧ t.size ≤ n ∧ (ok' = true → nums t = ((nums s).drop p).take n) := by
  cases ok' with
  | false =>
    obtain ⟨rfl, rfl⟩ := hno rfl
    exact ⟨⟨#[]⟩, conv_zero _ _, Nat.zero_le _, fun h => by cases h⟩
  | true =>
    obtain ⟨rfl, hva⟩ := hyes rfl
    have hfit := hp rfl
    by_cases h0 : m = 0
    · subst h0
      exact ⟨⟨#[]⟩, conv_zero _ _, Nat.le_refl _, fun _ => by simp [nums_empty]⟩
    · obtain rfl := hva (by omega)
      have hl : (((nums s).drop p).take m).length = m := by rw [List.length_take, List.length_drop, nums_length]; omega
      have := conv_cells b p m (((nums s).drop p).take m) W (((nums_bytes s).drop p).take m) (fun k h => by
        rw [hl] at h
        rw [List.getElem_take, List.getElem_drop, nums_at s (p + k) (by omega)]
        exact hc (p + k) (by omega))
      rw [hl] at this
      exact ⟨_, this, by rw [bytesOf_size, hl]; exact Nat.le_refl _, fun _ => nums_bytesOf (((nums_bytes s).drop p).take m)⟩

/-- what reading an entry leaves -/
def EntQ (w : World) (r b cap : Nat) (s : ByteArray) (ok : Bool) (p : Nat) (last t : ByteArray) (z : Nat) (dg : Int) (w' : World) : Prop :=
  ∃ (p' : Nat) (ok' : Bool), PRd w' r b cap s p' ok' ∧ p' ≤ s.size ∧ t.size ≤ 255 ∧ z ≤ 65535 ∧ 0 ≤ dg ∧ dg < 18446744073709551616 ∧ (ok' = true → ok = true ∧ entryP false (nums last) ((nums s).drop p) = some (⟨nums t, z, dg⟩, (nums s).drop p')) ∧ (ok' = false → ok = false ∨ entryP false (nums last) ((nums s).drop p) = none) ∧ w.grownBy w' (some r)

theorem cells_grow {s : ByteArray} {b r : Nat} {w W : World} (hbr : b ≠ r) (hg : w.grownBy W (some r)) (hc : ∀ k (h : k < (nums s).length), w.cell? ⟨b, 0 + k, none⟩ = some (.int .u8 (nums s)[k])) : ∀ k (h : k < (nums s).length), W.cell? ⟨b, 0 + k, none⟩ = some (.int .u8 (nums s)[k]) := fun k h => hg.cell (hc k h) (by simp; exact hbr)
theorem cells_plain {s : ByteArray} {b : Nat} {W : World} (hc : ∀ k (h : k < (nums s).length), W.cell? ⟨b, 0 + k, none⟩ = some (.int .u8 (nums s)[k])) : ∀ k (h : k < s.size), W.cell? ⟨b, k, none⟩ = some (.int .u8 (s[k].toNat : Int)) := by
  intro k h
  have := hc k (by rw [nums_length]; exact h)
  rw [Nat.zero_add, nums_at s k h] at this
  exact this

set_option maxRecDepth 10000 in
set_option maxHeartbeats 1000000 in
theorem pentry_any (r b cap p : Nat) (s last : ByteArray) (ok : Bool) (w : World) (hs : s.size ≤ 70000) (hcap : s.size ≤ cap) (hp : p ≤ s.size) (hR : PRd w r b cap s p ok) (hbr : b ≠ r) (hb : b < w.heap.size) (hc : ∀ k (h : k < (nums s).length), w.cell? ⟨b, 0 + k, none⟩ = some (.int .u8 (nums s)[k])) :
    Calls Tryz.prog 167 #[.pointer (some ⟨r, 0, none⟩), .string last] w fun e w' => ∃ (t : ByteArray) (z : Nat) (dg : Int), e = .returned (.agg #[.string t, .int .i64 z, .int .u64 dg]) ∧ EntQ w r b cap s ok p last t z dg w' := by
  have HA : Hid (∀ o, Below w.heap.size w (w.alloc o)) := fun o => (Below.refl _ _).alloc (Nat.le_refl _) o
  have hlr := hR.lt
  have HR0 : Hid (∀ o, PRd (w.alloc o) r b cap s p ok) := fun o => hR.below (HA.out o)
  have HC0 : Hid (∀ o, ∀ k (h : k < (nums s).length), (w.alloc o).cell? ⟨b, 0 + k, none⟩ = some (.int .u8 (nums s)[k])) := fun o => cells_below hc (HA.out o)
  clear hR hc
  go_enter Tryz.func167, Tryz.ntmps167
  go_wp2_with fail
  refine (pnumber_any r b cap p 1 s ok _ hs hcap hp (by omega) (HR0.out _) hbr (by simp; omega) (HC0.out _)).mono ?_
  rintro e w1 ⟨m, rfl, _, hm, p1, ok1, hR1, hS1, hv1, _, _, _, hg1⟩
  have hm := hm rfl
  have HR1 := hide hR1
  have HS1 := hide hS1
  have HV1 := hide hv1
  have HG1 := hide hg1
  have HC1 := hide (cells_grow hbr hg1 (HC0.out _))
  have hp1 := hS1.le hp
  have hb1 : b < w1.heap.size := by have := hg1.size; simp at this; omega
  clear hR1 hS1 hv1 hg1
  go_wp2_with fail
  refine (ptake_any r b cap p1 m s ok1 _ hs hcap hp1 (by omega) HR1.out).mono ?_
  rintro e w2 ⟨va, m2, p2, ok2, rfl, hR2, hS2, hyes, hno, hg2⟩
  have HC2 := hide (cells_grow hbr hg2 HC1.out)
  obtain ⟨t, hcv, ht, hv2⟩ := conv_take (s := s) (b := b) (p := p1) (n := m) (W := w2) (fun h => by rcases hS2 with ⟨_, h2, _⟩ | ⟨h2, _⟩; exact h2; rw [h] at h2; cases h2) hyes hno (cells_plain HC2.out)
  have HR2 := hide hR2
  have HS2 := hide hS2
  have HV2 := hide hv2
  have HG2 := hide hg2
  have hp2 := hS2.le hp1
  have hb2 : b < w2.heap.size := by have := hg2.size; omega
  clear hR2 hS2 hv2 hg2 hyes hno
  go_wp2_with fail
  clear hcv
  refine (pnumber_any r b cap p2 2 s ok2 _ hs hcap hp2 (by omega) HR2.out hbr hb2 HC2.out).mono ?_
  rintro e w3 ⟨z, rfl, hz, _, p3, ok3, hR3, hS3, hv3, _, _, _, hg3⟩
  have HR3 := hide hR3
  have HS3 := hide hS3
  have HV3 := hide hv3
  have HG3 := hide hg3
  have HC3 := hide (cells_grow hbr hg3 HC2.out)
  have hp3 := hS3.le hp2
  have hb3 : b < w3.heap.size := by have := hg3.size; omega
  clear hR3 hS3 hv3 hg3
  go_wp2_with fail
  refine (follows_any last t z (by omega) (by omega) _).mono ?_
  rintro e w4 ⟨rfl, hw4⟩
  obtain rfl := hw4.symm
  obtain ⟨ho, hho⟩ : ∃ ho, ho = (nameB (nums t) && ltL (nums last) (nums t) && decide (z ≤ 300)) := ⟨_, rfl⟩
  rw [← hho]
  have HHO := hide hho
  clear hho
  go_wp2_with fail
  refine (pmust_any r b cap p3 s _ ok3 ho _ HR3.out).mono ?_
  rintro e w5 ⟨rfl, hR5, hg5⟩
  have HR5 := hide hR5
  have HG5 := hide hg5
  have HC5 := hide (cells_grow hbr hg5 HC3.out)
  have hb5 : b < w5.heap.size := by have := hg5.size; omega
  clear hR5 hg5
  go_wp2_with fail
  refine (pwide_any r b cap p3 8 s _ _ hs hcap hp3 (by omega) HR5.out hbr hb5 HC5.out).mono ?_
  rintro e w7 ⟨dg, rfl, p7, ok7, hR7, hS7, hv7, hd0, hd1, _, hg7⟩
  have HG7 : Hid (w.grownBy w7 (some r)) := (World.grownBy_alloc w _ _).trans (HG1.out.trans (HG2.out.trans (HG3.out.trans (HG5.out.trans hg7))))
  have HR7 := hide hR7
  have HP7 := hide (hS7.le hp3)
  have hgr : w7.heap[w.heap.size]? = some (.cells #[.string ⟨#[]⟩, .int .i64 0, .int .u64 0] 115 (0, 0)) := by
    have hgall := HG1.out.trans (HG2.out.trans (HG3.out.trans (HG5.out.trans hg7)))
    rw [hgall.block _ (by simp) (by simp; omega)]
    exact heap_alloc_new _ _
  have HSEM := hide (pentry_sem (last := nums last) hp HS1.out HV1.out HS2.out HV2.out HS3.out HV3.out (by rw [HHO.out, show decide (z ≤ 300) = decide ((z : Int) ≤ 300) from decide_eq_decide.2 (by omega)]) hS7 hv7)
  have k0 : w7.cell? ⟨w.heap.size, 0, none⟩ = some (.string ⟨#[]⟩) := cell_row hgr rfl
  have k1 : w7.cell? ⟨w.heap.size, 1, none⟩ = some (.int .i64 0) := cell_row hgr rfl
  have k2 : w7.cell? ⟨w.heap.size, 2, none⟩ = some (.int .u64 0) := cell_row hgr rfl
  have kf : ∀ j, w7.frozen? ⟨w.heap.size, j, none⟩ = false := fun j => frozen_of_row _ _ _ _ _ hgr
  have HDG : Hid (0 ≤ dg ∧ dg < 18446744073709551616) := ⟨hd0, by simpa using hd1⟩
  clear hR7 hS7 hv7 hg7 hgr hd0 hd1
  go_wp2_with fail
  refine bodyPost_ret (v := .agg #[.string t, .int .i64 z, .int .u64 dg]) (by simp [results, Tryz.results167, go_sem, k0, k1, k2]) rfl ⟨t, z, dg, rfl, p7, ok7, ?_, HP7.out, by omega, hz, HDG.out.1, HDG.out.2, HSEM.out.1, HSEM.out.2, ?_⟩
  · obtain ⟨ev, h1, h2⟩ := HR7.out
    exact ⟨ev, h1, ((Below.heap_setCell _ _ _ _ (Nat.ne_of_lt hlr)).trans ((Below.heap_setCell _ _ _ _ (Nat.ne_of_lt hlr)).trans ((Below.heap_setCell _ _ _ _ (Nat.ne_of_lt hlr)).trans h2)))⟩
  · exact grown_setNew (grown_setNew (grown_setNew HG7.out (Nat.le_refl _) _ _) (Nat.le_refl _) _ _) (Nat.le_refl _) _ _
end Go.Proofs.YtbhccdedcoajmaaGreatDoor
