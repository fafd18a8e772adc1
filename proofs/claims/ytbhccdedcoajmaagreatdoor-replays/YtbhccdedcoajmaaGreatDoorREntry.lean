import Derived.Test.YtbhccdedcoajmaaGreatDoorPApplyM
import Derived.Test.YtbhccdedcoajmaaGreatDoorDiffAM
namespace Go.Proofs.YtbhccdedcoajmaaGreatDoor
open Go.RowKit

theorem number_any (r p n : Nat) (s : ByteArray) (ok : Bool) (w : World) (hs : s.size ≤ 70000) (hp : p ≤ s.size) (hn : n ≤ 8) (hR : Rd w r s p ok) :
    Calls Tryz.prog 68 #[.pointer (some ⟨r, 0, none⟩), .int .i64 n] w fun e w' => ∃ (v : Int) (p' : Nat) (ok' : Bool), e = .returned (.int .u64 v) ∧ Rd w' r s p' ok' ∧ Step s ok p n p' ok' ∧ (ok' = true → v = getN (((nums s).drop p).take n)) ∧ 0 ≤ v ∧ v < 256 ^ n ∧ w.grownBy w' (some r) := by
  have hpos : (0 : Int) < 256 ^ n := Int.pow_pos (by omega)
  cases ok with
  | false => exact (number_off r p n s w hR).mono (by rintro e w' ⟨rfl, h1, h2⟩; exact ⟨0, p, false, rfl, h1, .inr ⟨rfl, rfl, .inl rfl⟩, (fun h => by cases h), by omega, hpos, h2⟩)
  | true =>
    by_cases h : p + n ≤ s.size
    · have hb := getN_bd (l := ((nums s).drop p).take n) (((nums_bytes s).drop p).take _)
      rw [List.length_take, List.length_drop, nums_length, show min n (s.size - p) = n by omega] at hb
      exact (number_on r p n s w hs h hn hR).mono (by rintro e w' ⟨rfl, h1, h2⟩; exact ⟨_, p + n, true, rfl, h1, .inl ⟨rfl, h, rfl, rfl⟩, fun _ => rfl, hb.1, hb.2, h2⟩)
    · exact (number_short r p n s w hs hp (by omega) hR).mono (by rintro e w' ⟨rfl, h1, h2⟩; exact ⟨0, p, false, rfl, h1, .inr ⟨rfl, rfl, .inr (by omega)⟩, (fun h => by cases h), by omega, hpos, h2⟩)
theorem text_any (r p n : Nat) (s : ByteArray) (ok : Bool) (w : World) (hs : s.size ≤ 70000) (hp : p ≤ s.size) (hR : Rd w r s p ok) :
    Calls Tryz.prog 66 #[.pointer (some ⟨r, 0, none⟩), .int .i64 n] w fun e w' => ∃ (t : ByteArray) (p' : Nat) (ok' : Bool), e = .returned (.string t) ∧ Rd w' r s p' ok' ∧ Step s ok p n p' ok' ∧ (ok' = true → nums t = ((nums s).drop p).take n) ∧ t.size ≤ n ∧ w.grownBy w' (some r) := by
  cases ok with
  | false => exact (text_off r p n s w hR).mono (by rintro e w' ⟨rfl, h1, h2⟩; exact ⟨⟨#[]⟩, p, false, rfl, h1, .inr ⟨rfl, rfl, .inl rfl⟩, (fun h => by cases h), Nat.zero_le _, h2⟩)
  | true =>
    by_cases h : p + n ≤ s.size
    · refine (text_on r p n s w hs h hR).mono ?_
      rintro e w' ⟨rfl, h1, h2⟩
      exact ⟨_, p + n, true, rfl, h1, .inl ⟨rfl, h, rfl, rfl⟩, fun _ => by rw [nums_extract, show p + n - p = n by omega], by simp [ByteArray.size_extract]; omega, h2⟩
    · exact (text_short r p n s w hs hp (by omega) hR).mono (by rintro e w' ⟨rfl, h1, h2⟩; exact ⟨⟨#[]⟩, p, false, rfl, h1, .inr ⟨rfl, rfl, .inr (by omega)⟩, (fun h => by cases h), Nat.zero_le _, h2⟩)
theorem Rd.other {w : World} {r p : Nat} {s : ByteArray} {ok : Bool} (h : Rd w r s p ok) {b : Nat} (hb : r ≠ b) (j : Nat) (u : Value) : Rd (w.setCell ⟨b, j, none⟩ u) r s p ok := (Below.heap_setCell _ _ _ _ hb).trans h
/-- the five reads of an entry, as one -/
theorem entry_sem {s : ByteArray} {ok ok1 ok2 ok3 ok4 ok5 ok6 first : Bool} {p p1 p2 p3 p4 m : Nat} {last nm : List Int} {sz dg : Int} (hp : p ≤ s.size)
    (S1 : Step s ok p 1 p1 ok1) (v1 : ok1 = true → (m : Int) = getN (((nums s).drop p).take 1)) (S2 : Step s ok1 p1 m p2 ok2) (v2 : ok2 = true → nm = ((nums s).drop p1).take m) (h3 : ok3 = (ok2 && (nameB nm && (first || ltL last nm))))
    (S3 : Step s ok3 p2 2 p3 ok4) (v3 : ok4 = true → sz = getN (((nums s).drop p2).take 2)) (h5 : ok5 = (ok4 && decide (sz ≤ 300))) (S4 : Step s ok5 p3 8 p4 ok6) (v4 : ok6 = true → dg = getN (((nums s).drop p3).take 8)) :
    (ok6 = true → ok = true ∧ entryP first last ((nums s).drop p) = some (⟨nm, sz, dg⟩, (nums s).drop p4)) ∧ (ok6 = false → ok = false ∨ entryP first last ((nums s).drop p) = none) := by
  have hl := nums_length s
  have num : ∀ (q n : Nat), q + n ≤ s.size → numP n ((nums s).drop q) = some (getN (((nums s).drop q).take n), (nums s).drop (q + n)) := by
    intro q n h
    unfold numP
    rw [if_neg (by rw [List.length_drop]; omega), List.drop_drop]
  have numNo : ∀ (q n : Nat), q ≤ s.size → s.size < q + n → numP n ((nums s).drop q) = none := by
    intro q n _ h
    unfold numP
    rw [if_pos (by rw [List.length_drop]; omega)]
  have txt : ∀ (q n : Nat), q + n ≤ s.size → txtP n ((nums s).drop q) = some (((nums s).drop q).take n, (nums s).drop (q + n)) := by
    intro q n h
    unfold txtP
    rw [if_neg (by rw [List.length_drop]; omega), List.drop_drop]
  have txtNo : ∀ (q n : Nat), q ≤ s.size → s.size < q + n → txtP n ((nums s).drop q) = none := by
    intro q n _ h
    unfold txtP
    rw [if_pos (by rw [List.length_drop]; omega)]
  unfold entryP
  rcases S1 with ⟨rfl, a1, rfl, rfl⟩ | ⟨rfl, rfl, a1⟩
  · rw [num p 1 a1, ← v1 rfl]
    simp only [Option.bind_eq_bind, Option.bind_some, Int.toNat_natCast]
    rcases S2 with ⟨_, a2, rfl, rfl⟩ | ⟨rfl, rfl, a2⟩
    · rw [txt (p + 1) m a2, ← v2 rfl]
      simp only [Option.bind_some]
      rw [Bool.true_and] at h3
      cases ok3 with
      | true =>
        rw [if_pos h3.symm]
        rcases S3 with ⟨_, a3, rfl, rfl⟩ | ⟨rfl, rfl, a3⟩
        · rw [num _ 2 a3, ← v3 rfl]
          simp only [Option.bind_some]
          rw [Bool.true_and] at h5
          cases ok5 with
          | true =>
            rw [if_pos (of_decide_eq_true h5.symm)]
            rcases S4 with ⟨_, a4, rfl, rfl⟩ | ⟨rfl, rfl, a4⟩
            · rw [num _ 8 a4, ← v4 rfl]
              first | exact ⟨fun _ => ⟨rfl, rfl⟩, fun h => (by cases h)⟩ | simp
            · rw [numNo _ 8 (by omega) (by simpa using a4)]
              first | exact ⟨fun h => (by cases h), fun _ => .inr rfl⟩ | simp
          | false =>
            rw [if_neg (of_decide_eq_false h5.symm)]
            rcases S4 with ⟨h, _⟩ | ⟨rfl, _⟩
            · cases h
            · first | exact ⟨fun h => (by cases h), fun _ => .inr rfl⟩ | simp
        · rw [numNo _ 2 (by omega) (by simpa using a3)]
          rw [Bool.false_and] at h5
          subst h5
          rcases S4 with ⟨h, _⟩ | ⟨rfl, _⟩
          · cases h
          · first | exact ⟨fun h => (by cases h), fun _ => .inr rfl⟩ | simp
      | false =>
        rw [if_neg (by rw [← h3]; simp)]
        rcases S3 with ⟨h, _⟩ | ⟨rfl, _⟩
        · cases h
        · rw [Bool.false_and] at h5
          subst h5
          rcases S4 with ⟨h, _⟩ | ⟨rfl, _⟩
          · cases h
          · first | exact ⟨fun h => (by cases h), fun _ => .inr rfl⟩ | simp
    · rw [txtNo _ m (by omega) (by simpa using a2)]
      rw [Bool.false_and] at h3
      subst h3
      rcases S3 with ⟨h, _⟩ | ⟨rfl, _⟩
      · cases h
      · rw [Bool.false_and] at h5
        subst h5
        rcases S4 with ⟨h, _⟩ | ⟨rfl, _⟩
        · cases h
        · first | exact ⟨fun h => (by cases h), fun _ => .inr rfl⟩ | simp
  · have hend : ok6 = false := by
      rcases S2 with ⟨h, _⟩ | ⟨rfl, _⟩
      · cases h
      · rw [Bool.false_and] at h3
        subst h3
        rcases S3 with ⟨h, _⟩ | ⟨rfl, _⟩
        · cases h
        · rw [Bool.false_and] at h5
          subst h5
          rcases S4 with ⟨h, _⟩ | ⟨h, _⟩
          · cases h
          · exact h
    subst hend
    refine ⟨fun h => (by cases h), fun _ => ?_⟩
    rcases a1 with h | h
    · exact .inl h
    · rw [numNo _ 1 hp h]
      exact .inr rfl

set_option maxRecDepth 10000 in
set_option maxHeartbeats 1000000 in
theorem rentry_any (r p : Nat) (s last : ByteArray) (first ok : Bool) (w : World) (hs : s.size ≤ 70000) (hp : p ≤ s.size) (hR : Rd w r s p ok) :
    Calls Tryz.prog 69 #[.pointer (some ⟨r, 0, none⟩), .string last, .bool first] w fun e w' => ∃ (nm : ByteArray) (sz dg : Int) (p' : Nat) (ok' : Bool), e = .returned (.agg #[.string nm, .int .i64 sz, .int .u64 dg]) ∧ Rd w' r s p' ok' ∧ p' ≤ s.size ∧ nm.size ≤ 255 ∧ 0 ≤ sz ∧ sz < 65536 ∧ 0 ≤ dg ∧ dg < 256 ^ 8 ∧
      (ok' = true → ok = true ∧ entryP first (nums last) ((nums s).drop p) = some (⟨nums nm, sz, dg⟩, (nums s).drop p')) ∧ (ok' = false → ok = false ∨ entryP first (nums last) ((nums s).drop p) = none) ∧ w.grownBy w' (some r) := by
  have HR := hide hR
  clear hR
  go_enter Tryz.func69, Tryz.ntmps69
  go_wp2_with fail
  have hlr : r < w.heap.size := (Array.getElem?_eq_some_iff.1 HR.out).1
  have HR0 : Hid (Rd (w.alloc (.cells #[.string ⟨#[]⟩, .int .i64 0, .int .u64 0] 115)) r s p ok) := (Below.heap_alloc _ _ _ hlr).trans HR.out
  refine (number_any r p 1 s ok _ hs hp (by omega) HR0.out).mono ?_
  rintro e w1 ⟨n, p1, ok1, rfl, hR1, hS1, hv1, hn0, hn1, hg1⟩
  have HR1 := hide hR1
  have HS1 := hide hS1
  have HV1 := hide hv1
  have HG1 := hide hg1
  have hp1 := hS1.le hp
  clear hR1 hS1 hv1 hg1
  obtain ⟨m, rfl⟩ : ∃ m : Nat, n = m := ⟨n.toNat, by omega⟩
  have hm : m < 256 := by omega
  clear hn0 hn1
  go_wp2_with fail
  refine (text_any r p1 m s ok1 _ hs hp1 HR1.out).mono ?_
  rintro e w2 ⟨t, p2, ok2, rfl, hR2, hS2, hv2, ht, hg2⟩
  have HR2 := hide hR2
  have HS2 := hide hS2
  have HV2 := hide hv2
  have HG2 := hide hg2
  have hp2 := hS2.le hp1
  clear hR2 hS2 hv2 hg2
  go_wp2_with fail
  refine (named_any t (by omega) _).mono ?_
  rintro e w3 ⟨rfl, hw3⟩
  obtain rfl := hw3.symm
  cases hnm : nameB (nums t) with
  | true =>
    cases first with
    | false =>
      have HNM := hide hnm
      clear hnm
      go_wp2_with fail
      refine (must_any r p2 s ok2 _ _ HR2.out).mono ?_
      rintro e w4 ⟨rfl, hR4, hg4⟩
      have HR4 := hide hR4
      have HG4 := hide hg4
      clear hR4 hg4
      go_wp2_with fail
      refine (number_any r p2 2 s _ _ hs hp2 (by omega) HR4.out).mono ?_
      rintro e w5 ⟨z, p5, ok5, rfl, hR5, hS5, hv5, hz0, hz1, hg5⟩
      have HR5 := hide hR5
      have HS5 := hide hS5
      have HV5 := hide hv5
      have HG5 := hide hg5
      have hp5 := hS5.le hp2
      clear hR5 hS5 hv5 hg5
      go_wp2_with fail
      refine (must_any r p5 s ok5 _ _ HR5.out).mono ?_
      rintro e w6 ⟨rfl, hR6, hg6⟩
      have HR6 := hide hR6
      have HG6 := hide hg6
      clear hR6 hg6
      go_wp2_with fail
      refine (number_any r p5 8 s _ _ hs hp5 (by omega) HR6.out).mono ?_
      rintro e w7 ⟨dg, p7, ok7, rfl, hR7, hS7, hv7, hd0, hd1, hg7⟩
      have HG7 : Hid (w.grownBy w7 (some r)) := (World.grownBy_alloc w _ _).trans (HG1.out.trans (HG2.out.trans (HG4.out.trans (HG5.out.trans (HG6.out.trans hg7)))))
      have HR7 := hide hR7
      have HP7 := hide (hS7.le hp5)
      have hgr : w7.heap[w.heap.size]? = some (.cells #[.string ⟨#[]⟩, .int .i64 0, .int .u64 0] 115 (0, 0)) := by
        have hgall := HG1.out.trans (HG2.out.trans (HG4.out.trans (HG5.out.trans (HG6.out.trans hg7))))
        rw [hgall.block _ (by simp) (by simp; omega)]
        exact heap_alloc_new _ _
      have HSEM := hide (entry_sem (first := false) (last := nums last) hp HS1.out HV1.out HS2.out HV2.out (by rw [HNM.out, text_gtr]; first | rfl | simp) HS5.out HV5.out rfl hS7 hv7)
      have k0 : w7.cell? ⟨w.heap.size, 0, none⟩ = some (.string ⟨#[]⟩) := cell_row hgr rfl
      have k1 : w7.cell? ⟨w.heap.size, 1, none⟩ = some (.int .i64 0) := cell_row hgr rfl
      have k2 : w7.cell? ⟨w.heap.size, 2, none⟩ = some (.int .u64 0) := cell_row hgr rfl
      have kf : ∀ j, w7.frozen? ⟨w.heap.size, j, none⟩ = false := fun j => frozen_of_row _ _ _ _ _ hgr
      clear hR7 hS7 hv7 hg7 hgr
      have hz2 : z ≤ 65535 := by omega
      go_wp2_with fail
      refine bodyPost_ret (v := .agg #[.string t, .int .i64 z, .int .u64 dg]) (by simp [results, Tryz.results69, go_sem, k0, k1, k2]) rfl ⟨t, z, dg, p7, ok7, rfl, ?_, HP7.out, by omega, hz0, by omega, hd0, hd1, HSEM.out.1, HSEM.out.2, ?_⟩
      · exact ((HR7.out.other (by omega) _ _).other (by omega) _ _).other (by omega) _ _
      · exact grown_setNew (grown_setNew (grown_setNew HG7.out (Nat.le_refl _) _ _) (Nat.le_refl _) _ _) (Nat.le_refl _) _ _
    | true =>
      have HNM := hide hnm
      clear hnm
      go_wp2_with fail
      refine (must_any r p2 s ok2 _ _ HR2.out).mono ?_
      rintro e w4 ⟨rfl, hR4, hg4⟩
      have HR4 := hide hR4
      have HG4 := hide hg4
      clear hR4 hg4
      go_wp2_with fail
      refine (number_any r p2 2 s _ _ hs hp2 (by omega) HR4.out).mono ?_
      rintro e w5 ⟨z, p5, ok5, rfl, hR5, hS5, hv5, hz0, hz1, hg5⟩
      have HR5 := hide hR5
      have HS5 := hide hS5
      have HV5 := hide hv5
      have HG5 := hide hg5
      have hp5 := hS5.le hp2
      clear hR5 hS5 hv5 hg5
      go_wp2_with fail
      refine (must_any r p5 s ok5 _ _ HR5.out).mono ?_
      rintro e w6 ⟨rfl, hR6, hg6⟩
      have HR6 := hide hR6
      have HG6 := hide hg6
      clear hR6 hg6
      go_wp2_with fail
      refine (number_any r p5 8 s _ _ hs hp5 (by omega) HR6.out).mono ?_
      rintro e w7 ⟨dg, p7, ok7, rfl, hR7, hS7, hv7, hd0, hd1, hg7⟩
      have HG7 : Hid (w.grownBy w7 (some r)) := (World.grownBy_alloc w _ _).trans (HG1.out.trans (HG2.out.trans (HG4.out.trans (HG5.out.trans (HG6.out.trans hg7)))))
      have HR7 := hide hR7
      have HP7 := hide (hS7.le hp5)
      have hgr : w7.heap[w.heap.size]? = some (.cells #[.string ⟨#[]⟩, .int .i64 0, .int .u64 0] 115 (0, 0)) := by
        have hgall := HG1.out.trans (HG2.out.trans (HG4.out.trans (HG5.out.trans (HG6.out.trans hg7))))
        rw [hgall.block _ (by simp) (by simp; omega)]
        exact heap_alloc_new _ _
      have HSEM := hide (entry_sem (first := true) (last := nums last) hp HS1.out HV1.out HS2.out HV2.out (by rw [HNM.out]; first | rfl | simp) HS5.out HV5.out rfl hS7 hv7)
      have k0 : w7.cell? ⟨w.heap.size, 0, none⟩ = some (.string ⟨#[]⟩) := cell_row hgr rfl
      have k1 : w7.cell? ⟨w.heap.size, 1, none⟩ = some (.int .i64 0) := cell_row hgr rfl
      have k2 : w7.cell? ⟨w.heap.size, 2, none⟩ = some (.int .u64 0) := cell_row hgr rfl
      have kf : ∀ j, w7.frozen? ⟨w.heap.size, j, none⟩ = false := fun j => frozen_of_row _ _ _ _ _ hgr
      clear hR7 hS7 hv7 hg7 hgr
      have hz2 : z ≤ 65535 := by omega
      go_wp2_with fail
      refine bodyPost_ret (v := .agg #[.string t, .int .i64 z, .int .u64 dg]) (by simp [results, Tryz.results69, go_sem, k0, k1, k2]) rfl ⟨t, z, dg, p7, ok7, rfl, ?_, HP7.out, by omega, hz0, by omega, hd0, hd1, HSEM.out.1, HSEM.out.2, ?_⟩
      · exact ((HR7.out.other (by omega) _ _).other (by omega) _ _).other (by omega) _ _
      · exact grown_setNew (grown_setNew (grown_setNew HG7.out (Nat.le_refl _) _ _) (Nat.le_refl _) _ _) (Nat.le_refl _) _ _
  | false =>
    have HNM := hide hnm
    clear hnm
    go_wp2_with fail
    refine (must_any r p2 s ok2 _ _ HR2.out).mono ?_
    rintro e w4 ⟨rfl, hR4, hg4⟩
    have HR4 := hide hR4
    have HG4 := hide hg4
    clear hR4 hg4
    go_wp2_with fail
    refine (number_any r p2 2 s _ _ hs hp2 (by omega) HR4.out).mono ?_
    rintro e w5 ⟨z, p5, ok5, rfl, hR5, hS5, hv5, hz0, hz1, hg5⟩
    have HR5 := hide hR5
    have HS5 := hide hS5
    have HV5 := hide hv5
    have HG5 := hide hg5
    have hp5 := hS5.le hp2
    clear hR5 hS5 hv5 hg5
    go_wp2_with fail
    refine (must_any r p5 s ok5 _ _ HR5.out).mono ?_
    rintro e w6 ⟨rfl, hR6, hg6⟩
    have HR6 := hide hR6
    have HG6 := hide hg6
    clear hR6 hg6
    go_wp2_with fail
    refine (number_any r p5 8 s _ _ hs hp5 (by omega) HR6.out).mono ?_
    rintro e w7 ⟨dg, p7, ok7, rfl, hR7, hS7, hv7, hd0, hd1, hg7⟩
    have HG7 : Hid (w.grownBy w7 (some r)) := (World.grownBy_alloc w _ _).trans (HG1.out.trans (HG2.out.trans (HG4.out.trans (HG5.out.trans (HG6.out.trans hg7)))))
    have HR7 := hide hR7
    have HP7 := hide (hS7.le hp5)
    have hgr : w7.heap[w.heap.size]? = some (.cells #[.string ⟨#[]⟩, .int .i64 0, .int .u64 0] 115 (0, 0)) := by
      have hgall := HG1.out.trans (HG2.out.trans (HG4.out.trans (HG5.out.trans (HG6.out.trans hg7))))
      rw [hgall.block _ (by simp) (by simp; omega)]
      exact heap_alloc_new _ _
    have HSEM := hide (entry_sem (first := first) (last := nums last) hp HS1.out HV1.out HS2.out HV2.out (by rw [HNM.out]; first | rfl | simp) HS5.out HV5.out rfl hS7 hv7)
    have k0 : w7.cell? ⟨w.heap.size, 0, none⟩ = some (.string ⟨#[]⟩) := cell_row hgr rfl
    have k1 : w7.cell? ⟨w.heap.size, 1, none⟩ = some (.int .i64 0) := cell_row hgr rfl
    have k2 : w7.cell? ⟨w.heap.size, 2, none⟩ = some (.int .u64 0) := cell_row hgr rfl
    have kf : ∀ j, w7.frozen? ⟨w.heap.size, j, none⟩ = false := fun j => frozen_of_row _ _ _ _ _ hgr
    clear hR7 hS7 hv7 hg7 hgr
    have hz2 : z ≤ 65535 := by omega
    go_wp2_with fail
    refine bodyPost_ret (v := .agg #[.string t, .int .i64 z, .int .u64 dg]) (by simp [results, Tryz.results69, go_sem, k0, k1, k2]) rfl ⟨t, z, dg, p7, ok7, rfl, ?_, HP7.out, by omega, hz0, by omega, hd0, hd1, HSEM.out.1, HSEM.out.2, ?_⟩
    · exact ((HR7.out.other (by omega) _ _).other (by omega) _ _).other (by omega) _ _
    · exact grown_setNew (grown_setNew (grown_setNew HG7.out (Nat.le_refl _) _ _) (Nat.le_refl _) _ _) (Nat.le_refl _) _ _
end Go.Proofs.YtbhccdedcoajmaaGreatDoor
