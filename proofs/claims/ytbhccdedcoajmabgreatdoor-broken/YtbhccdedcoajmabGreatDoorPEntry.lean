import Derived.Test.YtbhccdedcoajmabGreatDoorPRead
import Derived.Test.YtbhccdedcoajmabGreatDoorPTree
namespace Go.Proofs.YtbhccdedcoajmabGreatDoor
open Go.RowKit

theorem num_at {s : ByteArray} {q n : Nat} (h : q + n ≤ s.size) : numP n ((nums s).drop q) = some (getN (((nums s).drop q).take n), (nums s).drop (q + n)) := by
  have hl := nums_length s
  unfold numP
  rw [if_neg (by rw [List.length_drop]; omega), List.drop_drop]
theorem num_no {s : ByteArray} {q n : Nat} (h : s.size < q + n) (hq : q ≤ s.size) : numP n ((nums s).drop q) = none := by
  have hl := nums_length s
  unfold numP
  rw [if_pos (by rw [List.length_drop]; omega)]
theorem txt_at {s : ByteArray} {q n : Nat} (h : q + n ≤ s.size) : txtP n ((nums s).drop q) = some (((nums s).drop q).take n, (nums s).drop (q + n)) := by
  have hl := nums_length s
  unfold txtP
  rw [if_neg (by rw [List.length_drop]; omega), List.drop_drop]
theorem txt_no {s : ByteArray} {q n : Nat} (h : s.size < q + n) (hq : q ≤ s.size) : txtP n ((nums s).drop q) = none := by
  have hl := nums_length s
  unfold txtP
  rw [if_pos (by rw [List.length_drop]; omega)]

/-- the program's reads of an entry, as one -/
theorem pentry_sem {s : ByteArray} {ok ok1 ok2 ok3 ok4 ok5 : Bool} {p p1 p2 p3 p5 m : Nat} {last nm : List Int} {sz dg : Int} (hp : p ≤ s.size)
    (S1 : Step s ok p 1 p1 ok1) (v1 : ok1 = true → (m : Int) = getN (((nums s).drop p).take 1)) (S2 : Step s ok1 p1 m p2 ok2) (v2 : ok2 = true → nm = ((nums s).drop p1).take m)
    (S3 : Step s ok2 p2 2 p3 ok3) (v3 : ok3 = true → sz = getN (((nums s).drop p2).take 2)) (h4 : ok4 = (ok3 && (nameB nm && ltL last nm && decide (sz ≤ 300)))) (S5 : Step s ok4 p3 8 p5 ok5) (v5 : ok5 = true → dg = getN (((nums s).drop p3).take 8)) :
    (ok5 = true → ok = true ∧ entryP false last ((nums s).drop p) = some (⟨nm, sz, dg⟩, (nums s).drop p5)) ∧ (ok5 = false → ok = false ∨ entryP false last ((nums s).drop p) = none) := by
  unfold entryP
  rcases S1 with ⟨rfl, a1, rfl, rfl⟩ | ⟨rfl, rfl, a1⟩
  · rw [num_at a1, ← v1 rfl]
    simp only [Option.bind_eq_bind, Option.bind_some, Int.toNat_natCast, Bool.false_or]
    rcases S2 with ⟨_, a2, rfl, rfl⟩ | ⟨rfl, rfl, a2⟩
    · rw [txt_at a2, ← v2 rfl]
      simp only [Option.bind_some]
      rcases S3 with ⟨_, a3, rfl, rfl⟩ | ⟨rfl, rfl, a3⟩
      · rw [num_at a3, ← v3 rfl]
        simp only [Option.bind_some]
        rw [Bool.true_and] at h4
        by_cases hn : (nameB nm && ltL last nm) = true
        · rw [if_pos hn]
          rw [hn, Bool.true_and] at h4
          by_cases hz : sz ≤ 300
          · rw [if_pos hz]
            rw [decide_eq_true hz] at h4
            subst h4
            rcases S5 with ⟨_, a5, rfl, rfl⟩ | ⟨rfl, rfl, a5⟩
            · rw [num_at a5, ← v5 rfl]
              first | exact ⟨fun _ => ⟨rfl, rfl⟩, fun h => (by cases h)⟩ | simp
            · rw [num_no (by simpa using a5) (by omega)]
              exact ⟨fun h => (by cases h), fun _ => .inr rfl⟩
          · rw [if_neg hz]
            rw [decide_eq_false hz] at h4
            subst h4
            rcases S5 with ⟨h, _⟩ | ⟨rfl, _⟩
            · cases h
            · exact ⟨fun h => (by cases h), fun _ => .inr rfl⟩
        · rw [if_neg hn]
          rw [Bool.eq_false_iff.2 hn, Bool.false_and] at h4
          subst h4
          rcases S5 with ⟨h, _⟩ | ⟨rfl, _⟩
          · cases h
          · exact ⟨fun h => (by cases h), fun _ => .inr rfl⟩
      · rw [Bool.false_and] at h4
        subst h4
        rw [num_no (by simpa using a3) (by omega)]
        rcases S5 with ⟨h, _⟩ | ⟨rfl, _⟩
        · cases h
        · exact ⟨fun h => (by cases h), fun _ => .inr (by split <;> rfl)⟩
    · have e3 : ok3 = false := by
        rcases S3 with ⟨h, _⟩ | ⟨h, _⟩
        · cases h
        · exact h
      subst e3
      rw [Bool.false_and] at h4
      subst h4
      rw [txt_no (by simpa using a2) (by omega)]
      rcases S5 with ⟨h, _⟩ | ⟨rfl, _⟩
      · cases h
      · exact ⟨fun h => (by cases h), fun _ => .inr rfl⟩
  · have e2 : ok2 = false := by
      rcases S2 with ⟨h, _⟩ | ⟨h, _⟩
      · cases h
      · exact h
    subst e2
    have e3 : ok3 = false := by
      rcases S3 with ⟨h, _⟩ | ⟨h, _⟩
      · cases h
      · exact h
    subst e3
    rw [Bool.false_and] at h4
    subst h4
    have e5 : ok5 = false := by
      rcases S5 with ⟨h, _⟩ | ⟨h, _⟩
      · cases h
      · exact h
    subst e5
    refine ⟨fun h => (by cases h), fun _ => ?_⟩
    rcases a1 with rfl | a1
    · exact .inl rfl
    · right
      rw [num_no a1 hp]
      rfl

theorem conv_zero (va : Option Addr) (W : World) : (convert 25 9 (.slice va 0 0)).run Tryz.prog W = .ok (.string ⟨#[]⟩) W := by
  cases va with
  | none => exact Tryz.convNil W
  | some a => exact run_convert_bytes_back (P := Tryz.prog) W 25 9 5 a 0 [] Tryz.underlying25 Tryz.underlying5 Tryz.underlying9 (fun j hj => by simp at hj)
/-- the text of bytes that were taken -/
theorem conv_take {s : ByteArray} {b p n m : Nat} {va : Option Addr} {ok' : Bool} {W : World} (hp : ok' = true → p + n ≤ s.size) (hyes : ok' = true → m = n ∧ (0 < n → va = some ⟨b, p, none⟩)) (hno : ok' = false → m = 0 ∧ va = none) (hc : ∀ k (h : k < s.size), W.cell? ⟨b, k, none⟩ = some (.int .u8 (s[k].toNat : Int))) :
    ∃ t : ByteArray, (convert 25 9 (.slice va m m)).run Tryz.prog W = .ok (.string t) W ∧ t.size ≤ n ∧ (ok' = true → nums t = ((nums s).drop p).take n) := by
  cases ok' with
  | false =>
    obtain ⟨rfl, rfl⟩ := hno rfl
    exact ⟨⟨#[]⟩, conv_zero _ _, Nat.zero_le _, fun h => by cases h⟩
  | true =>
    obtain ⟨rfl, hva⟩ := hyes rfl
    have hfit := hp rfl
    by_cases h0 : m = 0
    · subst h0
      exact ⟨⟨#[]⟩, conv_zero _ _, Nat.le_refl _, fun _ => by simp [nums_empty]⟩
    · obtain rfl := hva (by omega)
      have hl : (((nums s).drop p).take m).length = m := by rw [List.length_take, List.length_drop, nums_length]; omega
      have := conv_cells b p m (((nums s).drop p).take m) W (((nums_bytes s).drop p).take m) (fun k h => by
        rw [hl] at h
        rw [List.getElem_take, List.getElem_drop, nums_at s (p + k) (by omega)]
        exact hc (p + k) (by omega))
      rw [hl] at this
      exact ⟨_, this, by rw [bytesOf_size, hl]; exact Nat.le_refl _, fun _ => nums_bytesOf (((nums_bytes s).drop p).take m)⟩

/-- what reading an entry leaves -/
def EntQ (w : World) (r b cap : Nat) (s : ByteArray) (ok : Bool) (p : Nat) (last t : ByteArray) (z : Nat) (dg : Int) (w' : World) : Prop :=
  ∃ (p' : Nat) (ok' : Bool), PRd w' r b cap s p' ok' ∧ p' ≤ s.size ∧ t.size ≤ 255 ∧ z ≤ 65535 ∧ 0 ≤ dg ∧ dg < 18446744073709551616 ∧ (ok' = true → ok = true ∧ entryP false (nums last) ((nums s).drop p) = some (⟨nums t, z, dg⟩, (nums s).drop p')) ∧ (ok' = false → ok = false ∨ entryP false (nums last) ((nums s).drop p) = none) ∧ w.grownBy w' (some r)

theorem cells_grow {s : ByteArray} {b r : Nat} {w W : World} (hbr : b ≠ r) (hg : w.grownBy W (some r)) (hc : ∀ k (h : k < (nums s).length), w.cell? ⟨b, 0 + k, none⟩ = some (.int .u8 (nums s)[k])) : ∀ k (h : k < (nums s).length), W.cell? ⟨b, 0 + k, none⟩ = some (.int .u8 (nums s)[k]) := fun k h => hg.cell (hc k h) (by simp; exact hbr)
theorem cells_plain {s : ByteArray} {b : Nat} {W : World} (hc : ∀ k (h : k < (nums s).length), W.cell? ⟨b, 0 + k, none⟩ = some (.int .u8 (nums s)[k])) : ∀ k (h : k < s.size), W.cell? ⟨b, k, none⟩ = some (.int .u8 (s[k].toNat : Int)) := by
  intro k h
  have := hc k (by rw [nums_length]; exact h)
  rw [Nat.zero_add, nums_at s k h] at this
  exact this

set_option maxRecDepth 10000 in
set_option maxHeartbeats 1000000 in
theorem pentry_any (r b cap p : Nat) (s last : ByteArray) (ok : Bool) (w : World) (hs : s.size ≤ 70000) (hcap : s.size ≤ cap) (hp : p ≤ s.size) (hR : PRd w r b cap s p ok) (hbr : b ≠ r) (hb : b < w.heap.size) (hc : ∀ k (h : k < (nums s).length), w.cell? ⟨b, 0 + k, none⟩ = some (.int .u8 (nums s)[k])) :
    Calls Tryz.prog 136 #[.pointer (some ⟨r, 0, none⟩), .string last] w fun e w' => ∃ (t : ByteArray) (z : Nat) (dg : Int), e = .returned (.agg #[.string t, .int .i64 z, .int .u64 dg]) ∧ EntQ w r b cap s ok p last t z dg w' := by
  have HA : Hid (∀ o, Below w.heap.size w (w.alloc o)) := fun o => (Below.refl _ _).alloc (Nat.le_refl _) o
  have hlr := hR.lt
  have HR0 : Hid (∀ o, PRd (w.alloc o) r b cap s p ok) := fun o => hR.below (HA.out o)
  have HC0 : Hid (∀ o, ∀ k (h : k < (nums s).length), (w.alloc o).cell? ⟨b, 0 + k, none⟩ = some (.int .u8 (nums s)[k])) := fun o => cells_below hc (HA.out o)
  clear hR hc
  go_enter Tryz.func136, Tryz.ntmps136
  go_wp2_with fail
  refine (pnumber_any r b cap p 1 s ok _ hs hcap hp (by omega) (HR0.out _) hbr (by simp; omega) (HC0.out _)).mono ?_
  rintro e w1 ⟨m, rfl, _, hm, p1, ok1, hR1, hS1, hv1, _, _, _, hg1⟩
  have hm := hm rfl
  have HR1 := hide hR1
  have HS1 := hide hS1
  have HV1 := hide hv1
  have HG1 := hide hg1
  have HC1 := hide (cells_grow hbr hg1 (HC0.out _))
  have hp1 := hS1.le hp
  have hb1 : b < w1.heap.size := by have := hg1.size; simp at this; omega
  clear hR1 hS1 hv1 hg1
  go_wp2_with fail
  refine (ptake_any r b cap p1 m s ok1 _ hs hcap hp1 (by omega) HR1.out).mono ?_
  rintro e w2 ⟨va, m2, p2, ok2, rfl, hR2, hS2, hyes, hno, hg2⟩
  have HC2 := hide (cells_grow hbr hg2 HC1.out)
  obtain ⟨t, hcv, ht, hv2⟩ := conv_take (s := s) (b := b) (p := p1) (n := m) (W := w2) (fun h => by rcases hS2 with ⟨_, h2, _⟩ | ⟨h2, _⟩; exact h2; rw [h] at h2; cases h2) hyes hno (cells_plain HC2.out)
  have HR2 := hide hR2
  have HS2 := hide hS2
  have HV2 := hide hv2
  have HG2 := hide hg2
  have hp2 := hS2.le hp1
  have hb2 : b < w2.heap.size := by have := hg2.size; omega
  clear hR2 hS2 hv2 hg2 hyes hno
  go_wp2_with fail
  clear hcv
  refine (pnumber_any r b cap p2 2 s ok2 _ hs hcap hp2 (by omega) HR2.out hbr hb2 HC2.out).mono ?_
  rintro e w3 ⟨z, rfl, hz, _, p3, ok3, hR3, hS3, hv3, _, _, _, hg3⟩
  have HR3 := hide hR3
  have HS3 := hide hS3
  have HV3 := hide hv3
  have HG3 := hide hg3
  have HC3 := hide (cells_grow hbr hg3 HC2.out)
  have hp3 := hS3.le hp2
  have hb3 : b < w3.heap.size := by have := hg3.size; omega
  clear hR3 hS3 hv3 hg3
  go_wp2_with fail
  refine (follows_any last t z (by omega) (by omega) _).mono ?_
  rintro e w4 ⟨rfl, hw4⟩
  obtain rfl := hw4.symm
  obtain ⟨ho, hho⟩ : ∃ ho, ho = (nameB (nums t) && ltL (nums last) (nums t) && decide (z ≤ 300)) := ⟨_, rfl⟩
  rw [← hho]
  have HHO := hide hho
  clear hho
  go_wp2_with fail
  refine (pmust_any r b cap p3 s _ ok3 ho _ HR3.out).mono ?_
  rintro e w5 ⟨rfl, hR5, hg5⟩
  have HR5 := hide hR5
  have HG5 := hide hg5
  have HC5 := hide (cells_grow hbr hg5 HC3.out)
  have hb5 : b < w5.heap.size := by have := hg5.size; omega
  clear hR5 hg5
  go_wp2_with fail
  refine (pwide_any r b cap p3 8 s _ _ hs hcap hp3 (by omega) HR5.out hbr hb5 HC5.out).mono ?_
  rintro e w7 ⟨dg, rfl, p7, ok7, hR7, hS7, hv7, hd0, hd1, _, hg7⟩
  have HG7 : Hid (w.grownBy w7 (some r)) := (World.grownBy_alloc w _ _).trans (HG1.out.trans (HG2.out.trans (HG3.out.trans (HG5.out.trans hg7))))
  have HR7 := hide hR7
  have HP7 := hide (hS7.le hp3)
  have hgr : w7.heap[w.heap.size]? = some (.cells #[.string ⟨#[]⟩, .int .i64 0, .int .u64 0] 178 (0, 0)) := by
    have hgall := HG1.out.trans (HG2.out.trans (HG3.out.trans (HG5.out.trans hg7)))
    rw [hgall.block _ (by simp) (by simp; omega)]
    exact heap_alloc_new _ _
  have HSEM := hide (pentry_sem (last := nums last) hp HS1.out HV1.out HS2.out HV2.out HS3.out HV3.out (by rw [HHO.out, show decide (z ≤ 300) = decide ((z : Int) ≤ 300) from decide_eq_decide.2 (by omega)]) hS7 hv7)
  have k0 : w7.cell? ⟨w.heap.size, 0, none⟩ = some (.string ⟨#[]⟩) := cell_row hgr rfl
  have k1 : w7.cell? ⟨w.heap.size, 1, none⟩ = some (.int .i64 0) := cell_row hgr rfl
  have k2 : w7.cell? ⟨w.heap.size, 2, none⟩ = some (.int .u64 0) := cell_row hgr rfl
  have kf : ∀ j, w7.frozen? ⟨w.heap.size, j, none⟩ = false := fun j => frozen_of_row _ _ _ _ _ hgr
  have HDG : Hid (0 ≤ dg ∧ dg < 18446744073709551616) := ⟨hd0, by simpa using hd1⟩
  clear hR7 hS7 hv7 hg7 hgr hd0 hd1
  go_wp2_with fail
  refine bodyPost_ret (v := .agg #[.string t, .int .i64 z, .int .u64 dg]) (by simp [results, Tryz.results136, go_sem, k0, k1, k2]) rfl ⟨t, z, dg, rfl, p7, ok7, ?_, HP7.out, by omega, hz, HDG.out.1, HDG.out.2, HSEM.out.1, HSEM.out.2, ?_⟩
  · obtain ⟨ev, h1, h2⟩ := HR7.out
    exact ⟨ev, h1, ((Below.heap_setCell _ _ _ _ (Nat.ne_of_lt hlr)).trans ((Below.heap_setCell _ _ _ _ (Nat.ne_of_lt hlr)).trans ((Below.heap_setCell _ _ _ _ (Nat.ne_of_lt hlr)).trans h2)))⟩
  · exact grown_setNew (grown_setNew (grown_setNew HG7.out (Nat.le_refl _) _ _) (Nat.le_refl _) _ _) (Nat.le_refl _) _ _
end Go.Proofs.YtbhccdedcoajmabGreatDoor
