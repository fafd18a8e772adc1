import Derived.Test.YtbhccdedcoajmabDoorPRead
import Derived.Test.YtbhccdedcoajmabDoorPTree
namespace Go.Proofs.YtbhccdedcoajmabDoor
open Go.RowKit

theorem num_at {s : ByteArray} {q n : Nat} (h : q + n ≤ s.size) : numP n ((nums s).drop q) = some (getN (((nums s).drop q).take n), (nums s).drop (q + n)) := by
  have hl := nums_length s
  unfold numP
  rw [if_neg (by rw [List.length_drop]; omega), List.drop_drop]
theorem num_no {s : ByteArray} {q n : Nat} (h : s.size < q + n) (hq : q ≤ s.size) : numP n ((nums s).drop q) = none := by
  have hl := nums_length s
  unfold numP
  rw [if_pos (by rw [List.length_drop]; omega)]
theorem txt_at {s : ByteArray} {q n : Nat} (h : q + n ≤ s.size) : txtP n ((nums s).drop q) = some (((nums s).drop q).take n, (nums s).drop (q + n)) := by
  have hl := nums_length s
  unfold txtP
  rw [if_neg (by rw [List.length_drop]; omega), List.drop_drop]
theorem txt_no {s : ByteArray} {q n : Nat} (h : s.size < q + n) (hq : q ≤ s.size) : txtP n ((nums s).drop q) = none := by
  have hl := nums_length s
  unfold txtP
  rw [if_pos (by rw [List.length_drop]; omega)]

/-- the program's reads of an entry, as one -/
theorem pentry_sem {s : ByteArray} {ok ok1 ok2 ok3 ok4 ok5 : Bool} {p p1 p2 p3 p5 m : Nat} {last nm : List Int} {sz dg : Int} (hp : p ≤ s.size)
    (S1 : Step s ok p 1 p1 ok1) (v1 : ok1 = true → (m : Int) = getN (((nums s).drop p).take 1)) (S2 : Step s ok1 p1 m p2 ok2) (v2 : ok2 = true → nm = ((nums s).drop p1).take m)
    (S3 : Step s ok2 p2 2 p3 ok3) (v3 : ok3 = true → sz = getN (((nums s).drop p2).take 2)) (h4 : ok4 = (ok3 && (nameB nm && ltL last nm && decide (sz ≤ 300)))) (S5 : Step s ok4 p3 8 p5 ok5) (v5 : ok5 = true → dg = getN (((nums s).drop p3).take 8)) :
    (ok5 = true → ok = true ∧ entryP false last ((nums s).drop p) = some (⟨nm, sz, dg⟩, (nums s).drop p5)) ∧ (ok5 = false → ok = false ∨ entryP false last ((nums s).drop p) = none) := by
  unfold entryP
  rcases S1 with ⟨rfl, a1, rfl, rfl⟩ | ⟨rfl, rfl, a1⟩
  · rw [num_at a1, ← v1 rfl]
    simp only [Option.bind_eq_bind, Option.bind_some, Int.toNat_natCast, Bool.false_or]
    rcases S2 with ⟨_, a2, rfl, rfl⟩ | ⟨rfl, rfl, a2⟩
    · rw [txt_at a2, ← v2 rfl]
      simp only [Option.bind_some]
      rcases S3 with ⟨_, a3, rfl, rfl⟩ | ⟨rfl, rfl, a3⟩
      · rw [num_at a3, ← v3 rfl]
        simp only [Option.bind_some]
        rw [Bool.true_and] at h4
        by_cases hn : (nameB nm && ltL last nm) = true
        · rw [if_pos hn]
          rw [hn, Bool.true_and] at h4
          by_cases hz : sz ≤ 300
          · rw [if_pos hz]
            rw [decide_eq_true hz] at h4
            subst h4
            rcases S5 with ⟨_, a5, rfl, rfl⟩ | ⟨rfl, rfl, a5⟩
            · rw [num_at a5, ← v5 rfl]
              first | exact ⟨fun _ => ⟨rfl, rfl⟩, fun h => (by cases h)⟩ | simp
            · rw [num_no (by simpa using a5) (by omega)]
              exact ⟨fun h => (by cases h), fun _ => .inr rfl⟩
          · rw [if_neg hz]
            rw [decide_eq_false hz] at h4
            subst h4
            rcases S5 with ⟨h, _⟩ | ⟨rfl, _⟩
            · cases h
            · exact ⟨fun h => (by cases h), fun _ => .inr rfl⟩
        · rw [if_neg hn]
          rw [Bool.eq_false_iff.2 hn, Bool.false_and] at h4
          subst h4
          rcases S5 with ⟨h, _⟩ | ⟨rfl, _⟩
          · cases h
          · exact ⟨fun h => (by cases h), fun _ => .inr rfl⟩
      · rw [Bool.false_and] at h4
        subst h4
        rw [num_no (by simpa using a3) (by omega)]
        rcases S5 with ⟨h, _⟩ | ⟨rfl, _⟩
        · cases h
        · exact ⟨fun h => (by cases h), fun _ => .inr (by split <;> rfl)⟩
    · have e3 : ok3 = false := by
        rcases S3 with ⟨h, _⟩ | ⟨h, _⟩
        · cases h
        · exact h
      subst e3
      rw [Bool.false_and] at h4
      subst h4
      rw [txt_no (by simpa using a2) (by omega)]
      rcases S5 with ⟨h, _⟩ | ⟨rfl, _⟩
      · cases h
      · exact ⟨fun h => (by cases h), fun _ => .inr rfl⟩
  · have e2 : ok2 = false := by
      rcases S2 with ⟨h, _⟩ | ⟨h, _⟩
      · cases h
      · exact h
    subst e2
    have e3 : ok3 = false := by
      rcases S3 with ⟨h, _⟩ | ⟨h, _⟩
      · cases h
      · exact h
    subst e3
    rw [Bool.false_and] at h4
    subst h4
    have e5 : ok5 = false := by
      rcases S5 with ⟨h, _⟩ | ⟨h, _⟩
      · cases h
      · exact h
    subst e5
    refine ⟨fun h => (by cases h), fun _ => ?_⟩
    rcases a1 with rfl | a1
    · exact .inl rfl
    · right
      rw [num_no a1 hp]
      rfl

theorem conv_zero (va : Option Addr) (W : World) : (convert 26 9 (.slice va 0 0)).run Tryd.prog W = .ok (.string ⟨#[]⟩) W := by
  cases va with
  | none => exact Tryd.convNil W
  | some a => exact run_convert_bytes_back (P := Tryd.prog) W 26 9 5 a 0 [] Tryd.underlying26 Tryd.underlying5 Tryd.underlying9 (fun j hj => by simp at hj)
/-- the text of bytes that were taken -/
theorem conv_take {s : ByteArray} {b p n m : Nat} {va : Option Addr} {ok' : Bool} {W : World} (hp : ok' = true → p + n ≤ s.size) (hyes : ok' = true → m = n ∧ (0 < n → va = some ⟨b, p, none⟩)) (hno : ok' = false → m = 0 ∧ va = none) (hc : ∀ k (h : k < s.size), W.cell? ⟨b, k, none⟩ = some (.int .u8 (s[k].toNat : Int))) :
    ∃ t : ByteArray, (convert 26 9 (.slice va m m)).run Tryd.prog W = .ok (.string t) W ∧ t.size ≤ n ∧ (ok' = true → nums t = ((nums s).drop p).take n) := by
  cases ok' with
  | false =>
    obtain ⟨rfl, rfl⟩ := hno rfl
    exact ⟨⟨#[]⟩, conv_zero _ _, Nat.zero_le _, fun h => by cases h⟩
  | true =>
    obtain ⟨rfl, hva⟩ := hyes rfl
    have hfit := hp rfl
    by_cases h0 : m = 0
    · subst h0
      exact ⟨⟨#[]⟩, conv_zero _ _, Nat.le_refl _, fun _ => by simp [nums_empty]⟩
    · obtain rfl := hva (by omega)
      have hl : (((nums s).drop p).take m).length = m := by rw [List.length_take, List.length_drop, nums_length]; omega
      have := conv_cells b p m (((nums s).drop p).take m) W (((nums_bytes s).drop p).take m) (fun k h => by
        rw [hl] at h
        rw [List.getElem_take, List.getElem_drop, nums_at s (p + k) (by omega)]
        exact hc (p + k) (by omega))
      rw [hl] at this
      exact ⟨_, this, by rw [bytesOf_size, hl]; exact Nat.le_refl _, fun _ => nums_bytesOf (((nums_bytes s).drop p).take m)⟩

/-- what reading an entry leaves -/
def EntQ (w : World) (r b cap : Nat) (s : ByteArray) (ok : Bool) (p : Nat) (last t : ByteArray) (z : Nat) (dg : Int) (w' : World) : Prop :=
  ∃ (p' : Nat) (ok' : Bool), PRd w' r b cap s p' ok' ∧ p' ≤ s.size ∧ t.size ≤ 255 ∧ z ≤ 65535 ∧ 0 ≤ dg ∧ dg < 18446744073709551616 ∧ (ok' = true → ok = true ∧ entryP false (nums last) ((nums s).drop p) = some (⟨nums t, z, dg⟩, (nums s).drop p')) ∧ (ok' = false → ok = false ∨ entryP false (nums last) ((nums s).drop p) = none) ∧ w.grownBy w' (some r)

theorem cells_grow {s : ByteArray} {b r : Nat} {w W : World} (hbr : b ≠ r) (hg : w.grownBy W (some r)) (hc : ∀ k (h : k < (nums s).length), w.cell? ⟨b, 0 + k, none⟩ = some (.int .u8 (nums s)[k])) : ∀ k (h : k < (nums s).length), W.cell? ⟨b, 0 + k, none⟩ = some (.int .u8 (nums s)[k]) := fun k h => hg.cell (hc k h) (by simp; exact hbr)
theorem cells_plain {s : ByteArray} {b : Nat} {W : World} (hc : ∀ k (h : k < (nums s).length), W.cell? ⟨b, 0 + k, none⟩ = some (.int .u8 (nums s)[k])) : ∀ k (h : k < s.size), W.cell? ⟨b, k, none⟩ = some (.int .u8 (s[k].toNat : Int)) := by
  intro k h
  have := hc k (by rw [nums_length]; exact h)
  rw [Nat.zero_add, nums_at s k h] at this
  exact this

set_option maxRecDepth 10000 in
set_option maxHeartbeats 1000000 in
theorem pentry_any (r b cap p : Nat) (s last : ByteArray) (ok : Bool) (w : World) (hs : s.size ≤ 70000) (hcap : s.size ≤ cap) (hp : p ≤ s.size) (hR : PRd w r b cap s p ok) (hbr : b ≠ r) (hb : b < w.heap.size) (hc : ∀ k (h : k < (nums s).length), w.cell? ⟨b, 0 + k, none⟩ = some (.int .u8 (nums s)[k])) :
    Calls Tryd.prog 62 #[.pointer (some ⟨r, 0, none⟩), .string last] w fun e w' => ∃ (t : ByteArray) (z : Nat) (dg : Int), e = .returned (.agg #[.string t, .int .i64 z, .int .u64 dg]) ∧ EntQ w r b cap s ok p last t z dg w' := by
  have HA : Hid (∀ o, Below w.heap.size w (w.alloc o)) := fun o => (Below.refl _ _).alloc (Nat.le_refl _) o
  have hlr := hR.lt
  have HR0 : Hid (∀ o, PRd (w.alloc o) r b cap s p ok) := fun o => hR.below (HA.out o)
  have HC0 : Hid (∀ o, ∀ k (h : k < (nums s).length), (w.alloc o).cell? ⟨b, 0 + k, none⟩ = some (.int .u8 (nums s)[k])) := fun o => cells_below hc (HA.out o)
  clear hR hc
  go_enter Tryd.func62, Tryd.ntmps62
  go_wp2_with fail
  refine (pnumber_any r b cap p 1 s ok _ hs hcap hp (by omega) (HR0.out _) hbr (by simp; omega) (HC0.out _)).mono ?_
  rintro e w1 ⟨m, rfl, _, hm, p1, ok1, hR1, hS1, hv1, _, _, _, hg1⟩
  have hm := hm rfl
  have HR1 := hide hR1
  have HS1 := hide hS1
  have HV1 := hide hv1
  have HG1 := hide hg1
  have HC1 := hide (cells_grow hbr hg1 (HC0.out _))
  have hp1 := hS1.le hp
  have hb1 : b < w1.heap.size := by have := hg1.size; simp at this; omega
  clear hR1 hS1 hv1 hg1
  go_wp2_with fail
  refine (ptake_any r b cap p1 m s ok1 _ hs hcap hp1 (by omega) HR1.out).mono ?_
  rintro e w2 ⟨va, m2, p2, ok2, rfl, hR2, hS2, hyes, hno, hg2⟩
  have HC2 := hide (cells_grow hbr hg2 HC1.out)
  obtain ⟨t, hcv, ht, hv2⟩ := conv_take (s := s) (b := b) (p := p1) (n := m) (W := w2) (fun h => by rcases hS2 with ⟨_, h2, _⟩ | ⟨h2, _⟩; exact h2; rw [h] at h2; cases h2) hyes hno (cells_plain HC2.out)
  have HR2 := hide hR2
  have HS2 := hide hS2
  have HV2 := hide hv2
  have HG2 := hide hg2
  have hp2 := hS2.le hp1
  have hb2 : b < w2.heap.size := by have := hg2.size; omega
  clear hR2 hS2 hv2 hg2 hyes hno
  go_wp2_with fail
  clear hcv
  refine (pnumber_any r b cap p2 2 s ok2 _ hs hcap hp2 (by omega) HR2.out hbr hb2 HC2.out).mono ?_
  rintro e w3 ⟨z, rfl, hz, _, p3, ok3, hR3, hS3, hv3, _, _, _, hg3⟩
  have HR3 := hide hR3
  have HS3 := hide hS3
  have HV3 := hide hv3
  have HG3 := hide hg3
  have HC3 := hide (cells_grow hbr hg3 HC2.out)
  have hp3 := hS3.le hp2
  have hb3 : b < w3.heap.size := by have := hg3.size; omega
  clear hR3 hS3 hv3 hg3
  go_wp2_with fail
  refine (follows_any last t z (by omega) (by omega) _).mono ?_
  rintro e w4 ⟨rfl, hw4⟩
  obtain rfl := hw4.symm
  obtain ⟨ho, hho⟩ : ∃ ho, ho = (nameB (nums t) && ltL (nums last) (nums t) && decide (z ≤ 300)) := ⟨_, rfl⟩
  rw [← hho]
  have HHO := hide hho
  clear hho
  go_wp2_with fail
  refine (pmust_any r b cap p3 s _ ok3 ho _ HR3.out).mono ?_
  rintro e w5 ⟨rfl, hR5, hg5⟩
  have HR5 := hide hR5
  have HG5 := hide hg5
  have HC5 := hide (cells_grow hbr hg5 HC3.out)
  have hb5 : b < w5.heap.size := by have := hg5.size; omega
  clear hR5 hg5
  go_wp2_with fail
  refine (pwide_any r b cap p3 8 s _ _ hs hcap hp3 (by omega) HR5.out hbr hb5 HC5.out).mono ?_
  rintro e w7 ⟨dg, rfl, p7, ok7, hR7, hS7, hv7, hd0, hd1, _, hg7⟩
  have HG7 : Hid (w.grownBy w7 (some r)) := (World.grownBy_alloc w _ _).trans (HG1.out.trans (HG2.out.trans (HG3.out.trans (HG5.out.trans hg7))))
  have HR7 := hide hR7
  have HP7 := hide (hS7.le hp3)
  have hgr : w7.heap[w.heap.size]? = some (.cells #[.string ⟨#[]⟩, .int .i64 0, .int .u64 0] 41 (0, 0)) := by
    have hgall := HG1.out.trans (HG2.out.trans (HG3.out.trans (HG5.out.trans hg7)))
    rw [hgall.block _ (by simp) (by simp; omega)]
    exact heap_alloc_new _ _
  have HSEM := hide (pentry_sem (last := nums last) hp HS1.out HV1.out HS2.out HV2.out HS3.out HV3.out (by rw [HHO.out, show decide (z ≤ 300) = decide ((z : Int) ≤ 300) from decide_eq_decide.2 (by omega)]) hS7 hv7)
  have k0 : w7.cell? ⟨w.heap.size, 0, none⟩ = some (.string ⟨#[]⟩) := cell_row hgr rfl
  have k1 : w7.cell? ⟨w.heap.size, 1, none⟩ = some (.int .i64 0) := cell_row hgr rfl
  have k2 : w7.cell? ⟨w.heap.size, 2, none⟩ = some (.int .u64 0) := cell_row hgr rfl
  have kf : ∀ j, w7.frozen? ⟨w.heap.size, j, none⟩ = false := fun j => frozen_of_row _ _ _ _ _ hgr
  have HDG : Hid (0 ≤ dg ∧ dg < 18446744073709551616) := ⟨hd0, by simpa using hd1⟩
  clear hR7 hS7 hv7 hg7 hgr hd0 hd1
  go_wp2_with fail
  refine bodyPost_ret (v := .agg #[.string t, .int .i64 z, .int .u64 dg]) (by simp [results, Tryd.results62, go_sem, k0, k1, k2]) rfl ⟨t, z, dg, rfl, p7, ok7, ?_, HP7.out, by omega, hz, HDG.out.1, HDG.out.2, HSEM.out.1, HSEM.out.2, ?_⟩
  · obtain ⟨ev, h1, h2⟩ := HR7.out
    exact ⟨ev, h1, ((Below.heap_setCell _ _ _ _ (Nat.ne_of_lt hlr)).trans ((Below.heap_setCell _ _ _ _ (Nat.ne_of_lt hlr)).trans ((Below.heap_setCell _ _ _ _ (Nat.ne_of_lt hlr)).trans h2)))⟩
  · exact grown_setNew (grown_setNew (grown_setNew HG7.out (Nat.le_refl _) _ _) (Nat.le_refl _) _ _) (Nat.le_refl _) _ _
end Go.Proofs.YtbhccdedcoajmabDoor
namespace Go.Proofs.YtbhccdedcoajmabDoor
open Go.RowKit

def filesP (l : List Int) : Option (Nat × List Int) := (numP 1 l).bind fun q => if q.1 ≤ 8 then some (q.1.toNat, q.2) else none
/-- what reading the number of files leaves -/
def FilQ (w : World) (r b cap : Nat) (s : ByteArray) (ok : Bool) (p n : Nat) (w' : World) : Prop :=
  ∃ (p' : Nat) (ok' : Bool), PRd w' r b cap s p' ok' ∧ p' ≤ s.size ∧ n ≤ 8 ∧ (ok' = true → ok = true ∧ filesP ((nums s).drop p) = some (n, (nums s).drop p')) ∧ (ok' = false → n = 0 ∧ (ok = false ∨ filesP ((nums s).drop p) = none)) ∧ w.grownBy w' (some r)
theorem files_sem {s : ByteArray} {ok ok1 : Bool} {p p1 v : Nat} (hp : p ≤ s.size) (S1 : Step s ok p 1 p1 ok1) (v1 : ok1 = true → (v : Int) = getN (((nums s).drop p).take 1)) :
    ((ok1 && decide (v ≤ 8)) = true → ok = true ∧ filesP ((nums s).drop p) = some (v, (nums s).drop p1)) ∧ ((ok1 && decide (v ≤ 8)) = false → ok = false ∨ filesP ((nums s).drop p) = none) := by
  unfold filesP
  rcases S1 with ⟨rfl, a1, rfl, rfl⟩ | ⟨rfl, rfl, a1⟩
  · rw [num_at a1, ← v1 rfl]
    simp only [Option.bind_some, Bool.true_and, Int.toNat_natCast]
    by_cases h : v ≤ 8
    · rw [if_pos (by omega)]
      exact ⟨fun _ => by simp, fun h' => by rw [decide_eq_true h] at h'; cases h'⟩
    · rw [if_neg (by omega)]
      exact ⟨fun h' => (by rw [decide_eq_false h] at h'; cases h'), fun _ => (by simp)⟩
  · refine ⟨fun h => by simp at h, fun _ => ?_⟩
    rcases a1 with rfl | a1
    · exact .inl rfl
    · right
      rw [num_no a1 hp]; rfl

set_option maxRecDepth 10000 in
set_option maxHeartbeats 1000000 in
theorem pfiles_any (r b cap p : Nat) (s : ByteArray) (ok : Bool) (w : World) (hs : s.size ≤ 70000) (hcap : s.size ≤ cap) (hp : p ≤ s.size) (hR : PRd w r b cap s p ok) (hbr : b ≠ r) (hb : b < w.heap.size) (hc : ∀ k (h : k < (nums s).length), w.cell? ⟨b, 0 + k, none⟩ = some (.int .u8 (nums s)[k])) :
    Calls Tryd.prog 61 #[.pointer (some ⟨r, 0, none⟩)] w fun e w' => ∃ n : Nat, e = .returned (.int .i64 n) ∧ FilQ w r b cap s ok p n w' := by
  have HN := hide (pnumber_any r b cap p 1 s ok w hs hcap hp (by omega) hR hbr hb hc)
  clear hR hc
  go_enter Tryd.func61, Tryd.ntmps61
  go_wp2_with fail
  refine HN.out.mono ?_
  rintro e w1 ⟨v, rfl, _, hv, p1, ok1, hR1, hS1, hv1, _, _, _, hg1⟩
  have hv := hv (by first | rfl | trivial)
  have HR1 := hide hR1
  have HG1 := hide hg1
  have HP1 := hide (hS1.le hp)
  have HSEM := hide (files_sem hp hS1 hv1)
  clear hR1 hS1 hv1 hg1 HN
  by_cases h8 : v ≤ 8
  · have hd : decide ((v : Int) ≤ 8) = true := decide_eq_true (by omega)
    have hd1 : (v : Int) ≤ 8 := by omega
    rw [decide_eq_true h8, Bool.and_true] at HSEM
    go_wp2_with fail
    refine (pmust_any r b cap p1 s _ ok1 true w1 HR1.out).mono ?_
    rintro e w2 ⟨rfl, hR2, hg2⟩
    rw [Bool.and_true] at hR2
    obtain ⟨ev, hev, _, _, c2, _⟩ := hR2.open
    have HR2 := hide hR2
    have HG2 := hide (HG1.out.trans hg2)
    clear hR2 hg2
    cases ok1 with
    | true =>
      obtain rfl : ev = .nilIface := hev
      go_wp2_with fail
      go_ret
      exact ⟨v, rfl, p1, true, HR2.out, HP1.out, h8, (fun _ => HSEM.out.1 (by first | rfl | trivial)), (fun h => by cases h), HG2.out⟩
    | false =>
      obtain ⟨fb, rfl⟩ := hev
      go_wp2_with fail
      go_ret
      exact ⟨0, rfl, p1, false, HR2.out, HP1.out, by omega, (fun h => by cases h), (fun _ => ⟨rfl, HSEM.out.2 (by first | rfl | trivial)⟩), HG2.out⟩
  · have hd : decide ((v : Int) ≤ 8) = false := decide_eq_false (by omega)
    have hd1 : 8 < (v : Int) := by omega
    rw [decide_eq_false h8, Bool.and_false] at HSEM
    go_wp2_with fail
    refine (pmust_any r b cap p1 s _ ok1 false w1 HR1.out).mono ?_
    rintro e w2 ⟨rfl, hR2, hg2⟩
    rw [Bool.and_false] at hR2
    obtain ⟨ev, hev, _, _, c2, _⟩ := hR2.open
    have HR2 := hide hR2
    have HG2 := hide (HG1.out.trans hg2)
    clear hR2 hg2
    obtain ⟨fb, rfl⟩ := hev
    go_wp2_with fail
    go_ret
    exact ⟨0, rfl, p1, false, HR2.out, HP1.out, by omega, (fun h => by cases h), (fun _ => ⟨rfl, HSEM.out.2 (by first | rfl | trivial)⟩), HG2.out⟩

theorem row_kept {w w' : World} {base r : Nat} {e : TypeId} {size : Nat} {v : Value} {n : Nat} {xs : List Value} (h : w.ownsRow base e size v n xs) (hg : w.grownBy w' (some r)) (hr : r < base) : w'.ownsRow base e size v n xs := by
  refine h.kept hg ?_
  cases hv : v.ownBlock with
  | none => exact .inl rfl
  | some k =>
    refine .inr fun e => ?_
    have := (h.lt k hv).1
    have : k = r := by simpa using e
    omega
theorem grown_comp {w w1 w2 : World} {r : Nat} {row : Option Nat} (h : w.grownBy w1 (some r)) (g : w1.grownBy w2 row) (hrow : ∀ k, row = some k → w.heap.size ≤ k) : w.grownBy w2 (some r) :=
  ⟨g.os.trans h.os, g.tape.trans h.tape, g.output.trans h.output, Nat.le_trans h.size g.size, fun k hk hne => (g.block k (Nat.lt_of_lt_of_le hk h.size) (fun e => by have := hrow k e.symm; omega)).trans (h.block k hk hne)⟩
theorem PRd.grown {w w' : World} {r b cap p : Nat} {s : ByteArray} {ok : Bool} {row : Option Nat} (h : PRd w r b cap s p ok) (g : w.grownBy w' row) (hne : row ≠ some r) : PRd w' r b cap s p ok := by
  obtain ⟨ev, h1, h2⟩ := h
  exact ⟨ev, h1, (g.block r (Array.getElem?_eq_some_iff.1 h2).1 (Ne.symm hne)).trans h2⟩

def entV (e : ByteArray × Nat × Int) : EntL := ⟨nums e.1, e.2.1, e.2.2⟩
def entCells (es : List (ByteArray × Nat × Int)) : List Value := es.flatMap fun e => [.string e.1, .int .i64 e.2.1, .int .u64 e.2.2]
theorem entCells_snoc (es : List (ByteArray × Nat × Int)) (e : ByteArray × Nat × Int) : entCells (es ++ [e]) = entCells es ++ [.string e.1, .int .i64 e.2.1, .int .u64 e.2.2] := by simp [entCells]
theorem entCells_at : ∀ (es : List (ByteArray × Nat × Int)) (i : Nat) (hi : i < es.length), (entCells es)[i * 3]? = some (.string es[i].1) ∧ (entCells es)[i * 3 + 1]? = some (.int .i64 es[i].2.1) ∧ (entCells es)[i * 3 + 2]? = some (.int .u64 es[i].2.2)
  | e :: es, 0, _ => by simp [entCells]
  | e :: es, i + 1, h => by
    have := entCells_at es i (by simpa using h)
    have e' : entCells (e :: es) = .string e.1 :: .int .i64 e.2.1 :: .int .u64 e.2.2 :: entCells es := by simp [entCells]
    rw [e', show (i + 1) * 3 = i * 3 + 1 + 1 + 1 by omega]
    simpa using this
theorem Tryd.info41 : (Tryd.prog.info? 41).map (fun i => (i.zero, i.size, i.bytes)) = some (some (.agg #[.string ⟨#[]⟩, .int .i64 0, .int .u64 0]), 3, 32) := by kernel_rfl

/-- what reading a basis leaves -/
def BasQ (w : World) (r b cap : Nat) (s : ByteArray) (ok : Bool) (p : Nat) (v : Value) (w' : World) : Prop :=
  ∃ (p' : Nat) (ok' : Bool) (es : List (ByteArray × Nat × Int)), PRd w' r b cap s p' ok' ∧ p' ≤ s.size ∧ es.length ≤ 8 ∧ w'.ownsRow w.heap.size 41 3 v es.length (entCells es) ∧
    (ok' = true → ok = true ∧ ((filesP ((nums s).drop p)).bind fun q => basisP q.1 false [] q.2) = some (es.map entV, (nums s).drop p')) ∧ (ok' = false → ok = false ∨ ((filesP ((nums s).drop p)).bind fun q => basisP q.1 false [] q.2) = none) ∧ w.grownBy w' (some r)
theorem basis_step (m : Nat) (last l : List Int) : basisP (m + 1) false last l = (entryP false last l).bind fun q => (basisP m false q.1.name q.2).map fun q2 => (q.1 :: q2.1, q2.2) := by
  conv => lhs; unfold basisP
  simp only [Option.bind_eq_bind]
  congr 1
  funext q
  cases basisP m false q.1.name q.2 <;> rfl

set_option maxRecDepth 10000 in
set_option maxHeartbeats 2000000 in
theorem pbasis_any (r b cap p : Nat) (s : ByteArray) (ok : Bool) (w : World) (hs : s.size ≤ 70000) (hcap : s.size ≤ cap) (hp : p ≤ s.size) (hR : PRd w r b cap s p ok) (hbr : b ≠ r) (hb : b < w.heap.size) (hc : ∀ k (h : k < (nums s).length), w.cell? ⟨b, 0 + k, none⟩ = some (.int .u8 (nums s)[k])) :
    Calls Tryd.prog 48 #[.pointer (some ⟨r, 0, none⟩)] w fun e w' => ∃ v, e = .returned v ∧ BasQ w r b cap s ok p v w' := by
  obtain ⟨i0, hi, z0, z1, z2⟩ := info_parts Tryd.info41
  have hlr := hR.lt
  have HF := hide (pfiles_any r b cap p s ok w hs hcap hp hR hbr hb hc)
  have HC := hide hc
  clear hR hc
  go_enter Tryd.func48, Tryd.ntmps48
  go_wp2_with fail
  refine HF.out.mono ?_
  rintro e w1 ⟨n, rfl, p1, ok1, hR1, hp1, hn8, hyes, hno, hg1⟩
  have HR1 := hide hR1
  have HG1 := hide hg1
  have HP1 := hide hp1
  obtain ⟨all, hall⟩ : ∃ all, all = ((filesP ((nums s).drop p)).bind fun q => basisP q.1 false [] q.2) := ⟨_, rfl⟩
  have HST : Hid ((ok1 = true → ok = true ∧ all = (basisP n false [] ((nums s).drop p1)).map fun q => ([] ++ q.1, q.2)) ∧ (ok1 = false → ok = false ∨ all = none)) := by
    refine ⟨fun h => ⟨(hyes h).1, ?_⟩, fun h => (hno h).2.imp id fun e => by rw [hall, e]; rfl⟩
    rw [hall, (hyes h).2]
    simp
  clear hR1 hg1 hyes hno hp1 HF
  have HALL := hide hall
  clear hall
  go_wp2_with fail
  go_loopw [3, 4, 8] (fun v3 v4 v8 wr => ∃ (k q : Nat) (okr : Bool) (es : List (ByteArray × Nat × Int)) (last : ByteArray), k ≤ n ∧ v8 = .int .i64 k ∧ v4 = .string last ∧ Hid (es.length = k) ∧ Hid (q ≤ s.size) ∧ Hid (PRd wr r b cap s q okr) ∧ Hid (wr.ownsRow w.heap.size 41 3 v3 k (entCells es)) ∧ Hid (w.grownBy wr (some r)) ∧
    Hid ((okr = true → ok = true ∧ all = (basisP (n - k) false (nums last) ((nums s).drop q)).map fun q => (es.map entV ++ q.1, q.2)) ∧ (okr = false → ok = false ∨ all = none))) (fun _ _ v8 _ => n - (intOf v8).toNat)
  case atStart => exact ⟨0, p1, ok1, [], ⟨#[]⟩, Nat.zero_le _, rfl, rfl, rfl, HP1.out, HR1.out, World.ownsRow_nil _ _ _ _, HG1.out, HST.out⟩
  case round =>
    clear HR1 HG1 HP1 HST
    obtain ⟨k, q, okr, es, last, hk, rfl, rfl, HEL, HQ, HRr, HOr, HGr, HSr⟩ := hrel
    by_cases hlt : k < n
    · have hbr2 : b < wr.heap.size := Nat.lt_of_lt_of_le hb HGr.out.size
      have HEN := hide (pentry_any r b cap q s last okr wr hs hcap HQ.out HRr.out hbr hbr2 (cells_grow hbr HGr.out HC.out))
      go_wp2_with fail
      refine HEN.out.mono ?_
      rintro e w2 ⟨t, z, dg, rfl, q2, ok2, hR2, hq2, ht, hz, hd0, hd1, hyes, hno, hg2⟩
      have HR2 := hide hR2
      have HQ2 := hide hq2
      have HG2 := hide hg2
      have HO2 := hide (row_kept HOr.out hg2 hlr)
      have HS2 : Hid ((ok2 = true → ok = true ∧ all = (basisP (n - (k + 1)) false (nums t) ((nums s).drop q2)).map fun q => ((es ++ [(t, z, dg)]).map entV ++ q.1, q.2)) ∧ (ok2 = false → ok = false ∨ all = none)) := by
        refine ⟨fun h => ?_, fun h => ?_⟩
        · obtain ⟨h1, h2⟩ := hyes h
          obtain ⟨h3, h4⟩ := HSr.out.1 h1
          refine ⟨h3, ?_⟩
          rw [h4, show n - k = (n - (k + 1)) + 1 by omega, basis_step, h2]
          simp only [Option.bind_some, Option.map_map]
          congr 1
          funext q
          simp [entV]
        · rcases hno h with h1 | h1
          · exact HSr.out.2 h1
          · cases okr with
            | false => exact HSr.out.2 rfl
            | true =>
              obtain ⟨h3, h4⟩ := HSr.out.1 rfl
              right
              rw [h4, show n - k = (n - (k + 1)) + 1 by omega, basis_step, h1]; rfl
      have hsz2 : w.heap.size ≤ w2.heap.size := Nat.le_trans HGr.out.size hg2.size
      have HEL1 : Hid (es.length = k) := HEL.out
      clear hR2 hq2 hg2 hyes hno HEN HRr HSr
      go_wp2_with (at_builtin; refine wpList_append_own_at _ rfl (.tmp 13) (.tmp 15) 30 rfl w.heap.size 41 i0 (.agg #[.string ⟨#[]⟩, .int .i64 0, .int .u64 0]) 3 32 Tryd.underlying30 hi z0 z1 z2 rfl (by decide) _ k (entCells es) rfl ((HO2.out.alloc _).alloc _) ⟨w2.heap.size + 1, 0, none⟩ 1 1 [.string t, .int .i64 z, .int .u64 dg] rfl rfl ?ka ?kb ?kc ?kd ?ke ?kf)
      case ka =>
        intro j y hy
        match j, hy with
        | 0, hy => simp at hy; subst hy; simp [Addr.add]
        | 1, hy => simp at hy; subst hy; simp [Addr.add]
        | 2, hy => simp at hy; subst hy; simp [Addr.add]
      case kb => intro y hy; simp at hy; rcases hy with rfl | rfl | rfl <;> rfl
      case kc => unfold maxLen; omega
      case kd => omega
      case ke => simp; omega
      case kf =>
        intro v3 w3 hown3 hgrow3 _ _
        have hgg := ((World.grownBy_alloc w2 (.cells #[.string t, .int .i64 z, .int .u64 dg] 41) u3.ownBlock).trans (World.grownBy_alloc _ _ _)).trans hgrow3
        have hrow : ∀ j, u3.ownBlock = some j → w.heap.size ≤ j := fun j hj => (HOr.out.lt j hj).1
        have HG3 : Hid (w.grownBy w3 (some r)) := grown_comp (HGr.out.trans HG2.out) hgg hrow
        have HR3 : Hid (PRd w3 r b cap s q2 ok2) := HR2.out.grown hgg (fun e => by have := hrow r e; omega)
        have HO3 : Hid (w3.ownsRow w.heap.size 41 3 v3 (k + 1) (entCells (es ++ [(t, z, dg)]))) := by rw [entCells_snoc]; exact hown3
        have HEL3 : Hid ((es ++ [(t, z, dg)]).length = k + 1) := by show _ = _; simp [HEL1.out]
        have k0 : w3.cell? ⟨w2.heap.size, 0, none⟩ = some (.string t) := by
          refine hgrow3.cell ?_ (fun e => ?_)
          · rw [World.cell?_alloc_lt _ _ _ (by simp)]; exact cell_new rfl rfl
          · have := (HO2.out.lt _ e.symm).2; simp at this
        clear hown3 hgrow3 hgg hrow
        go_wp2_with fail
        go_roundw
        case rel => exact ⟨k + 1, q2, ok2, _, t, by omega, by go_num, rfl, HEL3.out, HQ2.out, HR3.out, HO3.out, HG3.out, HS2.out⟩
        case measure => simp [intOf]; omega
    · have hkn : k = n := by omega
      subst hkn
      have HF1 : Hid ((okr = true → ok = true ∧ all = some (es.map entV, (nums s).drop q)) ∧ (okr = false → ok = false ∨ all = none)) := by
        refine ⟨fun h => ⟨(HSr.out.1 h).1, ?_⟩, HSr.out.2⟩
        rw [(HSr.out.1 h).2, Nat.sub_self]
        simp [basisP]
      go_wp2_with fail
      go_ret
      refine ⟨_, rfl, q, okr, es, HRr.out, HQ.out, ?_, ?_, ?_, ?_, HGr.out⟩
      · have := HEL.out; omega
      · rw [HEL.out]; exact HOr.out
      · rw [← HALL.out]; exact HF1.out.1
      · rw [← HALL.out]; exact HF1.out.2
end Go.Proofs.YtbhccdedcoajmabDoor
