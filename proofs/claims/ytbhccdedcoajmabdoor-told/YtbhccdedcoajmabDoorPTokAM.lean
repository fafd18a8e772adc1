import Derived.Test.YtbhccdedcoajmabDoorPEntryM
import Derived.Test.YtbhccdedcoajmabDoorApply
namespace Go.Proofs.YtbhccdedcoajmabDoor
open Go.RowKit

/-- a token as it stands, its blocks not held against a basis -/
def rawP (l : List Int) : Option (Tok × List Int) :=
  (numP 1 l).bind fun q => if q.1 = 0 then (numP 1 q.2).bind fun q2 => (if 0 < q2.1 then (txtP q2.1.toNat q2.2).bind fun q3 => some (⟨0, 0, q3.1⟩, q3.2) else none)
    else if q.1 = 1 then (numP 2 q.2).bind fun q2 => (numP 1 q2.2).bind fun q3 => (if 0 < q3.1 then some (⟨q2.1, q3.1, []⟩, q3.2) else none) else none
theorem Step.off {s : ByteArray} {ok' : Bool} {p n p' : Nat} (h : Step s false p n p' ok') : ok' = false ∧ p' = p := by
  rcases h with ⟨h, _⟩ | ⟨h, h2, _⟩
  · cases h
  · exact ⟨h, h2⟩

theorem raw0 {s : ByteArray} {ok ok1 ok2 ok4 : Bool} {p p1 p2 p4 k : Nat} {t : List Int} (hp : p ≤ s.size) (S1 : Step s ok p 1 p1 ok1) (v1 : ok1 = true → (0 : Int) = getN (((nums s).drop p).take 1))
    (S2 : Step s ok1 p1 1 p2 ok2) (v2 : ok2 = true → (k : Int) = getN (((nums s).drop p1).take 1)) (S4 : Step s (ok2 && decide (0 < k)) p2 k p4 ok4) (v4 : ok4 = true → t = ((nums s).drop p2).take k) :
    (ok4 = true → ok = true ∧ rawP ((nums s).drop p) = some (⟨0, 0, t⟩, (nums s).drop p4)) ∧ (ok4 = false → ok = false ∨ rawP ((nums s).drop p) = none) := by
  unfold rawP
  rcases S1 with ⟨rfl, a1, rfl, rfl⟩ | ⟨rfl, rfl, a1⟩
  · rw [num_at a1, ← v1 rfl]
    simp only [Option.bind_some, if_true]
    rcases S2 with ⟨_, a2, rfl, rfl⟩ | ⟨rfl, rfl, a2⟩
    · rw [num_at a2, ← v2 rfl]
      simp only [Option.bind_some, Bool.true_and, Int.toNat_natCast] at S4 ⊢
      by_cases h0 : 0 < k
      · rw [if_pos (by omega)]
        rw [decide_eq_true h0] at S4
        rcases S4 with ⟨_, a4, rfl, rfl⟩ | ⟨rfl, rfl, a4⟩
        · rw [txt_at a4, ← v4 rfl]
          simp
        · rw [txt_no (by simpa using a4) (by omega)]
          simp
      · rw [if_neg (by omega)]
        rw [decide_eq_false h0] at S4
        obtain ⟨rfl, _⟩ := S4.off
        simp
    · rw [Bool.false_and] at S4
      obtain ⟨rfl, _⟩ := S4.off
      rw [num_no (by simpa using a2) (by omega)]
      simp
  · obtain ⟨rfl, _⟩ := S2.off
    rw [Bool.false_and] at S4
    obtain ⟨rfl, _⟩ := S4.off
    refine ⟨fun h => (by cases h), fun _ => ?_⟩
    rcases a1 with rfl | a1
    · exact .inl rfl
    · right
      rw [num_no a1 hp]; rfl
theorem raw1 {s : ByteArray} {ok ok1 ok2 ok3 : Bool} {p p1 p2 p3 bk k : Nat} (hp : p ≤ s.size) (S1 : Step s ok p 1 p1 ok1) (v1 : ok1 = true → (1 : Int) = getN (((nums s).drop p).take 1))
    (S2 : Step s ok1 p1 2 p2 ok2) (v2 : ok2 = true → (bk : Int) = getN (((nums s).drop p1).take 2)) (S3 : Step s ok2 p2 1 p3 ok3) (v3 : ok3 = true → (k : Int) = getN (((nums s).drop p2).take 1)) :
    ((ok3 && decide (0 < k)) = true → ok = true ∧ rawP ((nums s).drop p) = some (⟨bk, k, []⟩, (nums s).drop p3)) ∧ ((ok3 && decide (0 < k)) = false → ok = false ∨ rawP ((nums s).drop p) = none) := by
  unfold rawP
  rcases S1 with ⟨rfl, a1, rfl, rfl⟩ | ⟨rfl, rfl, a1⟩
  · rw [num_at a1, ← v1 rfl]
    simp only [Option.bind_some, if_true, show ((1 : Int) = 0) = False by simp, if_false]
    rcases S2 with ⟨_, a2, rfl, rfl⟩ | ⟨rfl, rfl, a2⟩
    · rw [num_at a2, ← v2 rfl]
      simp only [Option.bind_some]
      rcases S3 with ⟨_, a3, rfl, rfl⟩ | ⟨rfl, rfl, a3⟩
      · rw [num_at a3, ← v3 rfl]
        simp only [Option.bind_some, Bool.true_and]
        by_cases h0 : 0 < k
        · rw [if_pos (by omega)]
          simp [h0]
        · rw [if_neg (by omega)]
          simp [h0]
      · rw [num_no (by simpa using a3) (by omega)]
        simp
    · obtain ⟨rfl, _⟩ := S3.off
      rw [num_no (by simpa using a2) (by omega)]
      simp
  · obtain ⟨rfl, _⟩ := S2.off
    obtain ⟨rfl, _⟩ := S3.off
    refine ⟨fun h => (by cases h), fun _ => ?_⟩
    rcases a1 with rfl | a1
    · exact .inl rfl
    · right
      rw [num_no a1 hp]; rfl
theorem raw2 {s : ByteArray} {ok ok1 : Bool} {p p1 v : Nat} (hp : p ≤ s.size) (hv : 2 ≤ v) (S1 : Step s ok p 1 p1 ok1) (v1 : ok1 = true → (v : Int) = getN (((nums s).drop p).take 1)) : ok = false ∨ rawP ((nums s).drop p) = none := by
  unfold rawP
  rcases S1 with ⟨rfl, a1, rfl, rfl⟩ | ⟨rfl, rfl, a1⟩
  · right
    rw [num_at a1, ← v1 rfl]
    simp only [Option.bind_some]
    rw [if_neg (by omega), if_neg (by omega)]
  · rcases a1 with rfl | a1
    · exact .inl rfl
    · right
      rw [num_no a1 hp]; rfl

theorem Tryd.noBytes (w : World) : (binOp BinOp.eql 26 (.slice none 0 0) (.slice none 0 0)).run Tryd.prog w = .ok (.bool true) w := by kernel_rfl
set_option maxRecDepth 10000 in
set_option maxHeartbeats 400000 in
theorem clone_nil (w : World) : Calls Tryd.prog 58 #[.slice none 0 0] w fun e w' => e = .returned (.slice none 0 0) ∧ w' = w := by
  have hnil := Tryd.noBytes
  go_enter Tryd.func58, Tryd.ntmps58
  go_wp2_with fail
  go_ret
  exact ⟨rfl, rfl⟩

/-- bounds of a token as it is read -/
def Sml (t : Tok) : Prop := Bytes t.data ∧ t.data.length ≤ 255 ∧ 0 ≤ t.block ∧ t.block ≤ 65535 ∧ 0 ≤ t.count ∧ t.count ≤ 255
/-- what reading a token leaves -/
def TokQ (w : World) (r b cap : Nat) (s : ByteArray) (ok : Bool) (p : Nat) (t : Tok) (dv : Value) (w' : World) : Prop :=
  ∃ (p' : Nat) (ok' : Bool), PRd w' r b cap s p' ok' ∧ p' ≤ s.size ∧ Sml t ∧ w'.ownsRow w.heap.size 5 1 dv t.data.length (u8s t.data) ∧ (ok' = true → ok = true ∧ rawP ((nums s).drop p) = some (t, (nums s).drop p')) ∧ (ok' = false → ok = false ∨ rawP ((nums s).drop p) = none) ∧ w.grownBy w' (some r)
theorem own_set {w : World} {base base2 : Nat} {v : Value} {zs : List Int} (h : w.ownsRow base2 5 1 v zs.length (u8s zs)) {g : Nat} (hg : g < base2) (hb : base ≤ base2) (x y z : Value) :
    (((w.setCell ⟨g, 0, none⟩ x).setCell ⟨g, 1, none⟩ y).setCell ⟨g, 2, none⟩ z).ownsRow base 5 1 v zs.length (u8s zs) := by
  have hne : v.ownBlock = none ∨ v.ownBlock ≠ some g := by
    cases hv : v.ownBlock with
    | none => exact .inl rfl
    | some k =>
      refine .inr fun e => ?_
      have := (h.lt k hv).1
      have : k = g := by simpa using e
      omega
  exact ownsRow_base (((h.kept (setCell_grown _) hne).kept (setCell_grown _) hne).kept (setCell_grown _) hne) hb
theorem PRd.set3 {w : World} {r b cap p g : Nat} {s : ByteArray} {ok : Bool} (h : PRd w r b cap s p ok) (hlr : r < g) (x y z : Value) : PRd (((w.setCell ⟨g, 0, none⟩ x).setCell ⟨g, 1, none⟩ y).setCell ⟨g, 2, none⟩ z) r b cap s p ok := by
  obtain ⟨ev, h1, h2⟩ := h
  exact ⟨ev, h1, ((Below.heap_setCell _ _ _ _ (Nat.ne_of_lt hlr)).trans ((Below.heap_setCell _ _ _ _ (Nat.ne_of_lt hlr)).trans ((Below.heap_setCell _ _ _ _ (Nat.ne_of_lt hlr)).trans h2)))⟩
end Go.Proofs.YtbhccdedcoajmabDoor
namespace Go.Proofs.YtbhccdedcoajmabDoor
open Go.RowKit

set_option maxRecDepth 10000 in
set_option maxHeartbeats 2000000 in
theorem ptoken_any (r b cap p : Nat) (s : ByteArray) (ok : Bool) (w : World) (hs : s.size ≤ 70000) (hcap : s.size ≤ cap) (hp : p ≤ s.size) (hR : PRd w r b cap s p ok) (hbr : b ≠ r) (hb : b < w.heap.size) (hc : ∀ k (h : k < (nums s).length), w.cell? ⟨b, 0 + k, none⟩ = some (.int .u8 (nums s)[k])) :
    Calls Tryd.prog 67 #[.pointer (some ⟨r, 0, none⟩)] w fun e w' => ∃ (t : Tok) (dv : Value), e = .returned (.agg #[.int .i64 t.block, .int .i64 t.count, dv]) ∧ TokQ w r b cap s ok p t dv w' := by
  have HA : Hid (∀ o, Below w.heap.size w (w.alloc o)) := fun o => (Below.refl _ _).alloc (Nat.le_refl _) o
  have hlr := hR.lt
  have HR0 : Hid (∀ o, PRd (w.alloc o) r b cap s p ok) := fun o => hR.below (HA.out o)
  have HC0 : Hid (∀ o, ∀ k (h : k < (nums s).length), (w.alloc o).cell? ⟨b, 0 + k, none⟩ = some (.int .u8 (nums s)[k])) := fun o => cells_below hc (HA.out o)
  have HCW := hide hc
  clear hR hc
  go_enter Tryd.func67, Tryd.ntmps67
  go_wp2_with fail
  refine (pnumber_any r b cap p 1 s ok _ hs hcap hp (by omega) (HR0.out _) hbr (by simp; omega) (HC0.out _)).mono ?_
  rintro e w1 ⟨v, rfl, _, hv, p1, ok1, hR1, hS1, hv1, _, _, hno1, hg1⟩
  have hv := hv rfl
  have HR1 := hide hR1
  have HS1 := hide hS1
  have HV1 := hide hv1
  have HG1 : Hid (w.grownBy w1 (some r)) := (World.grownBy_alloc w _ _).trans hg1
  have HN1 := hide hno1
  have HC1 := hide (cells_grow hbr hg1 (HC0.out _))
  have hp1 := hS1.le hp
  have hb1 : b < w1.heap.size := Nat.lt_of_lt_of_le hb HG1.out.size
  have HGR : Hid (∀ W, w1.grownBy W (some r) → W.heap[w.heap.size]? = some (.cells #[.int .i64 0, .int .i64 0, .slice none 0 0] 90 (0, 0))) := by
    intro W hW
    have hgall := hg1.trans hW
    rw [hgall.block _ (by simp) (by simp; omega)]
    exact heap_alloc_new _ _
  have hw1 : w.heap.size < w1.heap.size := by have := hg1.size; simp at this; omega
  clear hR1 hS1 hv1 hg1 hno1
  by_cases h0 : v = 0
  · subst h0
    go_wp2_with fail
    refine (pnumber_any r b cap p1 1 s ok1 _ hs hcap hp1 (by omega) HR1.out hbr hb1 HC1.out).mono ?_
    rintro e w2 ⟨k, rfl, _, hk, p2, ok2, hR2, hS2, hv2, _, _, _, hg2⟩
    have hk := hk rfl
    have HR2 := hide hR2
    have HS2 := hide hS2
    have HV2 := hide hv2
    have HG2 := hide hg2
    have HC2 := hide (cells_grow hbr hg2 HC1.out)
    have hp2 := hS2.le hp1
    have hb2 : b < w2.heap.size := Nat.lt_of_lt_of_le hb1 hg2.size
    clear hR2 hS2 hv2 hg2
    obtain ⟨ho, hho⟩ : ∃ ho, ho = decide ((0 : Int) < (k : Int)) := ⟨_, rfl⟩
    have HHO : Hid (ho = decide (0 < k)) := by show _ = _; rw [hho]; exact decide_eq_decide.2 (by omega)
    have hho2 := hho.symm
    have hho3 : decide (0 < k) = ho := HHO.out.symm
    clear hho
    go_wp2_with fail
    refine (pmust_any r b cap p2 s _ ok2 ho _ HR2.out).mono ?_
    rintro e w3 ⟨rfl, hR3, hg3⟩
    have HR3 := hide hR3
    have HG3 := hide (HG2.out.trans hg3)
    have HC3 := hide (cells_grow hbr hg3 HC2.out)
    have hb3 : b < w3.heap.size := Nat.lt_of_lt_of_le hb2 hg3.size
    clear hR3 hg3 hho2 hho3
    go_wp2_with fail
    refine (ptake_any r b cap p2 k s _ _ hs hcap hp2 (by omega) HR3.out).mono ?_
    rintro e w4 ⟨va, m, p4, ok4, rfl, hR4, hS4, hyes, hno, hg4⟩
    have HC4 := hide (cells_grow hbr hg4 HC3.out)
    have HR4 := hide hR4
    have HG4 := hide (HG3.out.trans hg4)
    have hp4 := hS4.le hp2
    rw [HHO.out] at hS4
    have HS4 := hide hS4
    have hw4 : w1.heap.size ≤ w4.heap.size := HG4.out.size
    have hfit : ok4 = true → p2 + k ≤ s.size := fun h => by rcases hS4 with ⟨_, h2, _⟩ | ⟨h2, _⟩; exact h2; rw [h] at h2; cases h2
    have hkp : ok4 = true → 0 < k := fun h => by
      rcases hS4 with ⟨h2, _⟩ | ⟨h2, _⟩
      · rw [Bool.and_eq_true] at h2; exact of_decide_eq_true h2.2
      · rw [h] at h2; cases h2
    clear hR4 hS4 hg4
    have HEND : Hid (∀ (dv : Value) (td : List Int) (W : World), W.ownsRow w4.heap.size 5 1 dv td.length (u8s td) → Below w4.heap.size w4 W → Bytes td → td.length ≤ 255 → (ok4 = true → td = ((nums s).drop p2).take k) →
        TokQ w r b cap s ok p ⟨0, 0, td⟩ dv (((W.setCell ⟨w.heap.size, 0, none⟩ (.int .i64 0)).setCell ⟨w.heap.size, 1, none⟩ (.int .i64 0)).setCell ⟨w.heap.size, 2, none⟩ dv)) := by
      intro dv td W ho hb htb htl hte
      have hsem := raw0 (t := td) hp HS1.out (fun h => by simpa using HV1.out h) HS2.out HV2.out HS4.out hte
      refine ⟨p4, ok4, (HR4.out.below hb).set3 hlr _ _ _, hp4, ⟨htb, htl, by simp, by simp, by simp, by simp⟩, own_set ho (by omega) (by omega) _ _ _, hsem.1, hsem.2, ?_⟩
      exact grown_setNew (grown_setNew (grown_setNew ((HG1.out.trans HG4.out).trans (grown_of_below hb)) (Nat.le_refl _) _ _) (Nat.le_refl _) _ _) (Nat.le_refl _) _ _
    cases ok4 with
    | false =>
      obtain ⟨rfl, rfl⟩ := hno rfl
      have hgr := HGR.out w4 HG4.out
      have k0 : w4.cell? ⟨w.heap.size, 0, none⟩ = some (.int .i64 0) := cell_row hgr rfl
      have k1 : w4.cell? ⟨w.heap.size, 1, none⟩ = some (.int .i64 0) := cell_row hgr rfl
      have k2 : w4.cell? ⟨w.heap.size, 2, none⟩ = some (.slice none 0 0) := cell_row hgr rfl
      have kf : ∀ j, w4.frozen? ⟨w.heap.size, j, none⟩ = false := fun j => frozen_of_row _ _ _ _ _ hgr
      have HF := hide (HEND.out (.slice none 0 0) [] w4 (World.ownsRow_nil _ _ _ _) (Below.refl _ _) (fun x hx => by simp at hx) (by simp) (fun h => by cases h))
      clear hgr hyes hno hfit hkp
      go_wp2_with fail
      refine (clone_nil _).mono ?_
      rintro e w5 ⟨rfl, hw5⟩
      obtain rfl := hw5.symm
      go_wp2_with fail
      exact bodyPost_ret (v := .agg #[.int .i64 0, .int .i64 0, .slice none 0 0]) (by simp [results, Tryd.results67, go_sem, k0, k1, k2]) rfl ⟨⟨0, 0, []⟩, _, rfl, HF.out⟩
    | true =>
      obtain ⟨rfl, hva⟩ := hyes rfl
      obtain rfl := hva (hkp rfl)
      have hl : (((nums s).drop p2).take m).length = m := by rw [List.length_take, List.length_drop, nums_length]; have := hfit rfl; omega
      have hcl := clone_any b p2 m (((nums s).drop p2).take m) w4 (by omega) (fun j h => by
        rw [hl] at h
        have := hfit rfl
        rw [List.getElem_take, List.getElem_drop, nums_at s (p2 + j) (by omega)]
        exact cells_plain HC4.out (p2 + j) (by omega))
      rw [hl] at hcl
      have HCL := hide hcl
      have HEN2 : Hid (∀ (dv : Value) (W : World), W.ownsRow w4.heap.size 5 1 dv m (u8s (((nums s).drop p2).take m)) → Below w4.heap.size w4 W → TokQ w r b cap s ok p ⟨0, 0, ((nums s).drop p2).take m⟩ dv (((W.setCell ⟨w.heap.size, 0, none⟩ (.int .i64 0)).setCell ⟨w.heap.size, 1, none⟩ (.int .i64 0)).setCell ⟨w.heap.size, 2, none⟩ dv)) := fun dv W h1 h2 => HEND.out dv _ W (by rw [hl]; exact h1) h2 (((nums_bytes s).drop p2).take m) (by omega) (fun _ => rfl)
      clear hcl hyes hno hfit hkp hva hl
      generalize ((nums s).drop p2).take m = td at *
      go_wp2_with fail
      refine HCL.out.mono ?_
      rintro e w5 ⟨dv, rfl, ho5, hb5⟩
      have hgr : w5.heap[w.heap.size]? = some (.cells #[.int .i64 0, .int .i64 0, .slice none 0 0] 90 (0, 0)) := (hb5.block _ (by omega)).trans (HGR.out w4 HG4.out)
      have k0 : w5.cell? ⟨w.heap.size, 0, none⟩ = some (.int .i64 0) := cell_row hgr rfl
      have k1 : w5.cell? ⟨w.heap.size, 1, none⟩ = some (.int .i64 0) := cell_row hgr rfl
      have k2 : w5.cell? ⟨w.heap.size, 2, none⟩ = some (.slice none 0 0) := cell_row hgr rfl
      have kf : ∀ j, w5.frozen? ⟨w.heap.size, j, none⟩ = false := fun j => frozen_of_row _ _ _ _ _ hgr
      have HF := hide (HEN2.out dv w5 ho5 hb5)
      obtain ⟨da, dn, dc, rfl⟩ : ∃ da dn dc, dv = .slice da dn dc := by
        rcases ho5.2 with ⟨h, _⟩ | ⟨g, c, cur, h, _⟩
        · exact ⟨_, _, _, h⟩
        · exact ⟨_, _, _, h⟩
      clear ho5 hb5 hgr
      go_wp2_with fail
      exact bodyPost_ret (v := .agg #[.int .i64 0, .int .i64 0, .slice da dn dc]) (by simp [results, Tryd.results67, go_sem, k0, k1, k2]) rfl ⟨⟨0, 0, td⟩, _, rfl, HF.out⟩
  · have hok1 : ok1 = true := by
      cases ok1 with
      | true => rfl
      | false => exact absurd (HN1.out rfl) (by omega)
    subst hok1
    by_cases h1 : v = 1
    · subst h1
      go_wp2_with fail
      refine (pnumber_any r b cap p1 2 s true _ hs hcap hp1 (by omega) HR1.out hbr hb1 HC1.out).mono ?_
      rintro e w2 ⟨bk, rfl, hbk, _, p2, ok2, hR2, hS2, hv2, _, _, _, hg2⟩
      have HR2 := hide hR2
      have HS2 := hide hS2
      have HV2 := hide hv2
      have HG2 := hide hg2
      have HC2 := hide (cells_grow hbr hg2 HC1.out)
      have hp2 := hS2.le hp1
      have hb2 : b < w2.heap.size := Nat.lt_of_lt_of_le hb1 hg2.size
      clear hR2 hS2 hv2 hg2
      go_wp2_with fail
      refine (pnumber_any r b cap p2 1 s ok2 _ hs hcap hp2 (by omega) HR2.out hbr hb2 HC2.out).mono ?_
      rintro e w3 ⟨k, rfl, _, hk, p3, ok3, hR3, hS3, hv3, _, _, _, hg3⟩
      have hk := hk rfl
      have HR3 := hide hR3
      have HG3 := hide (HG2.out.trans hg3)
      have hp3 := hS3.le hp2
      have HSEM := hide (raw1 hp HS1.out (fun _ => by simpa using HV1.out (by first | rfl | trivial)) HS2.out HV2.out hS3 hv3)
      clear hR3 hS3 hv3 hg3
      obtain ⟨ho, hho⟩ : ∃ ho, ho = decide ((0 : Int) < (k : Int)) := ⟨_, rfl⟩
      have HHO : Hid (ho = decide (0 < k)) := by show _ = _; rw [hho]; exact decide_eq_decide.2 (by omega)
      have hho2 := hho.symm
      have hho3 : decide (0 < k) = ho := HHO.out.symm
      clear hho
      go_wp2_with fail
      refine (pmust_any r b cap p3 s _ ok3 ho _ HR3.out).mono ?_
      rintro e w4 ⟨rfl, hR4, hg4⟩
      have HG4 := hide (HG3.out.trans hg4)
      rw [HHO.out] at hR4
      have HR4 := hide hR4
      have hgr := HGR.out w4 HG4.out
      have k0 : w4.cell? ⟨w.heap.size, 0, none⟩ = some (.int .i64 0) := cell_row hgr rfl
      have k1 : w4.cell? ⟨w.heap.size, 1, none⟩ = some (.int .i64 0) := cell_row hgr rfl
      have k2 : w4.cell? ⟨w.heap.size, 2, none⟩ = some (.slice none 0 0) := cell_row hgr rfl
      have kf : ∀ j, w4.frozen? ⟨w.heap.size, j, none⟩ = false := fun j => frozen_of_row _ _ _ _ _ hgr
      have HF : Hid (TokQ w r b cap s ok p ⟨bk, k, []⟩ (.slice none 0 0) (((w4.setCell ⟨w.heap.size, 0, none⟩ (.int .i64 (bk : Int))).setCell ⟨w.heap.size, 1, none⟩ (.int .i64 (k : Int))).setCell ⟨w.heap.size, 2, none⟩ (.slice none 0 0))) := by
        refine ⟨p3, _, HR4.out.set3 hlr _ _ _, hp3, ⟨fun x hx => by simp at hx, by simp, by simp, by show (bk : Int) ≤ 65535; omega, by simp, by show (k : Int) ≤ 255; omega⟩, World.ownsRow_nil _ _ _ _, HSEM.out.1, HSEM.out.2, ?_⟩
        exact grown_setNew (grown_setNew (grown_setNew (HG1.out.trans HG4.out) (Nat.le_refl _) _ _) (Nat.le_refl _) _ _) (Nat.le_refl _) _ _
      clear hR4 hg4 hgr hho2 hho3
      go_wp2_with fail
      exact bodyPost_ret (v := .agg #[.int .i64 (bk : Int), .int .i64 (k : Int), .slice none 0 0]) (by simp [results, Tryd.results67, go_sem, k0, k1, k2]) rfl ⟨⟨bk, k, []⟩, _, rfl, HF.out⟩
    · have hd0 : ((v : Int) == 0) = false := by simp; omega
      have hd1 : ((v : Int) == 1) = false := by simp; omega
      have HSEM := hide (raw2 hp (by omega) HS1.out (fun _ => HV1.out (by first | rfl | trivial)))
      go_wp2_with fail
      refine (pmust_any r b cap p1 s _ true false _ HR1.out).mono ?_
      rintro e w4 ⟨rfl, hR4, hg4⟩
      have HG4 := hide hg4
      have HR4 := hide hR4
      have hgr := HGR.out w4 HG4.out
      have k0 : w4.cell? ⟨w.heap.size, 0, none⟩ = some (.int .i64 0) := cell_row hgr rfl
      have k1 : w4.cell? ⟨w.heap.size, 1, none⟩ = some (.int .i64 0) := cell_row hgr rfl
      have k2 : w4.cell? ⟨w.heap.size, 2, none⟩ = some (.slice none 0 0) := cell_row hgr rfl
      have kf : ∀ j, w4.frozen? ⟨w.heap.size, j, none⟩ = false := fun j => frozen_of_row _ _ _ _ _ hgr
      have HF : Hid (TokQ w r b cap s ok p ⟨0, 0, []⟩ (.slice none 0 0) (((w4.setCell ⟨w.heap.size, 0, none⟩ (.int .i64 0)).setCell ⟨w.heap.size, 1, none⟩ (.int .i64 0)).setCell ⟨w.heap.size, 2, none⟩ (.slice none 0 0))) := by
        refine ⟨p1, false, HR4.out.set3 hlr _ _ _, hp1, ⟨fun x hx => by simp at hx, by simp, by simp, by simp, by simp, by simp⟩, World.ownsRow_nil _ _ _ _, (fun h => by cases h), (fun _ => HSEM.out), ?_⟩
        exact grown_setNew (grown_setNew (grown_setNew (HG1.out.trans HG4.out) (Nat.le_refl _) _ _) (Nat.le_refl _) _ _) (Nat.le_refl _) _ _
      clear hR4 hg4 hgr
      go_wp2_with fail
      exact bodyPost_ret (v := .agg #[.int .i64 0, .int .i64 0, .slice none 0 0]) (by simp [results, Tryd.results67, go_sem, k0, k1, k2]) rfl ⟨⟨0, 0, []⟩, _, rfl, HF.out⟩
end Go.Proofs.YtbhccdedcoajmabDoor
namespace Go.Proofs.YtbhccdedcoajmabDoor
open Go.RowKit

set_option maxRecDepth 10000 in
set_option maxHeartbeats 400000 in
theorem psize_any (t : Tok) (da : Option Addr) (dc m old B : Nat) (hm : t.data.length = m) (hB1 : 1 ≤ B) (hB2 : B ≤ 64) (ho : old ≤ 300) (hS : Sml t) (hf : fitsT (chunks old B) t) (w : World) :
    Calls Tryd.prog 68 #[.agg #[.int .i64 t.block, .int .i64 t.count, .slice da m dc], .int .i64 old, .int .i64 B] w fun e w' => ∃ x : Nat, e = .returned (.int .i64 x) ∧ (x : Int) = madeP old B t ∧ x ≤ 300 ∧ Below w.heap.size w w' := by
  obtain ⟨_, h255, _, _, _, _⟩ := hS
  have HB0 : Hid (∀ o, Below w.heap.size w (w.alloc o)) := fun o => (Below.refl _ _).alloc (Nat.le_refl _) _
  by_cases hz : t.count = 0
  · have HV : Hid ((m : Int) = madeP old B t ∧ m ≤ 300) := ⟨by unfold madeP; rw [if_pos hz, hm], by omega⟩
    clear hm
    go_enter Tryd.func68, Tryd.ntmps68
    go_wp2_with fail
    go_ret
    exact ⟨m, rfl, HV.out.1, HV.out.2, HB0.out _⟩
  · obtain ⟨bk, hbk⟩ : ∃ bk : Nat, t.block = bk := ⟨t.block.toNat, by omega⟩
    obtain ⟨ct, hct⟩ : ∃ ct : Nat, t.count = ct := ⟨t.count.toNat, by omega⟩
    have hle : bk + ct ≤ chunks old B := by have := (hf.2.2.2 (by omega)).2; omega
    have hM := chunks_le (n := old) hB1
    have hlt : bk * B < old := (lt_chunks hB1).1 (by omega)
    have hq : bk * B ≤ (bk + ct) * B := Nat.mul_le_mul_right _ (by omega)
    have HV : Hid (((min ((bk + ct) * B) old - bk * B : Nat) : Int) = madeP old B t ∧ min ((bk + ct) * B) old - bk * B ≤ 300) := by
      refine ⟨?_, by omega⟩
      unfold madeP
      rw [if_neg hz, hbk, hct]
      have e1 : ((bk : Int) + (ct : Int)) * (B : Int) = (((bk + ct) * B : Nat) : Int) := by simp
      have e2 : (bk : Int) * (B : Int) = ((bk * B : Nat) : Int) := by simp
      rw [e1, e2]
      omega
    have HS := hide (fun W => span_any B bk ct old (bk * B) ((bk + ct) * B) (.slice da m dc) hB1 hB2 rfl rfl (by omega) (by omega) ho W)
    have hpz : bk * B ≤ min ((bk + ct) * B) old := by omega
    have hzo : min ((bk + ct) * B) old ≤ 300 := by omega
    clear hm hf hlt hq
    rw [hbk, hct]
    have hct0 : ((ct : Int) == 0) = false := by simp; omega
    clear hbk hct hz hle
    generalize min ((bk + ct) * B) old = y at *
    generalize bk * B = x at *
    go_enter Tryd.func68, Tryd.ntmps68
    go_wp2_with fail
    refine (HS.out _).mono ?_
    rintro e w1 ⟨rfl, hb1⟩
    have HB1 : Hid (Below w.heap.size w w1) := below_all (HB0.out _) hb1
    have hsub : ((y : Int) - (x : Int)) = ((y - x : Nat) : Int) := by omega
    clear hb1
    go_wp2_with fail
    go_ret
    exact ⟨y - x, by simp, HV.out.1, HV.out.2, HB1.out⟩

/-- the tokens of a target -/
def tokensP (old B : Nat) (size : Int) (l : List Int) : Option (List Tok × List Int) :=
  (numP 2 l).bind fun q => (toksP old B q.1.toNat q.2).bind fun q2 => if (q2.1.map (madeP old B)).sum = size then some q2 else none
theorem toks_step (old B m : Nat) (l : List Int) : toksP old B (m + 1) l = (tokP old B l).bind fun q => (toksP old B m q.2).map fun q2 => (q.1 :: q2.1, q2.2) := by
  conv => lhs; unfold toksP
  simp only [Option.bind_eq_bind]
  congr 1
  funext q
  cases toksP old B m q.2 <;> rfl
theorem tok_raw (old B : Nat) {l : List Int} (hl : Bytes l) : tokP old B l = (rawP l).bind fun q => if fitsB (chunks old B) q.1 then some q else none := by
  unfold tokP rawP
  simp only [Option.bind_eq_bind]
  cases hk : numP 1 l with
  | none => rfl
  | some q =>
    simp only [Option.bind_some]
    by_cases h0 : q.1 = 0
    · rw [if_pos h0, if_pos h0]
      cases h2 : numP 1 q.2 with
      | none => rfl
      | some q2 =>
        simp only [Option.bind_some]
        by_cases h3 : 0 < q2.1
        · rw [if_pos h3]
          cases h4 : txtP q2.1.toNat q2.2 with
          | none => rfl
          | some q3 => simp [fitsB]
        · rw [if_neg h3]; rfl
    · rw [if_neg h0, if_neg h0]
      by_cases h1 : q.1 = 1
      · rw [if_pos h1, if_pos h1]
        cases h2 : numP 2 q.2 with
        | none => rfl
        | some q2 =>
          simp only [Option.bind_some]
          have hnn : 0 ≤ q2.1 := by
            have hq : Bytes q.2 := by
              unfold numP at hk
              split at hk
              · cases hk
              · cases hk
                exact hl.drop 1
            unfold numP at h2
            split at h2
            · cases h2
            · cases h2
              exact (getN_bd (hq.take 2)).1
          cases h3 : numP 1 q2.2 with
          | none => rfl
          | some q3 =>
            simp only [Option.bind_some]
            by_cases h4 : 0 < q3.1
            · rw [if_pos h4]
              simp only [Option.bind_some]
              have e : fitsB (chunks old B) ⟨q2.1, q3.1, []⟩ = decide (q2.1 + q3.1 ≤ chunks old B) := by
                unfold fitsB
                rw [if_neg (show ¬ q3.1 = 0 by omega)]
                simp [hnn, Int.le_of_lt h4]
              rw [e]
              by_cases h5 : q2.1 + q3.1 ≤ chunks old B
              · simp [h4, h5]
              · simp [h5]
            · rw [if_neg (fun h => h4 h.1), if_neg h4]; rfl
      · rw [if_neg h1, if_neg h1]; rfl

theorem TokRow.keepR {w w' : World} {base r : Nat} {v : Value} {ps : List (Tok × Value)} (h : TokRow w base v ps) (g : w.grownBy w' (some r)) (hr : r < base) : TokRow w' base v ps :=
  ⟨row_kept h.row g hr, fun p hp => row_kept (h.data p hp) g hr, h.apart, h.off⟩
/-- what reading a target's tokens leaves -/
def TksQ (w : World) (r b cap : Nat) (s : ByteArray) (ok : Bool) (p old B size : Nat) (v : Value) (w' : World) : Prop :=
  ∃ (p' : Nat) (ok' : Bool) (ps : List (Tok × Value)), PRd w' r b cap s p' ok' ∧ p' ≤ s.size ∧ TokRow w' w.heap.size v ps ∧ (∀ q ∈ ps, Sml q.1) ∧ ps.length ≤ 65535 ∧
    (ok' = true → ok = true ∧ tokensP old B size ((nums s).drop p) = some (ps.map Prod.fst, (nums s).drop p')) ∧ (ok' = false → ok = false ∨ tokensP old B size ((nums s).drop p) = none) ∧ w.grownBy w' (some r)

set_option maxRecDepth 10000 in
set_option maxHeartbeats 1000000 in
theorem ptokens_any (r b cap p old B size : Nat) (s : ByteArray) (ok : Bool) (w : World) (hs : s.size ≤ 70000) (hcap : s.size ≤ cap) (hp : p ≤ s.size) (hR : PRd w r b cap s p ok) (hbr : b ≠ r) (hb : b < w.heap.size) (hc : ∀ k (h : k < (nums s).length), w.cell? ⟨b, 0 + k, none⟩ = some (.int .u8 (nums s)[k]))
    (hok : ok = true → old ≤ 300 ∧ 1 ≤ B ∧ B ≤ 64) (hsz : size ≤ 65535) :
    Calls Tryd.prog 63 #[.pointer (some ⟨r, 0, none⟩), .int .i64 size, .int .i64 old, .int .i64 B] w fun e w' => ∃ v, e = .returned v ∧ TksQ w r b cap s ok p old B size v w' := by
  obtain ⟨i0, hi, z0, z1, z2⟩ := info_parts Tryd.info90
  have hlr := hR.lt
  have HN := hide (pnumber_any r b cap p 2 s ok w hs hcap hp (by omega) hR hbr hb hc)
  have HC := hide hc
  clear hR hc
  go_enter Tryd.func63, Tryd.ntmps63
  go_wp2_with fail
  refine HN.out.mono ?_
  rintro e w1 ⟨n, rfl, hn, _, p1, ok1, hR1, hS1, hv1, _, _, hno1, hg1⟩
  have HR1 := hide hR1
  have HG1 := hide hg1
  have hp1 := hS1.le hp
  have HP1 := hide hp1
  cases ok1 with
  | false =>
    obtain rfl : n = 0 := by have := hno1 rfl; omega
    have HNO : Hid (ok = false ∨ tokensP old B size ((nums s).drop p) = none) := by
      rcases hS1 with ⟨_, _, _, h⟩ | ⟨_, _, h | h⟩
      · cases h
      · exact .inl h
      · right
        unfold tokensP
        rw [num_no h hp]; rfl
    clear hR1 hS1 hv1 hno1 hg1 HN hp1
    go_wp2_with fail
    go_loopw [9, 10, 14] (fun v9 v10 v14 wr => v9 = .slice none 0 0 ∧ v10 = .int .i64 0 ∧ v14 = .int .i64 0 ∧ wr = w1) (fun _ _ _ _ => 0)
    case atStart => exact ⟨rfl, rfl, rfl, rfl⟩
    case round =>
      obtain ⟨rfl, rfl, rfl, rfl⟩ := hrel
      go_wp2_with fail
      refine (pmust_any r b cap p1 s _ false _ _ HR1.out).mono ?_
      rintro e w2 ⟨rfl, hR2, hg2⟩
      rw [Bool.false_and] at hR2
      have HF : Hid (TksQ w r b cap s ok p old B size (.slice none 0 0) w2) := ⟨p1, false, [], hR2, HP1.out, TokRow.nil _ _, (fun q hq => by simp at hq), by simp, (fun h => by cases h), (fun _ => HNO.out), HG1.out.trans hg2⟩
      clear hR2 hg2
      go_wp2_with fail
      go_ret
      exact ⟨_, rfl, HF.out⟩
  | true =>
    have hok1 : ok = true ∧ p + 2 ≤ s.size ∧ p1 = p + 2 := by
      rcases hS1 with ⟨h1, h2, h3, _⟩ | ⟨h, _⟩
      · exact ⟨h1, h2, h3⟩
      · cases h
    obtain ⟨ho300, hB1, hB2⟩ := hok hok1.1
    have HALL : Hid (tokensP old B size ((nums s).drop p) = (toksP old B n ((nums s).drop p1)).bind fun q2 => if (q2.1.map (madeP old B)).sum = size then some q2 else none) := by
      show _ = _
      unfold tokensP
      rw [num_at hok1.2.1, ← hv1 rfl, hok1.2.2]
      simp
    obtain ⟨rfl, _, _⟩ := hok1
    clear hR1 hS1 hv1 hno1 hg1 HN hok hp1
    go_wp2_with fail
    go_loopw [9, 10, 14] (fun v9 v10 v14 wr => ∃ (k q x : Nat) (ps : List (Tok × Value)), k ≤ n ∧ v14 = .int .i64 k ∧ v10 = .int .i64 x ∧ x ≤ 300 * k ∧ Hid (ps.length = k) ∧ Hid (q ≤ s.size) ∧ Hid (PRd wr r b cap s q true) ∧ Hid (TokRow wr w.heap.size v9 ps) ∧ Hid (∀ y ∈ ps, Sml y.1) ∧ Hid (w.grownBy wr (some r)) ∧ Hid (((ps.map Prod.fst).map (madeP old B)).sum = x) ∧
      Hid (toksP old B n ((nums s).drop p1) = (toksP old B (n - k) ((nums s).drop q)).map fun q => (ps.map Prod.fst ++ q.1, q.2))) (fun _ _ v14 _ => n - (intOf v14).toNat)
    case atStart => exact ⟨0, p1, 0, [], Nat.zero_le _, rfl, rfl, by omega, rfl, HP1.out, HR1.out, TokRow.nil _ _, (fun q hq => by simp at hq), HG1.out, (by show _ = _; simp), (by show _ = _; simp)⟩
    case round =>
      clear HR1 HG1 HP1
      obtain ⟨k, q, x, ps, hk, rfl, rfl, hx, HPL, HQ, HRr, HTr, HSr, HGr, HXr, HEr⟩ := hrel
      by_cases hlt : k < n
      · have hbw : b < wr.heap.size := Nat.lt_of_lt_of_le hb HGr.out.size
        have hwr : w.heap.size ≤ wr.heap.size := HGr.out.size
        have HTK := hide (ptoken_any r b cap q s true wr hs hcap HQ.out HRr.out hbr hbw (cells_grow hbr HGr.out HC.out))
        go_wp2_with fail
        refine HTK.out.mono ?_
        rintro e w2 ⟨t, dv, rfl, q2, ok2, hR2, hq2, hsm, hdv, hyes, hno, hg2⟩
        obtain ⟨da, dc, rfl⟩ : ∃ da dc, dv = .slice da t.data.length dc := by
          rcases own_shape hdv with ⟨h, hz⟩ | ⟨g, c, h, _⟩
          · exact ⟨none, 0, by rw [h, hz]; rfl⟩
          · exact ⟨_, c, h⟩
        obtain ⟨m, hm⟩ : ∃ m, t.data.length = m := ⟨_, rfl⟩
        rw [hm] at hdv ⊢
        have HM := hide hm
        have HFI := hide (fun W => fits_any t da dc m old B hm (by have := hsm.2.1; omega) ho300 hB1 hB2 (by have := hsm.2.2; constructor <;> omega) (by have := hsm.2.2; constructor <;> omega) W)
        have HR2 := hide hR2
        have HQ2 := hide hq2
        have HSM := hide hsm
        have HDV := hide hdv
        have HG2 := hide hg2
        have HT2 : Hid (TokRow w2 w.heap.size u9 ps) := HTr.out.keepR hg2 hlr
        have HSEM : Hid ((ok2 = true → rawP ((nums s).drop q) = some (t, (nums s).drop q2)) ∧ (ok2 = false → rawP ((nums s).drop q) = none)) := ⟨fun h => (hyes h).2, fun h => (hno h).resolve_left (by simp)⟩
        obtain ⟨o, hho⟩ : ∃ o, o = Obj.cells #[.int .i64 t.block, .int .i64 t.count, .slice da m dc] 90 := ⟨_, rfl⟩
        have hx0 : (w2.alloc o).cell? ⟨w2.heap.size, 0, none⟩ = some (.int .i64 t.block) := by rw [hho]; exact cell_new rfl rfl
        have hx1 : (w2.alloc o).cell? ⟨w2.heap.size, 1, none⟩ = some (.int .i64 t.count) := by rw [hho]; exact cell_new rfl rfl
        have hx2 : (w2.alloc o).cell? ⟨w2.heap.size, 2, none⟩ = some (.slice da m dc) := by rw [hho]; exact cell_new rfl rfl
        have HA : Hid (Below w2.heap.size w2 (w2.alloc o)) := (Below.refl _ _).alloc (Nat.le_refl _) _
        rw [hho] at hx0 hx1 hx2 HA
        clear hho hR2 hq2 hsm hdv hyes hno hg2 hm HTK
        have hw2 : wr.heap.size ≤ w2.heap.size := HG2.out.size
        go_wp2_with fail
        generalize hWA : w2.alloc (.cells #[.int .i64 t.block, .int .i64 t.count, .slice da m dc] 90) = wa at *
        clear hWA
        have hwa : w2.heap.size < wa.heap.size := World.block_lt_of_cell? wa _ hx0
        refine (HFI.out _).mono ?_
        rintro e w3 ⟨rfl, hb3⟩
        have HB3 : Hid (Below w2.heap.size w2 w3) := below_all HA.out hb3
        have hy0 := (hb3.cell (p := ⟨w2.heap.size, 0, none⟩) hwa).trans hx0
        have hy1 := (hb3.cell (p := ⟨w2.heap.size, 1, none⟩) hwa).trans hx1
        have hy2 := (hb3.cell (p := ⟨w2.heap.size, 2, none⟩) hwa).trans hx2
        have hw3 : w2.heap.size < w3.heap.size := by have := hb3.size; omega
        have HR3 := hide (HR2.out.below HB3.out)
        clear hb3 hx0 hx1 hx2
        cases hfb : fitsB (chunks old B) t with
        | false =>
          have HNONE : Hid (tokensP old B size ((nums s).drop p) = none) := by
            show _ = _
            rw [HALL.out, HEr.out, show n - k = (n - (k + 1)) + 1 by omega, toks_step, tok_raw old B ((nums_bytes s).drop q)]
            cases ok2 with
            | false => rw [HSEM.out.2 rfl]; rfl
            | true => rw [HSEM.out.1 rfl]; simp [hfb]
          clear hfb
          go_wp2_with fail
          refine (pmust_any r b cap q2 s _ ok2 false w3 HR3.out).mono ?_
          rintro e w4 ⟨rfl, hR4, hg4⟩
          rw [Bool.and_false] at hR4
          obtain ⟨ev, hev, _, _, c2, _⟩ := hR4.open
          have HF : Hid (TksQ w r b cap s true p old B size (.slice none 0 0) w4) := ⟨q2, false, [], hR4, HQ2.out, TokRow.nil _ _, (fun q hq => by simp at hq), by simp, (fun h => by cases h), (fun _ => .inr HNONE.out), ((HGr.out.trans HG2.out).trans (grown_of_below HB3.out)).trans hg4⟩
          obtain ⟨fb, rfl⟩ := hev
          clear hR4 hg4
          go_wp2_with fail
          go_ret
          exact ⟨_, rfl, HF.out⟩
        | true =>
          have HFB := hide hfb
          clear hfb
          go_wp2_with fail
          refine (pmust_any r b cap q2 s _ ok2 true w3 HR3.out).mono ?_
          rintro e w4 ⟨rfl, hR4, hg4⟩
          rw [Bool.and_true] at hR4
          obtain ⟨ev, hev, _, _, c2, _⟩ := hR4.open
          have HR4 := hide hR4
          have HG4 := hide hg4
          have hw4 : w3.heap.size ≤ w4.heap.size := hg4.size
          cases ok2 with
          | false =>
            have HNONE : Hid (tokensP old B size ((nums s).drop p) = none) := by
              show _ = _
              rw [HALL.out, HEr.out, show n - k = (n - (k + 1)) + 1 by omega, toks_step, tok_raw old B ((nums_bytes s).drop q), HSEM.out.2 rfl]; rfl
            have HF : Hid (TksQ w r b cap s true p old B size (.slice none 0 0) w4) := ⟨q2, false, [], hR4, HQ2.out, TokRow.nil _ _, (fun q hq => by simp at hq), by simp, (fun h => by cases h), (fun _ => .inr HNONE.out), ((HGr.out.trans HG2.out).trans (grown_of_below HB3.out)).trans hg4⟩
            obtain ⟨fb, rfl⟩ := hev
            clear hR4 hg4
            go_wp2_with fail
            go_ret
            exact ⟨_, rfl, HF.out⟩
          | true =>
            obtain rfl : ev = .nilIface := hev
            have hrb : r ≠ w2.heap.size := by omega
            have y0 := hg4.cell hy0 (by simp; exact Ne.symm hrb)
            have y1 := hg4.cell hy1 (by simp; exact Ne.symm hrb)
            have y2 := hg4.cell hy2 (by simp; exact Ne.symm hrb)
            have keepT : ∀ {W W' : World}, TokRow W w.heap.size u9 ps → W.grownBy W' (some r) → TokRow W' w.heap.size u9 ps := fun h g => h.keepR g hlr
            have HT4 : Hid (TokRow w4 w.heap.size u9 ps) := keepT (HT2.out.below HB3.out) hg4
            have HD4 : Hid (w4.ownsRow wr.heap.size 5 1 (.slice da m dc) m (u8s t.data)) := row_kept (ownsRow_below HDV.out HB3.out) hg4 (by omega)
            have HROW : Hid (w4.ownsRow w.heap.size 90 3 u9 k (tcells ps)) := by have := HT4.out.row; rw [HPL.out] at this; exact this
            have HE2 : Hid (toksP old B n ((nums s).drop p1) = (toksP old B (n - (k + 1)) ((nums s).drop q2)).map fun q => ((ps ++ [(t, Value.slice da m dc)]).map Prod.fst ++ q.1, q.2)) := by
              show _ = _
              rw [HEr.out, show n - k = (n - (k + 1)) + 1 by omega, toks_step, tok_raw old B ((nums_bytes s).drop q), HSEM.out.1 rfl]
              simp only [Option.bind_some, HFB.out, if_true, Option.map_map]
              congr 1
              funext q
              simp
            have hfit := fitsB_iff.1 HFB.out
            have HSI := hide (fun W => psize_any t da dc m old B HM.out hB1 hB2 ho300 HSM.out hfit W)
            clear hR4 hg4 hy0 hy1 hy2 hfit
            go_wp2_with (at_builtin; refine wpList_append_own_at _ rfl (.tmp 29) (.tmp 31) 44 rfl w.heap.size 90 i0 (.agg #[.int .i64 0, .int .i64 0, .slice none 0 0]) 3 40 Tryd.underlying44 hi z0 z1 z2 rfl (by decide) _ k (tcells ps) rfl (HROW.out.alloc _) ⟨w4.heap.size, 0, none⟩ 1 1 [.int .i64 t.block, .int .i64 t.count, .slice da m dc] rfl rfl ?ka ?kb ?kc ?kd ?ke ?kf)
            case ka =>
              intro j y hy
              match j, hy with
              | 0, hy => simp at hy; subst hy; simp [Addr.add]
              | 1, hy => simp at hy; subst hy; simp [Addr.add]
              | 2, hy => simp at hy; subst hy; simp [Addr.add]
            case kb => intro y hy; simp at hy; rcases hy with rfl | rfl | rfl <;> rfl
            case kc => unfold maxLen; omega
            case kd => omega
            case ke => simp; omega
            case kf =>
              intro v5 w5 hown5 hgrow5 _ hloc5
              have hgg := (World.grownBy_alloc w4 (.cells #[.int .i64 t.block, .int .i64 t.count, .slice da m dc] 90) u9.ownBlock).trans hgrow5
              have hrow : ∀ j, u9.ownBlock = some j → w.heap.size ≤ j ∧ j < wr.heap.size := fun j hj => HTr.out.row.lt j hj
              have HG5 : Hid (w.grownBy w5 (some r)) := grown_comp (((HGr.out.trans HG2.out).trans (grown_of_below HB3.out)).trans HG4.out) hgg (fun j hj => (hrow j hj).1)
              have HR5 : Hid (PRd w5 r b cap s q2 true) := HR4.out.grown hgg (fun e => by have := (hrow r e).1; omega)
              have HT5 : Hid (TokRow w5 w.heap.size v5 (ps ++ [(t, Value.slice da m dc)])) := by
                refine HT4.out.push t (.slice da m dc) ?_ ?_ ?_ ?_ hgg ?_
                · have := ownsRow_base HD4.out hwr
                  rw [HM.out]; exact this
                · intro y hy g g' hg1 hg2'
                  have := ((HTr.out.data y hy).lt g hg1).2
                  have := (HD4.out.lt g' hg2').1
                  omega
                · intro g hg1 hg2'
                  have := (hrow g hg2').2
                  have := (HD4.out.lt g hg1).1
                  omega
                · rw [HPL.out]; exact hown5
                · exact hloc5.imp id fun e => ⟨_, by simp, e⟩
              have hne : ∀ j, u9.ownBlock = some j → j ≠ w2.heap.size := fun j hj => by have := (hrow j hj).2; omega
              have v0 : w5.cell? ⟨w2.heap.size, 0, none⟩ = some (.int .i64 t.block) := hgg.cell y0 (fun e => hne _ e.symm rfl)
              have v1 : w5.cell? ⟨w2.heap.size, 1, none⟩ = some (.int .i64 t.count) := hgg.cell y1 (fun e => hne _ e.symm rfl)
              have v2 : w5.cell? ⟨w2.heap.size, 2, none⟩ = some (.slice da m dc) := hgg.cell y2 (fun e => hne _ e.symm rfl)
              clear hown5 hgrow5 hloc5 hgg hrow hne y0 y1 y2 c2
              go_wp2_with fail
              refine (HSI.out _).mono ?_
              rintro e w6 ⟨y, rfl, hy, hy300, hb6⟩
              have HG6 : Hid (w.grownBy w6 (some r)) := HG5.out.trans (grown_of_below hb6)
              have HR6 := hide (HR5.out.below hb6)
              have HT6 := hide (HT5.out.below hb6)
              have HX6 : Hid ((((ps ++ [(t, Value.slice da m dc)]).map Prod.fst).map (madeP old B)).sum = ((x + y : Nat) : Int)) := by
                show _ = _
                rw [List.map_append, List.map_append, List.sum_append, HXr.out]
                simp [hy]
              have HS6 : Hid (∀ y ∈ ps ++ [(t, Value.slice da m dc)], Sml y.1) := by
                intro y hy
                rcases List.mem_append.1 hy with h | h
                · exact HSr.out y h
                · simp at h; subst h; exact HSM.out
              have HP6 : Hid ((ps ++ [(t, Value.slice da m dc)]).length = k + 1) := by show _ = _; simp [HPL.out]
              clear hb6 v0 v1 v2 hy
              go_wp2_with fail
              go_roundw
              case rel => exact ⟨k + 1, q2, x + y, _, by omega, by go_num, by go_num, by omega, HP6.out, HQ2.out, HR6.out, HT6.out, HS6.out, HG6.out, HX6.out, HE2.out⟩
              case measure => simp [intOf]; omega
      · have hkn : k = n := by omega
        subst hkn
        have HTS : Hid (tokensP old B size ((nums s).drop p) = if (x : Int) = (size : Int) then some (ps.map Prod.fst, (nums s).drop q) else none) := by
          show _ = _
          rw [HALL.out, HEr.out, Nat.sub_self]
          simp [toksP, ← HXr.out]
        by_cases hxs : x = size
        · subst hxs
          go_wp2_with fail
          refine (pmust_any r b cap q s _ true true wr HRr.out).mono ?_
          rintro e w2 ⟨rfl, hR2, hg2⟩
          have HF : Hid (TksQ w r b cap s true p old B x u9 w2) := ⟨q, true, ps, hR2, HQ.out, HTr.out.keepR hg2 hlr, HSr.out, by have := HPL.out; omega, (fun _ => ⟨rfl, by rw [HTS.out]; simp⟩), (fun h => by cases h), HGr.out.trans hg2⟩
          clear hR2 hg2
          go_wp2_with fail
          go_ret
          exact ⟨_, rfl, HF.out⟩
        · have hd : ((x : Int) == (size : Int)) = false := by simp; omega
          go_wp2_with fail
          refine (pmust_any r b cap q s _ true false wr HRr.out).mono ?_
          rintro e w2 ⟨rfl, hR2, hg2⟩
          have HF : Hid (TksQ w r b cap s true p old B size u9 w2) := ⟨q, false, ps, hR2, HQ.out, HTr.out.keepR hg2 hlr, HSr.out, by have := HPL.out; omega, (fun h => by cases h), (fun _ => .inr (by rw [HTS.out, if_neg (by omega)])), HGr.out.trans hg2⟩
          clear hR2 hg2
          go_wp2_with fail
          go_ret
          exact ⟨_, rfl, HF.out⟩
end Go.Proofs.YtbhccdedcoajmabDoor
