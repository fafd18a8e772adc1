import Derived.Test.YtbhccdedcoajmabGreatDoorPBasis
namespace Go.Proofs.YtbhccdedcoajmabGreatDoor
open Go.RowKit

/-- a token as it stands, its blocks not held against a basis -/
def rawP (l : List Int) : Option (Tok × List Int) :=
  (numP 1 l).bind fun q => if q.1 = 0 then (numP 1 q.2).bind fun q2 => (if 0 < q2.1 then (txtP q2.1.toNat q2.2).bind fun q3 => some (⟨0, 0, q3.1⟩, q3.2) else none)
    else if q.1 = 1 then (numP 2 q.2).bind fun q2 => (numP 1 q2.2).bind fun q3 => (if 0 < q3.1 then some (⟨q2.1, q3.1, []⟩, q3.2) else none) else none
theorem Step.off {s : ByteArray} {ok' : Bool} {p n p' : Nat} (h : Step s false p n p' ok') : ok' = false ∧ p' = p := by
  rcases h with ⟨h, _⟩ | ⟨h, h2, _⟩
  · cases h
  · exact ⟨h, h2⟩

theorem raw0 {s : ByteArray} {ok ok1 ok2 ok4 : Bool} {p p1 p2 p4 k : Nat} {t : List Int} (hp : p ≤ s.size) (S1 : Step s ok p 1 p1 ok1) (v1 : ok1 = true → (0 : Int) = getN (((nums s).drop p).take 1))
    (S2 : Step s ok1 p1 1 p2 ok2) (v2 : ok2 = true → (k : Int) = getN (((nums s).drop p1).take 1)) (S4 : Step s (ok2 && decide (0 < k)) p2 k p4 ok4) (v4 : ok4 = true → t = ((nums s).drop p2).take k) :
    (ok4 = true → ok = true ∧ rawP ((nums s).drop p) = some (⟨0, 0, t⟩, (nums s).drop p4)) ∧ (ok4 = false → ok = false ∨ rawP ((nums s).drop p) = none) := by
  unfold rawP
  rcases S1 with ⟨rfl, a1, rfl, rfl⟩ | ⟨rfl, rfl, a1⟩
  · rw [num_at a1, ← v1 rfl]
    simp only [Option.bind_some, if_true]
    rcases S2 with ⟨_, a2, rfl, rfl⟩ | ⟨rfl, rfl, a2⟩
    · rw [num_at a2, ← v2 rfl]
      simp only [Option.bind_some, Bool.true_and, Int.toNat_natCast] at S4 ⊢
      by_cases h0 : 0 < k
      · rw [if_pos (by omega)]
        rw [decide_eq_true h0] at S4
        rcases S4 with ⟨_, a4, rfl, rfl⟩ | ⟨rfl, rfl, a4⟩
        · rw [txt_at a4, ← v4 rfl]
          simp
        · rw [txt_no (by simpa using a4) (by omega)]
          simp
      · rw [if_neg (by omega)]
        rw [decide_eq_false h0] at S4
        obtain ⟨rfl, _⟩ := S4.off
        simp
    · rw [Bool.false_and] at S4
      obtain ⟨rfl, _⟩ := S4.off
      rw [num_no (by simpa using a2) (by omega)]
      simp
  · obtain ⟨rfl, _⟩ := S2.off
    rw [Bool.false_and] at S4
    obtain ⟨rfl, _⟩ := S4.off
    refine ⟨fun h => (by cases h), fun _ => ?_⟩
    rcases a1 with rfl | a1
    · exact .inl rfl
    · right
      rw [num_no a1 hp]; rfl
theorem raw1 {s : ByteArray} {ok ok1 ok2 ok3 : Bool} {p p1 p2 p3 bk k : Nat} (hp : p ≤ s.size) (S1 : Step s ok p 1 p1 ok1) (v1 : ok1 = true → (1 : Int) = getN (((nums s).drop p).take 1))
    (S2 : Step s ok1 p1 2 p2 ok2) (v2 : ok2 = true → (bk : Int) = getN (((nums s).drop p1).take 2)) (S3 : Step s ok2 p2 1 p3 ok3) (v3 : ok3 = true → (k : Int) = getN (((nums s).drop p2).take 1)) :
    ((ok3 && decide (0 < k)) = true → ok = true ∧ rawP ((nums s).drop p) = some (⟨bk, k, []⟩, (nums s).drop p3)) ∧ ((ok3 && decide (0 < k)) = false → ok = false ∨ rawP ((nums s).drop p) = none) := by
  unfold rawP
  rcases S1 with ⟨rfl, a1, rfl, rfl⟩ | ⟨rfl, rfl, a1⟩
  · rw [num_at a1, ← v1 rfl]
    simp only [Option.bind_some, if_true, show ((1 : Int) = 0) = False by simp, if_false]
    rcases S2 with ⟨_, a2, rfl, rfl⟩ | ⟨rfl, rfl, a2⟩
    · rw [num_at a2, ← v2 rfl]
      simp only [Option.bind_some]
      rcases S3 with ⟨_, a3, rfl, rfl⟩ | ⟨rfl, rfl, a3⟩
      · rw [num_at a3, ← v3 rfl]
        simp only [Option.bind_some, Bool.true_and]
        by_cases h0 : 0 < k
        · rw [if_pos (by omega)]
          simp [h0]
        · rw [if_neg (by omega)]
          simp [h0]
      · rw [num_no (by simpa using a3) (by omega)]
        simp
    · obtain ⟨rfl, _⟩ := S3.off
      rw [num_no (by simpa using a2) (by omega)]
      simp
  · obtain ⟨rfl, _⟩ := S2.off
    obtain ⟨rfl, _⟩ := S3.off
    refine ⟨fun h => (by cases h), fun _ => ?_⟩
    rcases a1 with rfl | a1
    · exact .inl rfl
    · right
      rw [num_no a1 hp]; rfl
theorem raw2 {s : ByteArray} {ok ok1 : Bool} {p p1 v : Nat} (hp : p ≤ s.size) (hv : 2 ≤ v) (S1 : Step s ok p 1 p1 ok1) (v1 : ok1 = true → (v : Int) = getN (((nums s).drop p).take 1)) : ok = false ∨ rawP ((nums s).drop p) = none := by
  unfold rawP
  rcases S1 with ⟨rfl, a1, rfl, rfl⟩ | ⟨rfl, rfl, a1⟩
  · right
    rw [num_at a1, ← v1 rfl]
    simp only [Option.bind_some]
    rw [if_neg (by omega), if_neg (by omega)]
  · rcases a1 with rfl | a1
    · exact .inl rfl
    · right
      rw [num_no a1 hp]; rfl

theorem Tryz.noBytes (w : World) : (binOp BinOp.eql 25 (.slice none 0 0) (.slice none 0 0)).run Tryz.prog w = .ok (.bool true) w := by kernel_rfl
set_option maxRecDepth 10000 in
set_option maxHeartbeats 400000 in
theorem clone_nil (w : World) : Calls Tryz.prog 60 #[.slice none 0 0] w fun e w' => e = .returned (.slice none 0 0) ∧ w' = w := by
  have hnil := Tryz.noBytes
  go_enter Tryz.func60, Tryz.ntmps60
  go_wp2_with fail
  go_ret
  exact ⟨rfl, rfl⟩

/-- bounds of a token as it is read -/
def Sml (t : Tok) : Prop := Bytes t.data ∧ t.data.length ≤ 255 ∧ 0 ≤ t.block ∧ t.block ≤ 65535 ∧ 0 ≤ t.count ∧ t.count ≤ 255
/-- what reading a token leaves -/
def TokQ (w : World) (r b cap : Nat) (s : ByteArray) (ok : Bool) (p : Nat) (t : Tok) (dv : Value) (w' : World) : Prop :=
  ∃ (p' : Nat) (ok' : Bool), PRd w' r b cap s p' ok' ∧ p' ≤ s.size ∧ Sml t ∧ w'.ownsRow w.heap.size 5 1 dv t.data.length (u8s t.data) ∧ (ok' = true → ok = true ∧ rawP ((nums s).drop p) = some (t, (nums s).drop p')) ∧ (ok' = false → ok = false ∨ rawP ((nums s).drop p) = none) ∧ w.grownBy w' (some r)
theorem own_set {w : World} {base base2 : Nat} {v : Value} {zs : List Int} (h : w.ownsRow base2 5 1 v zs.length (u8s zs)) {g : Nat} (hg : g < base2) (hb : base ≤ base2) (x y z : Value) :
    (((w.setCell ⟨g, 0, none⟩ x).setCell ⟨g, 1, none⟩ y).setCell ⟨g, 2, none⟩ z).ownsRow base 5 1 v zs.length (u8s zs) := by
  have hne : v.ownBlock = none ∨ v.ownBlock ≠ some g := by
    cases hv : v.ownBlock with
    | none => exact .inl rfl
    | some k =>
      refine .inr fun e => ?_
      have := (h.lt k hv).1
      have : k = g := by simpa using e
      omega
  exact ownsRow_base (((h.kept (setCell_grown _) hne).kept (setCell_grown _) hne).kept (setCell_grown _) hne) hb
theorem PRd.set3 {w : World} {r b cap p g : Nat} {s : ByteArray} {ok : Bool} (h : PRd w r b cap s p ok) (hlr : r < g) (x y z : Value) : PRd (((w.setCell ⟨g, 0, none⟩ x).setCell ⟨g, 1, none⟩ y).setCell ⟨g, 2, none⟩ z) r b cap s p ok := by
  obtain ⟨ev, h1, h2⟩ := h
  exact ⟨ev, h1, ((Below.heap_setCell _ _ _ _ (Nat.ne_of_lt hlr)).trans ((Below.heap_setCell _ _ _ _ (Nat.ne_of_lt hlr)).trans ((Below.heap_setCell _ _ _ _ (Nat.ne_of_lt hlr)).trans h2)))⟩
end Go.Proofs.YtbhccdedcoajmabGreatDoor
namespace Go.Proofs.YtbhccdedcoajmabGreatDoor
open Go.RowKit

set_option maxRecDepth 10000 in
set_option maxHeartbeats 2000000 in
theorem ptoken_any (r b cap p : Nat) (s : ByteArray) (ok : Bool) (w : World) (hs : s.size ≤ 70000) (hcap : s.size ≤ cap) (hp : p ≤ s.size) (hR : PRd w r b cap s p ok) (hbr : b ≠ r) (hb : b < w.heap.size) (hc : ∀ k (h : k < (nums s).length), w.cell? ⟨b, 0 + k, none⟩ = some (.int .u8 (nums s)[k])) :
    Calls Tryz.prog 142 #[.pointer (some ⟨r, 0, none⟩)] w fun e w' => ∃ (t : Tok) (dv : Value), e = .returned (.agg #[.int .i64 t.block, .int .i64 t.count, dv]) ∧ TokQ w r b cap s ok p t dv w' := by
  have HA : Hid (∀ o, Below w.heap.size w (w.alloc o)) := fun o => (Below.refl _ _).alloc (Nat.le_refl _) o
  have hlr := hR.lt
  have HR0 : Hid (∀ o, PRd (w.alloc o) r b cap s p ok) := fun o => hR.below (HA.out o)
  have HC0 : Hid (∀ o, ∀ k (h : k < (nums s).length), (w.alloc o).cell? ⟨b, 0 + k, none⟩ = some (.int .u8 (nums s)[k])) := fun o => cells_below hc (HA.out o)
  have HCW := hide hc
  clear hR hc
  go_enter Tryz.func142, Tryz.ntmps142
  go_wp2_with fail
  refine (pnumber_any r b cap p 1 s ok _ hs hcap hp (by omega) (HR0.out _) hbr (by simp; omega) (HC0.out _)).mono ?_
  rintro e w1 ⟨v, rfl, _, hv, p1, ok1, hR1, hS1, hv1, _, _, hno1, hg1⟩
  have hv := hv rfl
  have HR1 := hide hR1
  have HS1 := hide hS1
  have HV1 := hide hv1
  have HG1 : Hid (w.grownBy w1 (some r)) := (World.grownBy_alloc w _ _).trans hg1
  have HN1 := hide hno1
  have HC1 := hide (cells_grow hbr hg1 (HC0.out _))
  have hp1 := hS1.le hp
  have hb1 : b < w1.heap.size := Nat.lt_of_lt_of_le hb HG1.out.size
  have HGR : Hid (∀ W, w1.grownBy W (some r) → W.heap[w.heap.size]? = some (.cells #[.int .i64 0, .int .i64 0, .slice none 0 0] 196 (0, 0))) := by
    intro W hW
    have hgall := hg1.trans hW
    rw [hgall.block _ (by simp) (by simp; omega)]
    exact heap_alloc_new _ _
  have hw1 : w.heap.size < w1.heap.size := by have := hg1.size; simp at this; omega
  clear hR1 hS1 hv1 hg1 hno1
  by_cases h0 : v = 0
  · subst h0
    go_wp2_with fail
    refine (pnumber_any r b cap p1 1 s ok1 _ hs hcap hp1 (by omega) HR1.out hbr hb1 HC1.out).mono ?_
    rintro e w2 ⟨k, rfl, _, hk, p2, ok2, hR2, hS2, hv2, _, _, _, hg2⟩
    have hk := hk rfl
    have HR2 := hide hR2
    have HS2 := hide hS2
    have HV2 := hide hv2
    have HG2 := hide hg2
    have HC2 := hide (cells_grow hbr hg2 HC1.out)
    have hp2 := hS2.le hp1
    have hb2 : b < w2.heap.size := Nat.lt_of_lt_of_le hb1 hg2.size
    clear hR2 hS2 hv2 hg2
    obtain ⟨ho, hho⟩ : ∃ ho, ho = decide ((0 : Int) < (k : Int)) := ⟨_, rfl⟩
    have HHO : Hid (ho = decide (0 < k)) := by show _ = _; rw [hho]; exact decide_eq_decide.2 (by omega)
    have hho2 := hho.symm
    have hho3 : decide (0 < k) = ho := HHO.out.symm
    clear hho
    go_wp2_with fail
    refine (pmust_any r b cap p2 s _ ok2 ho _ HR2.out).mono ?_
    rintro e w3 ⟨rfl, hR3, hg3⟩
    have HR3 := hide hR3
    have HG3 := hide (HG2.out.trans hg3)
    have HC3 := hide (cells_grow hbr hg3 HC2.out)
    have hb3 : b < w3.heap.size := Nat.lt_of_lt_of_le hb2 hg3.size
    clear hR3 hg3 hho2 hho3
    go_wp2_with fail
    refine (ptake_any r b cap p2 k s _ _ hs hcap hp2 (by omega) HR3.out).mono ?_
    rintro e w4 ⟨va, m, p4, ok4, rfl, hR4, hS4, hyes, hno, hg4⟩
    have HC4 := hide (cells_grow hbr hg4 HC3.out)
    have HR4 := hide hR4
    have HG4 := hide (HG3.out.trans hg4)
    have hp4 := hS4.le hp2
    rw [HHO.out] at hS4
    have HS4 := hide hS4
    have hw4 : w1.heap.size ≤ w4.heap.size := HG4.out.size
    have hfit : ok4 = true → p2 + k ≤ s.size := fun h => by rcases hS4 with ⟨_, h2, _⟩ | ⟨h2, _⟩; exact h2; rw [h] at h2; cases h2
    have hkp : ok4 = true → 0 < k := fun h => by
      rcases hS4 with ⟨h2, _⟩ | ⟨h2, _⟩
      · rw [Bool.and_eq_true] at h2; exact of_decide_eq_true h2.2
      · rw [h] at h2; cases h2
    clear hR4 hS4 hg4
    have HEND : Hid (∀ (dv : Value) (td : List Int) (W : World), W.ownsRow w4.heap.size 5 1 dv td.length (u8s td) → Below w4.heap.size w4 W → Bytes td → td.length ≤ 255 → (ok4 = true → td = ((nums s).drop p2).take k) →
        TokQ w r b cap s ok p ⟨0, 0, td⟩ dv (((W.setCell ⟨w.heap.size, 0, none⟩ (.int .i64 0)).setCell ⟨w.heap.size, 1, none⟩ (.int .i64 0)).setCell ⟨w.heap.size, 2, none⟩ dv)) := by
      intro dv td W ho hb htb htl hte
      have hsem := raw0 (t := td) hp HS1.out (fun h => by simpa using HV1.out h) HS2.out HV2.out HS4.out hte
      refine ⟨p4, ok4, (HR4.out.below hb).set3 hlr _ _ _, hp4, ⟨htb, htl, by simp, by simp, by simp, by simp⟩, own_set ho (by omega) (by omega) _ _ _, hsem.1, hsem.2, ?_⟩
      exact grown_setNew (grown_setNew (grown_setNew ((HG1.out.trans HG4.out).trans (grown_of_below hb)) (Nat.le_refl _) _ _) (Nat.le_refl _) _ _) (Nat.le_refl _) _ _
    cases ok4 with
    | false =>
      obtain ⟨rfl, rfl⟩ := hno rfl
      have hgr := HGR.out w4 HG4.out
      have k0 : w4.cell? ⟨w.heap.size, 0, none⟩ = some (.int .i64 0) := cell_row hgr rfl
      have k1 : w4.cell? ⟨w.heap.size, 1, none⟩ = some (.int .i64 0) := cell_row hgr rfl
      have k2 : w4.cell? ⟨w.heap.size, 2, none⟩ = some (.slice none 0 0) := cell_row hgr rfl
      have kf : ∀ j, w4.frozen? ⟨w.heap.size, j, none⟩ = false := fun j => frozen_of_row _ _ _ _ _ hgr
      have HF := hide (HEND.out (.slice none 0 0) [] w4 (World.ownsRow_nil _ _ _ _) (Below.refl _ _) (fun x hx => by simp at hx) (by simp) (fun h => by cases h))
      clear hgr hyes hno hfit hkp
      go_wp2_with fail
      refine (clone_nil _).mono ?_
      rintro e w5 ⟨rfl, hw5⟩
      obtain rfl := hw5.symm
      go_wp2_with fail
      exact bodyPost_ret (v := .agg #[.int .i64 0, .int .i64 0, .slice none 0 0]) (by simp [results, Tryz.results142, go_sem, k0, k1, k2]) rfl ⟨⟨0, 0, []⟩, _, rfl, HF.out⟩
    | true =>
      obtain ⟨rfl, hva⟩ := hyes rfl
      obtain rfl := hva (hkp rfl)
      have hl : (((nums s).drop p2).take m).length = m := by rw [List.length_take, List.length_drop, nums_length]; have := hfit rfl; omega
      have hcl := clone_any b p2 m (((nums s).drop p2).take m) w4 (by omega) (fun j h => by
        rw [hl] at h
        have := hfit rfl
        rw [List.getElem_take, List.getElem_drop, nums_at s (p2 + j) (by omega)]
        exact cells_plain HC4.out (p2 + j) (by omega))
      rw [hl] at hcl
      have HCL := hide hcl
      have HEN2 : Hid (∀ (dv : Value) (W : World), W.ownsRow w4.heap.size 5 1 dv m (u8s (((nums s).drop p2).take m)) → Below w4.heap.size w4 W → TokQ w r b cap s ok p ⟨0, 0, ((nums s).drop p2).take m⟩ dv (((W.setCell ⟨w.heap.size, 0, none⟩ (.int .i64 0)).setCell ⟨w.heap.size, 1, none⟩ (.int .i64 0)).setCell ⟨w.heap.size, 2, none⟩ dv)) := fun dv W h1 h2 => HEND.out dv _ W (by rw [hl]; exact h1) h2 (((nums_bytes s).drop p2).take m) (by omega) (fun _ => rfl)
      clear hcl hyes hno hfit hkp hva hl
      generalize ((nums s).drop p2).take m = td at *
      go_wp2_with fail
      refine HCL.out.mono ?_
      rintro e w5 ⟨dv, rfl, ho5, hb5⟩
      have hgr : w5.heap[w.heap.size]? = some (.cells #[.int .i64 0, .int .i64 0, .slice none 0 0] 196 (0, 0)) := (hb5.block _ (by omega)).trans (HGR.out w4 HG4.out)
      have k0 : w5.cell? ⟨w.heap.size, 0, none⟩ = some (.int .i64 0) := cell_row hgr rfl
      have k1 : w5.cell? ⟨w.heap.size, 1, none⟩ = some (.int .i64 0) := cell_row hgr rfl
      have k2 : w5.cell? ⟨w.heap.size, 2, none⟩ = some (.slice none 0 0) := cell_row hgr rfl
      have kf : ∀ j, w5.frozen? ⟨w.heap.size, j, none⟩ = false := fun j => frozen_of_row _ _ _ _ _ hgr
      have HF := hide (HEN2.out dv w5 ho5 hb5)
      obtain ⟨da, dn, dc, rfl⟩ : ∃ da dn dc, dv = .slice da dn dc := by
        rcases ho5.2 with ⟨h, _⟩ | ⟨g, c, cur, h, _⟩
        · exact ⟨_, _, _, h⟩
        · exact ⟨_, _, _, h⟩
      clear ho5 hb5 hgr
      go_wp2_with fail
      exact bodyPost_ret (v := .agg #[.int .i64 0, .int .i64 0, .slice da dn dc]) (by simp [results, Tryz.results142, go_sem, k0, k1, k2]) rfl ⟨⟨0, 0, td⟩, _, rfl, HF.out⟩
  · have hok1 : ok1 = true := by
      cases ok1 with
      | true => rfl
      | false => exact absurd (HN1.out rfl) (by omega)
    subst hok1
    by_cases h1 : v = 1
    · subst h1
      go_wp2_with fail
      refine (pnumber_any r b cap p1 2 s true _ hs hcap hp1 (by omega) HR1.out hbr hb1 HC1.out).mono ?_
      rintro e w2 ⟨bk, rfl, hbk, _, p2, ok2, hR2, hS2, hv2, _, _, _, hg2⟩
      have HR2 := hide hR2
      have HS2 := hide hS2
      have HV2 := hide hv2
      have HG2 := hide hg2
      have HC2 := hide (cells_grow hbr hg2 HC1.out)
      have hp2 := hS2.le hp1
      have hb2 : b < w2.heap.size := Nat.lt_of_lt_of_le hb1 hg2.size
      clear hR2 hS2 hv2 hg2
      go_wp2_with fail
      refine (pnumber_any r b cap p2 1 s ok2 _ hs hcap hp2 (by omega) HR2.out hbr hb2 HC2.out).mono ?_
      rintro e w3 ⟨k, rfl, _, hk, p3, ok3, hR3, hS3, hv3, _, _, _, hg3⟩
      have hk := hk rfl
      have HR3 := hide hR3
      have HG3 := hide (HG2.out.trans hg3)
      have hp3 := hS3.le hp2
      have HSEM := hide (raw1 hp HS1.out (fun _ => by simpa using HV1.out (by first | rfl | trivial)) HS2.out HV2.out hS3 hv3)
      clear hR3 hS3 hv3 hg3
      obtain ⟨ho, hho⟩ : ∃ ho, ho = decide ((0 : Int) < (k : Int)) := ⟨_, rfl⟩
      have HHO : Hid (ho = decide (0 < k)) := by show _ = _; rw [hho]; exact decide_eq_decide.2 (by omega)
      have hho2 := hho.symm
      have hho3 : decide (0 < k) = ho := HHO.out.symm
      clear hho
      go_wp2_with fail
      refine (pmust_any r b cap p3 s _ ok3 ho _ HR3.out).mono ?_
      rintro e w4 ⟨rfl, hR4, hg4⟩
      have HG4 := hide (HG3.out.trans hg4)
      rw [HHO.out] at hR4
      have HR4 := hide hR4
      have hgr := HGR.out w4 HG4.out
      have k0 : w4.cell? ⟨w.heap.size, 0, none⟩ = some (.int .i64 0) := cell_row hgr rfl
      have k1 : w4.cell? ⟨w.heap.size, 1, none⟩ = some (.int .i64 0) := cell_row hgr rfl
      have k2 : w4.cell? ⟨w.heap.size, 2, none⟩ = some (.slice none 0 0) := cell_row hgr rfl
      have kf : ∀ j, w4.frozen? ⟨w.heap.size, j, none⟩ = false := fun j => frozen_of_row _ _ _ _ _ hgr
      have HF : Hid (TokQ w r b cap s ok p ⟨bk, k, []⟩ (.slice none 0 0) (((w4.setCell ⟨w.heap.size, 0, none⟩ (.int .i64 (bk : Int))).setCell ⟨w.heap.size, 1, none⟩ (.int .i64 (k : Int))).setCell ⟨w.heap.size, 2, none⟩ (.slice none 0 0))) := by
        refine ⟨p3, _, HR4.out.set3 hlr _ _ _, hp3, ⟨fun x hx => by simp at hx, by simp, by simp, by show (bk : Int) ≤ 65535; omega, by simp, by show (k : Int) ≤ 255; omega⟩, World.ownsRow_nil _ _ _ _, HSEM.out.1, HSEM.out.2, ?_⟩
        exact grown_setNew (grown_setNew (grown_setNew (HG1.out.trans HG4.out) (Nat.le_refl _) _ _) (Nat.le_refl _) _ _) (Nat.le_refl _) _ _
      clear hR4 hg4 hgr hho2 hho3
      go_wp2_with fail
      exact bodyPost_ret (v := .agg #[.int .i64 (bk : Int), .int .i64 (k : Int), .slice none 0 0]) (by simp [results, Tryz.results142, go_sem, k0, k1, k2]) rfl ⟨⟨bk, k, []⟩, _, rfl, HF.out⟩
    · have hd0 : ((v : Int) == 0) = false := by simp; omega
      have hd1 : ((v : Int) == 1) = false := by simp; omega
      have HSEM := hide (raw2 hp (by omega) HS1.out (fun _ => HV1.out (by first | rfl | trivial)))
      go_wp2_with fail
      refine (pmust_any r b cap p1 s _ true false _ HR1.out).mono ?_
      rintro e w4 ⟨rfl, hR4, hg4⟩
      have HG4 := hide hg4
      have HR4 := hide hR4
      have hgr := HGR.out w4 HG4.out
      have k0 : w4.cell? ⟨w.heap.size, 0, none⟩ = some (.int .i64 0) := cell_row hgr rfl
      have k1 : w4.cell? ⟨w.heap.size, 1, none⟩ = some (.int .i64 0) := cell_row hgr rfl
      have k2 : w4.cell? ⟨w.heap.size, 2, none⟩ = some (.slice none 0 0) := cell_row hgr rfl
      have kf : ∀ j, w4.frozen? ⟨w.heap.size, j, none⟩ = false := fun j => frozen_of_row _ _ _ _ _ hgr
      have HF : Hid (TokQ w r b cap s ok p ⟨0, 0, []⟩ (.slice none 0 0) (((w4.setCell ⟨w.heap.size, 0, none⟩ (.int .i64 0)).setCell ⟨w.heap.size, 1, none⟩ (.int .i64 0)).setCell ⟨w.heap.size, 2, none⟩ (.slice none 0 0))) := by
        refine ⟨p1, false, HR4.out.set3 hlr _ _ _, hp1, ⟨fun x hx => by simp at hx, by simp, by simp, by simp, by simp, by simp⟩, World.ownsRow_nil _ _ _ _, (fun h => by cases h), (fun _ => HSEM.out), ?_⟩
        exact grown_setNew (grown_setNew (grown_setNew (HG1.out.trans HG4.out) (Nat.le_refl _) _ _) (Nat.le_refl _) _ _) (Nat.le_refl _) _ _
      clear hR4 hg4 hgr
      go_wp2_with fail
      exact bodyPost_ret (v := .agg #[.int .i64 0, .int .i64 0, .slice none 0 0]) (by simp [results, Tryz.results142, go_sem, k0, k1, k2]) rfl ⟨⟨0, 0, []⟩, _, rfl, HF.out⟩
end Go.Proofs.YtbhccdedcoajmabGreatDoor
