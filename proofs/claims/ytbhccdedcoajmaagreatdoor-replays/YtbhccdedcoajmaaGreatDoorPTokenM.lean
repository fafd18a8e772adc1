import Derived.Test.YtbhccdedcoajmaaGreatDoorPBasisM
import Derived.Test.YtbhccdedcoajmaaGreatDoorTokRowM
import Derived.Deep.QuietTactic
import Derived.BigQuiet
import Derived.Test.YtbhccdedcoajmaaGreatDoorMadeM
namespace Go.Proofs.YtbhccdedcoajmaaGreatDoor
open Go.RowKit

set_option maxRecDepth 10000 in
set_option maxHeartbeats 2000000 in
theorem ptoken_any (r b cap p : Nat) (s : ByteArray) (ok : Bool) (w : World) (hs : s.size ≤ 70000) (hcap : s.size ≤ cap) (hp : p ≤ s.size) (hR : PRd w r b cap s p ok) (hbr : b ≠ r) (hb : b < w.heap.size) (hc : ∀ k (h : k < (nums s).length), w.cell? ⟨b, 0 + k, none⟩ = some (.int .u8 (nums s)[k])) :
    Calls Tryz.prog 173 #[.pointer (some ⟨r, 0, none⟩)] w fun e w' => ∃ (t : Tok) (dv : Value), e = .returned (.agg #[.int .i64 t.block, .int .i64 t.count, dv]) ∧ TokQ w r b cap s ok p t dv w' := by
  have HA : Hid (∀ o, Below w.heap.size w (w.alloc o)) := fun o => (Below.refl _ _).alloc (Nat.le_refl _) o
  have hlr := hR.lt
  have HR0 : Hid (∀ o, PRd (w.alloc o) r b cap s p ok) := fun o => hR.below (HA.out o)
  have HC0 : Hid (∀ o, ∀ k (h : k < (nums s).length), (w.alloc o).cell? ⟨b, 0 + k, none⟩ = some (.int .u8 (nums s)[k])) := fun o => cells_below hc (HA.out o)
  have HCW := hide hc
  clear hR hc
  go_enter Tryz.func173, Tryz.ntmps173
  go_wp2_with fail
  refine (pnumber_any r b cap p 1 s ok _ hs hcap hp (by omega) (HR0.out _) hbr (by simp; omega) (HC0.out _)).mono ?_
  rintro e w1 ⟨v, rfl, _, hv, p1, ok1, hR1, hS1, hv1, _, _, hno1, hg1⟩
  have hv := hv rfl
  have HR1 := hide hR1
  have HS1 := hide hS1
  have HV1 := hide hv1
  have HG1 : Hid (w.grownBy w1 (some r)) := (World.grownBy_alloc w _ _).trans hg1
  have HN1 := hide hno1
  have HC1 := hide (cells_grow hbr hg1 (HC0.out _))
  have hp1 := hS1.le hp
  have hb1 : b < w1.heap.size := Nat.lt_of_lt_of_le hb HG1.out.size
  have HGR : Hid (∀ W, w1.grownBy W (some r) → W.heap[w.heap.size]? = some (.cells #[.int .i64 0, .int .i64 0, .slice none 0 0] 100 (0, 0))) := by
    intro W hW
    have hgall := hg1.trans hW
    rw [hgall.block _ (by simp) (by simp; omega)]
    exact heap_alloc_new _ _
  have hw1 : w.heap.size < w1.heap.size := by have := hg1.size; simp at this; omega
  clear hR1 hS1 hv1 hg1 hno1
  by_cases h0 : v = 0
  · subst h0
    go_wp2_with fail
    refine (pnumber_any r b cap p1 1 s ok1 _ hs hcap hp1 (by omega) HR1.out hbr hb1 HC1.out).mono ?_
    rintro e w2 ⟨k, rfl, _, hk, p2, ok2, hR2, hS2, hv2, _, _, _, hg2⟩
    have hk := hk rfl
    have HR2 := hide hR2
    have HS2 := hide hS2
    have HV2 := hide hv2
    have HG2 := hide hg2
    have HC2 := hide (cells_grow hbr hg2 HC1.out)
    have hp2 := hS2.le hp1
    have hb2 : b < w2.heap.size := Nat.lt_of_lt_of_le hb1 hg2.size
    clear hR2 hS2 hv2 hg2
    obtain ⟨ho, hho⟩ : ∃ ho, ho = decide ((0 : Int) < (k : Int)) := ⟨_, rfl⟩
    have HHO : Hid (ho = decide (0 < k)) := by show _ = _; rw [hho]; exact decide_eq_decide.2 (by omega)
    have hho2 := hho.symm
    have hho3 : decide (0 < k) = ho := HHO.out.symm
    clear hho
    go_wp2_with fail
    refine (pmust_any r b cap p2 s _ ok2 ho _ HR2.out).mono ?_
    rintro e w3 ⟨rfl, hR3, hg3⟩
    have HR3 := hide hR3
    have HG3 := hide (HG2.out.trans hg3)
    have HC3 := hide (cells_grow hbr hg3 HC2.out)
    have hb3 : b < w3.heap.size := Nat.lt_of_lt_of_le hb2 hg3.size
    clear hR3 hg3 hho2 hho3
    go_wp2_with fail
    refine (ptake_any r b cap p2 k s _ _ hs hcap hp2 (by omega) HR3.out).mono ?_
    rintro e w4 ⟨va, m, p4, ok4, rfl, hR4, hS4, hyes, hno, hg4⟩
    have HC4 := hide (cells_grow hbr hg4 HC3.out)
    have HR4 := hide hR4
    have HG4 := hide (HG3.out.trans hg4)
    have hp4 := hS4.le hp2
    rw [HHO.out] at hS4
    have HS4 := hide hS4
    have hw4 : w1.heap.size ≤ w4.heap.size := HG4.out.size
    have hfit : ok4 = true → p2 + k ≤ s.size := fun h => by rcases hS4 with ⟨_, h2, _⟩ | ⟨h2, _⟩; exact h2; rw [h] at h2; cases h2
    have hkp : ok4 = true → 0 < k := fun h => by
      rcases hS4 with ⟨h2, _⟩ | ⟨h2, _⟩
      · rw [Bool.and_eq_true] at h2; exact of_decide_eq_true h2.2
      · rw [h] at h2; cases h2
    clear hR4 hS4 hg4
    have HEND : Hid (∀ (dv : Value) (td : List Int) (W : World), W.ownsRow w4.heap.size 5 1 dv td.length (u8s td) → Below w4.heap.size w4 W → Bytes td → td.length ≤ 255 → (ok4 = true → td = ((nums s).drop p2).take k) →
        TokQ w r b cap s ok p ⟨0, 0, td⟩ dv (((W.setCell ⟨w.heap.size, 0, none⟩ (.int .i64 0)).setCell ⟨w.heap.size, 1, none⟩ (.int .i64 0)).setCell ⟨w.heap.size, 2, none⟩ dv)) := by
      intro dv td W ho hb htb htl hte
      have hsem := raw0 (t := td) hp HS1.out (fun h => by simpa using HV1.out h) HS2.out HV2.out HS4.out hte
      refine ⟨p4, ok4, (HR4.out.below hb).set3 hlr _ _ _, hp4, ⟨htb, htl, by simp, by simp, by simp, by simp⟩, own_set ho (by omega) (by omega) _ _ _, hsem.1, hsem.2, ?_⟩
      exact grown_setNew (grown_setNew (grown_setNew ((HG1.out.trans HG4.out).trans (grown_of_below hb)) (Nat.le_refl _) _ _) (Nat.le_refl _) _ _) (Nat.le_refl _) _ _
    cases ok4 with
    | false =>
      obtain ⟨rfl, rfl⟩ := hno rfl
      have hgr := HGR.out w4 HG4.out
      have k0 : w4.cell? ⟨w.heap.size, 0, none⟩ = some (.int .i64 0) := cell_row hgr rfl
      have k1 : w4.cell? ⟨w.heap.size, 1, none⟩ = some (.int .i64 0) := cell_row hgr rfl
      have k2 : w4.cell? ⟨w.heap.size, 2, none⟩ = some (.slice none 0 0) := cell_row hgr rfl
      have kf : ∀ j, w4.frozen? ⟨w.heap.size, j, none⟩ = false := fun j => frozen_of_row _ _ _ _ _ hgr
      have HF := hide (HEND.out (.slice none 0 0) [] w4 (World.ownsRow_nil _ _ _ _) (Below.refl _ _) (fun x hx => by simp at hx) (by simp) (fun h => by cases h))
      clear hgr hyes hno hfit hkp
      go_wp2_with fail
      refine (clone_nil _).mono ?_
      rintro e w5 ⟨rfl, hw5⟩
      obtain rfl := hw5.symm
      go_wp2_with fail
      exact bodyPost_ret (v := .agg #[.int .i64 0, .int .i64 0, .slice none 0 0]) (by simp [results, Tryz.results173, go_sem, k0, k1, k2]) rfl ⟨⟨0, 0, []⟩, _, rfl, HF.out⟩
    | true =>
      obtain ⟨rfl, hva⟩ := hyes rfl
      obtain rfl := hva (hkp rfl)
      have hl : (((nums s).drop p2).take m).length = m := by rw [List.length_take, List.length_drop, nums_length]; have := hfit rfl; omega
      have hcl := clone_any b p2 m (((nums s).drop p2).take m) w4 (by omega) (fun j h => by
        rw [hl] at h
        have := hfit rfl
        rw [List.getElem_take, List.getElem_drop, nums_at s (p2 + j) (by omega)]
        exact cells_plain HC4.out (p2 + j) (by omega))
      rw [hl] at hcl
      have HCL := hide hcl
      have HEN2 : Hid (∀ (dv : Value) (W : World), W.ownsRow w4.heap.size 5 1 dv m (u8s (((nums s).drop p2).take m)) → Below w4.heap.size w4 W → TokQ w r b cap s ok p ⟨0, 0, ((nums s).drop p2).take m⟩ dv (((W.setCell ⟨w.heap.size, 0, none⟩ (.int .i64 0)).setCell ⟨w.heap.size, 1, none⟩ (.int .i64 0)).setCell ⟨w.heap.size, 2, none⟩ dv)) := fun dv W h1 h2 => HEND.out dv _ W (by rw [hl]; exact h1) h2 (((nums_bytes s).drop p2).take m) (by omega) (fun _ => rfl)
      clear hcl hyes hno hfit hkp hva hl
      generalize ((nums s).drop p2).take m = td at *
      go_wp2_with fail
      refine HCL.out.mono ?_
      rintro e w5 ⟨dv, rfl, ho5, hb5⟩
      have hgr : w5.heap[w.heap.size]? = some (.cells #[.int .i64 0, .int .i64 0, .slice none 0 0] 100 (0, 0)) := (hb5.block _ (by omega)).trans (HGR.out w4 HG4.out)
      have k0 : w5.cell? ⟨w.heap.size, 0, none⟩ = some (.int .i64 0) := cell_row hgr rfl
      have k1 : w5.cell? ⟨w.heap.size, 1, none⟩ = some (.int .i64 0) := cell_row hgr rfl
      have k2 : w5.cell? ⟨w.heap.size, 2, none⟩ = some (.slice none 0 0) := cell_row hgr rfl
      have kf : ∀ j, w5.frozen? ⟨w.heap.size, j, none⟩ = false := fun j => frozen_of_row _ _ _ _ _ hgr
      have HF := hide (HEN2.out dv w5 ho5 hb5)
      obtain ⟨da, dn, dc, rfl⟩ : ∃ da dn dc, dv = .slice da dn dc := by
        rcases ho5.2 with ⟨h, _⟩ | ⟨g, c, cur, h, _⟩
        · exact ⟨_, _, _, h⟩
        · exact ⟨_, _, _, h⟩
      clear ho5 hb5 hgr
      go_wp2_with fail
      exact bodyPost_ret (v := .agg #[.int .i64 0, .int .i64 0, .slice da dn dc]) (by simp [results, Tryz.results173, go_sem, k0, k1, k2]) rfl ⟨⟨0, 0, td⟩, _, rfl, HF.out⟩
  · have hok1 : ok1 = true := by
      cases ok1 with
      | true => rfl
      | false => exact absurd (HN1.out rfl) (by omega)
    subst hok1
    by_cases h1 : v = 1
    · subst h1
      go_wp2_with fail
      refine (pnumber_any r b cap p1 2 s true _ hs hcap hp1 (by omega) HR1.out hbr hb1 HC1.out).mono ?_
      rintro e w2 ⟨bk, rfl, hbk, _, p2, ok2, hR2, hS2, hv2, _, _, _, hg2⟩
      have HR2 := hide hR2
      have HS2 := hide hS2
      have HV2 := hide hv2
      have HG2 := hide hg2
      have HC2 := hide (cells_grow hbr hg2 HC1.out)
      have hp2 := hS2.le hp1
      have hb2 : b < w2.heap.size := Nat.lt_of_lt_of_le hb1 hg2.size
      clear hR2 hS2 hv2 hg2
      go_wp2_with fail
      refine (pnumber_any r b cap p2 1 s ok2 _ hs hcap hp2 (by omega) HR2.out hbr hb2 HC2.out).mono ?_
      rintro e w3 ⟨k, rfl, _, hk, p3, ok3, hR3, hS3, hv3, _, _, _, hg3⟩
      have hk := hk rfl
      have HR3 := hide hR3
      have HG3 := hide (HG2.out.trans hg3)
      have hp3 := hS3.le hp2
      have HSEM := hide (raw1 hp HS1.out (fun _ => by simpa using HV1.out (by first | rfl | trivial)) HS2.out HV2.out hS3 hv3)
      clear hR3 hS3 hv3 hg3
      obtain ⟨ho, hho⟩ : ∃ ho, ho = decide ((0 : Int) < (k : Int)) := ⟨_, rfl⟩
      have HHO : Hid (ho = decide (0 < k)) := by show _ = _; rw [hho]; exact decide_eq_decide.2 (by omega)
      have hho2 := hho.symm
      have hho3 : decide (0 < k) = ho := HHO.out.symm
      clear hho
      go_wp2_with fail
      refine (pmust_any r b cap p3 s _ ok3 ho _ HR3.out).mono ?_
      rintro e w4 ⟨rfl, hR4, hg4⟩
      have HG4 := hide (HG3.out.trans hg4)
      rw [HHO.out] at hR4
      have HR4 := hide hR4
      have hgr := HGR.out w4 HG4.out
      have k0 : w4.cell? ⟨w.heap.size, 0, none⟩ = some (.int .i64 0) := cell_row hgr rfl
      have k1 : w4.cell? ⟨w.heap.size, 1, none⟩ = some (.int .i64 0) := cell_row hgr rfl
      have k2 : w4.cell? ⟨w.heap.size, 2, none⟩ = some (.slice none 0 0) := cell_row hgr rfl
      have kf : ∀ j, w4.frozen? ⟨w.heap.size, j, none⟩ = false := fun j => frozen_of_row _ _ _ _ _ hgr
      have HF : Hid (TokQ w r b cap s ok p ⟨bk, k, []⟩ (.slice none 0 0) (((w4.setCell ⟨w.heap.size, 0, none⟩ (.int .i64 (bk : Int))).setCell ⟨w.heap.size, 1, none⟩ (.int .i64 (k : Int))).setCell ⟨w.heap.size, 2, none⟩ (.slice none 0 0))) := by
        refine ⟨p3, _, HR4.out.set3 hlr _ _ _, hp3, ⟨fun x hx => by simp at hx, by simp, by simp, by show (bk : Int) ≤ 65535; omega, by simp, by show (k : Int) ≤ 255; omega⟩, World.ownsRow_nil _ _ _ _, HSEM.out.1, HSEM.out.2, ?_⟩
        exact grown_setNew (grown_setNew (grown_setNew (HG1.out.trans HG4.out) (Nat.le_refl _) _ _) (Nat.le_refl _) _ _) (Nat.le_refl _) _ _
      clear hR4 hg4 hgr hho2 hho3
      go_wp2_with fail
      exact bodyPost_ret (v := .agg #[.int .i64 (bk : Int), .int .i64 (k : Int), .slice none 0 0]) (by simp [results, Tryz.results173, go_sem, k0, k1, k2]) rfl ⟨⟨bk, k, []⟩, _, rfl, HF.out⟩
    · have hd0 : ((v : Int) == 0) = false := by simp; omega
      have hd1 : ((v : Int) == 1) = false := by simp; omega
      have HSEM := hide (raw2 hp (by omega) HS1.out (fun _ => HV1.out (by first | rfl | trivial)))
      go_wp2_with fail
      refine (pmust_any r b cap p1 s _ true false _ HR1.out).mono ?_
      rintro e w4 ⟨rfl, hR4, hg4⟩
      have HG4 := hide hg4
      have HR4 := hide hR4
      have hgr := HGR.out w4 HG4.out
      have k0 : w4.cell? ⟨w.heap.size, 0, none⟩ = some (.int .i64 0) := cell_row hgr rfl
      have k1 : w4.cell? ⟨w.heap.size, 1, none⟩ = some (.int .i64 0) := cell_row hgr rfl
      have k2 : w4.cell? ⟨w.heap.size, 2, none⟩ = some (.slice none 0 0) := cell_row hgr rfl
      have kf : ∀ j, w4.frozen? ⟨w.heap.size, j, none⟩ = false := fun j => frozen_of_row _ _ _ _ _ hgr
      have HF : Hid (TokQ w r b cap s ok p ⟨0, 0, []⟩ (.slice none 0 0) (((w4.setCell ⟨w.heap.size, 0, none⟩ (.int .i64 0)).setCell ⟨w.heap.size, 1, none⟩ (.int .i64 0)).setCell ⟨w.heap.size, 2, none⟩ (.slice none 0 0))) := by
        refine ⟨p1, false, HR4.out.set3 hlr _ _ _, hp1, ⟨fun x hx => by simp at hx, by simp, by simp, by simp, by simp, by simp⟩, World.ownsRow_nil _ _ _ _, (fun h => by cases h), (fun _ => HSEM.out), ?_⟩
        exact grown_setNew (grown_setNew (grown_setNew (HG1.out.trans HG4.out) (Nat.le_refl _) _ _) (Nat.le_refl _) _ _) (Nat.le_refl _) _ _
      clear hR4 hg4 hgr
      go_wp2_with fail
      exact bodyPost_ret (v := .agg #[.int .i64 0, .int .i64 0, .slice none 0 0]) (by simp [results, Tryz.results173, go_sem, k0, k1, k2]) rfl ⟨⟨0, 0, []⟩, _, rfl, HF.out⟩
end Go.Proofs.YtbhccdedcoajmaaGreatDoor
namespace Go.Proofs.YtbhccdedcoajmaaGreatDoor
open Go.RowKit

theorem TokRow.opened {w : World} {base : Nat} {v : Value} {ps : List (Tok × Value)} (h : TokRow w base v ps) : ∃ va cap, v = .slice va ps.length cap ∧ ps.length ≤ cap ∧ ∀ i (hi : i < ps.length), ∃ g, va = some ⟨g, 0, none⟩ ∧ base ≤ g ∧ g < w.heap.size ∧ w.cell? ⟨g, i * 3, none⟩ = some (.int .i64 ps[i].1.block) ∧ w.cell? ⟨g, i * 3 + 1, none⟩ = some (.int .i64 ps[i].1.count) ∧ w.cell? ⟨g, i * 3 + 2, none⟩ = some ps[i].2 := by
  rcases Nat.eq_zero_or_pos ps.length with h0 | h0
  · rcases h.row.2 with ⟨hv, _⟩ | ⟨g, cap, cur, hv, _, _, h1, _⟩
    · exact ⟨none, 0, by rw [hv, h0], by omega, fun i hi => by omega⟩
    · exact ⟨_, cap, hv, h1, fun i hi => by omega⟩
  · obtain ⟨g, cap, rfl, hb, hl, h1, _⟩ := h.shape h0
    refine ⟨_, cap, rfl, h1, fun i hi => ⟨g, rfl, hb, hl, h.cells i hi⟩⟩

end Go.Proofs.YtbhccdedcoajmaaGreatDoor
