import Derived.Test.YtbhccdedcoajmaaGreatDoorPMkM
import Derived.Test.YtbhccdedcoajmaaGreatDoorMirM
import Derived.RegionDies
namespace Go.Proofs.YtbhccdedcoajmaaGreatDoor
open Go.RowKit

/-- the panic of the disk -/
abbrev crash12 : Value := .iface 50 (.int .i64 12)
set_option maxRecDepth 10000 in
set_option maxHeartbeats 1000000 in
theorem step_go (p : Nat) (a f : Int) (w : World) (h : w.heap[p]? = some (.cells #[.int .i64 a, .int .i64 f] 184 (0, 0))) (ha : 0 ≤ a) (ha2 : a ≤ 70000) (hne : ¬ a + 1 = f) :
    Calls Tryz.prog 82 #[.pointer (some ⟨p, 0, none⟩)] w fun e w' => e = .returned (.tuple #[]) ∧ w'.heap[p]? = some (.cells #[.int .i64 (a + 1), .int .i64 f] 184 (0, 0)) ∧ w.grownBy w' (some p) := by
  have c0 : w.cell? ⟨p, 0, none⟩ = some (.int .i64 a) := cell_row h rfl
  have f0 : ∀ j, w.frozen? ⟨p, j, none⟩ = false := fun j => frozen_of_row _ _ _ _ _ h
  obtain ⟨W1, hW1⟩ : ∃ W1, W1 = w.setCell ⟨p, 0, none⟩ (.int .i64 (a + 1)) := ⟨_, rfl⟩
  have hb1 : W1.heap[p]? = some (.cells #[.int .i64 (a + 1), .int .i64 f] 184 (0, 0)) := by
    rw [hW1, heap_setCell_same _ _ _ _ _ _ h]; rfl
  have hg1 : w.grownBy W1 (some p) := by rw [hW1]; exact setCell_grown _
  have d0 : W1.cell? ⟨p, 0, none⟩ = some (.int .i64 (a + 1)) := cell_row hb1 rfl
  have d1 : W1.cell? ⟨p, 1, none⟩ = some (.int .i64 f) := cell_row hb1 rfl
  have HB := hide hb1
  have HG := hide hg1
  have HW := hide hW1
  clear hb1 hg1 hW1 h
  go_enter Tryz.func82, Tryz.ntmps82
  go_wp2_with fail
  rw [← HW.out]
  go_quiet (fail)
  go_wp2_with fail
  go_end0
  exact ⟨rfl, ((below_drewN (Below.refl (W1.heap.size + p + 1) W1) _).block p (by omega)).trans HB.out, grown_drewN HG.out _⟩

set_option maxRecDepth 10000 in
set_option maxHeartbeats 1000000 in
theorem step_fail (p : Nat) (a : Int) (w : World) (h : w.heap[p]? = some (.cells #[.int .i64 a, .int .i64 (a + 1)] 184 (0, 0))) (ha : 0 ≤ a) (ha2 : a ≤ 70000) :
    Calls Tryz.prog 82 #[.pointer (some ⟨p, 0, none⟩)] w fun e w' => e = .panicked [{ v := crash12, recovered := false }] ∧ w.grownBy w' (some p) := by
  have c0 : w.cell? ⟨p, 0, none⟩ = some (.int .i64 a) := cell_row h rfl
  have f0 : ∀ j, w.frozen? ⟨p, j, none⟩ = false := fun j => frozen_of_row _ _ _ _ _ h
  obtain ⟨W1, hW1⟩ : ∃ W1, W1 = w.setCell ⟨p, 0, none⟩ (.int .i64 (a + 1)) := ⟨_, rfl⟩
  have hb1 : W1.heap[p]? = some (.cells #[.int .i64 (a + 1), .int .i64 (a + 1)] 184 (0, 0)) := by
    rw [hW1, heap_setCell_same _ _ _ _ _ _ h]; rfl
  have hg1 : w.grownBy W1 (some p) := by rw [hW1]; exact setCell_grown _
  have d0 : W1.cell? ⟨p, 0, none⟩ = some (.int .i64 (a + 1)) := cell_row hb1 rfl
  have d1 : W1.cell? ⟨p, 1, none⟩ = some (.int .i64 (a + 1)) := cell_row hb1 rfl
  have HG := hide hg1
  have HW := hide hW1
  clear hb1 hg1 hW1 h
  go_enter Tryz.func82, Tryz.ntmps82
  go_wp2_with fail
  rw [← HW.out]
  go_quiet (fail)
  go_wp2_with fail
  exact ⟨rfl, rfl, grown_drewN HG.out _⟩

/-- what the disk's Replace leaves of a mirror -/
def RepQ (w : World) (m : Nat) (l0 s0 : Value) (room : Int) (tv dn : Value) (c : Int) (base : Nat) (ps : List (ByteArray × ByteArray × Value)) (e : Ending) (w' : World) : Prop :=
  ∃ tv' bv', w'.heap[m]? = some (.cells #[l0, s0, .int .i64 room, tv', bv', dn] 139 (0, 0)) ∧ (∃ a n c, bv' = .slice a n c) ∧ w.grownBy w' (some m) ∧
    ((e = .panicked [{ v := crash12, recovered := false }] ∧ 1 ≤ c ∧ c ≤ ps.length + 2 ∧ tv' = tv) ∨ (e = .panicked [{ v := crash12, recovered := false }] ∧ c = ps.length + 3 ∧ FileRow w' base tv' ps ∧ ∀ g, tv'.ownBlock = some g → w.heap.size < g) ∨ (e = .returned (.tuple #[]) ∧ (c < 1 ∨ ps.length + 3 < c) ∧ FileRow w' base tv' ps ∧ ∀ g, tv'.ownBlock = some g → w.heap.size < g))
theorem FileRow.off1 {w w' : World} {base P : Nat} {v : Value} {ps : List (ByteArray × ByteArray × Value)} (h : FileRow w base v ps) (hv : ∀ g, v.ownBlock = some g → g ≠ P) (hd : ∀ p ∈ ps, ∀ g, p.2.2.ownBlock = some g → g ≠ P) (hg : w.grownBy w' (some P)) : FileRow w' base v ps := by
  refine ⟨h.row.kept hg ?_, fun p hp => (h.data p hp).kept hg ?_, h.apart, h.off⟩
  · cases e : v.ownBlock with
    | none => exact .inl rfl
    | some g => exact .inr (fun e' => hv g e (by simpa using e'))
  · cases e : p.2.2.ownBlock with
    | none => exact .inl rfl
    | some g => exact .inr (fun e' => hd p hp g e (by simpa using e'))
theorem fcells_take {ps : List (ByteArray × ByteArray × Value)} {k : Nat} (hk : k < ps.length) : fcells (ps.take (k + 1)) = fcells (ps.take k) ++ [.string ps[k].1, ps[k].2.2] := by
  rw [List.take_succ_eq_append_getElem hk, fcells_snoc]

set_option maxRecDepth 10000 in
set_option maxHeartbeats 2000000 in
theorem replace_any (m : Nat) (l0 s0 : Value) (room : Int) (tv bv dn : Value) (c : Int) (base : Nat) (r : Value) (ps : List (ByteArray × ByteArray × Value)) (w : World) (hm : w.heap[m]? = some (.cells #[l0, s0, .int .i64 room, tv, bv, dn] 139 (0, 0))) (hmb : m < base) (hbase : base ≤ w.heap.size) (htv : ∃ a n c, tv = .slice a n c) (hbv : ∃ a n c, bv = .slice a n c) (hF : FileRow w base r ps) (hl : ps.length ≤ 60000) :
    Calls Tryz.prog 74 #[.pointer (some ⟨m, 3, none⟩), r, .int .i64 c] w fun e w' => RepQ w m l0 s0 room tv dn c base ps e w' := by
  obtain ⟨i0, hi, z0, z1, z2⟩ := info_parts Tryz.info69
  obtain ⟨ta, tn, tc, rfl⟩ := htv
  obtain ⟨ba, bn, bc, rfl⟩ := hbv
  have hmw : m < w.heap.size := by omega
  obtain ⟨ra, rc, rfl, hrc, hcell⟩ : ∃ ra rc, r = .slice ra ps.length rc ∧ ps.length ≤ rc ∧ ∀ i (hi : i < ps.length), ∃ g vo vn vc, ra = some ⟨g, 0, none⟩ ∧ g < w.heap.size ∧ w.cell? ⟨g, i * 2, none⟩ = some (.string ps[i].1) ∧ w.cell? ⟨g, i * 2 + 1, none⟩ = some (.slice vo vn vc) ∧ ps[i].2.2 = .slice vo vn vc := by
    rcases hF.row.2 with ⟨hv, h0⟩ | ⟨g, cap, cur, hv, _, hg, h1, _⟩
    · exact ⟨none, 0, by rw [hv, h0], by omega, fun i hi => by omega⟩
    · refine ⟨some ⟨g, 0, none⟩, cap, hv, h1, fun i hi => ?_⟩
      obtain ⟨vo, vn, vc, hu⟩ := row_slice (hF.data _ (List.getElem_mem hi))
      refine ⟨g, vo, vn, vc, rfl, (Array.getElem?_eq_some_iff.1 hg).1, ?_, ?_, hu⟩
      · have := hF.row.cells (g := g) (by rw [hv]; rfl) (i * 2) _ (fcells_at ps i hi).1
        rw [add_at] at this; exact this
      · have := hF.row.cells (g := g) (by rw [hv]; rfl) (i * 2 + 1) _ (fcells_at ps i hi).2
        rw [add_at] at this; rw [this, hu]
  have HC := hide hcell
  have HF := hide hF
  have HM := hide hm
  obtain ⟨o, ho⟩ : ∃ o, o = Obj.cells #[.int .i64 0, .int .i64 c] 184 := ⟨_, rfl⟩
  have hp0 : (w.alloc o).heap[w.heap.size]? = some (.cells #[.int .i64 0, .int .i64 c] 184 (0, 0)) := by rw [heap_alloc_new, ho]
  have HB0 : Hid (Below w.heap.size w (w.alloc o)) := (Below.refl _ _).alloc (Nat.le_refl _) _
  have HP0 := hide hp0
  rw [ho] at HB0 HP0
  clear hcell hF hm hp0 ho
  go_enter Tryz.func74, Tryz.ntmps74
  go_wp2_with fail
  generalize hWA : w.alloc (.cells #[.int .i64 0, .int .i64 c] 184) = wa at *
  clear hWA
  go_loopw [7, 14] (fun v7 v14 wr => ∃ k : Nat, k ≤ ps.length ∧ v14 = .int .i64 k ∧ Hid (¬ (1 ≤ c ∧ c ≤ (k : Int))) ∧ Hid (wr.heap[w.heap.size]? = some (.cells #[.int .i64 k, .int .i64 c] 184 (0, 0))) ∧ Hid (wr.ownsRow (w.heap.size + 1) 69 2 v7 k (fcells (ps.take k))) ∧ Hid (Below w.heap.size w wr)) (fun _ v14 _ => ps.length - (intOf v14).toNat)
  case atStart => exact ⟨0, Nat.zero_le _, rfl, (fun h => by omega), HP0.out, World.ownsRow_nil _ _ _ _, HB0.out⟩
  case round =>
    clear HB0 HP0
    obtain ⟨k, hk, rfl, HCR, HPW, HOr, HBr⟩ := hrel
    by_cases hlt : k < ps.length
    · obtain ⟨g, vo, vn, vc, rfl, hg, c0, c1, hpv⟩ := HC.out k hlt
      have x0 := (HBr.out.cell (p := ⟨g, k * 2, none⟩) hg).trans c0
      have x1 := (HBr.out.cell (p := ⟨g, k * 2 + 1, none⟩) hg).trans c1
      have HTK : Hid (fcells (ps.take (k + 1)) = fcells (ps.take k) ++ [.string ps[k].1, .slice vo vn vc]) := by show _ = _; rw [fcells_take hlt, hpv]
      clear c0 c1 hpv
      generalize ps[k].1 = a at *
      have hPr : w.heap.size < wr.heap.size := (Array.getElem?_eq_some_iff.1 HPW.out).1
      obtain ⟨o, ho⟩ : ∃ o, o = Obj.cells #[.string a, .slice vo vn vc] 69 := ⟨_, rfl⟩
      have hba : Below wr.heap.size wr (wr.alloc o) := (Below.refl _ _).alloc (Nat.le_refl _) _
      have y0 : (wr.alloc o).cell? ⟨wr.heap.size, 0, none⟩ = some (.string a) := by rw [ho]; exact cell_new rfl rfl
      have y1 : (wr.alloc o).cell? ⟨wr.heap.size, 1, none⟩ = some (.slice vo vn vc) := by rw [ho]; exact cell_new rfl rfl
      have HPA : Hid ((wr.alloc o).heap[w.heap.size]? = some (.cells #[.int .i64 k, .int .i64 c] 184 (0, 0))) := (hba.block _ hPr).trans HPW.out
      have HBA : Hid (Below w.heap.size w (wr.alloc o)) := below_all HBr.out hba
      have HOA := hide (ownsRow_below HOr.out hba)
      rw [ho] at y0 y1 HPA HBA HOA
      clear hba ho
      by_cases hc : c = k + 1
      · subst hc
        have HRP : Hid (∀ w', Below w.heap.size w w' → RepQ w m l0 s0 room (.slice ta tn tc) dn ((k : Int) + 1) base ps (.panicked [{ v := crash12, recovered := false }]) w') := fun w' hb => ⟨_, _, (hb.block m hmw).trans HM.out, ⟨_, _, _, rfl⟩, grown_of_below hb, .inl ⟨rfl, by omega, by omega, rfl⟩⟩
        clear HCR HTK
        go_wp2_with fail
        generalize hWB : wr.alloc (.cells #[.string a, .slice vo vn vc] 69) = wb at *
        clear hWB
        refine (step_fail w.heap.size k wb HPA.out (by omega) (by omega)).mono ?_
        rintro e w2 ⟨rfl, hg2⟩
        have HB2 : Hid (Below w.heap.size w w2) := HBA.out.grown hg2 HBA.out.size (fun j hj => by simp at hj; omega)
        clear hg2
        go_wp2_with fail
        exact ⟨rfl, HRP.out _ HB2.out⟩
      · go_wp2_with fail
        generalize hWB : wr.alloc (.cells #[.string a, .slice vo vn vc] 69) = wb at *
        clear hWB
        have hwb : wr.heap.size < wb.heap.size := World.block_lt_of_cell? wb _ y0
        refine (step_go w.heap.size k c wb HPA.out (by omega) (by omega) (by omega)).mono ?_
        rintro e w2 ⟨rfl, hp2, hg2⟩
        have HB2 : Hid (Below w.heap.size w w2) := HBA.out.grown hg2 HBA.out.size (fun j hj => by simp at hj; omega)
        have u0 := hg2.cell y0 (by simp; omega)
        have u1 := hg2.cell y1 (by simp; omega)
        have HO2 := hide (row_kept HOA.out hg2 (by omega))
        have HP2 := hide hp2
        have hw2 : wb.heap.size ≤ w2.heap.size := hg2.size
        clear hp2 hg2 y0 y1
        go_wp2_with (at_builtin; refine wpList_append_own_at _ rfl (.tmp 19) (.tmp 21) 60 rfl (w.heap.size + 1) 69 i0 (.agg #[.string ⟨#[]⟩, .slice none 0 0]) 2 40 Tryz.underlying60 hi z0 z1 z2 rfl (by decide) _ k (fcells (ps.take k)) rfl (HO2.out.alloc _) ⟨w2.heap.size, 0, none⟩ 1 1 [.string a, .slice vo vn vc] rfl rfl ?ka ?kb ?kc ?kd ?ke ?kf)
        case ka =>
          intro j y hy
          match j, hy with
          | 0, hy => simp at hy; subst hy; simp [Addr.add]
          | 1, hy => simp at hy; subst hy; simp [Addr.add]
        case kb => intro y hy; simp at hy; rcases hy with rfl | rfl <;> rfl
        case kc => unfold maxLen; omega
        case kd => omega
        case ke => simp; omega
        case kf =>
          intro v9 w9 hown9 hgrow9 _ hloc9
          have hgg := (World.grownBy_alloc w2 (.cells #[.string a, .slice vo vn vc] 69) u7.ownBlock).trans hgrow9
          have hrow : ∀ j, u7.ownBlock = some j → w.heap.size + 1 ≤ j := fun j hj => (HOr.out.lt j hj).1
          have HB9 : Hid (Below w.heap.size w w9) := HB2.out.grown hgg HB2.out.size (fun j hj => by have := hrow j hj; omega)
          have HP9 : Hid (w9.heap[w.heap.size]? = some (.cells #[.int .i64 ((k : Int) + 1), .int .i64 c] 184 (0, 0))) := (hgg.block _ (by omega) (fun e => by have := hrow _ e.symm; omega)).trans HP2.out
          have HO9 : Hid (w9.ownsRow (w.heap.size + 1) 69 2 v9 (k + 1) (fcells (ps.take (k + 1)))) := by rw [HTK.out]; exact hown9
          have HC9 : Hid (¬ (1 ≤ c ∧ c ≤ ((k + 1 : Nat) : Int))) := by
            intro h
            exact HCR.out ⟨h.1, by omega⟩
          clear hown9 hgrow9 hloc9 hgg hrow u0 u1
          go_wp2_with fail
          go_roundw
          case rel => exact ⟨k + 1, by omega, by go_num, HC9.out, HP9.out, HO9.out, HB9.out⟩
          case measure => simp [intOf]; omega
    · have hkn : k = ps.length := by omega
      obtain ⟨ua, un, uc, rfl⟩ := row_slice HOr.out
      have hPr : w.heap.size < wr.heap.size := (Array.getElem?_eq_some_iff.1 HPW.out).1
      have HU : Hid (∀ g, (Value.slice ua un uc).ownBlock = some g → g ≠ w.heap.size) := fun g hg => by have := (HOr.out.lt g hg).1; omega
      have HUL : Hid (∀ g, (Value.slice ua un uc).ownBlock = some g → w.heap.size < g) := fun g hg => by have := (HOr.out.lt g hg).1; omega
      have HD : Hid (∀ p ∈ ps, ∀ g, p.2.2.ownBlock = some g → g ≠ w.heap.size) := fun p hp g hg => by have := ((HF.out.data p hp).lt g hg).2; omega
      have HFR : Hid (FileRow wr base (.slice ua un uc) ps) := by
        refine ⟨ownsRow_base (base := w.heap.size + 1) ?_ (by omega), fun p hp => ownsRow_below (HF.out.data p hp) HBr.out, HF.out.apart, fun p hp g hg e => ?_⟩
        · have := HOr.out
          rw [hkn, List.take_of_length_le (Nat.le_refl _)] at this
          exact this
        · have h1 := ((HF.out.data p hp).lt g hg).2
          have h2 := (HOr.out.lt g e).1
          omega
      have HMr : Hid (wr.heap[m]? = some (.cells #[l0, s0, .int .i64 room, .slice ta tn tc, .slice ba bn bc, dn] 139 (0, 0))) := (HBr.out.block m hmw).trans HM.out
      have HGr : Hid (w.grownBy wr (some m)) := grown_of_below HBr.out
      have hmP : m ≠ w.heap.size := by omega
      have hkc : (k : Int) = (ps.length : Int) := by omega
      clear HOr hkn HBr HC
      by_cases hc1 : c = k + 1
      · subst hc1
        go_wp2_with fail
        refine (step_fail w.heap.size k wr HPW.out (by omega) (by omega)).mono ?_
        rintro e w2 ⟨rfl, hg2⟩
        have HR : Hid (RepQ w m l0 s0 room (.slice ta tn tc) dn ((k : Int) + 1) base ps (.panicked [{ v := crash12, recovered := false }]) w2) := ⟨_, _, (hg2.block m (by omega) (by simp; exact hmP)).trans HMr.out, ⟨_, _, _, rfl⟩, grown_comp HGr.out hg2 (fun j hj => by simp at hj; omega), .inl ⟨rfl, by omega, by omega, rfl⟩⟩
        clear hg2
        go_wp2_with fail
        exact ⟨rfl, HR.out⟩
      · go_wp2_with fail
        refine (step_go w.heap.size k c wr HPW.out (by omega) (by omega) (by omega)).mono ?_
        rintro e w2 ⟨rfl, hp2, hg2⟩
        have HM2 := (hg2.block m (by omega) (by simp; exact hmP)).trans HMr.out
        have HG2 := grown_comp HGr.out hg2 (fun j hj => by simp at hj; omega)
        have HF2 := HFR.out.off1 HU.out HD.out hg2
        have hw2 : wr.heap.size ≤ w2.heap.size := hg2.size
        obtain ⟨W3, hW3⟩ : ∃ W3, W3 = w2.setCell ⟨m, 4, none⟩ (.slice ua un uc) := ⟨_, rfl⟩
        have hm3 : W3.heap[m]? = some (.cells #[l0, s0, .int .i64 room, .slice ta tn tc, .slice ua un uc, dn] 139 (0, 0)) := by rw [hW3, heap_setCell_same _ _ _ _ _ _ HM2]; rfl
        have hg3 : w2.grownBy W3 (some m) := by rw [hW3]; exact setCell_grown _
        have hp3 : W3.heap[w.heap.size]? = some (.cells #[.int .i64 ((k : Int) + 1), .int .i64 c] 184 (0, 0)) := (hg3.block _ (by omega) (by simp; omega)).trans hp2
        have HG3 := hide (HG2.trans hg3)
        have HF3 := hide (HF2.keepR hg3 hmb)
        have hw3 : w2.heap.size ≤ W3.heap.size := hg3.size
        have e4 : w2.cell? ⟨m, 4, none⟩ = some (.slice ba bn bc) := cell_row HM2 rfl
        have e4f : w2.frozen? ⟨m, 4, none⟩ = false := frozen_of_row _ _ _ _ _ HM2
        have HM3 := hide hm3
        have HP3 := hide hp3
        have HW3 := hide hW3
        clear hp2 hg2 HM2 HG2 HF2 hm3 hg3 hp3 hW3 HPW HFR HMr HGr
        by_cases hc2 : c = k + 1 + 1
        · subst hc2
          go_wp2_with fail
          rw [← HW3.out]
          refine (step_fail w.heap.size (k + 1) W3 HP3.out (by omega) (by omega)).mono ?_
          rintro e w4 ⟨rfl, hg4⟩
          have HR : Hid (RepQ w m l0 s0 room (.slice ta tn tc) dn ((k : Int) + 1 + 1) base ps (.panicked [{ v := crash12, recovered := false }]) w4) := ⟨_, _, (hg4.block m (by omega) (by simp; exact hmP)).trans HM3.out, ⟨_, _, _, rfl⟩, grown_comp HG3.out hg4 (fun j hj => by simp at hj; omega), .inl ⟨rfl, by omega, by omega, rfl⟩⟩
          clear hg4
          go_wp2_with fail
          exact ⟨rfl, HR.out⟩
        · go_wp2_with fail
          rw [← HW3.out]
          refine (step_go w.heap.size (k + 1) c W3 HP3.out (by omega) (by omega) (by omega)).mono ?_
          rintro e w4 ⟨rfl, hp4, hg4⟩
          have HM4 := (hg4.block m (by omega) (by simp; exact hmP)).trans HM3.out
          have HG4 := hide (grown_comp HG3.out hg4 (fun j hj => by simp at hj; omega))
          have HF4 := hide (HF3.out.off1 HU.out HD.out hg4)
          have hw4 : W3.heap.size ≤ w4.heap.size := hg4.size
          have q3 : w4.cell? ⟨m, 3, none⟩ = some (.slice ta tn tc) := cell_row HM4 rfl
          have q4 : w4.cell? ⟨m, 4, none⟩ = some (.slice ua un uc) := cell_row HM4 rfl
          have qf : ∀ j, w4.frozen? ⟨m, j, none⟩ = false := fun j => frozen_of_row _ _ _ _ _ HM4
          have HP4 := hide hp4
          have HMM := hide HM4
          clear hp4 hg4 HM4 HM3 HP3 HG3 HF3 e4 e4f HW3
          go_wp2_with fail
          go_region
          obtain ⟨W5, hW5⟩ : ∃ W5, W5 = ((w4.setCell ⟨m, 3, none⟩ (.slice ua un uc)).setCell ⟨m, 4, none⟩ (.slice ta tn tc)).drew := ⟨_, rfl⟩
          have hg5 : w4.grownBy W5 (some m) := by
            rw [hW5]
            exact ((setCell_grown _).trans (setCell_grown _)).trans (grown_of_below (Below.refl _ _).drew)
          have hm5 : W5.heap[m]? = some (.cells #[l0, s0, .int .i64 room, .slice ua un uc, .slice ta tn tc, dn] 139 (0, 0)) := by
            rw [hW5]
            have h1 : (w4.setCell ⟨m, 3, none⟩ (.slice ua un uc)).heap[m]? = some (.cells #[l0, s0, .int .i64 room, .slice ua un uc, .slice ua un uc, dn] 139 (0, 0)) := by rw [heap_setCell_same _ _ _ _ _ _ HMM.out]; rfl
            have h2 : ((w4.setCell ⟨m, 3, none⟩ (.slice ua un uc)).setCell ⟨m, 4, none⟩ (.slice ta tn tc)).heap[m]? = some (.cells #[l0, s0, .int .i64 room, .slice ua un uc, .slice ta tn tc, dn] 139 (0, 0)) := by rw [heap_setCell_same _ _ _ _ _ _ h1]; rfl
            exact h2
          have HP5 : Hid (W5.heap[w.heap.size]? = some (.cells #[.int .i64 ((k : Int) + 1 + 1), .int .i64 c] 184 (0, 0))) := (hg5.block _ (by omega) (by simp; omega)).trans HP4.out
          have HG5 := hide (HG4.out.trans hg5)
          have HF5 := hide (HF4.out.keepR hg5 hmb)
          have hw5 : w4.heap.size ≤ W5.heap.size := hg5.size
          have HM5 := hide hm5
          rw [← hW5]
          clear hW5 hg5 hm5 HG4 HF4 HP4 HMM q3 q4 qf
          by_cases hc3 : c = k + 1 + 1 + 1
          · subst hc3
            go_wp2_with fail
            refine (step_fail w.heap.size (k + 1 + 1) W5 HP5.out (by omega) (by omega)).mono ?_
            rintro e w6 ⟨rfl, hg6⟩
            have HR : Hid (RepQ w m l0 s0 room (.slice ta tn tc) dn ((k : Int) + 1 + 1 + 1) base ps (.panicked [{ v := crash12, recovered := false }]) w6) := ⟨_, _, (hg6.block m (by omega) (by simp; exact hmP)).trans HM5.out, ⟨_, _, _, rfl⟩, grown_comp HG5.out hg6 (fun j hj => by simp at hj; omega), .inr (.inl ⟨rfl, by omega, HF5.out.off1 HU.out HD.out hg6, HUL.out⟩)⟩
            clear hg6
            go_wp2_with fail
            exact ⟨rfl, HR.out⟩
          · go_wp2_with fail
            refine (step_go w.heap.size (k + 1 + 1) c W5 HP5.out (by omega) (by omega) (by omega)).mono ?_
            rintro e w6 ⟨rfl, hp6, hg6⟩
            have HM6 := (hg6.block m (by omega) (by simp; exact hmP)).trans HM5.out
            have HG6 := hide (grown_comp HG5.out hg6 (fun j hj => by simp at hj; omega))
            have HF6 := hide (HF5.out.off1 HU.out HD.out hg6)
            have q4 : w6.cell? ⟨m, 4, none⟩ = some (.slice ta tn tc) := cell_row HM6 rfl
            have qf : ∀ j, w6.frozen? ⟨m, j, none⟩ = false := fun j => frozen_of_row _ _ _ _ _ HM6
            have HR : Hid (RepQ w m l0 s0 room (.slice ta tn tc) dn c base ps (.returned (.tuple #[])) (w6.setCell ⟨m, 4, none⟩ (.slice none 0 0))) := by
              refine ⟨.slice ua un uc, .slice none 0 0, ?_, ⟨_, _, _, rfl⟩, HG6.out.trans (setCell_grown _), .inr (.inr ⟨rfl, ?_, HF6.out.keepR (setCell_grown _) hmb, HUL.out⟩)⟩
              · rw [heap_setCell_same _ _ _ _ _ _ HM6]; rfl
              · have := HCR.out
                omega
            clear hp6 hg6 HM6
            go_wp2_with fail
            go_end0
            exact HR.out
end Go.Proofs.YtbhccdedcoajmaaGreatDoor
namespace Go.Proofs.YtbhccdedcoajmaaGreatDoor
open Go.RowKit Go.MuLone

set_option maxRecDepth 10000 in
set_option maxHeartbeats 1000000 in
/-- the steps of a replay, as run calls them -/
theorem steps_replay (pm pf pc m : Nat) (l0 s0 : Value) (room : Int) (tv bv dn : Value) (c : Int) (base : Nat) (r : Value) (ps : List (ByteArray × ByteArray × Value)) (w : World) (h1 : w.cell? ⟨pm, 0, none⟩ = some (.pointer (some ⟨m, 0, none⟩))) (h2 : w.cell? ⟨pf, 0, none⟩ = some r) (h3 : w.cell? ⟨pc, 0, none⟩ = some (.int .i64 c)) (hpm : pm ≠ m) (hpf : pf ≠ m) (hpc : pc ≠ m) (hm : w.heap[m]? = some (.cells #[l0, s0, .int .i64 room, tv, bv, dn] 139 (0, 0))) (hmb : m < base) (hbase : base ≤ w.heap.size) (htv : ∃ a n c, tv = .slice a n c) (hbv : ∃ a n c, bv = .slice a n c) (hF : FileRow w base r ps) (hl : ps.length ≤ 60000) :
    Calls Tryz.prog 73 #[.pointer (some ⟨pm, 0, none⟩), .pointer (some ⟨pf, 0, none⟩), .pointer (some ⟨pc, 0, none⟩)] w fun e w' => RepQ w m l0 s0 room tv dn c base ps e w' := by
  have HR : Hid (Calls Tryz.prog 74 #[.pointer (some ⟨m, 3, none⟩), r, .int .i64 c] w.drew fun e w' => RepQ w.drew m l0 s0 room tv dn c base ps e w') := by
    have hb : Below w.heap.size w w.drew := (Below.refl _ _).drew
    exact replace_any m l0 s0 room tv bv dn c base r ps w.drew hm hmb hbase htv hbv (hF.below hb) hl
  obtain ⟨ra, rn, rc, rfl⟩ := row_slice hF.row
  clear hm htv hbv hF
  by_cases hc : c < 1 ∨ ps.length + 3 < c
  · have HR2 : Hid (Calls Tryz.prog 74 #[.pointer (some ⟨m, 3, none⟩), .slice ra rn rc, .int .i64 c] w.drew fun e w' => e = .returned (.tuple #[]) ∧ RepQ w m l0 s0 room tv dn c base ps (.returned (.tuple #[])) w') := by
      refine HR.out.mono ?_
      rintro e w' ⟨tv', bv', a1, a2, a3, a4⟩
      have a3' : w.grownBy w' (some m) := (grown_of_below (Below.refl w.heap.size w).drew).trans a3
      rcases a4 with ⟨_, b1, b2, _⟩ | ⟨_, b1, _⟩ | ⟨rfl, b1, b2⟩
      · omega
      · omega
      · exact ⟨rfl, tv', bv', a1, a2, a3', .inr (.inr ⟨rfl, b1, b2⟩)⟩
    have HCE : Hid (∀ w', RepQ w m l0 s0 room tv dn c base ps (.returned (.tuple #[])) w' → w'.cell? ⟨pm, 0, none⟩ = some (.pointer (some ⟨m, 0, none⟩)) ∧ w'.cell? ⟨pf, 0, none⟩ = some (.slice ra rn rc) ∧ w'.cell? ⟨pc, 0, none⟩ = some (.int .i64 c)) := by
      rintro w' ⟨_, _, _, _, a3, _⟩
      exact ⟨a3.cell h1 (by simp; exact hpm), a3.cell h2 (by simp; exact hpf), a3.cell h3 (by simp; exact hpc)⟩
    clear HR
    go_enter Tryz.func73, Tryz.ntmps73
    go_wp2_with fail
    go_region_held3 (fun w' => w'.cell? ⟨pm, 0, none⟩ = some (.pointer (some ⟨m, 0, none⟩)) ∧ w'.cell? ⟨pf, 0, none⟩ = some (.slice ra rn rc) ∧ w'.cell? ⟨pc, 0, none⟩ = some (.int .i64 c))
      (first | exact ⟨h1, h2, h3⟩ | exact ⟨k1, k2, k3⟩)
      ((go_at_call 74; refine HR2.out.mono ?_; rintro e w2 ⟨rfl, hq⟩; obtain ⟨k1, k2, k3⟩ := HCE.out w2 hq))
    go_wp2_with fail
    go_end0
    exact hq
  · have HR2 : Hid (Calls Tryz.prog 74 #[.pointer (some ⟨m, 3, none⟩), .slice ra rn rc, .int .i64 c] w.drew fun e w' => e = .panicked [{ v := crash12, recovered := false }] ∧ RepQ w m l0 s0 room tv dn c base ps (.panicked [{ v := crash12, recovered := false }]) w') := by
      refine HR.out.mono ?_
      rintro e w' ⟨tv', bv', a1, a2, a3, a4⟩
      have a3' : w.grownBy w' (some m) := (grown_of_below (Below.refl w.heap.size w).drew).trans a3
      rcases a4 with ⟨rfl, b1, b2, b3⟩ | ⟨rfl, b1, b2⟩ | ⟨rfl, b1, b2⟩
      · exact ⟨rfl, tv', bv', a1, a2, a3', .inl ⟨rfl, b1, b2, b3⟩⟩
      · exact ⟨rfl, tv', bv', a1, a2, a3', .inr (.inl ⟨rfl, b1, b2⟩)⟩
      · exact absurd b1 hc
    clear HR
    go_enter Tryz.func73, Tryz.ntmps73
    go_wp2_with fail
    go_region_dies
    all_goals
      refine HR2.out.mono ?_
      rintro e w2 ⟨rfl, hq⟩
      exact ⟨rfl, hq⟩

end Go.Proofs.YtbhccdedcoajmaaGreatDoor
namespace Go.Proofs.YtbhccdedcoajmaaGreatDoor
open Go.RowKit Go.MuLone

/-- what run defers, behind a failure -/
theorem caught (M1 E m : Nat) (x y : Value) (u : TypeId) (pv : Value) (older : List PanicEntry) (w : World) (h1 : w.cell? ⟨M1, 0, none⟩ = some (.pointer (some ⟨m, 0, none⟩))) (h2 : w.cell? ⟨m, 5, none⟩ = some x) (h3 : w.cell? ⟨E, 0, none⟩ = some y) (f2 : w.frozen? ⟨m, 5, none⟩ = false) (f3 : w.frozen? ⟨E, 0, none⟩ = false) :
    CallsD Tryz.prog 81 #[.pointer (some ⟨M1, 0, none⟩), .pointer (some ⟨E, 0, none⟩)] (.panicking ({ v := .iface u pv, recovered := false } :: older)) w fun e u' w' =>
      e = .returned (.tuple #[]) ∧ u' = .panicking ({ v := .iface u pv, recovered := true } :: older) ∧ w' = (w.setCell ⟨m, 5, none⟩ (.bool true)).setCell ⟨E, 0, none⟩ crash12 := by
  refine callsD_of_wpS Tryz.func81 rfl fun c₀ cs hu => ?_
  apply wpS_seq
  apply wpS_region
  simp [wpOpsS, go_sem, recoverD, hu, Tryz.ntmps81, Exit.thenS]
  refine wpS_cond (t := true) (by simp [Act.eval, Array.replicate]) ?_
  simp only [if_true]
  apply wpS_region
  simp [wpOpsS, go_sem, h1, h2, h3, f2, f3, bodyPostS, results, Tryz.results81]
/-- what run defers, where all went well -/
theorem caught_none (M1 E : Nat) (w : World) :
    CallsD Tryz.prog 81 #[.pointer (some ⟨M1, 0, none⟩), .pointer (some ⟨E, 0, none⟩)] .returning w fun e u' w' => e = .returned (.tuple #[]) ∧ u' = .returning ∧ w' = w := by
  refine callsD_of_wpS Tryz.func81 rfl fun c₀ cs hu => ?_
  apply wpS_seq
  apply wpS_region
  simp [wpOpsS, go_sem, recoverD, hu, Tryz.ntmps81, Exit.thenS]
  refine wpS_cond (t := false) (by simp [Act.eval, Array.replicate]) ?_
  simp only [Bool.false_eq_true, if_false]
  refine wpS_of_wp (wp_skip ?_)
  cases c₀
  simp_all [bodyPostS, results, Tryz.results81]

/-- the world in which run calls the steps -/
def runW (w : World) (m : Nat) : World := (w.alloc (.cells #[.pointer (some ⟨m, 0, none⟩)] 44)).alloc (.cells #[.nilIface] 86)
theorem runW_below (w : World) (m : Nat) : Below w.heap.size w (runW w m) := ((Below.refl _ _).alloc (Nat.le_refl _) _).alloc (by simp) _
theorem runW_size (w : World) (m : Nat) : (runW w m).heap.size = w.heap.size + 2 := by simp [runW]
theorem runW_c1 (w : World) (m : Nat) : (runW w m).cell? ⟨w.heap.size, 0, none⟩ = some (.pointer (some ⟨m, 0, none⟩)) := by
  unfold runW
  rw [World.cell?_alloc_lt _ _ _ (by simp)]; exact cell_new rfl rfl
theorem runW_blk (w : World) (m : Nat) : (runW w m).heap[w.heap.size + 1]? = some (.cells #[.nilIface] 86 (0, 0)) := by
  have := heap_alloc_new (w.alloc (.cells #[.pointer (some ⟨m, 0, none⟩)] 44)) (.cells #[.nilIface] 86)
  rw [show (w.alloc (.cells #[.pointer (some ⟨m, 0, none⟩)] 44)).heap.size = w.heap.size + 1 by simp] at this
  exact this
/-- what the steps must leave for run -/
structure Kept (w : World) (m : Nat) (w' : World) : Prop where
  c1 : w'.cell? ⟨w.heap.size, 0, none⟩ = some (.pointer (some ⟨m, 0, none⟩))
  c5 : ∃ x, w'.cell? ⟨m, 5, none⟩ = some x
  f5 : w'.frozen? ⟨m, 5, none⟩ = false
  blk : w'.heap[w.heap.size + 1]? = some (.cells #[.nilIface] 86 (0, 0))

set_option maxRecDepth 10000 in
set_option maxHeartbeats 1000000 in
theorem run_pan (m fn : Nat) (caps : Array Value) (w : World) (R : World → Prop) (_hm : m < w.heap.size) (hfn : ∀ W : World, (callFunc fn caps).run Tryz.prog W = .ok (.enter fn caps) W) (hs : Calls Tryz.prog fn caps (runW w m) fun e w' => e = .panicked [{ v := crash12, recovered := false }] ∧ Kept w m w' ∧ R w') :
    Calls Tryz.prog 52 #[.pointer (some ⟨m, 0, none⟩), .func (.func fn) #[] caps] w fun e w' => e = .returned crash12 ∧ ∃ w1, R w1 ∧ w' = (w1.setCell ⟨m, 5, none⟩ (.bool true)).setCell ⟨w.heap.size + 1, 0, none⟩ crash12 := by
  have hmf : ∀ (fn : Fn) (first cap : Array Value) (w : World), (Instr.makeFunc fn first cap).run Tryz.prog w = .ok (.func fn first cap) w := fun _ _ _ _ => rfl
  have HS := hide hs
  unfold runW at HS
  clear hs
  go_enter_defers Tryz.func52, Tryz.ntmps52
  go_wp2_with fail
  refine HS.out.mono ?_
  rintro e w1 ⟨rfl, hk, hr⟩
  obtain ⟨x, hx⟩ := hk.c5
  have h3 : w1.cell? ⟨w.heap.size + 1, 0, none⟩ = some .nilIface := cell_row hk.blk rfl
  have f3 : w1.frozen? ⟨w.heap.size + 1, 0, none⟩ = false := frozen_of_row _ _ _ _ _ hk.blk
  refine leaves_cons (f := 81) (args := #[.pointer (some ⟨w.heap.size, 0, none⟩), .pointer (some ⟨w.heap.size + 1, 0, none⟩)]) (by simp) (by simp [go_sem]) ?_
  refine (caught w.heap.size (w.heap.size + 1) m x .nilIface _ _ [] w1 hk.c1 hx h3 hk.f5 f3).mono ?_
  rintro e u' w'' ⟨rfl, rfl, rfl⟩
  have hce : ((w1.setCell ⟨m, 5, none⟩ (.bool true)).setCell ⟨w.heap.size + 1, 0, none⟩ crash12).cell? ⟨w.heap.size + 1, 0, none⟩ = some crash12 := World.cell?_setCell_same _ _ _ ((World.cell?_setCell_other w1 ⟨m, 5, none⟩ ⟨w.heap.size + 1, 0, none⟩ _ (by simp)).trans h3)
  simp [Leaves, settle, results, Tryz.results52, go_sem, hce]
  exact ⟨w1, hr, rfl⟩

set_option maxRecDepth 10000 in
set_option maxHeartbeats 1000000 in
theorem run_well (m fn : Nat) (caps : Array Value) (w : World) (R : World → Prop) (hm : m < w.heap.size) (hfn : ∀ W : World, (callFunc fn caps).run Tryz.prog W = .ok (.enter fn caps) W) (hs : Calls Tryz.prog fn caps (runW w m) fun e w' => e = .returned (.tuple #[]) ∧ Kept w m w' ∧ R w') :
    Calls Tryz.prog 52 #[.pointer (some ⟨m, 0, none⟩), .func (.func fn) #[] caps] w fun e w' => e = .returned .nilIface ∧ ∃ w1, R w1 ∧ w' = (w1.setCell ⟨m, 5, none⟩ (.bool false)).setCell ⟨w.heap.size + 1, 0, none⟩ .nilIface := by
  have hmf : ∀ (fn : Fn) (first cap : Array Value) (w : World), (Instr.makeFunc fn first cap).run Tryz.prog w = .ok (.func fn first cap) w := fun _ _ _ _ => rfl
  have HS := hide hs
  unfold runW at HS
  clear hs
  go_enter_defers Tryz.func52, Tryz.ntmps52
  go_wp2_with fail
  refine HS.out.mono ?_
  rintro e w1 ⟨rfl, hk, hr⟩
  obtain ⟨x, hx⟩ := hk.c5
  have h1 := hk.c1
  have h5 := hk.f5
  have h3 : w1.cell? ⟨w.heap.size + 1, 0, none⟩ = some .nilIface := cell_row hk.blk rfl
  have f3 : w1.frozen? ⟨w.heap.size + 1, 0, none⟩ = false := frozen_of_row _ _ _ _ _ hk.blk
  have hne : m ≠ w.heap.size + 1 := by omega
  have HR := hide hr
  clear hr hk HS
  go_wp2_with fail
  refine leaves_cons (f := 81) (args := #[.pointer (some ⟨w.heap.size, 0, none⟩), .pointer (some ⟨w.heap.size + 1, 0, none⟩)]) (by simp) (by simp [go_sem]) ?_
  refine (caught_none w.heap.size (w.heap.size + 1) _).mono ?_
  rintro e u' w'' ⟨rfl, rfl, rfl⟩
  have hce : ((w1.setCell ⟨m, 5, none⟩ (.bool false)).setCell ⟨w.heap.size + 1, 0, none⟩ .nilIface).cell? ⟨w.heap.size + 1, 0, none⟩ = some .nilIface := World.cell?_setCell_same _ _ _ ((World.cell?_setCell_other w1 ⟨m, 5, none⟩ ⟨w.heap.size + 1, 0, none⟩ _ (by simp)).trans h3)
  simp [Leaves, settle, results, Tryz.results52, go_sem, hce]
  exact ⟨w1, HR.out, rfl⟩
end Go.Proofs.YtbhccdedcoajmaaGreatDoor
