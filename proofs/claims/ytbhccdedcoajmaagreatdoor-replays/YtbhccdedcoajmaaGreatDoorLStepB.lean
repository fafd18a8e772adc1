import Derived.Test.YtbhccdedcoajmaaGreatDoorLReplMsM
namespace Go.Proofs.YtbhccdedcoajmaaGreatDoor
open Go.RowKit

theorem recover_ms {w : World} {ρ : Nat → Nat} {i : Nat} {x : MS} (h : MsOk w ρ i x) (he : ErrT w) (hf : ∀ g, x.cur.ownBlock = some g → g < w.heap.size) (c : Int) (W : World) (hb : Below w.heap.size w W) :
    Calls Tryz.prog 16 #[.pointer (some ⟨x.m, 0, none⟩), .int .i64 c] W fun e w1 => ∃ k, e = .returned (.int .i64 k) ∧ W.heap.size ≤ w1.heap.size ∧ (∀ j, w.heap.size ≤ j → j < W.heap.size → w1.heap[j]? = W.heap[j]?) ∧
      Calls Tryz.prog 17 #[.pointer (some ⟨x.r, 0, none⟩), .int .i64 c] w1 fun e w2 => e = .returned (.int .i64 k) ∧ MsR w ρ i x w2 := by
  have hmlt := h.mir.lt
  have hmr : x.m ≠ x.r := fun e => by have h1 := h.rm; have h2 := h.rr; rw [e] at h1; omega
  have hM := h.mir.below hb
  cases hd : x.down with
  | false =>
    rw [hd] at hM
    refine (pRecover_up x.m x.room x.lo x.hi x.v x.v2 x.fs c W (he.keep hb) hM).mono ?_
    rintro e w1 ⟨k, rfl, rfl, hb1⟩
    have hb2 := below_all hb hb1
    have hR := h.ref.below hb2
    rw [hd] at hR
    refine ⟨8, rfl, hb1.size, fun j _ hj => hb1.block j hj, (rrecover_up x.r x.T x.N x.room c w1 hR).mono ?_⟩
    rintro e w2 ⟨rfl, rfl⟩
    exact ⟨rfl, h.same hf hb2⟩
  | true =>
    rw [hd] at hM
    have hcur : x.cur = x.N := by unfold MS.cur; rw [hd]
    obtain ⟨na, nn, nc, hN⟩ := h.nsl
    refine (pRecover_down x.m x.room x.lo x.hi x.v x.v2 x.fs c W (he.keep hb) hM).mono ?_
    rintro e w1 ⟨k, rfl, hg1, bv', hq⟩
    have hk1 : Keeps (fun k => k = x.m) w w1 := (below_keeps hb _).trans (grown_keeps hg1 (S := fun k => k = x.m) (fun k e => by simpa using e.symm)) (fun _ _ h => h)
    have hR := h.ref.keeps hk1 (fun e => hmr e.symm)
    rw [hd, hN] at hR
    have hFl := h.fl.keeps hk1 (fun k hk e => by have h1 := h.coldf k hk; have h2 := h.rm; rw [e] at h1; omega)
    rw [hcur] at hFl
    have hcf : ∀ j, x.N.ownBlock = some j → ρ j = 0 ∧ j < w.heap.size := fun j hj => by rw [← hcur] at hj; exact ⟨h.coldf j hj, hf j hj⟩
    refine ⟨k, rfl, hg1.size, fun j hj1 hj => hg1.block j hj (by simp; omega), ?_⟩
    rcases hq with ⟨rfl, rfl, hM'⟩ | ⟨hc, rfl, hM'⟩
    · refine (rrecover_one x.r x.T _ x.room w1 hR).mono ?_
      rintro e w2 ⟨rfl, rfl⟩
      exact ⟨rfl, { x with v2 := bv', down := true }, rfl, rfl, hk1.mono (fun k _ e => .inl (by rw [e]; exact h.rm)), ⟨hM', hN ▸ hR, h.tsl, h.nsl, hFl, h.tree, h.r0, h.r1, h.rm, h.rr, h.cold, fun j hj => (hcf j hj).1⟩, fun j hj => Nat.lt_of_lt_of_le (hcf j hj).2 hk1.size⟩
    · refine (rrecover_ok x.r x.T na nn nc x.room c w1 hc hR).mono ?_
      rintro e w2 ⟨rfl, hR2, hg2⟩
      have hk2 : Keeps (fun k => k = x.r) w1 w2 := grown_keeps hg2 (fun k e => by simpa using e.symm)
      have hkall : Keeps (fun k => ρ k = 2 * i + 7 ∨ ρ k = 2 * i + 8) w w2 := (hk1.mono (fun k _ e => .inl (by rw [e]; exact h.rm))).trans hk2 (fun k _ e => .inr (by rw [e]; exact h.rr))
      have hFl2 : Fl w2 x.N x.fs := hFl.keeps hk2 (fun k hk e => by have h1 := (hcf k hk).1; have h2 := h.rr; rw [e] at h1; omega)
      have hM2 := hM'.keeps hk2 hmr (fun k a b e => by have h1 := h.cold k a b; have h2 := h.rr; rw [e] at h1; omega)
      exact ⟨rfl, { x with v2 := bv', down := false, T := x.N }, rfl, rfl, hkall, ⟨hM2, by rw [hN]; exact hR2, h.nsl, h.nsl, hFl2, h.tree, h.r0, h.r1, h.rm, h.rr, h.cold, fun j hj => (hcf j hj).1⟩, fun j hj => Nat.lt_of_lt_of_le (hcf j hj).2 hkall.size⟩
theorem Inv.msR {w w' : World} {wz : World} {B0 W0 K O : Nat} {ρ : Nat → Nat} {s : St} (h : Inv wz w B0 W0 K O ρ s) (i : Nat) (hi : i < s.ms.length) (hR : MsR w ρ i s.ms[i] w') : StepR wz B0 W0 K O w' := by
  obtain ⟨x, h1, h2, h3, h4, h5⟩ := hR
  exact StepR.wide ⟨_, _, h.setMs i hi x h1 h2 h3 h4 h5⟩

set_option maxRecDepth 10000 in
set_option maxHeartbeats 2000000 in
theorem step_other {w : World} {wz : World} {B0 W0 K O : Nat} {ρ : Nat → Nat} {st : St} (hI : Inv wz w B0 W0 K O ρ st) (he : ErrT w) (hK : K ≤ 65536) (hO : O ≤ 1000000) (k a b c : Int) (hk : k ≠ 1 ∧ k ≠ 2 ∧ k ≠ 3 ∧ k ≠ 4 ∧ k ≠ 5 ∧ k ≠ 6 ∧ k ≠ 10) (ha : (Lit.int .i64 a).wf = true) (hb : (Lit.int .i64 b).wf = true) (hc : (Lit.int .i64 c).wf = true) (s t : ByteArray) :
    Calls Tryz.prog 8 #[.pointer (some ⟨W0, 0, none⟩), .agg #[.int .i64 k, .int .i64 a, .int .i64 b, .int .i64 c, .string s, .string t]] w fun e w' => e = .returned (.bool true) ∧ StepR wz B0 W0 K O w' := by
  have hba : ∀ ob, Below w.heap.size w (w.alloc ob) := fun ob => (Below.refl _ _).alloc (Nat.le_refl _) _
  obtain ⟨ob, hob⟩ : ∃ ob, ob = Obj.cells #[.int .i64 k, .int .i64 a, .int .i64 b, .int .i64 c, .string s, .string t] 35 := ⟨_, rfl⟩
  have hcb : -9223372036854775808 ≤ c ∧ c ≤ 9223372036854775807 := by
    simpa [Lit.wf, IntKind.min, IntKind.max, IntKind.signed, IntKind.bits] using hc
  have hlt := hI.lt
  have hkb := hI.kb
  have hkm := hI.km
  obtain ⟨ba, bc, hvb⟩ := row_len hI.rb.1
  obtain ⟨ma, mc, hvm⟩ := row_len hI.rm.1
  have HL : Hid (Calls Tryz.prog 10 #[.pointer (some ⟨W0, 0, none⟩), .agg #[.int .i64 k, .int .i64 a, .int .i64 b, .int .i64 c, .string s, .string t]] (w.alloc ob) fun e w' => e = .returned (.tuple #[.bool false, .bool true]) ∧ Below w.heap.size w w' ∧ w.heap.size < w'.heap.size ∧ w'.cell? ⟨w.heap.size, 0, none⟩ = some (.int .i64 k) ∧ w'.cell? ⟨w.heap.size, 1, none⟩ = some (.int .i64 a) ∧ w'.cell? ⟨w.heap.size, 2, none⟩ = some (.int .i64 b) ∧ w'.cell? ⟨w.heap.size, 3, none⟩ = some (.int .i64 c) ∧ w'.cell? ⟨W0, 2, none⟩ = some (.slice ba st.batches.length bc) ∧ w'.cell? ⟨W0, 3, none⟩ = some (.slice ma st.ms.length mc)) := by
    refine (lists_none W0 k a b c s t (w.alloc ob) (by omega)).mono ?_
    rintro e w' ⟨rfl, hb'⟩
    have hb2 := below_all (hba ob) hb'
    have hsz := hb'.size
    refine ⟨rfl, hb2, by simp at hsz; omega, (hb'.cell (p := ⟨w.heap.size, 0, none⟩) (by simp)).trans (by rw [hob]; exact cell_new rfl rfl), (hb'.cell (p := ⟨w.heap.size, 1, none⟩) (by simp)).trans (by rw [hob]; exact cell_new rfl rfl), (hb'.cell (p := ⟨w.heap.size, 2, none⟩) (by simp)).trans (by rw [hob]; exact cell_new rfl rfl), (hb'.cell (p := ⟨w.heap.size, 3, none⟩) (by simp)).trans (by rw [hob]; exact cell_new rfl rfl), ?_, ?_⟩
    · rw [← hvb]
      exact (hb2.cell (p := ⟨W0, 2, none⟩) hlt).trans (cell_row hI.blk rfl)
    · rw [← hvm]
      exact (hb2.cell (p := ⟨W0, 3, none⟩) hlt).trans (cell_row hI.blk rfl)
  have HBAT : Hid (0 < st.batches.length → ∃ g kk, ba = some ⟨g, 0, none⟩ ∧ g < w.heap.size ∧ kk < st.batches.length ∧ (∃ bt : ByteArray, w.cell? ⟨g, kk, none⟩ = some (.string bt) ∧ bt.size ≤ 70000) ∧ ∀ W, Calls Tryz.prog 12 #[.int .i64 b, .int .i64 st.batches.length] W fun e w' => e = .returned (.int .i64 kk) ∧ w' = W) := by
    intro h0
    rcases hI.rb.1.2 with ⟨_, h9⟩ | ⟨g, c, cur, h9, _, hg, _⟩
    · omega
    · obtain ⟨kk, hkk, hp⟩ := lpick b hb st.batches.length (by omega) (by omega)
      have hba : ba = some ⟨g, 0, none⟩ := by rw [hvb] at h9; simp at h9; exact h9.1
      refine ⟨g, kk, hba, (Array.getElem?_eq_some_iff.1 hg).1, hkk, ⟨st.batches[kk], ?_, hI.bz _ (List.getElem_mem hkk)⟩, hp⟩
      have h10 := hI.rb.1.cells (g := g) (by rw [hvb, hba]; rfl) kk (.string st.batches[kk]) (by simp [hkk])
      rw [add_at] at h10
      exact h10
  have HMS : Hid (0 < st.ms.length → ∃ g i, ∃ hi : i < st.ms.length, ma = some ⟨g, 0, none⟩ ∧ g < w.heap.size ∧ w.cell? ⟨g, i * 2, none⟩ = some (.pointer (some ⟨st.ms[i].m, 0, none⟩)) ∧ w.cell? ⟨g, i * 2 + 1, none⟩ = some (.pointer (some ⟨st.ms[i].r, 0, none⟩)) ∧ ∀ W, Calls Tryz.prog 12 #[.int .i64 a, .int .i64 st.ms.length] W fun e w' => e = .returned (.int .i64 i) ∧ w' = W) := by
    intro h0
    rcases hI.rm.1.2 with ⟨_, h9⟩ | ⟨g, c, cur, h9, _, hg, _⟩
    · omega
    · obtain ⟨i, hi, hp⟩ := lpick a ha st.ms.length (by omega) (by omega)
      have hma : ma = some ⟨g, 0, none⟩ := by rw [hvm] at h9; simp at h9; exact h9.1
      obtain ⟨q1, q2⟩ := msCells_at st.ms i hi
      have h10 := hI.rm.1.cells (g := g) (by rw [hvm, hma]; rfl) (i * 2) _ q1
      have h11 := hI.rm.1.cells (g := g) (by rw [hvm, hma]; rfl) (i * 2 + 1) _ q2
      rw [add_at] at h10 h11
      exact ⟨g, i, hi, hma, (Array.getElem?_eq_some_iff.1 hg).1, h10, h11, hp⟩
  obtain ⟨k1, k2, k3, k4, k5, k6, k10⟩ := hk
  have HI := hide hI
  have HE := hide he
  rw [hob] at HL
  clear hI hba hob hvb hvm he ha hb hc
  go_enter Tryz.func8, Tryz.ntmps8
  go_wp2_with fail
  refine HL.out.mono ?_
  rintro e w1 ⟨rfl, hb1, hbw, d0, d1, d2, d3, d4, d5⟩
  have HB1 := hide hb1
  have hw01 : W0 < w1.heap.size := Nat.lt_of_lt_of_le hlt hb1.size
  clear hb1 HL
  go_upto_if 52 with fail
  go_cut [7] (fun v7 wc => ∃ sb : ByteArray, v7 = .string sb ∧ Hid (sb.size ≤ 70000) ∧ Hid (Below w1.heap.size w1 wc))
  case first =>
    rcases Nat.eq_zero_or_pos st.batches.length with h0 | h0
    · have hz : (st.batches.length : Int) ≤ 0 := by omega
      clear h0
      go_wp2_with fail
      go_meet
      exact ⟨⟨#[]⟩, rfl, Nat.zero_le _, Below.refl _ _⟩
    · obtain ⟨g, kk, rfl, hg, hkk, ⟨bt, hbt, hbz⟩, hp⟩ := HBAT.out h0
      have hz : 0 < (st.batches.length : Int) := by omega
      have HP := hide hp
      have hbt1 := (HB1.out.cell (p := ⟨g, kk, none⟩) hg).trans hbt
      clear hbt hp HBAT HMS
      go_wp2_with fail
      go_region_held3 (fun w' => w'.cell? ⟨W0, 2, none⟩ = some (.slice (some ⟨g, 0, none⟩) st.batches.length bc) ∧ w'.cell? ⟨g, kk, none⟩ = some (.string bt))
        (first | exact ⟨d4, hbt1⟩ | exact ⟨by go_keep, by go_keep⟩)
        ((go_at_call 12; refine (HP.out _).mono ?_; rintro e w2 ⟨rfl, hw2⟩; obtain rfl := hw2.symm))
      go_wp2_with fail
      go_meet
      exact ⟨bt, rfl, hbz, (Below.refl _ _).drew⟩
  case rest =>
    obtain ⟨sb, rfl, HSB, HBc⟩ := hcut
    have e0 := (HBc.out.cell (p := ⟨w.heap.size, 0, none⟩) hbw).trans d0
    have e1 := (HBc.out.cell (p := ⟨w.heap.size, 1, none⟩) hbw).trans d1
    have e2 := (HBc.out.cell (p := ⟨w.heap.size, 2, none⟩) hbw).trans d2
    have e3 := (HBc.out.cell (p := ⟨w.heap.size, 3, none⟩) hbw).trans d3
    have e5 := (HBc.out.cell (p := ⟨W0, 3, none⟩) hw01).trans d5
    have HBw : Hid (Below w.heap.size w wc) := below_all HB1.out HBc.out
    have hbwc : w.heap.size < wc.heap.size := Nat.lt_of_lt_of_le hbw HBc.out.size
    clear d0 d1 d2 d3 d4 d5 HBAT HB1 HBc
    rcases Nat.eq_zero_or_pos st.ms.length with h0 | h0
    · have hz : ((st.ms.length : Int) == 0) = true := by rw [beq_iff_eq]; omega
      have HR := hide (HI.out.stepR HBw.out)
      clear h0 HMS
      go_wp2_with fail
      go_ret
      exact ⟨rfl, HR.out⟩
    · obtain ⟨g, i, hi, rfl, hg, x0, x1, hp⟩ := HMS.out h0
      have hz : ((st.ms.length : Int) == 0) = false := by rw [beq_eq_false_iff_ne]; omega
      have HP := hide hp
      have y0 := (HBw.out.cell (p := ⟨g, i * 2, none⟩) hg).trans x0
      have y1 := (HBw.out.cell (p := ⟨g, i * 2 + 1, none⟩) hg).trans x1
      have hgc : g < wc.heap.size := Nat.lt_of_lt_of_le hg HBw.out.size
      have hii : i < st.ms.length := hi
      clear x0 x1 hp HMS
      obtain ⟨wq, hwq⟩ : ∃ wq, wq = wc := ⟨_, rfl⟩
      subst hwq
      go_upto_region 18 with fail
      go_cut [9] (fun v9 wd => ∃ pb : Nat, v9 = .pointer (some ⟨pb, 0, none⟩) ∧ w.heap.size ≤ pb ∧ wd.cell? ⟨pb, 0, none⟩ = some (.pointer (some ⟨st.ms[i].m, 0, none⟩)) ∧ wd.cell? ⟨pb, 1, none⟩ = some (.pointer (some ⟨st.ms[i].r, 0, none⟩)) ∧ Hid (Below wq.heap.size wq wd))
      case first =>
        go_wp2_with fail
        go_region_held3 (fun w' => w'.cell? ⟨W0, 3, none⟩ = some (.slice (some ⟨g, 0, none⟩) st.ms.length mc) ∧ w'.cell? ⟨w.heap.size, 1, none⟩ = some (.int .i64 a) ∧ w'.cell? ⟨g, i * 2, none⟩ = some (.pointer (some ⟨st.ms[i].m, 0, none⟩)) ∧ w'.cell? ⟨g, i * 2 + 1, none⟩ = some (.pointer (some ⟨st.ms[i].r, 0, none⟩)))
          (first | exact ⟨e5, e1, y0, y1⟩ | exact ⟨by go_keep, by go_keep, by go_keep, by go_keep⟩)
          ((go_at_call 12; refine (HP.out _).mono ?_; rintro e w2 ⟨rfl, hw2⟩; obtain rfl := hw2.symm))
        all_goals
          go_wp2_with fail
          go_meet
          exact ⟨_, rfl, HBw.out.size, cell_new rfl rfl, cell_new rfl rfl, ((Below.refl _ _).alloc (Nat.le_refl _) _).drew⟩
      case rest =>
        obtain ⟨pb, rfl, hpb, p0, p1, HBd⟩ := hcut
        have f0 := (HBd.out.cell (p := ⟨w.heap.size, 0, none⟩) hbwc).trans e0
        have f2 := (HBd.out.cell (p := ⟨w.heap.size, 2, none⟩) hbwc).trans e2
        have f3 := (HBd.out.cell (p := ⟨w.heap.size, 3, none⟩) hbwc).trans e3
        have HBn : Hid (Below w.heap.size w wc) := below_all HBw.out HBd.out
        have hIn := HI.out.keep (Nat.le_refl K) (Nat.le_refl O) (below_keeps HBn.out _)
        have hbn : w.heap.size < wc.heap.size := World.block_lt_of_cell? wc _ f0
        have hpn : pb < wc.heap.size := World.block_lt_of_cell? wc _ p0
        have HIN := hide hIn
        have HEN := hide (HE.out.keep HBn.out)
        clear e0 e1 e2 e3 e5 HBw HBd hbwc y0 y1 hgc HP hIn hz
        by_cases h7 : k = 7
        · subst h7
          have HLI : Hid (Calls Tryz.prog 14 #[.pointer (some ⟨W0, 0, none⟩), .agg #[.pointer (some ⟨st.ms[i].m, 0, none⟩), .pointer (some ⟨st.ms[i].r, 0, none⟩)]] wc fun e w' => e = .returned (.bool true) ∧ StepR wz B0 W0 K O w') := by
            cases hd : st.ms[i].down with
            | true => exact (listed_down W0 (HIN.out.ms i hii) HEN.out hd).mono fun e w' ⟨h1, h2⟩ => ⟨h1, HIN.out.stepR h2⟩
            | false => exact (listed_ok HIN.out hO i hii hd).mono fun e w' ⟨h1, h2⟩ => ⟨h1, StepR.wide2 h2⟩
          clear HIN HEN HI HE
          go_wp2_with fail
          refine HLI.out.mono ?_
          rintro e w5 ⟨rfl, hR⟩
          have HR := hide hR
          clear hR HLI
          go_wp2_with fail
          go_ret
          exact ⟨rfl, HR.out⟩
        · by_cases h8 : k = 8
          · subst h8
            have HLI : Hid (Calls Tryz.prog 15 #[.agg #[.pointer (some ⟨st.ms[i].m, 0, none⟩), .pointer (some ⟨st.ms[i].r, 0, none⟩)], .string sb, .int .i64 c] wc fun e w' => e = .returned (.bool true) ∧ StepR wz B0 W0 K O w') := (replayed_ms (HIN.out.ms i hii) HEN.out HIN.out.zero (HIN.out.mf _ (List.getElem_mem hii)) sb HSB.out c hcb.1 hcb.2).mono fun e w' ⟨h1, h2⟩ => ⟨h1, HIN.out.msR i hii h2⟩
            clear HIN HEN HI HE
            go_wp2_with fail
            refine HLI.out.mono ?_
            rintro e w5 ⟨rfl, hR⟩
            have HR := hide hR
            clear hR HLI
            go_wp2_with fail
            go_ret
            exact ⟨rfl, HR.out⟩
          · by_cases h9 : k = 9
            · subst h9
              have HLI := hide (recover_ms (HI.out.ms i hii) HE.out (HI.out.mf _ (List.getElem_mem hii)) b wc HBn.out)
              go_wp2_with fail
              refine HLI.out.mono ?_
              rintro e w5 ⟨kk, rfl, hs5, hk5, hr5⟩
              have q1 : w5.cell? ⟨pb, 1, none⟩ = some (.pointer (some ⟨st.ms[i].r, 0, none⟩)) := (World.cell?_of_block (w := wc) (a := ⟨pb, 1, none⟩) (hk5 pb hpb hpn)).trans p1
              have q2 : w5.cell? ⟨w.heap.size, 2, none⟩ = some (.int .i64 b) := (World.cell?_of_block (w := wc) (a := ⟨w.heap.size, 2, none⟩) (hk5 w.heap.size (Nat.le_refl _) hbn)).trans f2
              have HR5 := hide hr5
              clear hr5 hk5 p0 p1 f0 f2 f3 HLI HIN HEN
              go_wp2_with fail
              refine HR5.out.mono ?_
              rintro e w6 ⟨rfl, hR⟩
              have HR := hide (HI.out.msR i hii hR)
              clear hR HR5 q1 q2 HI HE
              go_wp2_with fail
              go_ret
              exact ⟨by simp, HR.out⟩
            · have HR := hide (HI.out.stepR HBn.out)
              clear HIN HEN HI HE
              go_wp2_with fail
              go_ret
              exact ⟨rfl, HR.out⟩
end Go.Proofs.YtbhccdedcoajmaaGreatDoor
