import Derived.Test.YtbhccdedcoajmaaGreatDoorLListsCM
import Derived.Deep.RegionHeldLaw
import Derived.Deep.AppendLies
import Derived.Test.YtbhccdedcoajmaaGreatDoorMirM
import Derived.Test.YtbhccdedcoajmaaGreatDoorWState
import Derived.Test.YtbhccdedcoajmaaGreatDoorRTokM
namespace Go.Proofs.YtbhccdedcoajmaaGreatDoor
open Go.RowKit

theorem Tryz.nilFiles (w : World) : (binOp BinOp.eql 60 (.slice none 0 0) (.slice none 0 0)).run Tryz.prog w = .ok (.bool true) w := by kernel_rfl
theorem Tryz.info38 : (Tryz.prog.info? 38).map (fun i => (i.zero, i.size, i.bytes)) = some (some (.slice none 0 0), 1, 24) := by kernel_rfl

set_option maxRecDepth 10000 in
set_option maxHeartbeats 1000000 in
theorem listed_down {w : World} {ρ : Nat → Nat} {i : Nat} {x : MS} (W0 : Nat) (h : MsOk w ρ i x) (he : ErrT w) (hd : x.down = true) :
    Calls Tryz.prog 14 #[.pointer (some ⟨W0, 0, none⟩), .agg #[.pointer (some ⟨x.m, 0, none⟩), .pointer (some ⟨x.r, 0, none⟩)]] w fun e w' => e = .returned (.bool true) ∧ Below w.heap.size w w' := by
  have hM := h.mir
  have hR := h.ref
  rw [hd] at hM hR
  have hrlt := hR.lt
  generalize x.m = m at *
  generalize x.r = r at *
  obtain ⟨o, ho⟩ : ∃ o, o = Obj.cells #[.pointer (some ⟨m, 0, none⟩), .pointer (some ⟨r, 0, none⟩)] 47 := ⟨_, rfl⟩
  have hba : Below w.heap.size w (w.alloc o) := (Below.refl _ _).alloc (Nat.le_refl _) _
  have c0 : (w.alloc o).cell? ⟨w.heap.size, 0, none⟩ = some (.pointer (some ⟨m, 0, none⟩)) := by rw [ho]; exact cell_new rfl rfl
  have c1 : (w.alloc o).cell? ⟨w.heap.size, 1, none⟩ = some (.pointer (some ⟨r, 0, none⟩)) := by rw [ho]; exact cell_new rfl rfl
  have HC : Hid (Calls Tryz.prog 31 #[.pointer (some ⟨m, 0, none⟩)] (w.alloc o) fun e w' => e = .returned (.tuple #[.slice none 0 0, .int .i64 7]) ∧ Below w.heap.size w w' ∧ w'.cell? ⟨w.heap.size, 1, none⟩ = some (.pointer (some ⟨r, 0, none⟩)) ∧ w'.cell? ⟨r, 2, none⟩ = some (.bool true)) := by
    refine (pFiles_down m x.room x.lo x.hi x.v x.v2 x.fs (w.alloc o) (he.keep hba) (hM.below hba)).mono ?_
    rintro e w' ⟨rfl, hb⟩
    exact ⟨rfl, below_all hba hb, (hb.cell (p := ⟨w.heap.size, 1, none⟩) (by simp)).trans c1, cell_row (hR.below (below_all hba hb)) rfl⟩
  have hnil := Tryz.nilFiles
  rw [ho] at HC c0
  clear hM hR he hba c1 ho h
  go_enter Tryz.func14, Tryz.ntmps14
  go_wp2_with fail
  refine HC.out.mono ?_
  rintro e w1 ⟨rfl, hb, d1, d2⟩
  have HB := hide hb
  clear hb c0 HC
  go_wp2_with fail
  go_ret
  exact ⟨rfl, HB.out⟩

set_option maxRecDepth 10000 in
set_option maxHeartbeats 3000000 in
theorem listed_ok {w : World} {wz : World} {B0 W0 K O : Nat} {ρ : Nat → Nat} {s : St} (hI : Inv wz w B0 W0 K O ρ s) (hO : O ≤ 1000000) (i : Nat) (hi : i < s.ms.length) (hd : s.ms[i].down = false) :
    Calls Tryz.prog 14 #[.pointer (some ⟨W0, 0, none⟩), .agg #[.pointer (some ⟨s.ms[i].m, 0, none⟩), .pointer (some ⟨s.ms[i].r, 0, none⟩)]] w fun e w' => e = .returned (.bool true) ∧ ∃ ρ' s', Inv wz w' B0 W0 K (O + 8) ρ' s' := by
  have h := hI.ms i hi
  have hM := h.mir
  have hR := h.ref
  have hFl := h.fl
  have h8 := h.tree.len
  have hsz : ∀ p ∈ s.ms[i].fs, p.2.size ≤ 70000 := fun p hp => by have := (h.tree.sizes p hp).2; omega
  have hcur : s.ms[i].cur = s.ms[i].T := by unfold MS.cur; rw [hd]
  rw [hcur] at hFl
  rw [hd] at hM hR
  have hrlt := hR.lt
  generalize s.ms[i].m = m at *
  generalize s.ms[i].r = r at *
  generalize s.ms[i].fs = fs at *
  generalize s.ms[i].T = T at *
  obtain ⟨o, ho⟩ : ∃ o, o = Obj.cells #[.pointer (some ⟨m, 0, none⟩), .pointer (some ⟨r, 0, none⟩)] 47 := ⟨_, rfl⟩
  have hba : Below w.heap.size w (w.alloc o) := (Below.refl _ _).alloc (Nat.le_refl _) _
  have hsa : (w.alloc o).heap.size = w.heap.size + 1 := by simp
  have c0 : (w.alloc o).cell? ⟨w.heap.size, 0, none⟩ = some (.pointer (some ⟨m, 0, none⟩)) := by rw [ho]; exact cell_new rfl rfl
  have c1 : (w.alloc o).cell? ⟨w.heap.size, 1, none⟩ = some (.pointer (some ⟨r, 0, none⟩)) := by rw [ho]; exact cell_new rfl rfl
  have HC : Hid (Calls Tryz.prog 31 #[.pointer (some ⟨m, 0, none⟩)] (w.alloc o) fun e w' => ∃ u ps, e = .returned (.tuple #[u, .int .i64 0]) ∧ FileRow w' (w.heap.size + 1) u ps ∧ ps.map frF = fs ∧ Below w.heap.size w w' ∧ w.heap.size < w'.heap.size ∧ w'.cell? ⟨w.heap.size, 1, none⟩ = some (.pointer (some ⟨r, 0, none⟩)) ∧ w'.cell? ⟨r, 2, none⟩ = some (.bool false) ∧ w'.cell? ⟨r, 0, none⟩ = some T ∧ Fl w' T fs) := by
    refine (pFiles_ok m _ _ _ _ _ fs (w.alloc o) (hM.below hba) (by omega) hsz).mono ?_
    rintro e w' ⟨u, ps, rfl, hrow, hps, hb⟩
    have hb2 := below_all hba hb
    rw [hsa] at hrow
    exact ⟨u, ps, rfl, hrow, hps, hb2, by have := hb.size; omega, (hb.cell (p := ⟨w.heap.size, 1, none⟩) (by simp)).trans c1, cell_row (hR.below hb2) rfl, cell_row (hR.below hb2) rfl, hFl.below hb2⟩
  rw [ho] at HC c0
  have HI := hide hI
  obtain ⟨j0, hj, y0, y1, y2⟩ := info_parts Tryz.info38
  clear hM hR hba c1 ho h hFl hsa hsz hcur
  go_enter Tryz.func14, Tryz.ntmps14
  go_wp2_with fail
  refine HC.out.mono ?_
  rintro e w1 ⟨u, ps, rfl, hrow, hps, hb1, hlt1, d1, d2, d3, hF1⟩
  have hpl : ps.length = fs.length := by rw [← hps, List.length_map]
  have HROW := hide hrow
  have HB1 := hide hb1
  have HPL := hide hpl
  obtain ⟨ta, tc, rfl, htc, htcell⟩ := hF1
  obtain ⟨ua, uc, rfl⟩ : ∃ ua uc, u = .slice ua fs.length uc := by
    obtain ⟨a, c, e⟩ := row_len hrow.row
    exact ⟨a, c, by rw [e, hpl]⟩
  have HAT : Hid (∀ k, k < fs.length → ∃ (lg tg : Nat) (a d : ByteArray) (ka : Option Addr) (kn kc : Nat), ua = some ⟨lg, 0, none⟩ ∧ ta = some ⟨tg, 0, none⟩ ∧ lg < w1.heap.size ∧ tg < w1.heap.size ∧ w1.cell? ⟨lg, k * 2, none⟩ = some (.string a) ∧ w1.cell? ⟨lg, k * 2 + 1, none⟩ = some (.slice ka kn kc) ∧ w1.cell? ⟨tg, k * 2, none⟩ = some (.string a) ∧ w1.cell? ⟨tg, k * 2 + 1, none⟩ = some (.string d) ∧
      ∀ W, Below w1.heap.size w1 W → (convert 38 9 (.slice ka kn kc)).run Tryz.prog W = .ok (.string d) W) := by
    intro k hk
    have hkp : k < ps.length := by omega
    obtain ⟨tg, e1, htg, t0, t1⟩ := htcell k hk
    have hfk : fs[k] = frF ps[k] := by simp only [← hps, List.getElem_map]
    rw [hfk] at t0 t1
    rcases hrow.row.2 with ⟨h9, h10⟩ | ⟨lg, cap, cur, e, _, hg, _⟩
    · omega
    · have hua : ua = some ⟨lg, 0, none⟩ := by
        have := congrArg Value.ownBlock e
        cases ua with
        | none => simp at e
        | some a => simp at e; rw [e.1]
      obtain ⟨a1, a2⟩ := fcells_at ps k hkp
      have b1 := hrow.row.cells (g := lg) (by rw [hua]; rfl) (k * 2) _ a1
      have b2 := hrow.row.cells (g := lg) (by rw [hua]; rfl) (k * 2 + 1) _ a2
      rw [add_at] at b1 b2
      obtain ⟨ka, kn, kc, hu⟩ := row_slice (hrow.data _ (List.getElem_mem hkp))
      rw [hu] at b2
      refine ⟨lg, tg, _, _, ka, kn, kc, hua, e1, (Array.getElem?_eq_some_iff.1 hg).1, htg, b1, b2, t0, t1, fun W hb => ?_⟩
      rw [← hu]
      exact conv_row (ownsRow_below (hrow.data _ (List.getElem_mem hkp)) hb)
  clear hrow hb1 hps hpl htcell c0 HC
  go_wp2_with fail
  go_loopw [7] (fun v7 wr => ∃ k : Nat, k ≤ fs.length ∧ v7 = .int .i64 k ∧ Hid (Below w1.heap.size w1 wr)) (fun v7 _ => fs.length - (intOf v7).toNat)
  case atStart => exact ⟨0, Nat.zero_le _, rfl, Below.refl _ _⟩
  case round =>
    obtain ⟨k, hk, rfl, HBr⟩ := hrel
    have hrlt1 : r < w1.heap.size := by omega
    by_cases hlt : k < fs.length
    · obtain ⟨lg, tg, a, d, ka, kn, kc, rfl, rfl, hlg, htg, x0, x1, z0, z1, hcv⟩ := HAT.out k hlt
      have e1 := (HBr.out.cell (p := ⟨w.heap.size, 1, none⟩) hlt1).trans d1
      have e3 := (HBr.out.cell (p := ⟨r, 0, none⟩) hrlt1).trans d3
      have f0 := (HBr.out.cell (p := ⟨lg, k * 2, none⟩) hlg).trans x0
      have f1 := (HBr.out.cell (p := ⟨lg, k * 2 + 1, none⟩) hlg).trans x1
      have g0 := (HBr.out.cell (p := ⟨tg, k * 2, none⟩) htg).trans z0
      have g1 := (HBr.out.cell (p := ⟨tg, k * 2 + 1, none⟩) htg).trans z1
      have q1 : ∀ q, (convert 38 9 (.slice ka kn kc)).run Tryz.prog (wr.drewN q) = .ok (.string d) (wr.drewN q) := fun q => hcv _ (below_drewN HBr.out q)
      have t1 : (a.toList != a.toList) = false := by simp
      have t2 : (d.toList != d.toList) = false := by simp
      clear x0 x1 z0 z1 hcv d1 d2 d3
      go_wp2_with fail
      go_quiet (fail)
      go_wp2_with fail
      go_roundw
      case rel => exact ⟨k + 1, by omega, by go_num, below_drewN HBr.out _⟩
      case measure => simp [intOf]; omega
    · clear d1 d2 d3 HAT
      have HBw : Hid (Below w.heap.size w wr) := below_all HB1.out HBr.out
      have hswr : w1.heap.size ≤ wr.heap.size := HBr.out.size
      obtain ⟨q, hq⟩ : ∃ q, q = 2 * s.ms.length + 7 := ⟨_, rfl⟩
      obtain ⟨ρ1, hρ1⟩ : ∃ ρ1 : Nat → Nat, ρ1 = fun j => if w.heap.size + 1 ≤ j ∧ j < wr.heap.size then q else ρ j := ⟨_, rfl⟩
      have HI1 : Hid (Inv wz wr B0 W0 K O ρ1 s) := by
        refine HI.out.tmp q (by omega) (below_keeps HBw.out _) (fun j hj _ => by rw [hρ1]; simp; omega) (fun j hj => ?_)
        rw [hρ1] at hj
        simp only at hj
        have := HI.out.b0
        split at hj
        · omega
        · exact ⟨(HI.out.hot j hj).1, Nat.lt_of_lt_of_le (HI.out.hot j hj).2 HBw.out.size⟩
      have HROW2 := hide (HROW.out.below HBr.out)
      rcases HROW2.out.row.2 with ⟨h9, h10⟩ | ⟨lg, cap, cur, e, _, hg, _, hmx, _⟩
      · obtain ⟨rfl, h11, rfl⟩ : ua = none ∧ fs.length = 0 ∧ uc = 0 := by simpa using h9
        have HEND : Hid (∃ ρ' s', Inv wz wr B0 W0 K (O + 8) ρ' s') := ⟨_, _, HI1.out.keep (Nat.le_refl _) (by omega) (Keeps.refl _ _)⟩
        have hk0 : k = 0 := by omega
        subst hk0
        have HZ := hide h11
        rw [h11] at hlt
        clear h9 h10 HI1 hq hρ1 hk hlt htc h8
        generalize fs.length = n at *
        obtain rfl := HZ.out
        go_wp2_with fail
        go_loopw [8] (fun v8 w' => v8 = .int .i64 0 ∧ w' = wr) (fun _ _ => 0)
        case atStart => exact ⟨rfl, rfl⟩
        case round =>
          obtain ⟨rfl, hw⟩ := hrel
          obtain rfl := hw.symm
          go_wp2_with fail
          go_loopw [11] (fun v8 w' => v8 = .int .i64 0 ∧ w' = wr) (fun _ _ => 0)
          case atStart => exact ⟨rfl, rfl⟩
          case round =>
            obtain ⟨rfl, hw⟩ := hrel
            obtain rfl := hw.symm
            go_wp2_with fail
            go_ret
            exact ⟨rfl, HEND.out⟩
      · obtain rfl : ua = some ⟨lg, 0, none⟩ := by
          cases ua with
          | none => simp at e
          | some a => simp at e; rw [e.1]
        have hucb : uc ≤ 9223372036854775807 := by
          have h9 : uc = cap := by simp at e; exact e.2
          rw [h9]
          simpa [maxLen] using hmx
        have HL1 : Hid (LR wr ρ1 q lg uc ps 0) := by
          have h9 := HROW2.out
          rw [← HPL.out] at h9
          exact LR.of_row h9 (fun j h1 h2 => by rw [hρ1]; simp; omega)
        have HQ := hide hq
        have HMS : Hid (s.ms.length = s.ms.length) := (rfl : _ = _)
        clear e hg hmx hρ1 hq HROW HROW2
        go_wp2_with fail
        go_loopw [8] (fun v8 w' => ∃ (k2 : Nat) (ρr : Nat → Nat) (sr : St), k2 ≤ fs.length ∧ v8 = .int .i64 k2 ∧ Hid (sr.ms = s.ms) ∧ Hid (Inv wz w' B0 W0 K (O + k2) ρr sr) ∧ Hid (LR w' ρr q lg uc ps k2)) (fun v8 _ => fs.length - (intOf v8).toNat)
        case atStart => exact ⟨0, ρ1, s, Nat.zero_le _, rfl, (rfl : _ = _), HI1.out, HL1.out⟩
        case round =>
          obtain ⟨k2, ρr, sr, hk2, rfl, HM2, HIr, HLr⟩ := hrel
          have hq2 : 2 * sr.ms.length + 7 ≤ q := by rw [HM2.out, HQ.out]; exact Nat.le_refl _
          have HQ2 := hide hq2
          clear hq2
          by_cases hlt2 : k2 < fs.length
          · have hkp : k2 < ps.length := by rw [HPL.out]; exact hlt2
            obtain ⟨ka, kn, kc, hu⟩ : ∃ ka kn kc, ps[k2].2.2 = .slice ka kn kc := by
              rcases HLr.out.data k2 hkp (Nat.le_refl _) with e | ⟨b, n, cp, ds, e, _⟩
              · exact ⟨_, _, _, e⟩
              · exact ⟨_, _, _, e⟩
            have x1 : wr.cell? ⟨lg, k2 * 2 + 1, none⟩ = some (.slice ka kn kc) := by
              obtain ⟨cs, h1, _, h3⟩ := HLr.out.row
              rw [← hu]
              exact cell_row h1 (h3 k2 hkp)
            have HSP : Hid (Calls Tryz.prog 26 #[.slice ka kn kc] wr fun e w' => e = .returned (.tuple #[]) ∧ ∃ ρ', Inv wz w' B0 W0 K (O + k2) ρ' sr ∧ OutOk w' ρ' (.slice ka kn kc) ∧ LR w' ρ' q lg uc ps (k2 + 1) ∧ w'.cell? ⟨lg, k2 * 2 + 1, none⟩ = some (.slice ka kn kc)) := by
              have h9 := spoil_one HIr.out HQ2.out hkp HLr.out
              rw [hu] at h9
              refine h9.mono ?_
              rintro e w' ⟨rfl, ρ', a1, a2, a3⟩
              obtain ⟨cs, h1, _, h3⟩ := a3.row
              exact ⟨rfl, ρ', a1, a2, a3, by rw [← hu]; exact cell_row h1 (h3 k2 hkp)⟩
            clear hu
            go_wp2_with fail
            refine HSP.out.mono ?_
            rintro e w5 ⟨rfl, ρ5, hI5, ho5, hL5, d1⟩
            obtain ⟨oa, oc, hvo⟩ := row_len hI5.ro.1
            have hro : w5.ownsRow B0 38 1 (.slice oa sr.out.length oc) sr.out.length sr.out := by
              have h9 := hI5.ro.1
              rw [hvo] at h9
              exact h9
            have HRO := hide hro
            have d0 : w5.cell? ⟨W0, 4, none⟩ = some (.slice oa sr.out.length oc) := by rw [← hvo]; exact cell_row hI5.blk rfl
            have hW5 : W0 < w5.heap.size := hI5.lt
            have hlg5 : lg < w5.heap.size := hL5.lt
            have hko := hI5.ko
            have hbb : B0 ≤ w5.heap.size := hI5.b0
            have HNE : Hid (∀ j, (Value.slice oa sr.out.length oc).ownBlock = some j → j ≠ W0 ∧ j ≠ lg ∧ B0 ≤ j) := by
              intro j hj
              have h9 := hI5.ro.2 j (by rw [hvo]; exact hj)
              refine ⟨fun e => ?_, fun e => ?_, (hro.lt j hj).1⟩
              · have h10 := hI5.r0; rw [e] at h9; omega
              · have h10 := hL5.rg; rw [e] at h9; have := HQ2.out; omega
            have HI5 := hide hI5
            have HO5 := hide ho5
            have HL5 := hide hL5
            have HVO := hide hvo
            have HOA : Hid (∀ ob, (w5.alloc ob).drew.ownsRow B0 38 1 (.slice oa sr.out.length oc) sr.out.length sr.out) := fun ob => (HRO.out.alloc ob).drew
            clear hI5 ho5 hL5 hvo hro x1 HSP HIr HLr
            go_wp2_with fail
            go_region_held_law (fun w' => w'.cell? ⟨W0, 4, none⟩ = some (.slice oa sr.out.length oc) ∧ w'.cell? ⟨lg, k2 * 2 + 1, none⟩ = some (.slice ka kn kc))
              (first | exact ⟨d0, d1⟩ | exact ⟨by go_keep, by go_keep⟩ | (refine ⟨(hgrow.cell_far ⟨W0, 4, none⟩ (by simp; omega) (fun e => (HNE.out _ e.symm).1 rfl)).trans (by go_keep), (hgrow.cell_far ⟨lg, k2 * 2 + 1, none⟩ (by simp; omega) (fun e => (HNE.out _ e.symm).2.1 rfl)).trans (by go_keep)⟩))
              ((refine step_append_lies _ (by rfl) _ _ _ (by rfl) B0 38 j0 _ 1 24 Tryz.underlying31 hj y0 y1 y2 rfl (by omega) (.slice oa sr.out.length oc) sr.out.length sr.out (by rfl) (HOA.out _) ⟨w5.heap.size, 0, none⟩ 1 1 [.slice ka kn kc] (by rfl) (by rfl) (World.news_of_block (cs := #[.slice ka kn kc]) (t := 38) (fr := (0, 0)) (heap_alloc_new w5 _)) (by simp [Value.oneCell']) (by omega) (by unfold maxLen; omega) (by omega) (by simp; omega) (w5.heap.size + 1) (by simp) ?_; intro g3 c3 w3 hown3 hgrow hat hlt3))
            have hg53 : w5.grownBy w3 sr.vo.ownBlock := by
              rw [HVO.out]
              exact (grown_drew2 (World.grownBy_alloc w5 _ _)).trans hgrow
            have hat5 : sr.vo.ownBlock = some g3 ∨ w5.heap.size ≤ g3 := by
              rw [HVO.out]
              exact hat.imp id (fun e => by omega)
            have hatr : ρ5 g3 = 6 ∨ w5.heap.size ≤ g3 := hat5.imp (fun e => HI5.out.ro.2 g3 e) id
            have hblk3 := HI5.out.blk3 (q := 6) (by omega) hg53 HI5.out.ro.2
            have HI6 := hide (HI5.out.pushOut (.slice ka kn kc) hown3 hg53 hat5 hlt3 HO5.out)
            have HL6 : Hid (LR (w3.setCell ⟨W0, 4, none⟩ (.slice (some ⟨g3, 0, none⟩) (sr.out.length + 1) c3)) (rhoAt ρ5 g3 6) q lg uc ps (k2 + 1)) := by
              refine HL5.out.keeps (HI5.out.push_keeps (j := 4) hg53 HI5.out.ro.2) (fun j h9 => by have := HQ2.out; omega) (fun j hj9 h9 => ?_)
              unfold rhoAt
              rw [if_neg (fun e => by subst e; have := HQ2.out; omega)]
              exact h9
            have z0 : w3.cell? ⟨W0, 4, none⟩ = some (.slice oa sr.out.length oc) := by rw [← HVO.out]; exact cell_row hblk3 rfl
            have z1 : w3.frozen? ⟨W0, 4, none⟩ = false := frozen_of_row _ _ _ _ _ hblk3
            have HM6 : Hid (({ sr with vo := .slice (some ⟨g3, 0, none⟩) (sr.out.length + 1) c3, out := sr.out ++ [.slice ka kn kc] } : St).ms = s.ms) := HM2.out
            rename_i hHeld
            clear hHeld hown3 hgrow hat hat5 hatr hblk3 hg53 d0 d1 HL5 HO5 HI5 HOA HRO HNE hko hbb
            go_wp2_with fail
            go_roundw
            case rel => exact ⟨k2 + 1, _, _, by omega, by go_num, HM6.out, HI6.out, HL6.out⟩
            case measure => simp [intOf]; omega
          · have HE : Hid (∃ ρ' s', Inv wz wr B0 W0 K (O + 8) ρ' s' ∧ ρ' lg = q ∧ 2 * s'.ms.length + 7 ≤ q) := ⟨ρr, sr, HIr.out.keep (Nat.le_refl _) (by omega) (Keeps.refl _ _), HLr.out.rg, HQ2.out⟩
            have HB : Hid (∃ cs : Array Value, wr.heap[lg]? = some (.cells cs 69 (0, 0)) ∧ cs.size = uc * 2) := by
              obtain ⟨cs, h1, h2, _⟩ := HLr.out.row
              exact ⟨cs, h1, h2⟩
            clear HIr HLr HM2 HQ2 HL1 HI1 HMS HQ HBw
            go_wp2_with fail
            go_loopw [11] (fun v11 w' => ∃ (k3 : Nat), k3 ≤ uc ∧ v11 = .int .i64 k3 ∧ Hid (∃ ρ' s', Inv wz w' B0 W0 K (O + 8) ρ' s' ∧ ρ' lg = q ∧ 2 * s'.ms.length + 7 ≤ q) ∧ Hid (∃ cs : Array Value, w'.heap[lg]? = some (.cells cs 69 (0, 0)) ∧ cs.size = uc * 2)) (fun v11 _ => uc - (intOf v11).toNat)
            case atStart => exact ⟨0, Nat.zero_le _, rfl, HE.out, HB.out⟩
            case round =>
              obtain ⟨k3, hk3, rfl, HE3, HB3⟩ := hrel
              by_cases hlt3 : k3 < uc
              · obtain ⟨cs, b1, b2⟩ := HB3.out
                obtain ⟨x0, n0⟩ : ∃ x0, wr.cell? ⟨lg, k3 * 2, none⟩ = some x0 := ⟨_, cell_row b1 (Array.getElem?_eq_getElem (show k3 * 2 < cs.size by omega))⟩
                obtain ⟨x1, n1⟩ : ∃ x1, wr.cell? ⟨lg, k3 * 2 + 1, none⟩ = some x1 := ⟨_, cell_row b1 (Array.getElem?_eq_getElem (show k3 * 2 + 1 < cs.size by omega))⟩
                have fz : ∀ j, wr.frozen? ⟨lg, j, none⟩ = false := fun j => frozen_of_row _ _ _ _ _ b1
                have HBB := hide b1
                have HBS := hide b2
                clear b1 b2
                go_wp2_with fail
                go_roundw
                case rel =>
                  refine ⟨k3 + 1, by omega, by go_num, ?_, ⟨_, heap_setCell_same _ _ _ _ _ _ (heap_setCell_same _ _ _ _ _ _ HBB.out), by simpa using HBS.out⟩⟩
                  obtain ⟨ρ', s', h1, h2, h3⟩ := HE3.out
                  have k1 : Keeps (fun k => ρ' k = q) wr (wr.setCell ⟨lg, k3 * 2, none⟩ (.string ⟨#[109, 105, 110, 101]⟩)) := (set_keeps _ _ _ _).mono (fun j _ e => by rw [e]; exact h2)
                  have h4 := h1.tmp (ρ' := ρ') q h3 k1 (fun _ _ _ => rfl) (fun j hj => ⟨(h1.hot j hj).1, Nat.lt_of_lt_of_le (h1.hot j hj).2 k1.size⟩)
                  have k2 : Keeps (fun k => ρ' k = q) (wr.setCell ⟨lg, k3 * 2, none⟩ (.string ⟨#[109, 105, 110, 101]⟩)) ((wr.setCell ⟨lg, k3 * 2, none⟩ (.string ⟨#[109, 105, 110, 101]⟩)).setCell ⟨lg, k3 * 2 + 1, none⟩ (.slice none 0 0)) := (set_keeps _ _ _ _).mono (fun j _ e => by rw [e]; exact h2)
                  exact ⟨ρ', s', h4.tmp (ρ' := ρ') q h3 k2 (fun _ _ _ => rfl) (fun j hj => ⟨(h4.hot j hj).1, Nat.lt_of_lt_of_le (h4.hot j hj).2 k2.size⟩), h2, h3⟩
                case measure => simp [intOf]; omega
              · go_wp2_with fail
                go_ret
                obtain ⟨ρ', s', h9, _⟩ := HE3.out
                exact ⟨rfl, ρ', s', h9⟩
end Go.Proofs.YtbhccdedcoajmaaGreatDoor
namespace Go.Proofs.YtbhccdedcoajmaaGreatDoor
open Go.RowKit

set_option maxRecDepth 10000 in
set_option maxHeartbeats 1000000 in
theorem replayed_walk (m r : Nat) (s : ByteArray) (c : Int) (w : World) (hs : s.size ≤ 70000) (R : World → Prop)
    (h : ∀ (W : World) (g : Nat), Below w.heap.size w W → w.heap.size ≤ g → W.heap[g]? = some (.cells (u8s (nums s) ++ [Value.int .u8 77, Value.int .u8 88]).toArray 5 (0, 0)) →
      Calls Tryz.prog 32 #[.pointer (some ⟨m, 0, none⟩), .slice (some ⟨g, 0, none⟩) s.size (s.size + 2), .int .i64 c] W fun e w1 => ∃ k n, e = .returned (.tuple #[.int .i64 k, .string n]) ∧ W.heap.size ≤ w1.heap.size ∧ (∀ j, w.heap.size ≤ j → j < W.heap.size → w1.heap[j]? = W.heap[j]?) ∧
        ∀ W2, Keeps (fun k => k = g) w1 W2 → Calls Tryz.prog 30 #[.pointer (some ⟨r, 0, none⟩), .string s, .int .i64 c] W2 fun e w2 => e = .returned (.tuple #[.int .i64 k, .string n]) ∧ R w2) :
    Calls Tryz.prog 15 #[.agg #[.pointer (some ⟨m, 0, none⟩), .pointer (some ⟨r, 0, none⟩)], .string s, .int .i64 c] w fun e w' => e = .returned (.bool true) ∧ R w' := by
  have HH := hide h
  clear h
  go_enter Tryz.func15, Tryz.ntmps15
  go_wp2_with fail
  refine (roomy_any s hs _).mono ?_
  rintro e w1 ⟨rfl, hnew, hb1⟩
  obtain ⟨o, ho⟩ : ∃ o, o = Obj.cells #[.pointer (some ⟨m, 0, none⟩), .pointer (some ⟨r, 0, none⟩)] 47 := ⟨_, rfl⟩
  rw [← ho] at hnew hb1
  have hsz : (w.alloc o).heap.size = w.heap.size + 1 := by simp
  rw [hsz] at hnew hb1
  have hlt1 : w.heap.size + 1 < w1.heap.size := (Array.getElem?_eq_some_iff.1 hnew).1
  have c0 : w1.cell? ⟨w.heap.size, 0, none⟩ = some (.pointer (some ⟨m, 0, none⟩)) := (hb1.cell (p := ⟨w.heap.size, 0, none⟩) (by simp)).trans (by rw [ho]; exact cell_new rfl rfl)
  have c1 : w1.cell? ⟨w.heap.size, 1, none⟩ = some (.pointer (some ⟨r, 0, none⟩)) := (hb1.cell (p := ⟨w.heap.size, 1, none⟩) (by simp)).trans (by rw [ho]; exact cell_new rfl rfl)
  have HB1 : Hid (Below w.heap.size w w1) := by
    have h9 : Below w.heap.size w (w.alloc o) := (Below.refl _ _).alloc (Nat.le_refl _) _
    exact h9.trans (hb1.mono (by omega))
  have HC := hide (HH.out w1 (w.heap.size + 1) HB1.out (by omega) hnew)
  have HN := hide hnew
  clear HH hnew hb1 hsz ho
  go_wp2_with fail
  refine HC.out.mono ?_
  rintro e w2 ⟨k, n, rfl, hs2, hk2, hr2⟩
  have HR2 := hide hr2
  have hnew2 : w2.heap[w.heap.size + 1]? = some (.cells (u8s (nums s) ++ [Value.int .u8 77, Value.int .u8 88]).toArray 5 (0, 0)) := (hk2 _ (by omega) hlt1).trans HN.out
  have d1 : w2.cell? ⟨w.heap.size, 1, none⟩ = some (.pointer (some ⟨r, 0, none⟩)) := (World.cell?_of_block (w := w1) (a := ⟨w.heap.size, 1, none⟩) (hk2 w.heap.size (Nat.le_refl _) (by omega))).trans c1
  have HST := hide (still_any s hs (w.heap.size + 1) w2 hnew2)
  have HSP := hide (spoilt_all (w.heap.size + 1) s.size (s.size + 2) _ w2 hnew2 (by simp [u8s, nums_length]) (by omega))
  clear c0 c1 HC hr2 hk2 hnew2 HN
  go_wp2_with fail
  refine HST.out.mono ?_
  rintro e w3 ⟨rfl, hw3⟩
  obtain rfl := hw3.symm
  clear hw3
  go_wp2_with fail
  refine HSP.out.mono ?_
  rintro e w4 ⟨rfl, hg4, _⟩
  have HRP := hide (HR2.out w4 (grown_keeps hg4 (fun k e => by simpa using e.symm)))
  have e1 : w4.cell? ⟨w.heap.size, 1, none⟩ = some (.pointer (some ⟨r, 0, none⟩)) := hg4.cell d1 (by simp)
  clear hg4 d1 HSP HST HR2
  go_wp2_with fail
  refine HRP.out.mono ?_
  rintro e w5 ⟨rfl, hR⟩
  have HRR := hide hR
  clear hR HRP e1
  go_wp2_with fail
  go_ret
  exact ⟨rfl, HRR.out⟩
end Go.Proofs.YtbhccdedcoajmaaGreatDoor
namespace Go.Proofs.YtbhccdedcoajmaaGreatDoor
open Go.RowKit

set_option maxRecDepth 10000 in
set_option maxHeartbeats 2000000 in
theorem rapply_read (s : ByteArray) (B lo hi : Nat) (tv : Value) (ts : List Tok) (w : World) (hB1 : 1 ≤ B) (hB2 : B ≤ 64) (hm : s.size ≤ 300) (hT : RT w lo hi tv ts) (hl : ts.length ≤ 70000) (hh : ∀ t ∈ ts, Held t) :
    Calls Tryz.prog 46 #[.string s, tv, .int .i64 B] w fun e w' => ∃ v e0, e = .returned (.tuple #[v, e0]) ∧ RTold (applyGo (nums s) B [] ts) v e0 ∧ Below w.heap.size w w' := by
  have HBL := hide (blocks_any s B w hB1 hB2 hm)
  have hM := chunks_le (n := s.size) hB1
  have HZL := hide (nums_length s)
  have HZL3 : Hid (∀ a m, ((nums s).drop a |>.take m).length ≤ 300) := fun a m => by show _ ≤ _; rw [List.length_take, List.length_drop, nums_length]; omega
  have HMORE : Hid (∀ b c, ((nums s).drop (b * B)).take ((c + 1) * B) = ((nums s).drop (b * B)).take (c * B) ++ chunk (nums s) B (b + c)) := fun b c => part_more _ _ _ _
  obtain ⟨va, tcap, rfl, htc, hcell⟩ := hT.2 w hT.1 (fun _ _ _ => rfl)
  have HTOK : Hid (∀ i, i < ts.length → ∃ (t : Tok) (x y : Int) (g m dc : Nat) (da : Option Addr), va = some ⟨g, 0, none⟩ ∧ g < w.heap.size ∧ t.block = x ∧ t.count = y ∧ I64 x ∧ I64 y ∧ t.data.length = m ∧ m ≤ 255 ∧ w.cell? ⟨g, i * 3, none⟩ = some (.int .i64 x) ∧ w.cell? ⟨g, i * 3 + 1, none⟩ = some (.int .i64 y) ∧ w.cell? ⟨g, i * 3 + 2, none⟩ = some (.slice da m dc) ∧
      ts.drop i = t :: ts.drop (i + 1) ∧ (∀ W, Below w.heap.size w W → (convert 38 9 (.slice da m dc)).run Tryz.prog W = .ok (.string (bytesOf t.data)) W) ∧ Bytes t.data) := by
    intro i hi
    obtain ⟨g, u, hv, c0, c1, c2, hcv, da, dc, hu⟩ := hcell i hi
    subst hu
    have hH := hh ts[i] (List.getElem_mem hi)
    have hg : g < w.heap.size := World.block_lt_of_cell? w _ c2
    refine ⟨ts[i], _, _, g, ts[i].data.length, dc, da, hv, hg, rfl, rfl, hH.2.2.1, hH.2.2.2, rfl, hH.2.1, c0, c1, c2, List.drop_eq_getElem_cons hi, fun W hb => ?_, hH.1⟩
    obtain ⟨va2, cap2, e1, _, h3⟩ := hT.2 W (Nat.le_trans hT.1 hb.size) (fun k _ h2 => hb.block k (Nat.lt_of_lt_of_le h2 hT.1))
    obtain ⟨g2, u2, f1, _, _, f2, f3, _⟩ := h3 i hi
    simp only [Value.slice.injEq] at e1
    have hgg : g2 = g := by rw [← e1.1, hv] at f1; simpa using f1.symm
    subst hgg
    have : u2 = .slice da ts[i].data.length dc := by
      have := (hb.cell (p := ⟨g2, i * 3 + 2, none⟩) hg).symm.trans f2
      rw [c2] at this
      exact (Option.some.inj this).symm
    rw [← this]; exact f3
  clear hcell hT hh
  generalize hNT : ts.length = nt at *
  have HNT := hide hNT
  clear hNT
  go_enter Tryz.func46, Tryz.ntmps46
  go_wp2_with fail
  refine HBL.out.mono ?_
  rintro e W0 ⟨bv, tb, rfl, ho, ht, hb⟩
  obtain ⟨ba, bcap, rfl, hbcap, hbcell⟩ := row_open ho
  have HBLK : Hid (∀ k, k < chunks s.size B → ∃ (gb : Nat) (t : ByteArray), ba = some ⟨gb, 0, none⟩ ∧ gb < W0.heap.size ∧ W0.cell? ⟨gb, k, none⟩ = some (.string t) ∧ nums t = chunk (nums s) B k ∧ t.size ≤ 64) := by
    intro k hk
    obtain ⟨gb, hv, hc⟩ := hbcell k hk
    have hlt : k < tb.length := by
      have := congrArg List.length ht
      simp at this; omega
    have hn : nums tb[k] = chunk (nums s) B k := by
      have := congrArg (fun l => l[k]?) ht
      simpa [hlt, hk] using this
    have hc' : W0.cell? ⟨gb, k, none⟩ = some (.string tb[k]) := by rw [hc]; simp [hlt]
    refine ⟨gb, tb[k], hv, World.block_lt_of_cell? W0 _ hc', hc', hn, ?_⟩
    have := nums_length tb[k]
    rw [hn, chunk_length] at this
    omega
  have HBW := hide hb
  clear ho ht hb hbcell HBL
  have HCH : Hid (chunks (nums s).length B = chunks s.size B) := by show _ = _; rw [nums_length]
  generalize chunks s.size B = M at *
  go_wp2_with fail
  go_loopw [9, 10] (fun v9 v10 wr => ∃ (k : Nat) (u : ByteArray), k ≤ nt ∧ v10 = .int .i64 k ∧ v9 = .string u ∧ u.size ≤ 300 ∧ Hid (applyGo (nums s) B (nums u) (ts.drop k) = applyGo (nums s) B [] ts) ∧ Hid (Below W0.heap.size W0 wr)) (fun _ v10 _ => nt - (intOf v10).toNat)
  case atStart => exact ⟨0, ⟨#[]⟩, Nat.zero_le _, rfl, rfl, Nat.zero_le _, (rfl : _ = _), Below.refl _ _⟩
  case round =>
    obtain ⟨k, u, hk, rfl, rfl, hu, HAr, HBr⟩ := hrel
    by_cases hlt : k < nt
    · obtain ⟨t, x, y, g, m, dc, da, rfl, hg, hx, hy, hxI, hyI, htm, hm255, c0, c1, c2, hdrop, hcv, hby⟩ := HTOK.out k hlt
      have HBwr : Hid (Below w.heap.size w wr) := below_all HBW.out HBr.out
      have d0 := (HBwr.out.cell (p := ⟨g, k * 3, none⟩) hg).trans c0
      have d1 := (HBwr.out.cell (p := ⟨g, k * 3 + 1, none⟩) hg).trans c1
      have d2 := (HBwr.out.cell (p := ⟨g, k * 3 + 2, none⟩) hg).trans c2
      obtain ⟨hx1, hx2⟩ := hxI
      obtain ⟨hy1, hy2⟩ := hyI
      have HX := hide hx
      have HY := hide hy
      have HTM := hide htm
      have HDR := hide hdrop
      have HBY := hide hby
      have HTD : Hid (t.data = [] ↔ m = 0) := by show _ ↔ _; rw [← htm, List.length_eq_zero_iff]
      have hcvA : (convert 38 9 (.slice da m dc)).run Tryz.prog (wr.alloc (.cells #[.int .i64 x, .int .i64 y, .slice da m dc] 100)) = .ok (.string (bytesOf t.data)) (wr.alloc (.cells #[.int .i64 x, .int .i64 y, .slice da m dc] 100)) := hcv _ (below_all HBwr.out ((Below.refl _ _).alloc (Nat.le_refl _) _))
      have HBA : Hid (Below w.heap.size w (wr.alloc (.cells #[.int .i64 x, .int .i64 y, .slice da m dc] 100))) := below_all HBwr.out ((Below.refl _ _).alloc (Nat.le_refl _) _)
      have HBA0 : Hid (Below W0.heap.size W0 (wr.alloc (.cells #[.int .i64 x, .int .i64 y, .slice da m dc] 100))) := below_all HBr.out ((Below.refl _ _).alloc (Nat.le_refl _) _)
      have HNO : Hid (¬ fitsT M t → applyGo (nums s) B [] ts = .error 3) := by
        intro hf
        rw [← HAr.out, HDR.out]
        unfold applyGo
        rw [HCH.out, if_neg (fitsB_not hf)]
      have hsz := bytesOf_size t.data
      rw [htm] at hsz
      clear c0 c1 c2 hx hy htm hdrop hby hcv
      by_cases ha : y < 0
      · have HNOF : Hid (¬ fitsT M t) := by
          show ¬ _
          rw [fitsT, HX.out, HY.out, HTD.out]
          omega
        go_wp2_with fail
        go_ret2
        refine ⟨_, _, rfl, ?_, HBA.out⟩
        rw [HNO.out HNOF.out]
        exact ⟨rfl, rfl⟩
      by_cases hb : x < 0
      · have HNOF : Hid (¬ fitsT M t) := by
          show ¬ _
          rw [fitsT, HX.out, HY.out, HTD.out]
          omega
        go_wp2_with fail
        go_ret2
        refine ⟨_, _, rfl, ?_, HBA.out⟩
        rw [HNO.out HNOF.out]
        exact ⟨rfl, rfl⟩
      by_cases hc : 0 < y
      · by_cases hm0 : 0 < m
        · have HNOF : Hid (¬ fitsT M t) := by
            show ¬ _
            rw [fitsT, HX.out, HY.out, HTD.out]
            omega
          go_wp2_with fail
          go_ret2
          refine ⟨_, _, rfl, ?_, HBA.out⟩
          rw [HNO.out HNOF.out]
          exact ⟨rfl, rfl⟩
        by_cases hxM : (M : Int) < x
        · have HNOF : Hid (¬ fitsT M t) := by
            show ¬ _
            rw [fitsT, HX.out, HY.out, HTD.out]
            omega
          go_wp2_with fail
          go_ret2
          refine ⟨_, _, rfl, ?_, HBA.out⟩
          rw [HNO.out HNOF.out]
          exact ⟨rfl, rfl⟩
        by_cases hyM : (M : Int) - x < y
        · have HNOF : Hid (¬ fitsT M t) := by
            show ¬ _
            rw [fitsT, HX.out, HY.out, HTD.out]
            omega
          go_wp2_with fail
          go_ret2
          refine ⟨_, _, rfl, ?_, HBA.out⟩
          rw [HNO.out HNOF.out]
          exact ⟨rfl, rfl⟩
        obtain ⟨bk, rfl⟩ : ∃ bk : Nat, x = bk := ⟨x.toNat, by omega⟩
        obtain ⟨ct, rfl⟩ : ∃ ct : Nat, y = ct := ⟨y.toNat, by omega⟩
        have hm00 : m = 0 := by omega
        have HM0 := hide hm00
        have HFIT : Hid (fitsT M t) := by
          show fitsT _ _
          rw [fitsT, HX.out, HY.out, HTD.out]
          omega
        have HPT : Hid (partT (nums s) B t = ((nums s).drop (bk * B)).take (ct * B)) := by
          show _ = _
          unfold partT
          rw [if_neg (by rw [HY.out]; omega), HX.out, HY.out]; rfl
        have hfit : bk + ct ≤ M := by omega
        clear hm00
        go_wp2_with fail
        go_loop [9, 12] (fun v9 v12 => ∃ (j : Nat) (u2 : ByteArray), j ≤ ct ∧ v12 = .int .i64 j ∧ v9 = .string u2 ∧ u2.size ≤ 600 ∧ Hid (nums u2 = nums u ++ ((nums s).drop (bk * B)).take (j * B))) (fun _ v12 => ct - (intOf v12).toNat)
        case atStart => exact ⟨0, u, Nat.zero_le _, rfl, rfl, by omega, (show nums u = _ by simp)⟩
        case round =>
          obtain ⟨j, u2, hj, rfl, rfl, hu2, HU2⟩ := hrel
          by_cases hjc : j < ct
          · obtain ⟨gb, tt, rfl, hgb, hcb, hnb, htb⟩ := HBLK.out (bk + j) (by omega)
            have hcb' := (HBA0.out.cell (p := ⟨gb, bk + j, none⟩) hgb).trans hcb
            have HNB := hide hnb
            have hlen : (u2 ++ tt).size ≤ 600 := by
              have h1 := nums_length (u2 ++ tt)
              rw [nums_append, HU2.out, HNB.out, List.append_assoc, ← HMORE.out, List.length_append, nums_length] at h1
              have := HZL3.out (bk * B) ((j + 1) * B)
              omega
            clear hcb hnb
            go_wp2_with fail
            go_round
            case rel => exact ⟨j + 1, u2 ++ tt, by omega, by go_num, rfl, hlen, (show _ = _ by rw [nums_append, HU2.out, HNB.out, List.append_assoc, ← HMORE.out])⟩
            case measure => simp [intOf]; omega
          · have hjj : j = ct := by omega
            have HPL : Hid (nums u2 = nums u ++ partT (nums s) B t) := by
              show _ = _
              rw [HPT.out, ← hjj]; exact HU2.out
            have hps : u2.size = u.size + (partT (nums s) B t).length := by
              have := nums_length u2
              rw [HPL.out, List.length_append, nums_length] at this; omega
            have HPS := hide hps
            clear hps hjj
            by_cases hbig : 300 < u2.size + m
            · go_wp2_with fail
              go_ret2
              refine ⟨_, _, rfl, ?_, HBA.out⟩
              rw [← HAr.out, HDR.out]
              unfold applyGo
              rw [HCH.out, if_pos (fitsB_iff.2 HFIT.out), if_pos (by have h1 := HPS.out; have h2 := HM0.out; rw [nums_length]; omega)]
              exact ⟨rfl, rfl⟩
            · go_wp2_with fail
              go_roundw
              case rel =>
                refine ⟨k + 1, u2 ++ bytesOf t.data, by omega, by go_num, rfl, by rw [ByteArray.size_append, hsz]; omega, ?_, HBA0.out⟩
                show _ = _
                rw [← HAr.out, HDR.out]
                conv => rhs; unfold applyGo
                rw [HCH.out, if_pos (fitsB_iff.2 HFIT.out), if_neg (by have h1 := HPS.out; have h2 := HM0.out; rw [nums_length]; omega)]
                congr 1
                rw [nums_append, nums_bytesOf HBY.out]
                rw [HTD.out.2 HM0.out, List.append_nil, HPL.out]
              case measure => simp [intOf]; omega
      · have hy0 : y = 0 := by omega
        subst hy0
        by_cases hx0 : x = 0
        · subst hx0
          have HFIT : Hid (fitsT M t) := by
            show fitsT _ _
            rw [fitsT, HX.out, HY.out, HTD.out]
            omega
          have HPT : Hid (partT (nums s) B t = t.data) := if_pos HY.out
          go_wp2_with fail
          go_loop [9, 12] (fun v9 v12 => v12 = .int .i64 0 ∧ v9 = .string u) (fun _ _ => 0)
          case atStart => exact ⟨rfl, rfl⟩
          case round =>
            obtain ⟨rfl, rfl⟩ := hrel
            by_cases hbig : 300 < u.size + m
            · go_wp2_with fail
              go_ret2
              refine ⟨_, _, rfl, ?_, HBA.out⟩
              rw [← HAr.out, HDR.out]
              unfold applyGo
              rw [HCH.out, if_pos (fitsB_iff.2 HFIT.out), if_pos (by rw [nums_length, HPT.out, HTM.out]; omega)]
              exact ⟨rfl, rfl⟩
            · go_wp2_with fail
              go_roundw
              case rel =>
                refine ⟨k + 1, u ++ bytesOf t.data, by omega, by go_num, rfl, by rw [ByteArray.size_append, hsz]; omega, ?_, HBA0.out⟩
                show _ = _
                rw [← HAr.out, HDR.out]
                conv => rhs; unfold applyGo
                rw [HCH.out, if_pos (fitsB_iff.2 HFIT.out), if_neg (by rw [nums_length, HPT.out, HTM.out]; omega)]
                congr 1
                rw [nums_append, nums_bytesOf HBY.out]
                rw [HPT.out]
              case measure => simp [intOf]; omega
        · have HNOF : Hid (¬ fitsT M t) := by
            show ¬ _
            rw [fitsT, HX.out, HY.out, HTD.out]
            omega
          go_wp2_with fail
          go_ret2
          refine ⟨_, _, rfl, ?_, HBA.out⟩
          rw [HNO.out HNOF.out]
          exact ⟨rfl, rfl⟩
    · go_wp2_with fail
      go_ret2
      refine ⟨_, _, rfl, ?_, below_all HBW.out HBr.out⟩
      have hkn : k = nt := by omega
      have := HAr.out
      rw [hkn, List.drop_of_length_le (by rw [HNT.out]; omega)] at this
      rw [← this]
      exact ⟨by rw [bytesOf_nums]; rfl, rfl⟩
end Go.Proofs.YtbhccdedcoajmaaGreatDoor
