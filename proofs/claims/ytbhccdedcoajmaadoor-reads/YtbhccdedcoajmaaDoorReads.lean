import Derived.Test.YtbhccdedcoajmaaDoorReadsA
import Derived.Deep.QuietTactic
import Derived.BigQuiet
namespace Go.Proofs.YtbhccdedcoajmaaDoor
open Go.RowKit

set_option maxRecDepth 10000 in
set_option maxHeartbeats 400000 in
theorem reads_great (s : ByteArray) (h : 65536 < s.size) (hs : s.size ≤ maxLen) (w : World) :
    Calls Tryd.prog 8 #[.string s] w fun e w' => e = .returned (.bool true) ∧ Below w.heap.size w w' := by
  unfold maxLen at hs
  go_enter Tryd.func8, Tryd.ntmps8
  go_wp2_with fail
  go_ret
  exact ⟨rfl, Below.refl _ _⟩
theorem Tryd.nilEnts (w : World) : (binOp BinOp.eql 62 (.slice none 0 0) (.slice none 0 0)).run Tryd.prog w = .ok (.bool true) w := by kernel_rfl
theorem Tryd.nilTgts (w : World) : (binOp BinOp.eql 63 (.slice none 0 0) (.slice none 0 0)).run Tryd.prog w = .ok (.bool true) w := by kernel_rfl

set_option maxRecDepth 10000 in
set_option maxHeartbeats 1000000 in
theorem reads_bad (s : ByteArray) (hs : s.size ≤ 65536) (w : World) (he : ErrT w) (hread : readL (nums s) = none) :
    Calls Tryd.prog 8 #[.string s] w fun e w' => e = .returned (.bool true) ∧ Below w.heap.size w w' := by
  have HPR : Hid (∀ W b, ErrT W → W.heap[b]? = some (.cells (u8s (nums s) ++ [Value.int .u8 77, Value.int .u8 88]).toArray 5 (0, 0)) → Calls Tryd.prog 29 #[.slice (some ⟨b, 0, none⟩) s.size (s.size + 2)] W fun e w' => e = .returned (.tuple #[.agg #[.int .i64 0, .slice none 0 0, .slice none 0 0], .int .i64 5]) ∧ Below W.heap.size W w') :=
    fun W b hE hg => pRead_bad b (s.size + 2) s W hE (by omega) (by omega) (by omega) ((Array.getElem?_eq_some_iff.1 hg).1) (row_cells hg) hread
  have HRR := hide (fun W => rRead_any s W (by omega))
  have HE := hide he
  have HREAD := hide hread
  have hn1 := Tryd.nilEnts
  have hn2 := Tryd.nilTgts
  clear he hread
  go_enter Tryd.func8, Tryd.ntmps8
  go_wp2_with fail
  refine (roomy_any s (by omega) _).mono ?_
  rintro e w1 ⟨rfl, hg, hb⟩
  have HG := hide hg
  have HB := hide hb
  clear hg hb
  go_wp2_with fail
  refine (HPR.out _ _ (HE.out.keep HB.out) HG.out).mono ?_
  rintro e w2 ⟨rfl, hb⟩
  obtain ⟨o, ho⟩ : ∃ o, o = Obj.cells #[.int .i64 0, .slice none 0 0, .slice none 0 0] 65 := ⟨_, rfl⟩
  have hx0 : (w2.alloc o).cell? ⟨w2.heap.size, 0, none⟩ = some (.int .i64 0) := by rw [ho]; exact cell_new rfl rfl
  have hx1 : (w2.alloc o).cell? ⟨w2.heap.size, 1, none⟩ = some (.slice none 0 0) := by rw [ho]; exact cell_new rfl rfl
  have hx2 : (w2.alloc o).cell? ⟨w2.heap.size, 2, none⟩ = some (.slice none 0 0) := by rw [ho]; exact cell_new rfl rfl
  have HB2 : Hid (Below w1.heap.size w1 (w2.alloc o)) := below_all hb ((Below.refl _ _).alloc (Nat.le_refl _) _)
  rw [ho] at hx0 hx1 hx2 HB2
  clear hb ho
  go_wp2_with fail
  generalize hWA : w2.alloc (.cells #[.int .i64 0, .slice none 0 0, .slice none 0 0] 65) = wa at *
  clear hWA
  have hxb : w2.heap.size < wa.heap.size := World.block_lt_of_cell? wa _ hx0
  refine (still_any s (by omega) _ _ ((HB2.out.block _ ((Array.getElem?_eq_some_iff.1 HG.out).1)).trans HG.out)).mono ?_
  rintro e w3 ⟨rfl, hw3⟩
  obtain rfl := hw3.symm
  go_wp2_with fail
  refine (HRR.out _).mono ?_
  rintro e w4 ⟨v, rfl, bl, bv, tv, ok, rfl, ⟨ba, bn, bc, rfl⟩, ⟨ta, tn, tc, rfl⟩, hb4, hyes, hno⟩
  obtain rfl : ok = false := by
    cases ok with
    | false => rfl
    | true =>
      obtain ⟨es, xs, _, h⟩ := hyes rfl
      rw [HREAD.out] at h; cases h
  have HB4 : Hid (∀ o, Below w.heap.size w (w4.alloc o)) := fun o => below_all (below_all (below_all HB.out HB2.out) hb4) ((Below.refl _ _).alloc (Nat.le_refl _) _)
  obtain ⟨o, ho⟩ : ∃ o, o = Obj.cells #[.int .i64 bl, .slice ba bn bc, .slice ta tn tc] 65 := ⟨_, rfl⟩
  have hb5 : Below wa.heap.size wa (w4.alloc o) := below_all hb4 ((Below.refl _ _).alloc (Nat.le_refl _) _)
  have y0 := (hb5.cell (p := ⟨w2.heap.size, 0, none⟩) hxb).trans hx0
  have y1 := (hb5.cell (p := ⟨w2.heap.size, 1, none⟩) hxb).trans hx1
  have y2 := (hb5.cell (p := ⟨w2.heap.size, 2, none⟩) hxb).trans hx2
  rw [ho] at y0 y1 y2
  clear hb4 hyes hno hb5 ho hx0 hx1 hx2 HPR HRR
  go_wp2_with fail
  go_ret
  exact ⟨rfl, HB4.out _⟩

set_option maxRecDepth 10000 in
set_option maxHeartbeats 2000000 in
theorem reads_ok (s : ByteArray) (hs : s.size ≤ 65536) (w : World) (bl : Int) (bs : List EntL) (ts : List (EntL × List Tok)) (hread : readL (nums s) = some ⟨bl, bs, ts⟩) :
    Calls Tryd.prog 8 #[.string s] w fun e w' => e = .returned (.bool true) ∧ Below w.heap.size w w' := by
  obtain ⟨i0, hi, z0, z1, z2⟩ := info_parts Tryd.info50
  have HPR : Hid (∀ W b, W.heap[b]? = some (.cells (u8s (nums s) ++ [Value.int .u8 77, Value.int .u8 88]).toArray 5 (0, 0)) → Calls Tryd.prog 29 #[.slice (some ⟨b, 0, none⟩) s.size (s.size + 2)] W fun e w' => ∃ bv tv, e = .returned (.tuple #[.agg #[.int .i64 bl, bv, tv], .int .i64 0]) ∧ BatR w' W.heap.size bs ts bv tv ∧ Below W.heap.size W w') :=
    fun W b hg => pRead_ok b (s.size + 2) s bl bs ts W (by omega) (by omega) ((Array.getElem?_eq_some_iff.1 hg).1) (row_cells hg) hread
  have HRR := hide (fun W => rRead_any s W (by omega))
  have HREAD := hide hread
  have HSUM := hide (read_sum hread)
  clear hread
  go_enter Tryd.func8, Tryd.ntmps8
  go_wp2_with fail
  refine (roomy_any s (by omega) _).mono ?_
  rintro e w1 ⟨rfl, hg, hb⟩
  have HG := hide hg
  have HB := hide hb
  clear hg hb
  go_wp2_with fail
  refine (HPR.out _ _ HG.out).mono ?_
  rintro e w2 ⟨bv, tv, rfl, ⟨es, xs, hoe, hesm, hel, hox, hxl, hxok, hpw, hrow, hxm⟩, hb⟩
  obtain ⟨ea, ec, rfl, hec, _⟩ := El_of_row hoe
  obtain ⟨ta, tc, rfl, htc, _⟩ := tg_open hox
  obtain ⟨o, ho⟩ : ∃ o, o = Obj.cells #[.int .i64 bl, .slice ea es.length ec, .slice ta xs.length tc] 65 := ⟨_, rfl⟩
  have hx0 : (w2.alloc o).cell? ⟨w2.heap.size, 0, none⟩ = some (.int .i64 bl) := by rw [ho]; exact cell_new rfl rfl
  have hx1 : (w2.alloc o).cell? ⟨w2.heap.size, 1, none⟩ = some (.slice ea es.length ec) := by rw [ho]; exact cell_new rfl rfl
  have hx2 : (w2.alloc o).cell? ⟨w2.heap.size, 2, none⟩ = some (.slice ta xs.length tc) := by rw [ho]; exact cell_new rfl rfl
  have hba : Below w2.heap.size w2 (w2.alloc o) := (Below.refl _ _).alloc (Nat.le_refl _) _
  have HB2 : Hid (Below w1.heap.size w1 (w2.alloc o)) := below_all hb hba
  have HOE := hide (ownsRow_below hoe hba)
  have HOX := hide (ownsRow_below hox hba)
  have HXK : Hid (∀ x ∈ xs, TgOk (w2.alloc o) w1.heap.size x) := fun x hx => (hxok x hx).below hba
  rw [ho] at hx0 hx1 hx2 HB2 HOE HOX HXK
  clear hb ho hba hoe hox hxok HPR
  go_wp2_with fail
  generalize hWA : w2.alloc (.cells #[.int .i64 bl, .slice ea es.length ec, .slice ta xs.length tc] 65) = wa at *
  clear hWA
  have hxb : w2.heap.size < wa.heap.size := World.block_lt_of_cell? wa _ hx0
  have HG2 : Hid (wa.heap[w.heap.size]? = some (.cells (u8s (nums s) ++ [Value.int .u8 77, Value.int .u8 88]).toArray 5 (0, 0))) := (HB2.out.block _ ((Array.getElem?_eq_some_iff.1 HG.out).1)).trans HG.out
  refine (still_any s (by omega) _ _ HG2.out).mono ?_
  rintro e w3 ⟨rfl, hw3⟩
  obtain rfl := hw3.symm
  go_wp2_with fail
  refine (HRR.out _).mono ?_
  rintro e w4 ⟨v, rfl, bl', bv', tv', ok, rfl, ⟨_, _, _, hbv'⟩, ⟨_, _, _, htv'⟩, hb4, hyes, hno⟩
  clear hbv' htv'
  obtain rfl : ok = true := by
    cases ok with
    | true => rfl
    | false => have := hno rfl; rw [HREAD.out] at this; cases this
  obtain ⟨es', xs', ⟨⟨be, hoe'⟩, _, ⟨bx, hox'⟩, _, bt, hxk'⟩, hread'⟩ := hyes rfl
  rw [HREAD.out] at hread'
  simp only [Option.some.injEq, BatL.mk.injEq] at hread'
  obtain ⟨rfl, hbs', hts'⟩ := hread'
  have hen : es'.length = es.length := by have := congrArg List.length (hesm.trans hbs'); simpa using this.symm
  have hxn : xs'.length = xs.length := by have := congrArg List.length (hxm.trans hts'); simpa using this.symm
  obtain ⟨ea', ec', rfl, hec', _⟩ := El_of_row hoe'
  obtain ⟨ta', tc', rfl, htc', _⟩ := tg_open hox'
  obtain ⟨o, ho⟩ : ∃ o, o = Obj.cells #[.int .i64 bl, .slice ea' es.length ec', .slice ta' xs.length tc'] 65 := ⟨_, rfl⟩
  have hba : Below w4.heap.size w4 (w4.alloc o) := (Below.refl _ _).alloc (Nat.le_refl _) _
  have hb5 : Below wa.heap.size wa (w4.alloc o) := below_all hb4 hba
  have x0 := (hb5.cell (p := ⟨w2.heap.size, 0, none⟩) hxb).trans hx0
  have x1 := (hb5.cell (p := ⟨w2.heap.size, 1, none⟩) hxb).trans hx1
  have x2 := (hb5.cell (p := ⟨w2.heap.size, 2, none⟩) hxb).trans hx2
  have y0 : (w4.alloc o).cell? ⟨w4.heap.size, 0, none⟩ = some (.int .i64 bl) := by rw [ho]; exact cell_new rfl rfl
  have y1 : (w4.alloc o).cell? ⟨w4.heap.size, 1, none⟩ = some (.slice ea' es.length ec') := by rw [ho]; exact cell_new rfl rfl
  have y2 : (w4.alloc o).cell? ⟨w4.heap.size, 2, none⟩ = some (.slice ta' xs.length tc') := by rw [ho]; exact cell_new rfl rfl
  have hw45 : w4.heap.size < (w4.alloc o).heap.size := World.block_lt_of_cell? _ _ y0
  have hw25 : w2.heap.size < (w4.alloc o).heap.size := World.block_lt_of_cell? _ _ x0
  have HB5 : Hid (Below w1.heap.size w1 (w4.alloc o)) := below_all HB2.out hb5
  have HG5 : Hid ((w4.alloc o).heap[w.heap.size]? = some (.cells (u8s (nums s) ++ [Value.int .u8 77, Value.int .u8 88]).toArray 5 (0, 0))) := (hb5.block _ ((Array.getElem?_eq_some_iff.1 HG2.out).1)).trans HG2.out
  have HXK5 : Hid (∀ x ∈ xs, TgOk (w4.alloc o) w1.heap.size x) := fun x hx => (HXK.out x hx).below hb5
  have HBE : Hid (∀ k, k < es.length → ∃ (ge ge' z : Nat) (a : ByteArray) (d : Int), ea = some ⟨ge, 0, none⟩ ∧ ea' = some ⟨ge', 0, none⟩ ∧ ge < (w4.alloc o).heap.size ∧ ge' < (w4.alloc o).heap.size ∧ (w4.alloc o).cell? ⟨ge, k * 3, none⟩ = some (.string a) ∧ (w4.alloc o).cell? ⟨ge, k * 3 + 1, none⟩ = some (.int .i64 z) ∧ (w4.alloc o).cell? ⟨ge, k * 3 + 2, none⟩ = some (.int .u64 d) ∧ (w4.alloc o).cell? ⟨ge', k * 3, none⟩ = some (.string a) ∧ (w4.alloc o).cell? ⟨ge', k * 3 + 1, none⟩ = some (.int .i64 z) ∧ (w4.alloc o).cell? ⟨ge', k * 3 + 2, none⟩ = some (.int .u64 d)) := by
    intro k hk
    obtain ⟨ge, e1, h1, c0, c1, c2⟩ := ent_cells (ownsRow_below HOE.out hb5) k hk
    obtain ⟨ge', e2, h2, d0, d1, d2⟩ := ent_cells (es := es') (ownsRow_below hoe' hba) k (by omega)
    have := entV_inj (map_ix (hesm.trans hbs') hk (by omega))
    rw [← this] at d0 d1 d2
    exact ⟨ge, ge', _, _, _, e1, e2, h1, h2, c0, c1, c2, d0, d1, d2⟩
  have HTG : Hid (∀ k (hk : k < xs.length), ∃ (gt gt' z : Nat) (a : ByteArray) (d : Int) (y : Tg), ta = some ⟨gt, 0, none⟩ ∧ ta' = some ⟨gt', 0, none⟩ ∧ gt < (w4.alloc o).heap.size ∧ gt' < (w4.alloc o).heap.size ∧ (w4.alloc o).cell? ⟨gt, k * 4, none⟩ = some (.string a) ∧ (w4.alloc o).cell? ⟨gt, k * 4 + 1, none⟩ = some (.int .i64 z) ∧ (w4.alloc o).cell? ⟨gt, k * 4 + 2, none⟩ = some (.int .u64 d) ∧ (w4.alloc o).cell? ⟨gt, k * 4 + 3, none⟩ = some xs[k].v ∧ (w4.alloc o).cell? ⟨gt', k * 4, none⟩ = some (.string a) ∧ (w4.alloc o).cell? ⟨gt', k * 4 + 1, none⟩ = some (.int .i64 z) ∧ (w4.alloc o).cell? ⟨gt', k * 4 + 2, none⟩ = some (.int .u64 d) ∧ (w4.alloc o).cell? ⟨gt', k * 4 + 3, none⟩ = some y.v ∧ RTg (w4.alloc o) bt y ∧ y.ps.map Prod.fst = xs[k].ps.map Prod.fst) := by
    intro k hk
    obtain ⟨ta2, tc2, e0, _, hc2⟩ := tg_open (ownsRow_below HOX.out hb5)
    obtain ⟨ta3, tc3, e0', _, hc3⟩ := tg_open (ownsRow_below hox' hba)
    simp only [Value.slice.injEq] at e0 e0'
    obtain ⟨rfl, _, _⟩ := e0
    obtain ⟨rfl, _, _⟩ := e0'
    obtain ⟨gt, e1, h1, c0, c1, c2, c3⟩ := hc2 k hk
    obtain ⟨gt', e2, h2, d0, d1, d2, d3⟩ := hc3 k (by omega)
    have hv := map_ix (hxm.trans hts') hk (show k < xs'.length by omega)
    have hv1 := entV_inj (congrArg Prod.fst hv)
    have hv2 : xs[k].ps.map Prod.fst = xs'[k].ps.map Prod.fst := congrArg Prod.snd hv
    rw [← hv1] at d0 d1 d2
    exact ⟨gt, gt', _, _, _, xs'[k], e1, e2, h1, h2, c0, c1, c2, c3, d0, d1, d2, d3, (hxk' _ (List.getElem_mem (show k < xs'.length by omega))).below hba, hv2.symm⟩
  have HSM : Hid ((xs.map fun x => x.ps.length).sum ≤ 65536) := by
    have h := HSUM.out
    rw [← hxm, List.map_map] at h
    have e : (fun x : EntL × List Tok => x.2.length) ∘ tgV = fun x : Tg => x.ps.length := by funext x; simp [tgV]
    rw [e] at h
    exact Nat.le_trans h hs
  have HPW := hide hpw
  rw [hen] at hec'
  rw [hxn] at htc'
  rw [hen, hxn]
  rw [ho] at x0 x1 x2 y0 y1 y2 hw45 hw25 HB5 HG5 HXK5 HBE HTG
  clear hb4 hyes hno hb5 hba ho hx0 hx1 hx2 HRR hoe' hox' hxk' hbs' hts' hesm hxm hpw hrow HOE HOX HXK HG2 HB2 HREAD HSUM hen hxn
  go_wp2_with fail
  generalize hWS : w4.alloc (.cells #[.int .i64 bl, .slice ea' es.length ec', .slice ta' xs.length tc'] 65) = wS at *
  clear hWS
  have X1 := hide x1
  have X2 := hide x2
  have Y1 := hide y1
  have Y2 := hide y2
  clear x0 x1 x2 y0 y1 y2
  go_loopw [9] (fun i wr => ∃ k : Nat, k ≤ es.length ∧ i = .int .i64 k ∧ Hid (Below wS.heap.size wS wr)) (fun i _ => es.length - (intOf i).toNat)
  case atStart => exact ⟨0, Nat.zero_le _, rfl, Below.refl _ _⟩
  case round =>
    obtain ⟨k, hk, rfl, HBr⟩ := hrel
    have y1 := (HBr.out.cell (p := ⟨w4.heap.size, 1, none⟩) hw45).trans Y1.out
    by_cases hlt : k < es.length
    · obtain ⟨ge, ge', z, a, d, rfl, rfl, h1, h2, c0, c1, c2, d0, d1, d2⟩ := HBE.out k hlt
      have x1 := (HBr.out.cell (p := ⟨w2.heap.size, 1, none⟩) hw25).trans X1.out
      have e0 := (HBr.out.cell (p := ⟨ge, k * 3, none⟩) h1).trans c0
      have e1 := (HBr.out.cell (p := ⟨ge, k * 3 + 1, none⟩) h1).trans c1
      have e2 := (HBr.out.cell (p := ⟨ge, k * 3 + 2, none⟩) h1).trans c2
      have f0 := (HBr.out.cell (p := ⟨ge', k * 3, none⟩) h2).trans d0
      have f1 := (HBr.out.cell (p := ⟨ge', k * 3 + 1, none⟩) h2).trans d1
      have f2 := (HBr.out.cell (p := ⟨ge', k * 3 + 2, none⟩) h2).trans d2
      have hne : (a.toList != a.toList) = false := by simp
      have heq : (a.toList == a.toList) = true := by simp
      clear c0 c1 c2 d0 d1 d2
      go_wp2_with fail
      go_quiet (fail)
      go_wp2_with fail
      go_roundw
      case rel => exact ⟨k + 1, by omega, by go_num, below_drewN HBr.out _⟩
      case measure => simp [intOf]; omega
    · clear hk
      go_wp2_with fail
      go_loopw [10, 11] (fun v10 v11 wr => ∃ k : Nat, k ≤ xs.length ∧ v11 = .int .i64 k ∧ Hid (TokRow wr w1.heap.size v10 ((xs.take k).flatMap Tg.ps)) ∧ Hid (∀ j, v10.ownBlock = some j → wS.heap.size ≤ j) ∧ Hid (Below wS.heap.size wS wr)) (fun _ v11 _ => xs.length - (intOf v11).toNat)
      case atStart => exact ⟨0, Nat.zero_le _, rfl, TokRow.nil _ _, (fun j hj => by cases hj), HBr.out⟩
      case round =>
        clear HBr y1 hlt HBE
        obtain ⟨k, hk, rfl, HTR, HTB, HBr⟩ := hrel
        have y2 := (HBr.out.cell (p := ⟨w4.heap.size, 2, none⟩) hw45).trans Y2.out
        by_cases hlt : k < xs.length
        · obtain ⟨gt, gt', z, a, d, y, rfl, rfl, h1, h2, c0, c1, c2, c3, d0, d1, d2, d3, hRT, hps⟩ := HTG.out k hlt
          have hTK := HXK5.out _ (List.getElem_mem hlt)
          have hbr := HBr.out
          have x2 := (hbr.cell (p := ⟨w2.heap.size, 2, none⟩) hw25).trans X2.out
          have HTAKE : Hid ((xs.take (k + 1)).flatMap Tg.ps = (xs.take k).flatMap Tg.ps ++ xs[k].ps) := by
            show _ = _
            rw [List.take_succ_eq_append_getElem hlt, List.flatMap_append]
            simp
          have HORD : Hid (∀ p ∈ (xs.take k).flatMap Tg.ps, ∀ q ∈ xs[k].ps, ∀ g g', p.2.ownBlock = some g → q.2.ownBlock = some g' → g < g') := by
            intro p hp q hq g g' hg hg'
            rw [List.mem_flatMap] at hp
            obtain ⟨x, hx, hp⟩ := hp
            obtain ⟨i, hi, rfl⟩ := List.getElem_of_mem hx
            rw [List.length_take] at hi
            rw [List.getElem_take] at hp
            have ho := List.pairwise_iff_getElem.1 HPW.out i k (by omega) hlt (by omega)
            have a1 := ((HXK5.out _ (List.getElem_mem (show i < xs.length by omega))).b2 p hp g hg).2
            have a2 := (hTK.b2 q hq g' hg').1
            omega
          have HLEN : Hid (((xs.take (k + 1)).flatMap Tg.ps).length ≤ 65536) := by
            have h := HSM.out
            have e : ∀ l : List Tg, (l.flatMap Tg.ps).length = (l.map fun x => x.ps.length).sum := by
              intro l
              induction l with
              | nil => rfl
              | cons x l ih => rw [List.flatMap_cons, List.length_append, ih]; rfl
            have e2 : (xs.map fun x => x.ps.length).sum = ((xs.take (k + 1)).map fun x => x.ps.length).sum + ((xs.drop (k + 1)).map fun x => x.ps.length).sum := by
              rw [← List.sum_append, ← List.map_append, List.take_append_drop]
            show _ ≤ _
            rw [e]
            omega
          obtain ⟨x, hxk⟩ : ∃ x, x = xs[k] := ⟨_, rfl⟩
          rw [← hxk] at c3 hTK hps HORD HTAKE
          clear hxk
          have hTKr := hTK.below hbr
          obtain ⟨xa, xn, xc, hxv⟩ := row_slice hTK.row.row
          have HXS : Hid ((xa = none ∧ xn = 0 ∧ xc = 0 ∧ x.ps = []) ∨ ∃ gx, xa = some ⟨gx, 0, none⟩ ∧ xn = x.ps.length) := by
            have := hTK.row.row
            rw [hxv] at this
            rcases this.2 with ⟨hv, h0⟩ | ⟨gx, cap, cur, hv, _⟩
            · simp only [Value.slice.injEq] at hv
              exact .inl ⟨hv.1, hv.2.1, hv.2.2, List.length_eq_zero_iff.1 h0⟩
            · simp only [Value.slice.injEq] at hv
              exact .inr ⟨gx, hv.1, hv.2.1⟩
          have HXT : Hid (TokRow wr x.lo (.slice xa xn xc) x.ps) := by rw [← hxv]; exact hTKr.row
          have HXL : Hid (w1.heap.size ≤ x.lo ∧ ∀ p ∈ x.ps, ∀ g, p.2.ownBlock = some g → g < wS.heap.size) := ⟨hTK.low, fun p hp g hg => Nat.lt_of_lt_of_le (hTK.b2 p hp g hg).2 hTK.high⟩
          have hRTr := (hRT.below hbr).rt
          rw [hps] at hRTr
          obtain ⟨ya, yc, hyv, hyc, hycell⟩ := hRTr.2 wr hRTr.1 (fun _ _ _ => rfl)
          have HAL : Hid (∀ W, Below wr.heap.size wr W → Calls Tryd.prog 20 #[.slice xa xn xc, .slice ya (x.ps.map Prod.fst).length yc] W fun e w' => e = .returned (.bool true) ∧ Below W.heap.size W w') := by
            intro W hW
            have := alike_read x.lo y.lo y.hi x.v y.v x.ps W (hTKr.row.below hW) (hRTr.below hW) (fun p hp => (hTK.small p hp).1) (by have := hTK.len; omega)
            rw [hxv, hyv] at this
            exact this
          have e3 := (hbr.cell (p := ⟨gt, k * 4 + 3, none⟩) h1).trans c3
          have f3 := (hbr.cell (p := ⟨gt', k * 4 + 3, none⟩) h2).trans d3
          rw [hxv] at e3
          rw [hyv] at f3
          have HE : Hid (∀ W, Below wr.heap.size wr W → W.cell? ⟨gt, k * 4, none⟩ = some (.string a) ∧ W.cell? ⟨gt, k * 4 + 1, none⟩ = some (.int .i64 z) ∧ W.cell? ⟨gt, k * 4 + 2, none⟩ = some (.int .u64 d) ∧ W.cell? ⟨gt, k * 4 + 3, none⟩ = some (.slice xa xn xc) ∧ W.cell? ⟨gt', k * 4, none⟩ = some (.string a) ∧ W.cell? ⟨gt', k * 4 + 1, none⟩ = some (.int .i64 z) ∧ W.cell? ⟨gt', k * 4 + 2, none⟩ = some (.int .u64 d) ∧ W.cell? ⟨gt', k * 4 + 3, none⟩ = some (.slice ya (x.ps.map Prod.fst).length yc) ∧ W.cell? ⟨w2.heap.size, 2, none⟩ = some (.slice (some ⟨gt, 0, none⟩) xs.length tc) ∧ W.cell? ⟨w4.heap.size, 2, none⟩ = some (.slice (some ⟨gt', 0, none⟩) xs.length tc')) := by
            intro W hW
            have hall := below_all hbr hW
            exact ⟨(hall.cell (p := ⟨gt, k * 4, none⟩) h1).trans c0, (hall.cell (p := ⟨gt, k * 4 + 1, none⟩) h1).trans c1, (hall.cell (p := ⟨gt, k * 4 + 2, none⟩) h1).trans c2, ((hall.cell (p := ⟨gt, k * 4 + 3, none⟩) h1).trans c3).trans (by rw [hxv]), (hall.cell (p := ⟨gt', k * 4, none⟩) h2).trans d0, (hall.cell (p := ⟨gt', k * 4 + 1, none⟩) h2).trans d1, (hall.cell (p := ⟨gt', k * 4 + 2, none⟩) h2).trans d2, ((hall.cell (p := ⟨gt', k * 4 + 3, none⟩) h2).trans d3).trans (by rw [hyv]), (hall.cell (p := ⟨w2.heap.size, 2, none⟩) hw25).trans X2.out, (hall.cell (p := ⟨w4.heap.size, 2, none⟩) hw45).trans Y2.out⟩
          clear c0 c1 c2 c3 d0 d1 d2 d3 hRT hps hTK hTKr hRTr hxv hyv hyc hycell hbr
          generalize (x.ps.map Prod.fst).length = yn at *
          go_wp2_with fail
          go_region_held3 (fun w' => w'.cell? ⟨w2.heap.size, 2, none⟩ = some (.slice (some ⟨gt, 0, none⟩) xs.length tc) ∧ w'.cell? ⟨w4.heap.size, 2, none⟩ = some (.slice (some ⟨gt', 0, none⟩) xs.length tc') ∧ w'.cell? ⟨gt, k * 4 + 3, none⟩ = some (.slice xa xn xc) ∧ w'.cell? ⟨gt', k * 4 + 3, none⟩ = some (.slice ya yn yc))
            (first | exact ⟨x2, y2, e3, f3⟩ | exact ⟨g8, g9, g3, g7⟩)
            ((go_at_call 20; refine (HAL.out _ (Below.refl _ _).drew).mono ?_; rintro e wA ⟨rfl, hbA⟩; obtain ⟨g0, g1, g2, g3, g4, g5, g6, g7, g8, g9⟩ := HE.out wA (below_all (Below.refl _ _).drew hbA)))
          have HBA : Hid (Below wr.heap.size wr wA) := below_all (Below.refl _ _).drew hbA
          have hne : (a.toList != a.toList) = false := by simp
          have heq : (a.toList == a.toList) = true := by simp
          clear x2 y2 e3 f3 hbA HAL
          go_wp2_with fail
          go_quiet (fail)
          have HBB : Hid (Below wr.heap.size wr (wA.drewN nq)) := below_drewN HBA.out nq
          clear g0 g1 g2 g3 g4 g5 g6 g7 g8 g9 HBA
          generalize wA.drewN nq = wB at *
          obtain ⟨_, _, _, g3, _, _, _, _, g8, _⟩ := HE.out wB HBB.out
          have hbB := HBB.out
          have HTRB := hide (HTR.out.below hbB)
          have HXTB := hide (HXT.out.below hbB)
          have HB9 : Hid (Below wS.heap.size wS wB) := below_all HBr.out hbB
          have hSB : wS.heap.size ≤ wB.heap.size := HB9.out.size
          have hw1S : w1.heap.size ≤ wS.heap.size := HB5.out.size
          have HLN : Hid (((xs.take k).flatMap Tg.ps).length + x.ps.length ≤ 65536) := by
            have := HLEN.out
            rw [HTAKE.out, List.length_append] at this
            exact this
          clear hbB HXT HTR HBB HBr HE HLEN
          generalize hpl : (xs.take k).flatMap Tg.ps = pl at HTRB HORD HTAKE HLN
          clear hpl
          rcases HXS.out with ⟨rfl, rfl, rfl, hx0⟩ | ⟨gx, rfl, rfl⟩
          · have HTE : Hid ((xs.take (k + 1)).flatMap Tg.ps = pl) := by show _ = _; rw [HTAKE.out, hx0, List.append_nil]
            clear hx0
            go_wp2_with (at_builtin; refine wpList_append_own_none rfl (.tmp 176) (.tmp 182) 41 rfl w1.heap.size 50 i0 3 Tryd.underlying41 hi _ _ _ rfl HTRB.out.row rfl ?_)
            go_wp2_with fail
            go_roundw
            case rel => exact ⟨k + 1, by omega, by go_num, by rw [HTE.out]; exact HTRB.out, HTB.out, HB9.out⟩
            case measure => simp [intOf]; omega
          · go_wp2_with (at_builtin; refine wpList_append_own_at _ rfl (.tmp 176) (.tmp 182) 41 rfl w1.heap.size 50 i0 (.agg #[.int .i64 0, .int .i64 0, .slice none 0 0]) 3 40 Tryd.underlying41 hi z0 z1 z2 rfl (by decide) _ pl.length (tcells pl) rfl HTRB.out.row ⟨gx, 0, none⟩ x.ps.length xc (tcells x.ps) rfl ?ka ?kb ?kc ?kd ?ke ?kf ?kg)
            case ka => rw [tcells_length]
            case kb => intro j u hj; have := HXTB.out.row.cells (g := gx) rfl j u hj; rw [add_at] at this; first | exact this | (rw [add_at]; exact this)
            case kc => exact tcells_mem HXTB.out.data
            case kd => have := HLN.out; unfold maxLen; omega
            case ke => have := HLN.out; omega
            case kf => omega
            case kg =>
              intro v9 w9 hown9 hgrow9 _ hloc9
              have HT9 : Hid (TokRow w9 w1.heap.size v9 ((xs.take (k + 1)).flatMap Tg.ps)) := by
                rw [HTAKE.out]
                exact HTRB.out.more HXTB.out HXL.out.1 HORD.out (fun q hq g hg e => by have h1 := HXL.out.2 q hq g hg; have h2 := HTB.out g e; omega) hown9 hgrow9 hloc9
              have HTB9 : Hid (∀ j, v9.ownBlock = some j → wS.heap.size ≤ j) := by
                intro j hj
                rcases hloc9 with e | e
                · exact HTB.out j (e ▸ hj)
                · rw [e] at hj; simp at hj; omega
              have HB10 : Hid (Below wS.heap.size wS w9) := HB9.out.grown hgrow9 (by omega) (fun j hj => HTB.out j hj)
              clear hown9 hgrow9 hloc9 HTB HTRB HXTB HB9 HORD
              go_wp2_with fail
              go_roundw
              case rel => exact ⟨k + 1, by omega, by go_num, HT9.out, HTB9.out, HB10.out⟩
              case measure => simp [intOf]; omega
        · have hkn : xs.take k = xs := List.take_of_length_le (by omega)
          have hSr : wS.heap.size ≤ wr.heap.size := HBr.out.size
          have hw1S : w1.heap.size ≤ wS.heap.size := HB5.out.size
          have HTF : Hid (TokRow wr w1.heap.size u10 (xs.flatMap Tg.ps)) := by have := HTR.out; rw [hkn] at this; exact this
          have HLF : Hid ((xs.flatMap Tg.ps).length ≤ 70000) := by
            have h := HSM.out
            have e : ∀ l : List Tg, (l.flatMap Tg.ps).length = (l.map fun x => x.ps.length).sum := by
              intro l
              induction l with
              | nil => rfl
              | cons x l ih => rw [List.flatMap_cons, List.length_append, ih]; rfl
            show _ ≤ _
            rw [e]
            omega
          have HWR := hide (written_ok w1.heap.size u10 (xs.flatMap Tg.ps) wr (by omega) HTF.out HLF.out)
          have HB1r : Hid (Below w1.heap.size w1 wr) := below_all HB5.out HBr.out
          have HBk : Hid (w.heap.size < w1.heap.size) := by have := (Array.getElem?_eq_some_iff.1 HG.out).1; exact this
          clear hkn HTR HTF HLF HTB HBr HTG
          go_wp2_with fail
          refine HWR.out.mono ?_
          rintro e w8 ⟨rfl, hb8⟩
          have HB8 : Hid (Below w1.heap.size w1 w8) := HB1r.out.trans hb8
          have HG8 : Hid (w8.heap[w.heap.size]? = some (.cells (u8s (nums s) ++ [Value.int .u8 77, Value.int .u8 88]).toArray 5 (0, 0))) := (HB8.out.block _ HBk.out).trans HG.out
          clear hb8 HWR
          go_wp2_with fail
          refine (still_any s (by omega) _ _ HG8.out).mono ?_
          rintro e w9 ⟨rfl, hw9⟩
          obtain rfl := hw9.symm
          go_wp2_with fail
          go_ret
          exact ⟨rfl, below_all HB.out HB8.out⟩
theorem walk_reads (s : ByteArray) (hs : s.size ≤ maxLen) (w : World) (he : ErrT w) :
    Calls Tryd.prog 8 #[.string s] w fun e w' => e = .returned (.bool true) ∧ Below w.heap.size w w' := by
  by_cases h : 65536 < s.size
  · exact reads_great s h hs w
  · cases hr : readL (nums s) with
    | none => exact reads_bad s (by omega) w he hr
    | some b =>
      obtain ⟨bl, bs, ts⟩ := b
      exact reads_ok s (by omega) w bl bs ts hr
end Go.Proofs.YtbhccdedcoajmaaDoor
