import Derived.Test.YtbhccdedcoajmaaGreatDoorLListsM
import Derived.Test.YtbhccdedcoajmaaGreatDoorLOpenM
namespace Go.Proofs.YtbhccdedcoajmaaGreatDoor
open Go.RowKit

theorem record_len {src ref : List (ByteArray × ByteArray)} {B : Nat} (hB1 : 1 ≤ B) (hs : TreeOk src) (hr : TreeOk ref) : (recordL (src.map filOf) (ref.map filOf) B).length ≤ 70000 := by
  have h8 := hs.len
  have g8 := hr.len
  have hfs := hs.sizes
  have hfr := hr.sizes
  have h1 : ((ref.map filOf).flatMap entryL).length ≤ 23 * (ref.map filOf).length := flat_len _ fun x hx => by
    obtain ⟨p, hp, rfl⟩ := List.mem_map.1 hx
    exact entryL_len (by rw [show (filOf p).name = nums p.1 from rfl, nums_length]; exact (hfr p hp).1)
  have h2 : ((src.map filOf).flatMap (targetL (ref.map filOf) B)).length ≤ 1525 * (src.map filOf).length := flat_len _ fun x hx => by
    obtain ⟨p, hp, rfl⟩ := List.mem_map.1 hx
    refine (targetL_ok hB1 (by rw [show (filOf p).name = nums p.1 from rfl, nums_length]; exact (hfs p hp).1) (nums_bytes _) (by rw [show (filOf p).data = nums p.2 from rfl, nums_length]; exact (hfs p hp).2) (nums_bytes _) ?_).1
    rw [show (filOf p).name = nums p.1 from rfl, found_findL, nums_length]
    unfold foundOf
    cases h : ref.find? fun q => decide (nums q.1 = nums p.1) with
    | none => exact Nat.zero_le _
    | some q => exact (hfr q (List.mem_of_find?_eq_some h)).2
  rw [List.length_map] at h1 h2
  unfold recordL bodyL
  rw [List.length_append, putN_length]
  simp only [List.length_cons, List.length_append]
  omega
theorem rtree_two (v : Value) (fs : List (ByteArray × ByteArray)) (w : World) (hl : fs.length ≤ 70000) (hsz : ∀ p ∈ fs, p.1.size ≤ 70000 ∧ p.2.size ≤ 70000) (hF : Fl w v fs) :
    Calls Tryz.prog 20 #[v] w fun e w' => ∃ (ok : Bool) (nm : ByteArray), e = .returned (.tuple #[.bool ok, .string nm]) ∧ (ok = true → TreeOk fs) ∧ Below w.heap.size w w' := by
  refine (rtree_any v fs w hl hsz hF).mono ?_
  rintro e w' ⟨⟨rfl, h⟩ | ⟨j, hj, h1, h2, rfl⟩, hb⟩
  · exact ⟨true, _, rfl, fun _ => h, hb⟩
  · exact ⟨false, _, rfl, (fun h => by cases h), hb⟩

set_option maxRecDepth 10000 in
set_option maxHeartbeats 1000000 in
theorem lists_rec0 {w : World} {wz : World} {B0 W0 K O : Nat} {ρ : Nat → Nat} {st : St} (hI : Inv wz w B0 W0 K O ρ st) (a b c : Int) (s t : ByteArray) (h0 : st.trees.length = 0) :
    Calls Tryz.prog 10 #[.pointer (some ⟨W0, 0, none⟩), .agg #[.int .i64 3, .int .i64 a, .int .i64 b, .int .i64 c, .string s, .string t]] w fun e w' => e = .returned (.tuple #[.bool true, .bool true]) ∧ Below w.heap.size w w' := by
  obtain ⟨ba, bc, hvb⟩ := row_len hI.rt.1
  rw [h0] at hvb
  have hlt := hI.lt
  have d0 : ∀ ob, (w.alloc ob).cell? ⟨W0, 1, none⟩ = some (.slice ba 0 bc) := fun ob => by
    rw [World.cell?_alloc_lt _ _ _ hlt, ← hvb]
    exact cell_row hI.blk rfl
  clear hI hvb h0
  go_enter Tryz.func10, Tryz.ntmps10
  go_wp2_with fail
  go_ret2
  exact ⟨rfl, (Below.refl _ _).alloc (Nat.le_refl _) _⟩

set_option maxRecDepth 10000 in
set_option maxHeartbeats 3000000 in
theorem lists_rec {w : World} {wz : World} {B0 W0 K O : Nat} {ρ : Nat → Nat} {st : St} (hI : Inv wz w B0 W0 K O ρ st) (he : ErrT w) (hK : K ≤ 65536) (a b c : Int) (ha : (Lit.int .i64 a).wf = true) (hb : (Lit.int .i64 b).wf = true) (hc : (Lit.int .i64 c).wf = true) (s t : ByteArray) (h0 : 0 < st.trees.length) :
    Calls Tryz.prog 10 #[.pointer (some ⟨W0, 0, none⟩), .agg #[.int .i64 3, .int .i64 a, .int .i64 b, .int .i64 c, .string s, .string t]] w fun e w' => e = .returned (.tuple #[.bool true, .bool true]) ∧ ∃ ρ' s', Inv wz w' B0 W0 (K + 1) O ρ' s' := by
  have hcb : -9223372036854775808 ≤ c ∧ c ≤ 9223372036854775807 := by
    simpa [Lit.wf, IntKind.min, IntKind.max, IntKind.signed, IntKind.bits] using hc
  obtain ⟨i0, hi, z0, z1, z2⟩ := info_parts Tryz.info9
  obtain ⟨ob, hob⟩ : ∃ ob, ob = Obj.cells #[.int .i64 3, .int .i64 a, .int .i64 b, .int .i64 c, .string s, .string t] 35 := ⟨_, rfl⟩
  have hba : Below w.heap.size w (w.alloc ob) := (Below.refl _ _).alloc (Nat.le_refl _) _
  have hIb : Inv wz (w.alloc ob) B0 W0 K O ρ st := hI.keep (Nat.le_refl _) (Nat.le_refl _) (below_keeps hba _)
  have heb := he.keep hba
  have d1 : (w.alloc ob).cell? ⟨w.heap.size, 1, none⟩ = some (.int .i64 a) := by rw [hob]; exact cell_new rfl rfl
  have d2 : (w.alloc ob).cell? ⟨w.heap.size, 2, none⟩ = some (.int .i64 b) := by rw [hob]; exact cell_new rfl rfl
  have d3 : (w.alloc ob).cell? ⟨w.heap.size, 3, none⟩ = some (.int .i64 c) := by rw [hob]; exact cell_new rfl rfl
  have hbw : w.heap.size < (w.alloc ob).heap.size := by simp
  generalize hWB : w.alloc ob = wb at *
  obtain ⟨g, bc, hvb, hglt⟩ : ∃ g bc, st.vt = .slice (some ⟨g, 0, none⟩) st.trees.length bc ∧ g < wb.heap.size := by
    rcases hIb.rt.1.2 with ⟨_, h9⟩ | ⟨g, c, cur, h9, _, hg, _⟩
    · omega
    · exact ⟨g, c, h9, (Array.getElem?_eq_some_iff.1 hg).1⟩
  have hkn := hIb.kt
  obtain ⟨k1, hk1, hp1⟩ := lpick a ha st.trees.length (by omega) (by omega)
  obtain ⟨k2, hk2, hp2⟩ := lpick b hb st.trees.length (by omega) (by omega)
  have d0 : wb.cell? ⟨W0, 1, none⟩ = some (.slice (some ⟨g, 0, none⟩) st.trees.length bc) := by rw [← hvb]; exact cell_row hIb.blk rfl
  have htr : ∀ k (hk : k < st.trees.length), ∃ va vc fs, wb.cell? ⟨g, k, none⟩ = some (.slice va fs.length vc) ∧ Fl wb (.slice va fs.length vc) fs ∧ fs.length ≤ 70000 ∧ ∀ p ∈ fs, p.1.size ≤ 70000 ∧ p.2.size ≤ 70000 := by
    intro k hk
    obtain ⟨hF, hl, hz, _⟩ := hIb.trees _ (List.getElem_mem hk)
    have h9 := hIb.rt.1.cells (g := g) (by rw [hvb]; rfl) k st.trees[k].1 (by simp [hk])
    rw [add_at] at h9
    have hF' := hF
    obtain ⟨va, vc, hv, _⟩ := hF
    rw [hv] at h9 hF'
    exact ⟨va, vc, st.trees[k].2, h9, hF', by omega, fun p hp => by have := hz p hp; omega⟩
  obtain ⟨va1, vc1, fs1, t1, hF1, hl1, hz1⟩ := htr k1 hk1
  obtain ⟨va2, vc2, fs2, t2, hF2, hl2, hz2⟩ := htr k2 hk2
  have hW5 : W0 < wb.heap.size := hIb.lt
  have HRC : Hid (∀ W, Below wb.heap.size wb W → Calls Tryz.prog 19 #[.slice va1 fs1.length vc1, .slice va2 fs2.length vc2, .int .i64 c] W fun e w' => e = .returned (.bool true) ∧ Below W.heap.size W w') := fun W hbW => recorded_any _ _ fs1 fs2 c hcb.1 hcb.2 W (heb.keep hbW) hl1 hl2 hz1 hz2 (hF1.below hbW) (hF2.below hbW)
  have HT1 : Hid (∀ W, Below wb.heap.size wb W → Calls Tryz.prog 20 #[.slice va1 fs1.length vc1] W fun e w' => ∃ (ok : Bool) (nm : ByteArray), e = .returned (.tuple #[.bool ok, .string nm]) ∧ (ok = true → TreeOk fs1) ∧ Below W.heap.size W w') := fun W hbW => rtree_two _ fs1 W hl1 hz1 (hF1.below hbW)
  have HT2 : Hid (∀ W, Below wb.heap.size wb W → Calls Tryz.prog 20 #[.slice va2 fs2.length vc2] W fun e w' => ∃ (ok : Bool) (nm : ByteArray), e = .returned (.tuple #[.bool ok, .string nm]) ∧ (ok = true → TreeOk fs2) ∧ Below W.heap.size W w') := fun W hbW => rtree_two _ fs2 W hl2 hz2 (hF2.below hbW)
  have HRR : Hid (∀ W, Below wb.heap.size wb W → TreeOk fs1 → TreeOk fs2 → 1 ≤ c → c ≤ 64 → Calls Tryz.prog 21 #[.slice va1 fs1.length vc1, .slice va2 fs2.length vc2, .int .i64 c] W fun e w' => ∃ t : ByteArray, e = .returned (.string t) ∧ t.size ≤ 70000 ∧ Below W.heap.size W w') := by
    intro W hbW ht1 ht2 hc1 hc2
    obtain ⟨B, rfl⟩ : ∃ B : Nat, c = B := ⟨c.toNat, by omega⟩
    refine (rrecord_any _ _ fs1 fs2 B W (by omega) (by omega) ht1.len ht2.len ht1.sizes ht2.sizes (hF1.below hbW) (hF2.below hbW)).mono ?_
    rintro e w' ⟨rfl, hb'⟩
    exact ⟨_, rfl, by rw [bytesOf_size]; exact record_len (by omega) ht1 ht2, hb'⟩
  have HP1 := hide hp1
  have HP2 := hide hp2
  have HI := hide hIb
  have HVB := hide hvb
  have HWB := hide hWB
  rw [hob] at HWB
  have hnz : 0 < (st.trees.length : Int) := by omega
  clear hI hIb hvb hWB hob hp1 hp2 ha hb hc hF1 hF2 hz1 hz2 htr he heb hba
  go_enter Tryz.func10, Tryz.ntmps10
  go_upto_region 19 with fail
  rw [HWB.out]
  go_upto_region 20 with fail
  go_cut [11] (fun v11 wc => v11 = .slice va1 fs1.length vc1 ∧ Hid (Below wb.heap.size wb wc))
  case first =>
    go_wp2_with fail
    go_region_held3 (fun w' => w'.cell? ⟨W0, 1, none⟩ = some (.slice (some ⟨g, 0, none⟩) st.trees.length bc) ∧ w'.cell? ⟨w.heap.size, 1, none⟩ = some (.int .i64 a) ∧ w'.cell? ⟨g, k1, none⟩ = some (.slice va1 fs1.length vc1))
      (first | exact ⟨d0, d1, t1⟩ | exact ⟨by go_keep, by go_keep, by go_keep⟩)
      ((go_at_call 12; refine (HP1.out _).mono ?_; rintro e w2 ⟨rfl, hw2⟩; obtain rfl := hw2.symm))
    go_wp2_with fail
    go_meet
    exact ⟨rfl, (Below.refl wb.heap.size wb).drew⟩
  case rest =>
    obtain ⟨rfl, HBc⟩ := hcut
    have e0 := (HBc.out.cell (p := ⟨W0, 1, none⟩) hW5).trans d0
    have e2 := (HBc.out.cell (p := ⟨w.heap.size, 2, none⟩) hbw).trans d2
    have e3 := (HBc.out.cell (p := ⟨w.heap.size, 3, none⟩) hbw).trans d3
    have s2 := (HBc.out.cell (p := ⟨g, k2, none⟩) hglt).trans t2
    have HD3 := hide d3
    clear d0 d1 d2 d3 t1 t2 HP1
    go_upto_region 21 with fail
    go_cut [12] (fun v12 wd => v12 = .slice va2 fs2.length vc2 ∧ Hid (Below wb.heap.size wb wd) ∧ wd.cell? ⟨w.heap.size, 3, none⟩ = some (.int .i64 c))
    case first =>
      go_wp2_with fail
      go_region_held3 (fun w' => w'.cell? ⟨W0, 1, none⟩ = some (.slice (some ⟨g, 0, none⟩) st.trees.length bc) ∧ w'.cell? ⟨w.heap.size, 2, none⟩ = some (.int .i64 b) ∧ w'.cell? ⟨g, k2, none⟩ = some (.slice va2 fs2.length vc2))
        (first | exact ⟨e0, e2, s2⟩ | exact ⟨by go_keep, by go_keep, by go_keep⟩)
        ((go_at_call 12; refine (HP2.out _).mono ?_; rintro e w2 ⟨rfl, hw2⟩; obtain rfl := hw2.symm))
      go_wp2_with fail
      go_meet
      exact ⟨rfl, HBc.out.drew, e3⟩
    case rest =>
      obtain ⟨rfl, HBd, f3⟩ := hcut
      clear HBc e0 e2 e3 s2 HP2
      go_wp2_with fail
      refine (HRC.out _ HBd.out).mono ?_
      rintro e w3 ⟨rfl, hb3⟩
      have HB3 : Hid (Below wb.heap.size wb w3) := below_all HBd.out hb3
      clear hb3 HBd f3 HRC
      go_wp2_with fail
      refine (HT1.out _ HB3.out).mono ?_
      rintro e w4 ⟨ok1, nm1, rfl, ht1, hb4⟩
      have HB4 : Hid (Below wb.heap.size wb w4) := below_all HB3.out hb4
      have HK1 := hide ht1
      clear hb4 HB3 HT1 ht1
      go_wp2_with fail
      refine (HT2.out _ HB4.out).mono ?_
      rintro e w5 ⟨ok2, nm2, rfl, ht2, hb5⟩
      have HB5 : Hid (Below wb.heap.size wb w5) := below_all HB4.out hb5
      have HK2 := hide ht2
      have f5 : w5.cell? ⟨w.heap.size, 3, none⟩ = some (.int .i64 c) := (HB5.out.cell (p := ⟨w.heap.size, 3, none⟩) hbw).trans HD3.out
      have HEND : Hid (∃ ρ' s', Inv wz w5 B0 W0 (K + 1) O ρ' s') := ⟨_, _, HI.out.keep (Nat.le_succ K) (Nat.le_refl O) (below_keeps HB5.out _)⟩
      clear hb5 HB4 HT2 ht2
      cases ok1 with
      | false =>
        go_wp2_with fail
        go_ret2
        exact ⟨rfl, HEND.out⟩
      | true =>
        cases ok2 with
        | false =>
          go_wp2_with fail
          go_ret2
          exact ⟨rfl, HEND.out⟩
        | true =>
          by_cases hc1 : 1 ≤ c
          · by_cases hc2 : c ≤ 64
            · have HRE := hide (HRR.out w5 HB5.out (HK1.out rfl) (HK2.out rfl) hc1 hc2)
              clear HRR HK1 HK2 HEND
              go_wp2_with fail
              refine HRE.out.mono ?_
              rintro e w6 ⟨t9, rfl, ht9, hb6⟩
              have HT9 := hide ht9
              have HB6 : Hid (Below wb.heap.size wb w6) := below_all HB5.out hb6
              have hIc := HI.out.keep (Nat.le_refl K) (Nat.le_refl O) (below_keeps HB6.out _)
              have HIc := hide hIc
              obtain ⟨ba, bd, hvs⟩ := row_len hIc.rb.1
              have hrow : w6.ownsRow B0 9 1 (.slice ba st.batches.length bd) st.batches.length (st.batches.map .string) := by
                have h9 := hIc.rb.1
                rw [hvs] at h9
                exact h9
              have HROW := hide hrow
              have HVS := hide hvs
              have e0 : w6.cell? ⟨W0, 2, none⟩ = some (.slice ba st.batches.length bd) := by rw [← hvs]; exact cell_row hIc.blk rfl
              have hbb : B0 ≤ w6.heap.size := hIc.b0
              have hkb : st.batches.length ≤ K := hIc.kb
              clear hIc hrow HI ht9 hb6 HB6 HB5 HRE HD3 f5 hvs HWB
              go_wp2_with (at_builtin; refine wpList_append_own_at _ rfl (.tmp 185) (.tmp 187) 29 rfl B0 9 i0 (.string ⟨#[]⟩) 1 16 Tryz.underlying29 hi z0 z1 z2 rfl (by decide) _ st.batches.length (st.batches.map .string) rfl (HROW.out.alloc _) ⟨w6.heap.size, 0, none⟩ 1 1 [.string t9] rfl rfl ?ka ?kb ?kc ?kd ?ke ?kf)
              case ka =>
                intro j x hj
                match j, hj with
                | 0, hj => simp at hj; subst hj; simp [Addr.add]
              case kb => intro x hx; simp at hx; subst hx; rfl
              case kc => unfold maxLen; omega
              case kd => omega
              case ke => simp; omega
              case kf =>
                intro v' w7 hown6 hgrow6 hv6 hloc6
                obtain ⟨g6, c6, rfl, hglt6⟩ := row_some hown6
                have hg6 : w6.grownBy w7 st.vb.ownBlock := by
                  rw [HVS.out]
                  exact (World.grownBy_alloc w6 _ _).trans hgrow6
                have hat : st.vb.ownBlock = some g6 ∨ w6.heap.size ≤ g6 := by
                  rw [HVS.out]
                  rcases hloc6 with h9 | h9
                  · exact .inl (h9 ▸ rfl)
                  · right
                    have h10 : g6 = w6.heap.size + 1 := by simpa [Value.ownBlock] using h9
                    omega
                have hblk6 := HIc.out.blk3 (q := 4) (by omega) hg6 HIc.out.rb.2
                have HI6 := hide (HIc.out.pushBatch t9 hown6 hg6 hat hglt6 HT9.out)
                have x0 : w7.cell? ⟨W0, 2, none⟩ = some (.slice ba st.batches.length bd) := by rw [← HVS.out]; exact cell_row hblk6 rfl
                have x1 : w7.frozen? ⟨W0, 2, none⟩ = false := frozen_of_row _ _ _ _ _ hblk6
                clear hown6 hgrow6 hv6 hloc6 hat hblk6 hg6 e0 HROW
                go_wp2_with fail
                go_ret2
                exact ⟨rfl, _, _, HI6.out⟩
            · go_wp2_with fail
              go_ret2
              exact ⟨rfl, HEND.out⟩
          · go_wp2_with fail
            go_ret2
            exact ⟨rfl, HEND.out⟩
end Go.Proofs.YtbhccdedcoajmaaGreatDoor
namespace Go.Proofs.YtbhccdedcoajmaaGreatDoor
open Go.RowKit

/-- blocks of a role that no list, tree or mirror has -/
theorem Inv.tmp {w w' : World} {wz : World} {B0 W0 K O : Nat} {ρ ρ' : Nat → Nat} {s : St} (h : Inv wz w B0 W0 K O ρ s) (q : Nat) (hq : 2 * s.ms.length + 7 ≤ q) (hk : Keeps (fun k => ρ k = q) w w') (he : ∀ k, k < w.heap.size → ρ k ≠ q → ρ' k = ρ k) (hot : ∀ k, ρ' k ≠ 0 → B0 ≤ k ∧ k < w'.heap.size) : Inv wz w' B0 W0 K O ρ' s := by
  have hr := h.rest (ρ' := ρ') (fun x => x = q) (by omega) hk (fun k h1 h2 => he k h1 (by rcases h2 with h2 | h2 <;> omega)) hot
  exact ⟨(hk.block W0 h.lt (by have := h.r0; omega)).trans h.blk, hr.b0, hr.fr, hr.r0, hr.hot, hr.rn (by omega), hr.rt (by omega), hr.rb (by omega), hr.rm (by omega), hr.ro (by omega), hr.trees, fun i hi => hr.ms i hi (by omega) (by omega), hr.mf, hr.out, h.kn, h.nz, h.kt, h.kb, h.bz, h.km, h.ko⟩
/-- the files that came out, while the caller writes into them: those from k on are still whole -/
structure LR (w : World) (ρ : Nat → Nat) (q lg c : Nat) (ps : List (ByteArray × ByteArray × Value)) (k : Nat) : Prop where
  row : ∃ cs : Array Value, w.heap[lg]? = some (.cells cs 69 (0, 0)) ∧ cs.size = c * 2 ∧ ∀ i (hi : i < ps.length), cs[i * 2 + 1]? = some ps[i].2.2
  rg : ρ lg = q
  data : ∀ i (hi : i < ps.length), k ≤ i → ps[i].2.2 = .slice none 0 0 ∨ ∃ b n cp, ∃ ds : Array Value, ps[i].2.2 = .slice (some ⟨b, 0, none⟩) n cp ∧ cp ≤ 9223372036854775807 ∧ w.heap[b]? = some (.cells ds 5 (0, 0)) ∧ ds.size = cp ∧ ρ b = q ∧ b ≠ lg
  apart : ps.Pairwise fun p q => ∀ g g', p.2.2.ownBlock = some g → q.2.2.ownBlock = some g' → g < g'
theorem LR.lt {w : World} {ρ : Nat → Nat} {q lg c : Nat} {ps : List (ByteArray × ByteArray × Value)} {k : Nat} (h : LR w ρ q lg c ps k) : lg < w.heap.size := by
  obtain ⟨cs, h1, _⟩ := h.row
  exact (Array.getElem?_eq_some_iff.1 h1).1
theorem LR.keeps {S : Nat → Prop} {w w' : World} {ρ ρ' : Nat → Nat} {q lg c : Nat} {ps : List (ByteArray × ByteArray × Value)} {k : Nat} (h : LR w ρ q lg c ps k) (hk : Keeps S w w') (hS : ∀ j, S j → ρ j ≠ q) (he : ∀ j, j < w.heap.size → ρ j = q → ρ' j = q) : LR w' ρ' q lg c ps k := by
  have hlt := h.lt
  obtain ⟨⟨cs, h1, h2, h3⟩, hr, hd, ha⟩ := h
  refine ⟨⟨cs, (hk.block lg hlt (fun h' => hS lg h' hr)).trans h1, h2, h3⟩, he lg hlt hr, fun i hi hki => ?_, ha⟩
  rcases hd i hi hki with e | ⟨b, n, cp, ds, e, e1, e2, e3, e4, e5⟩
  · exact .inl e
  · have hb := (Array.getElem?_eq_some_iff.1 e2).1
    exact .inr ⟨b, n, cp, ds, e, e1, (hk.block b hb (fun h' => hS b h' e4)).trans e2, e3, he b hb e4, e5⟩
theorem pair_lt {ps : List (ByteArray × ByteArray × Value)} (h : ps.Pairwise fun p q => ∀ g g', p.2.2.ownBlock = some g → q.2.2.ownBlock = some g' → g < g') {i j : Nat} (hij : i < j) (hj : j < ps.length) {g g' : Nat} (h1 : (ps[i]'(by omega)).2.2.ownBlock = some g) (h2 : ps[j].2.2.ownBlock = some g') : g < g' :=
  (List.pairwise_iff_getElem.1 h) i j (by omega) hj hij g g' h1 h2
theorem spoil_one {w : World} {wz : World} {B0 W0 K O : Nat} {ρ : Nat → Nat} {s : St} (h : Inv wz w B0 W0 K O ρ s) {q lg c : Nat} (hq : 2 * s.ms.length + 7 ≤ q) {ps : List (ByteArray × ByteArray × Value)} {k : Nat} (hk : k < ps.length) (hL : LR w ρ q lg c ps k) :
    Calls Tryz.prog 26 #[ps[k].2.2] w fun e w' => e = .returned (.tuple #[]) ∧ ∃ ρ', Inv wz w' B0 W0 K O ρ' s ∧ OutOk w' ρ' ps[k].2.2 ∧ LR w' ρ' q lg c ps (k + 1) := by
  rcases hL.data k hk (Nat.le_refl _) with e | ⟨b, n, cp, ds, e, e1, e2, e3, e4, e5⟩
  · rw [e]
    refine (spoilt_nil w).mono ?_
    rintro _ w' ⟨rfl, rfl⟩
    exact ⟨rfl, ρ, h, .inl rfl, hL.row, hL.rg, fun i hi hki => hL.data i hi (by omega), hL.apart⟩
  · rw [e]
    refine (spoilt_all b n cp ds w e2 e3 e1).mono ?_
    rintro _ w' ⟨rfl, hg, h99⟩
    have hkb : Keeps (fun j => j = b) w w' := grown_keeps hg (fun k e => by simpa using e.symm)
    have hblt : b < w.heap.size := (Array.getElem?_eq_some_iff.1 e2).1
    have hne : ∀ j, j ≠ b → rhoAt ρ b 0 j = ρ j := fun j hj => by simp [rhoAt, hj]
    refine ⟨rfl, rhoAt ρ b 0, ?_, ?_, ?_⟩
    · refine h.tmp q hq (hkb.mono (fun j _ e => by rw [e]; exact e4)) (fun j hj h1 => hne j (fun e => by rw [e] at h1; exact h1 e4)) ?_
      intro j hj
      by_cases e : j = b
      · subst e; simp [rhoAt] at hj
      · rw [hne j e] at hj
        exact ⟨(h.hot j hj).1, Nat.lt_of_lt_of_le (h.hot j hj).2 hkb.size⟩
    · exact .inr ⟨b, n, cp, rfl, e1, Nat.lt_of_lt_of_le hblt hkb.size, by simp [rhoAt], h99⟩
    · obtain ⟨cs, h1, h2, h3⟩ := hL.row
      refine ⟨⟨cs, (hkb.block lg hL.lt (Ne.symm e5)).trans h1, h2, h3⟩, by rw [hne lg (Ne.symm e5)]; exact hL.rg, fun i hi hki => ?_, hL.apart⟩
      rcases hL.data i hi (by omega) with d | ⟨b', n', cp', ds', d, d1, d2, d3, d4, d5⟩
      · exact .inl d
      · have hbb : b < b' := pair_lt hL.apart (i := k) (j := i) (by omega) hi (by rw [e]; rfl) (by rw [d]; rfl)
        exact .inr ⟨b', n', cp', ds', d, d1, (hkb.block b' (Array.getElem?_eq_some_iff.1 d2).1 (by omega)).trans d2, d3, by rw [hne b' (by omega)]; exact d4, d5⟩
theorem LR.of_row {w : World} {ρ : Nat → Nat} {q lg c base : Nat} {ps : List (ByteArray × ByteArray × Value)} (h : FileRow w base (.slice (some ⟨lg, 0, none⟩) ps.length c) ps) (hρ : ∀ j, base ≤ j → j < w.heap.size → ρ j = q) : LR w ρ q lg c ps 0 := by
  rcases h.row.2 with ⟨h0, _⟩ | ⟨g, cap, cur, e, hb, hg, h1, _, h3, h4⟩
  · cases h0
  · obtain ⟨rfl, rfl⟩ : lg = g ∧ c = cap := by simpa using e
    refine ⟨⟨cur, hg, h3, fun i hi => ?_⟩, hρ lg hb (Array.getElem?_eq_some_iff.1 hg).1, fun i hi _ => ?_, h.apart⟩
    · have a2 := (fcells_at ps i hi).2
      rw [← h4] at a2
      have e2 : i * 2 + 1 < ps.length * 2 := by omega
      rw [List.getElem?_take_of_lt e2] at a2
      simpa using a2
    · rcases (h.data _ (List.getElem_mem hi)).2 with ⟨d, _⟩ | ⟨b, cp, ds, d, d1, d2, _, d4, d5, _⟩
      · exact .inl d
      · have hlt := (Array.getElem?_eq_some_iff.1 d2).1
        refine .inr ⟨b, _, cp, ds, d, by simpa [maxLen] using d4, d2, by rw [d5, Nat.mul_one], hρ b d1 hlt, fun e => ?_⟩
        exact h.off _ (List.getElem_mem hi) b (by rw [d]; rfl) (by rw [e]; rfl)
theorem conv_row {w : World} {base : Nat} {u : Value} {d : ByteArray} (h : w.ownsRow base 5 1 u (nums d).length (u8s (nums d))) : (convert 38 9 u).run Tryz.prog w = .ok (.string d) w := by
  have h9 := conv_own (nums_bytes d) h
  rw [show bytesOf (nums d) = d from nums_inj (nums_bytesOf (nums_bytes d))] at h9
  exact h9
end Go.Proofs.YtbhccdedcoajmaaGreatDoor
