import Derived.Test.YtbhccdedcoajmaaGreatDoorPBatchM
import Derived.Test.YtbhccdedcoajmaaGreatDoorPReadBM
import Derived.Test.YtbhccdedcoajmaaGreatDoorRAlikeM
namespace Go.Proofs.YtbhccdedcoajmaaGreatDoor
open Go.RowKit

set_option maxRecDepth 10000 in
set_option maxHeartbeats 400000 in
/-- the end of a batch, read by the program: any bytes -/
theorem pend_any (r b cap p : Nat) (s : ByteArray) (ok : Bool) (w : World) (hs : s.size ≤ 70000) (hcap : s.size ≤ cap) (h0 : 0 < cap) (hp : p ≤ s.size) (hR : PRd w r b cap s p ok) (hbr : b ≠ r) (hb : b < w.heap.size) (hc : ∀ k (h : k < (nums s).length), w.cell? ⟨b, 0 + k, none⟩ = some (.int .u8 (nums s)[k])) :
    Calls Tryz.prog 156 #[.pointer (some ⟨r, 0, none⟩)] w fun e w' => e = .returned (.tuple #[]) ∧ (∃ p' ok', PRd w' r b cap s p' ok' ∧ (ok' = true → ok = true ∧ EndOk s p)) ∧ w.grownBy w' (some r) := by
  have HR := hide hR
  obtain ⟨ev, hev, c0, c1, c2, hf⟩ := hR.open
  have hsl := slice_to b s.size cap p h0 (by omega)
  have hl : ((nums s).take p).length = p := by rw [List.length_take, nums_length]; omega
  have HD : Hid (∀ q, Calls Tryz.prog 124 #[.slice (some ⟨b, 0, none⟩) p cap] (w.drewN q) fun e w' => e = .returned (.int .u64 (digestOf ((nums s).take p))) ∧ w' = w.drewN q) := by
    intro q
    have := digest_any b 0 cap ((nums s).take p) (w.drewN q) (by omega) ((nums_bytes s).take p) (fun k h => by
      rw [hl] at h
      rw [List.getElem_take]
      exact (cells_below hc (below_drewN (Below.refl _ _) q)) k (by rw [nums_length]; omega))
    rw [hl] at this
    exact this
  have HC := hide hc
  clear hR hc hl c2 hf hev
  obtain ⟨D, hDD⟩ : ∃ D, D = digestOf ((nums s).take p) := ⟨_, rfl⟩
  rw [← hDD] at HD
  have HDG := hide hDD
  clear hDD
  go_enter Tryz.func156, Tryz.ntmps156
  go_wp2_with fail
  go_quiet ((go_at_call 124; refine Calls.quiet_of_same (HD.out _)))
  have HR1 : Hid (PRd (w.drewN nq) r b cap s p ok) := HR.out.below (below_drewN (Below.refl _ _) nq)
  have HG1 : Hid (w.grownBy (w.drewN nq) (some r)) := grown_drewN (grown_refl _ _) nq
  clear c0 c1 hsl HD
  generalize w.drewN nq = w1 at *
  have hb1 : b < w1.heap.size := Nat.lt_of_lt_of_le hb HG1.out.size
  have HWI := hide (pwide_any r b cap p 8 s ok w1 hs hcap hp (by omega) HR1.out hbr hb1 (cells_grow hbr HG1.out HC.out))
  go_wp2_with fail
  refine HWI.out.mono ?_
  rintro e w2 ⟨v, rfl, p2, ok2, hR2, hS2, hv2, _, _, _, hg2⟩
  have HR2 := hide hR2
  have HG2 := hide (HG1.out.trans hg2)
  have HS2 := hide hS2
  have HV2 := hide hv2
  clear hR2 hS2 hv2 hg2 HWI
  go_wp2_with fail
  refine (pmust_any r b cap p2 s _ ok2 _ w2 HR2.out).mono ?_
  rintro e w3 ⟨rfl, hR3, hg3⟩
  generalize hok3 : (ok2 && _) = ok3 at hR3
  have HOK3 := hide hok3
  clear hok3
  obtain ⟨ev, hev, k0, k1, k2, kf⟩ := hR3.open
  have HR3 := hide hR3
  have HG3 := hide (HG2.out.trans hg3)
  have HMU : Hid (∀ holds what, Calls Tryz.prog 151 #[.pointer (some ⟨r, 0, none⟩), .bool holds, .string what] w3.drew fun e w' => e = .returned (.tuple #[]) ∧ PRd w' r b cap s p2 (ok3 && holds) ∧ w3.grownBy w' (some r)) := by
    intro holds what
    refine (pmust_any r b cap p2 s what ok3 holds w3.drew (HR3.out.below (Below.refl _ _).drew)).mono ?_
    rintro e w' ⟨rfl, h1, h2⟩
    exact ⟨rfl, h1, (grown_of_below (Below.refl _ _).drew).trans h2⟩
  clear hR3 hg3 k2 kf hev
  go_wp2_with fail
  go_region_held3 (fun w' => w'.cell? ⟨r, 0, none⟩ = some (.slice (some ⟨b, 0, none⟩) s.size cap) ∧ w'.cell? ⟨r, 1, none⟩ = some (.int .i64 p2))
    (first | exact ⟨k0, k1⟩ | exact ⟨m0, m1⟩)
    ((go_at_call 151; refine (HMU.out (decide ((p2 : Int) = (s.size : Int))) _).mono ?_; rintro e w4 ⟨rfl, hR4, hg4⟩; obtain ⟨ev4, hev4, m0, m1, m2, mf⟩ := hR4.open))
  have HF : Hid (PRd w4 r b cap s p2 (ok3 && decide ((p2 : Int) = (s.size : Int))) ∧ w.grownBy w4 (some r)) := ⟨hR4, HG3.out.trans hg4⟩
  clear hR4 hg4 m0 m1 m2 mf hev4
  go_wp2_with fail
  go_end0
  refine ⟨rfl, ⟨_, _, HF.out.1, fun h => ?_⟩, HF.out.2⟩
  rw [Bool.and_eq_true, decide_eq_true_eq] at h
  have h3 := HOK3.out
  rw [h.1, Bool.and_eq_true] at h3
  rcases HS2.out with ⟨e1, e2, e3, e4⟩ | ⟨e1, _⟩
  · refine ⟨e1, by omega, ?_⟩
    rw [← HV2.out e4, ← HDG.out]
    simpa using h3.2
  · rw [e1] at h3; cases h3.1
end Go.Proofs.YtbhccdedcoajmaaGreatDoor
namespace Go.Proofs.YtbhccdedcoajmaaGreatDoor
open Go.RowKit

/-- bytes whose parts are those of a batch are one -/
theorem parts_read {s : ByteArray} {bl : Nat} {bs : List EntL} {ts : List (EntL × List Tok)} {p6 p7 : Nat} (h4 : 4 ≤ s.size) (hhead : (nums s).take 3 = [66, 65, 84]) (hbl : (bl : Int) = getN (((nums s).drop 3).take 1)) (h1 : 1 ≤ bl) (h2 : bl ≤ 64)
    (hb : ((filesP ((nums s).drop 4)).bind fun q => basisP q.1 false [] q.2) = some (bs, (nums s).drop p6)) (ht : ((filesP ((nums s).drop p6)).bind fun q => targetsP bs bl q.1 false [] q.2) = some (ts, (nums s).drop p7)) (hE : EndOk s p7) :
    readL (nums s) = some ⟨bl, bs, ts⟩ := by
  have hl := nums_length s
  unfold filesP at hb ht
  simp only [Option.bind_eq_some_iff] at hb ht
  obtain ⟨q, ⟨q1, e1, e2⟩, e3⟩ := hb
  obtain ⟨u, ⟨u1, f1, f2⟩, f3⟩ := ht
  split at e2
  · rename_i hq
    cases e2
    split at f2
    · rename_i hu
      cases f2
      unfold readL
      have g0 : txtP 3 (nums s) = some ((nums s).take 3, (nums s).drop 3) := by
        have := txt_at (s := s) (q := 0) (n := 3) (by omega)
        rwa [List.drop_zero] at this
      have g1 : numP 1 ((nums s).drop 3) = some ((bl : Int), (nums s).drop 4) := by
        rw [num_at (by omega), ← hbl]
      have g8 : numP 8 ((nums s).drop p7) = some (getN (((nums s).drop p7).take 8), (nums s).drop (p7 + 8)) := num_at (by have := hE.1; omega)
      have g9 : (nums s).drop (p7 + 8) = [] := by rw [List.drop_eq_nil_iff]; have := hE.1; omega
      have g10 : (nums s).length - ((nums s).drop p7).length = p7 := by rw [List.length_drop]; have := hE.1; omega
      rw [g0]
      simp only [Option.bind_eq_bind, Option.bind_some]
      rw [if_pos hhead, g1]
      simp only [Option.bind_some]
      rw [if_pos ⟨by omega, by omega⟩, e1]
      simp only [Option.bind_some]
      rw [if_pos hq, basis_first, e3]
      simp only [Option.bind_some]
      rw [f1]
      simp only [Option.bind_some, Int.toNat_natCast]
      rw [if_pos hu, targets_first, f3]
      simp only [Option.bind_some]
      rw [g8]
      simp only [Option.bind_some]
      rw [g10, if_pos ⟨g9, hE.2⟩]
    · cases f2
  · cases e2

set_option maxRecDepth 10000 in
set_option maxHeartbeats 600000 in
/-- bytes that are no batch, read by the program: there is a fault -/
theorem pbatch_bad (r b cap : Nat) (s : ByteArray) (w : World) (hs : s.size ≤ 70000) (hcap : s.size ≤ cap) (h0 : 0 < cap) (hR : PRd w r b cap s 0 true) (hbr : b ≠ r) (hb : b < w.heap.size) (hc : ∀ k (h : k < (nums s).length), w.cell? ⟨b, 0 + k, none⟩ = some (.int .u8 (nums s)[k])) (hread : readL (nums s) = none) :
    Calls Tryz.prog 132 #[.pointer (some ⟨r, 0, none⟩)] w fun e w' => ∃ bl ba bn bc ta tn tc p', e = .returned (.agg #[.int .i64 bl, .slice ba bn bc, .slice ta tn tc]) ∧ PRd w' r b cap s p' false ∧ w.grownBy w' (some r) := by
  have hlr := hR.lt
  have HA : Hid (∀ o, Below w.heap.size w (w.alloc o)) := fun o => (Below.refl _ _).alloc (Nat.le_refl _) o
  have HR0 : Hid (∀ o, PRd (w.alloc o) r b cap s 0 true) := fun o => hR.below (HA.out o)
  have HC := hide hc
  have HG0 : Hid (∀ o, w.grownBy (w.alloc o) (some r)) := fun o => World.grownBy_alloc w _ _
  have HREAD := hide hread
  clear hR hc hread
  go_enter Tryz.func132, Tryz.ntmps132
  go_wp2_with fail
  refine (ptake_any r b cap 0 3 s true _ hs hcap (by omega) (by omega) (HR0.out _)).mono ?_
  rintro e w1 ⟨va, m, p1, ok1, rfl, hR1, hS1, hyes, hno, hg1⟩
  have hp1 := hS1.le (Nat.zero_le _)
  have HG1 : Hid (w.grownBy w1 (some r)) := (HG0.out _).trans hg1
  have HGR : Hid (∀ W, w1.grownBy W (some r) → W.heap[w.heap.size]? = some (.cells #[.int .i64 0, .slice none 0 0, .slice none 0 0] 110 (0, 0))) := by
    intro W hW
    have hgall := hg1.trans hW
    rw [hgall.block _ (by simp) (by simp; omega)]
    exact heap_alloc_new _ _
  have hw1 : w.heap.size + 1 ≤ w1.heap.size := by have := hg1.size; simpa using this
  obtain ⟨t, hcv, _, hnt⟩ := conv_take (s := s) (b := b) (p := 0) (n := 3) (W := w1) (fun h => by rcases hS1 with ⟨_, h2, _⟩ | ⟨h2, _⟩; exact h2; rw [h] at h2; cases h2) hyes hno (cells_plain (cells_grow hbr HG1.out HC.out))
  have HR1 := hide hR1
  have HS1 := hide hS1
  have HT := hide hnt
  clear hR1 hS1 hyes hno hg1 hnt
  go_wp2_with fail
  clear hcv
  refine (pmust_any r b cap p1 s _ ok1 _ w1 HR1.out).mono ?_
  rintro e w2 ⟨rfl, hR2, hg2⟩
  generalize hok2 : (ok1 && _) = ok2 at hR2
  have HOK2 : Hid (ok2 = true → ok1 = true ∧ t = ⟨#[66, 65, 84]⟩) := by
    intro h
    rw [h, Bool.and_eq_true] at hok2
    refine ⟨hok2.1, ?_⟩
    have := hok2.2
    rw [Lib.toList_data, beq_iff_eq] at this
    exact nums_inj (by unfold nums; rw [this])
  clear hok2
  have HR2 := hide hR2
  have HG2 := hide hg2
  have HG2w : Hid (w.grownBy w2 (some r)) := HG1.out.trans hg2
  clear hR2 hg2
  have HNU := hide (pnumber_any r b cap p1 1 s ok2 w2 hs hcap hp1 (by omega) HR2.out hbr (Nat.lt_of_lt_of_le hb HG2w.out.size) (cells_grow hbr HG2w.out HC.out))
  go_wp2_with fail
  refine HNU.out.mono ?_
  rintro e w3 ⟨v, rfl, _, _, p3, ok3, hR3, hS3, hv3, _, _, _, hg3⟩
  have hp3 := hS3.le hp1
  have HR3 := hide hR3
  have HS3 := hide hS3
  have HV3 := hide hv3
  have HG3 := hide (HG2.out.trans hg3)
  have HG3w : Hid (w.grownBy w3 (some r)) := HG2w.out.trans hg3
  clear hR3 hS3 hv3 hg3 HNU
  obtain ⟨x, HX⟩ : ∃ x, Hid ((x = .nilIface ∧ 1 ≤ v ∧ v ≤ 64 ∨ x = .iface 50 (.int .i64 1)) ∧ ∀ W, Calls Tryz.prog 143 #[.int .i64 v] W fun e w' => e = .returned x ∧ w' = W) := by
    by_cases h : 1 ≤ v ∧ v ≤ 64
    · exact ⟨_, .inl ⟨rfl, h⟩, fun W => checkBlock_ok (v : Int) (by omega) (by omega) W⟩
    · exact ⟨_, .inr rfl, fun W => checkBlock_bad (v : Int) (by omega) W⟩
  go_wp2_with fail
  refine (HX.out.2 _).mono ?_
  rintro e w4 ⟨rfl, hw4⟩
  obtain rfl := hw4.symm
  have hx := HX.out.1
  clear HX
  rcases hx with ⟨rfl, hv1, hv2⟩ | rfl
  all_goals
    go_wp2_with fail
    refine (pmust_any r b cap p3 s _ ok3 _ w3 HR3.out).mono ?_
    rintro e w5 ⟨rfl, hR5, hg5⟩
    obtain ⟨ok5, HR5, HOK5⟩ : ∃ ok5, Hid (PRd w5 r b cap s p3 ok5) ∧ Hid (ok5 = true → ok3 = true ∧ 1 ≤ v ∧ v ≤ 64) := ⟨_, hR5, fun h => by
      first
      | (rw [Bool.and_false] at h; cases h)
      | exact ⟨by rwa [Bool.and_true] at h, hv1, hv2⟩⟩
    have HG5 := hide (HG3.out.trans hg5)
    have HG5w : Hid (w.grownBy w5 (some r)) := HG3w.out.trans hg5
    clear hR5 hg5
    have HBA := hide (pbasis_any r b cap p3 s ok5 w5 hs hcap hp3 HR5.out hbr (Nat.lt_of_lt_of_le hb HG5w.out.size) (cells_grow hbr HG5w.out HC.out))
    go_wp2_with fail
    refine HBA.out.mono ?_
    rintro e w6 ⟨bv, rfl, p6, ok6, es, hR6, hp6, hel, ho6, hyes6, _, hg6⟩
    have HR6 := hide hR6
    have HY6 := hide hyes6
    have HG6 := hide (HG5.out.trans hg6)
    have HG6w : Hid (w.grownBy w6 (some r)) := HG5w.out.trans hg6
    have hw5 : w1.heap.size ≤ w5.heap.size := HG5.out.size
    have HO6 : Hid (w6.ownsRow (w.heap.size + 1) 115 3 bv es.length (entCells es)) := ownsRow_base ho6 (by omega)
    have HFAC : Hid (ok6 = true → (∀ e ∈ es, e.2.1 ≤ 300) ∧ (es.Pairwise fun a b => nums a.1 ≠ nums b.1) ∧ 1 ≤ v ∧ v ≤ 64) := by
      intro hok
      obtain ⟨h5, h1⟩ := HY6.out hok
      simp only [Option.bind_eq_some_iff] at h1
      obtain ⟨q, _, h1⟩ := h1
      have h2 := basis_facts _ _ _ _ _ h1
      refine ⟨fun e he => ?_, ?_, (HOK5.out h5).2⟩
      · have := (h2.1 (entV e) (List.mem_map_of_mem he)).1
        have e1 : (entV e).size = ((e.2.1 : Nat) : Int) := rfl
        rw [e1] at this
        omega
      · have := h2.2
        rw [List.pairwise_map] at this
        exact this.imp fun h => lt_ne h
    have HTA := hide (ptargets_any r b cap p6 v s ok6 bv es w6 hs hcap hp6 HR6.out hbr (Nat.lt_of_lt_of_le hb HG6w.out.size) (cells_grow hbr HG6w.out HC.out) (fun W hg => El_of_row (row_kept HO6.out hg (by omega))) hel HFAC.out)
    clear hR6 hyes6 hg6 ho6 HBA
    obtain ⟨ba, bn, bc, rfl⟩ := row_slice HO6.out
    go_wp2_with fail
    refine HTA.out.mono ?_
    rintro e w7 ⟨tv, rfl, p7, ok7, xs, hR7, hp7, _, ho7, _, _, _, hyes7, _, hg7⟩
    have HR7 := hide hR7
    have HY7 := hide hyes7
    have HG7 := hide (HG6.out.trans hg7)
    have HG7w : Hid (w.grownBy w7 (some r)) := HG6w.out.trans hg7
    have HEN := hide (pend_any r b cap p7 s ok7 w7 hs hcap h0 hp7 HR7.out hbr (Nat.lt_of_lt_of_le hb HG7w.out.size) (cells_grow hbr HG7w.out HC.out))
    obtain ⟨ta, tn, tc, rfl⟩ := row_slice ho7
    clear hR7 hyes7 hg7 ho7 HTA
    go_wp2_with fail
    refine HEN.out.mono ?_
    rintro e w8 ⟨rfl, ⟨p8, ok8, hR8, hyes8⟩, hg8⟩
    have hgr := HGR.out w8 (HG7.out.trans hg8)
    have k0 : w8.cell? ⟨w.heap.size, 0, none⟩ = some (.int .i64 0) := cell_row hgr rfl
    have k1 : w8.cell? ⟨w.heap.size, 1, none⟩ = some (.slice none 0 0) := cell_row hgr rfl
    have k2 : w8.cell? ⟨w.heap.size, 2, none⟩ = some (.slice none 0 0) := cell_row hgr rfl
    have kf : ∀ j, w8.frozen? ⟨w.heap.size, j, none⟩ = false := fun j => frozen_of_row _ _ _ _ _ hgr
    obtain rfl : ok8 = false := by
      cases ok8 with
      | false => rfl
      | true =>
        exfalso
        obtain ⟨a7, hE⟩ := hyes8 rfl
        obtain ⟨a6, ht⟩ := HY7.out a7
        obtain ⟨a5, hbs⟩ := HY6.out a6
        obtain ⟨a3, b1, b2⟩ := HOK5.out a5
        rcases HS3.out with ⟨a2, c1, rfl, _⟩ | ⟨h, _⟩
        · obtain ⟨a1, rfl⟩ := HOK2.out a2
          rcases HS1.out with ⟨_, d1, rfl, _⟩ | ⟨h, _⟩
          · have hh := HT.out a1
            have hv := HV3.out a3
            rw [parts_read (by omega) (by rw [← List.drop_zero (l := nums s), ← hh]; rfl) hv b1 b2 hbs ht hE] at HREAD
            cases HREAD.out
          · rw [a1] at h; cases h
        · rw [a3] at h; cases h
    have HR8 := hide hR8
    have HG8w : Hid (w.grownBy w8 (some r)) := HG7w.out.trans hg8
    clear hR8 hg8 hgr hyes8
    go_wp2_with fail
    refine bodyPost_ret (v := .agg #[.int .i64 (v : Int), .slice ba bn bc, .slice ta tn tc]) (by simp [results, Tryz.results132, go_sem, k0, k1, k2]) rfl ⟨_, _, _, _, _, _, _, _, rfl, HR8.out.set3 hlr _ _ _, ?_⟩
    exact grown_setNew (grown_setNew (grown_setNew HG8w.out (Nat.le_refl _) _ _) (Nat.le_refl _) _ _) (Nat.le_refl _) _ _
end Go.Proofs.YtbhccdedcoajmaaGreatDoor
namespace Go.Proofs.YtbhccdedcoajmaaGreatDoor
open Go.RowKit

/-- where the reference's Read stands: its result, its reader, the batch that it builds -/
structure RSt (w wr : World) (g : Nat) (s : ByteArray) (q : Nat) (ok : Bool) (bl : Int) (bv tv : Value) : Prop where
  below : Below w.heap.size w wr
  lo : w.heap.size + 1 < g
  res : wr.heap[w.heap.size]? = some (.cells #[.int .i64 0, .slice none 0 0, .slice none 0 0] 110 (0, 0))
  rd : Rd wr (w.heap.size + 1) s q ok
  x : wr.heap[g]? = some (.cells #[.int .i64 bl, bv, tv] 110 (0, 0))
theorem RSt.lt {w wr : World} {g q : Nat} {s : ByteArray} {ok : Bool} {bl : Int} {bv tv : Value} (h : RSt w wr g s q ok bl bv tv) : g < wr.heap.size := (Array.getElem?_eq_some_iff.1 h.x).1
theorem RSt.read {w wr w2 : World} {g q q2 : Nat} {s : ByteArray} {ok ok2 : Bool} {bl : Int} {bv tv : Value} (h : RSt w wr g s q ok bl bv tv) (hg : wr.grownBy w2 (some (w.heap.size + 1))) (hR : Rd w2 (w.heap.size + 1) s q2 ok2) : RSt w w2 g s q2 ok2 bl bv tv :=
  ⟨h.below.grown hg h.below.size (fun k hk => by simp at hk; omega), h.lo, (hg.block _ (by have := h.lt; have := h.lo; omega) (by simp)).trans h.res, hR, (hg.block _ h.lt (by have := h.lo; simp; omega)).trans h.x⟩
theorem RSt.new {w wr w2 : World} {g q : Nat} {s : ByteArray} {ok : Bool} {bl : Int} {bv tv : Value} (h : RSt w wr g s q ok bl bv tv) (hb : Below wr.heap.size wr w2) : RSt w w2 g s q ok bl bv tv :=
  ⟨below_all h.below hb, h.lo, (hb.block _ (by have := h.lt; have := h.lo; omega)).trans h.res, (hb.block _ (by have := h.lt; have := h.lo; omega)).trans h.rd, (hb.block _ h.lt).trans h.x⟩
theorem RSt.grow {w wr w2 : World} {g q : Nat} {s : ByteArray} {ok : Bool} {bl : Int} {bv tv : Value} {row : Option Nat} (h : RSt w wr g s q ok bl bv tv) (hg : wr.grownBy w2 row) (hr : ∀ k, row = some k → g < k) : RSt w w2 g s q ok bl bv tv := by
  have h1 := h.lt
  have h2 := h.lo
  exact ⟨h.below.grown hg h.below.size (fun k hk => by have := hr k hk; omega), h.lo, (hg.block _ (by omega) (fun e => by have := hr _ e.symm; omega)).trans h.res, (hg.block _ (by omega) (fun e => by have := hr _ e.symm; omega)).trans h.rd, (hg.block _ h1 (fun e => by have := hr _ e.symm; omega)).trans h.x⟩
theorem RSt.set {w wr : World} {g q : Nat} {s : ByteArray} {ok : Bool} {bl bl' : Int} {bv tv bv' tv' : Value} (h : RSt w wr g s q ok bl bv tv) (j : Nat) (v : Value) (e : (#[.int .i64 bl, bv, tv] : Array Value).setIfInBounds j v = #[.int .i64 bl', bv', tv']) : RSt w (wr.setCell ⟨g, j, none⟩ v) g s q ok bl' bv' tv' := by
  have h2 := h.lo
  refine ⟨h.below.setCell (p := ⟨g, j, none⟩) (by simp; omega) v, h.lo, (Below.heap_setCell _ _ _ _ (by simp; omega)).trans h.res, (Below.heap_setCell _ _ _ _ (by simp; omega)).trans h.rd, ?_⟩
  rw [heap_setCell_same _ _ _ _ _ _ h.x, e]
theorem RSt.c1 {w wr : World} {g q : Nat} {s : ByteArray} {ok : Bool} {bl : Int} {bv tv : Value} (h : RSt w wr g s q ok bl bv tv) : wr.cell? ⟨g, 1, none⟩ = some bv ∧ wr.cell? ⟨g, 2, none⟩ = some tv ∧ wr.cell? ⟨g, 0, none⟩ = some (.int .i64 bl) ∧ ∀ j, wr.frozen? ⟨g, j, none⟩ = false :=
  ⟨cell_row h.x rfl, cell_row h.x rfl, cell_row h.x rfl, fun _ => frozen_of_row _ _ _ _ _ h.x⟩
end Go.Proofs.YtbhccdedcoajmaaGreatDoor
namespace Go.Proofs.YtbhccdedcoajmaaGreatDoor
open Go.RowKit

set_option maxRecDepth 10000 in
set_option maxHeartbeats 400000 in
/-- tokens where all is not well already -/
theorem rtokens_off (r p : Nat) (z B : Int) (s : ByteArray) (w : World) (hR : Rd w r s p false) :
    Calls Tryz.prog 70 #[.pointer (some ⟨r, 0, none⟩), .int .i64 z, .int .i64 B] w fun e w' => e = .returned (.tuple #[.slice none 0 0, .int .i64 0]) ∧ Rd w' r s p false ∧ w.grownBy w' (some r) := by
  have HN := hide (number_off r p 2 s w hR)
  clear hR
  go_enter Tryz.func70, Tryz.ntmps70
  go_wp2_with fail
  refine HN.out.mono ?_
  rintro e w1 ⟨rfl, hR1, hg1⟩
  have HR1 := hide hR1
  have HG1 := hide hg1
  clear hR1 hg1 HN
  go_wp2_with fail
  go_loopw [9, 10, 11] (fun v9 v10 v11 wr => v9 = .slice none 0 0 ∧ v10 = .int .i64 0 ∧ v11 = .int .u64 0 ∧ wr = w1) (fun _ _ _ _ => 0)
  case atStart => exact ⟨rfl, rfl, rfl, rfl⟩
  case round =>
    obtain ⟨rfl, rfl, rfl, hw⟩ := hrel
    obtain rfl := hw.symm
    go_wp2_with fail
    go_ret2
    exact ⟨rfl, HR1.out, HG1.out⟩

/-- the size of the last entry of a name -/
def sizeN (es : List (ByteArray × Nat × Int)) (nm : ByteArray) : Nat := es.foldl (fun z e => if nums e.1 = nums nm then e.2.1 else z) 0
theorem fold_cast (nm : List Int) : ∀ (es : List (ByteArray × Nat × Int)) (z : Nat), (es.map entV).foldl (fun z e => if e.name = nm then e.size else z) (z : Int) = ((es.foldl (fun z e => if nums e.1 = nm then e.2.1 else z) z : Nat) : Int)
  | [], z => rfl
  | e :: es, z => by
    rw [List.map_cons, List.foldl_cons, List.foldl_cons]
    by_cases h : nums e.1 = nm
    · rw [if_pos (show (entV e).name = nm from h), if_pos h]; exact fold_cast nm es _
    · rw [if_neg (show ¬ (entV e).name = nm from h), if_neg h]; exact fold_cast nm es _
theorem sizeN_cast (es : List (ByteArray × Nat × Int)) (nm : ByteArray) : sizeOfL (es.map entV) (nums nm) = (sizeN es nm : Int) := fold_cast (nums nm) es 0
theorem fold_bound (nm : List Int) {c : Nat} : ∀ (es : List (ByteArray × Nat × Int)) (z : Nat), (∀ e ∈ es, e.2.1 ≤ c) → z ≤ c → es.foldl (fun z e => if nums e.1 = nm then e.2.1 else z) z ≤ c
  | [], z, _, hz => hz
  | e :: es, z, h, hz => by
    rw [List.foldl_cons]
    refine fold_bound nm es _ (fun x hx => h x (by simp [hx])) ?_
    split
    · exact h e (by simp)
    · exact hz
theorem sizeN_le {es : List (ByteArray × Nat × Int)} (nm : ByteArray) {c : Nat} (h : ∀ e ∈ es, e.2.1 ≤ c) : sizeN es nm ≤ c := fold_bound (nums nm) es 0 h (Nat.zero_le _)
theorem sizeN_step {es : List (ByteArray × Nat × Int)} {nm : ByteArray} {k : Nat} (hk : k < es.length) : sizeN (es.take (k + 1)) nm = if nums es[k].1 = nums nm then es[k].2.1 else sizeN (es.take k) nm := by
  unfold sizeN
  rw [List.take_succ_eq_append_getElem hk, List.foldl_append]
  rfl

/-- what the reference's reading of a target's tokens leaves, well or not -/
def RTkG (w : World) (r : Nat) (s : ByteArray) (ok : Bool) (p old B : Nat) (v : Value) (x : Nat) (w' : World) : Prop :=
  ∃ (p' : Nat) (ok' : Bool) (ps : List (Tok × Value)), Rd w' r s p' ok' ∧ p' ≤ s.size ∧ RRow w' w.heap.size v ps ∧ (∀ y ∈ ps, Bytes y.1.data) ∧ ps.length ≤ 65535 ∧ x ≤ 300 * 65535 ∧
    (ok' = true → ok = true ∧ ((numP 2 ((nums s).drop p)).bind fun q => toksP old B q.1.toNat q.2) = some (ps.map Prod.fst, (nums s).drop p') ∧ ((ps.map Prod.fst).map (madeP old B)).sum = x) ∧ (ok' = false → ok = false ∨ ((numP 2 ((nums s).drop p)).bind fun q => toksP old B q.1.toNat q.2) = none) ∧ w.grownBy w' (some r)
theorem rtokens_gen (r p old B : Nat) (s : ByteArray) (ok : Bool) (w : World) (hs : s.size ≤ 70000) (hp : p ≤ s.size) (hR : Rd w r s p ok) (ho : ok = true → old ≤ 300 ∧ 1 ≤ B ∧ B ≤ 64) :
    Calls Tryz.prog 70 #[.pointer (some ⟨r, 0, none⟩), .int .i64 old, .int .i64 B] w fun e w' => ∃ v x, e = .returned (.tuple #[v, .int .i64 ((x : Nat) : Int)]) ∧ RTkG w r s ok p old B v x w' := by
  cases ok with
  | false =>
    refine (rtokens_off r p old B s w hR).mono ?_
    rintro e w' ⟨rfl, h1, h2⟩
    exact ⟨_, 0, rfl, p, false, [], h1, hp, RRow.nil _ _, by simp, by simp, by omega, (fun h => by cases h), (fun _ => .inl rfl), h2⟩
  | true =>
    obtain ⟨h1, h2, h3⟩ := ho rfl
    refine (rtokens_any r p old B s w hs hp hR h1 h2 h3).mono ?_
    rintro e w' ⟨v, x, rfl, p', ok', ps, a1, a2, a3, a4, a5, a6, a7, a8, a9⟩
    exact ⟨v, x, rfl, p', ok', ps, a1, a2, a3, a4, a5, a6, (fun h => ⟨rfl, a7 h⟩), (fun h => .inr (a8 h)), a9⟩

/-- a target that the reference has read: where its tokens lie -/
structure RTg (w : World) (base : Nat) (x : Tg) : Prop where
  low : base ≤ x.lo
  rt : RT w x.lo x.hi x.v (x.ps.map Prod.fst)
theorem RTg.grown {w w' : World} {base : Nat} {x : Tg} {row : Option Nat} (h : RTg w base x) (hg : w.grownBy w' row) (hr : ∀ k, row = some k → k < x.lo ∨ x.hi ≤ k) : RTg w' base x := ⟨h.low, h.rt.grown hg hr⟩
theorem RTg.below {w w' : World} {base : Nat} {x : Tg} (h : RTg w base x) (hb : Below w.heap.size w w') : RTg w' base x := ⟨h.low, h.rt.below hb⟩
theorem RTg.set3 {w : World} {base : Nat} {x : Tg} (h : RTg w base x) {g : Nat} (hg : g < base) (a b c : Value) : RTg (((w.setCell ⟨g, 0, none⟩ a).setCell ⟨g, 1, none⟩ b).setCell ⟨g, 2, none⟩ c) base x := by
  have hl := h.low
  exact ((h.grown (setCell_grown _) (fun k hk => by simp at hk; omega)).grown (setCell_grown _) (fun k hk => by simp at hk; omega)).grown (setCell_grown _) (fun k hk => by simp at hk; omega)
/-- the rows of a batch that the reference has read -/
def RBat (w' : World) (es : List (ByteArray × Nat × Int)) (xs : List Tg) (bv tv : Value) : Prop :=
  (∃ base, w'.ownsRow base 115 3 bv es.length (entCells es)) ∧ es.length ≤ 8 ∧ (∃ base, w'.ownsRow base 117 4 tv xs.length (tgCells xs)) ∧ xs.length ≤ 8 ∧ ∃ base, ∀ x ∈ xs, RTg w' base x
/-- what mirrorref.Read tells -/
def RReadQ (w : World) (s : ByteArray) (bl : Int) (bv tv : Value) (ok : Bool) (w' : World) : Prop :=
  (∃ a n c, bv = .slice a n c) ∧ (∃ a n c, tv = .slice a n c) ∧ Below w.heap.size w w' ∧ (ok = true → ∃ es xs, RBat w' es xs bv tv ∧ readL (nums s) = some ⟨bl, es.map entV, xs.map tgV⟩) ∧ (ok = false → readL (nums s) = none)
def RReadT (w : World) (s : ByteArray) (v : Value) (w' : World) : Prop := ∃ bl bv tv ok, v = .tuple #[.agg #[.int .i64 bl, bv, tv], .bool ok] ∧ RReadQ w s bl bv tv ok w'
/-- the first four bytes of a batch -/
def HeadOk (s : ByteArray) (n : Nat) : Prop := 4 ≤ s.size ∧ (nums s).take 3 = [66, 65, 84] ∧ (n : Int) = getN (((nums s).drop 3).take 1) ∧ 1 ≤ n ∧ n ≤ 64
theorem basis_len : ∀ (n : Nat) (last l l' : List Int) (es : List EntL), basisP n false last l = some (es, l') → es.length = n
  | 0, last, l, l', es, h => by
    simp only [basisP, Option.some.injEq, Prod.mk.injEq] at h
    rw [← h.1]; rfl
  | n + 1, last, l, l', es, h => by
    rw [basis_step] at h
    simp only [Option.bind_eq_some_iff, Option.map_eq_some_iff] at h
    obtain ⟨q, hq, q2, hq2, h⟩ := h
    simp only [Prod.mk.injEq] at h
    rw [← h.1, List.length_cons, basis_len n _ _ _ _ hq2]
theorem targets_len (bas : List EntL) (B : Nat) : ∀ (n : Nat) (last l l' : List Int) (ts : List (EntL × List Tok)), targetsP bas B n false last l = some (ts, l') → ts.length = n
  | 0, last, l, l', ts, h => by
    simp only [targetsP, Option.some.injEq, Prod.mk.injEq] at h
    rw [← h.1]; rfl
  | n + 1, last, l, l', ts, h => by
    rw [targets_step] at h
    simp only [Option.bind_eq_some_iff, Option.map_eq_some_iff] at h
    obtain ⟨q, hq, q2, hq2, q3, hq3, h⟩ := h
    simp only [Prod.mk.injEq] at h
    rw [← h.1, List.length_cons, targets_len bas B n _ _ _ _ hq3]
theorem files_le {l : List Int} {q : Nat × List Int} (h : filesP l = some q) : q.1 ≤ 8 := by
  unfold filesP at h
  simp only [Option.bind_eq_some_iff] at h
  obtain ⟨u, _, h⟩ := h
  split at h
  · cases h
    simp only
    omega
  · cases h
theorem files_basis_len {l l' : List Int} {es : List EntL} (h : ((filesP l).bind fun q => basisP q.1 false [] q.2) = some (es, l')) : es.length ≤ 8 := by
  simp only [Option.bind_eq_some_iff] at h
  obtain ⟨q, hq, h⟩ := h
  rw [basis_len _ _ _ _ _ h]
  exact files_le hq
theorem files_targets_len {bas : List EntL} {B : Nat} {l l' : List Int} {ts : List (EntL × List Tok)} (h : ((filesP l).bind fun q => targetsP bas B q.1 false [] q.2) = some (ts, l')) : ts.length ≤ 8 := by
  simp only [Option.bind_eq_some_iff] at h
  obtain ⟨q, hq, h⟩ := h
  rw [targets_len _ _ _ _ _ _ _ h]
  exact files_le hq
theorem read_no_basis {s : ByteArray} (h : ((filesP ((nums s).drop 4)).bind fun q => basisP q.1 false [] q.2) = none) : readL (nums s) = none := by
  cases hr : readL (nums s) with
  | none => rfl
  | some b =>
    obtain ⟨bl, bs, ts⟩ := b
    obtain ⟨_, _, _, _, _, l1, l2, h1, _⟩ := read_parts hr
    rw [h] at h1; cases h1
theorem read_no_targets {s : ByteArray} {n : Nat} {bs : List EntL} {l : List Int} (hn : (n : Int) = getN (((nums s).drop 3).take 1)) (hb : ((filesP ((nums s).drop 4)).bind fun q => basisP q.1 false [] q.2) = some (bs, l)) (h : ((filesP l).bind fun q => targetsP bs n q.1 false [] q.2) = none) : readL (nums s) = none := by
  cases hr : readL (nums s) with
  | none => rfl
  | some b =>
    obtain ⟨bl, bs', ts⟩ := b
    obtain ⟨_, _, h3, _, _, l1, l2, h1, h2, _⟩ := read_parts hr
    rw [hb] at h1
    simp only [Option.some.injEq, Prod.mk.injEq] at h1
    obtain ⟨rfl, rfl⟩ := h1
    rw [← h3, ← hn, Int.toNat_natCast, h] at h2
    cases h2
theorem head_sem {s t : ByteArray} {p1 p3 n : Nat} {ok1 ok2 ok3 ok5 : Bool} (S1 : Step s true 0 3 p1 ok1) (v1 : ok1 = true → nums t = ((nums s).drop 0).take 3) (h2 : (ok2 = true → ok1 = true ∧ t = ⟨#[66, 65, 84]⟩) ∧ (ok2 = false → ok1 = false ∨ t ≠ ⟨#[66, 65, 84]⟩)) (S3 : Step s ok2 p1 1 p3 ok3) (v3 : ok3 = true → (n : Int) = getN (((nums s).drop p1).take 1))
    (h5 : ok5 = true → ok3 = true ∧ 1 ≤ n ∧ n ≤ 64) (h5' : ok5 = false → ok3 = false ∨ ¬ (1 ≤ n ∧ n ≤ 64)) : (ok5 = true → HeadOk s n ∧ p3 = 4) ∧ (ok5 = false → readL (nums s) = none) := by
  refine ⟨fun h => ?_, fun h => ?_⟩
  · obtain ⟨a3, b1, b2⟩ := h5 h
    rcases S3 with ⟨a2, c1, rfl, _⟩ | ⟨e, _⟩
    · obtain ⟨a1, rfl⟩ := h2.1 a2
      rcases S1 with ⟨_, d1, rfl, _⟩ | ⟨e, _⟩
      · refine ⟨⟨by omega, ?_, v3 a3, b1, b2⟩, rfl⟩
        rw [← List.drop_zero (l := nums s), ← v1 a1]; rfl
      · rw [a1] at e; cases e
    · rw [a3] at e; cases e
  · cases hr : readL (nums s) with
    | none => rfl
    | some b =>
      exfalso
      obtain ⟨bl, bs, ts⟩ := b
      obtain ⟨g4, hh, hb, hb1, hb2, _⟩ := read_parts hr
      rcases S1 with ⟨_, d1, rfl, rfl⟩ | ⟨_, _, e | e⟩
      · have ht : t = ⟨#[66, 65, 84]⟩ := nums_inj (by rw [v1 rfl, List.drop_zero, hh]; rfl)
        have a2 : ok2 = true := by
          cases ok2 with
          | true => rfl
          | false =>
            rcases h2.2 rfl with e | e
            · cases e
            · exact absurd ht e
        subst a2
        rcases S3 with ⟨_, c1, rfl, rfl⟩ | ⟨_, _, e | e⟩
        · rcases h5' h with e | e
          · cases e
          · have := v3 rfl
            rw [show 0 + 3 = 3 from rfl, hb] at this
            omega
        · cases e
        · omega
      · cases e
      · omega
theorem read_no_end {s : ByteArray} {n q : Nat} {bs : List EntL} {ts : List (EntL × List Tok)} {l : List Int} (hn : (n : Int) = getN (((nums s).drop 3).take 1)) (hb : ((filesP ((nums s).drop 4)).bind fun q => basisP q.1 false [] q.2) = some (bs, l)) (ht : ((filesP l).bind fun q => targetsP bs n q.1 false [] q.2) = some (ts, (nums s).drop q)) (hq : q ≤ s.size) (h : ¬ EndOk s q) : readL (nums s) = none := by
  cases hr : readL (nums s) with
  | none => rfl
  | some b =>
    exfalso
    obtain ⟨bl, bs', ts'⟩ := b
    obtain ⟨_, _, h3, _, _, l1, l2, h1, h2, h4⟩ := read_parts hr
    rw [hb] at h1
    simp only [Option.some.injEq, Prod.mk.injEq] at h1
    obtain ⟨rfl, rfl⟩ := h1
    rw [← h3, ← hn, Int.toNat_natCast, ht] at h2
    simp only [Option.some.injEq, Prod.mk.injEq] at h2
    obtain ⟨rfl, rfl⟩ := h2
    have hln := nums_length s
    unfold numP at h4
    split at h4
    · cases h4
    · rename_i hlen
      rw [List.length_drop] at hlen h4
      simp only [Option.some.injEq, Prod.mk.injEq] at h4
      have h5 := congrArg List.length h4.2
      rw [List.length_drop, List.length_drop] at h5
      simp at h5
      refine h ⟨by omega, ?_⟩
      rw [h4.1]
      congr 2
      omega
theorem tokensP_eq (old B : Nat) (size : Int) (l : List Int) : tokensP old B size l = ((numP 2 l).bind fun q => toksP old B q.1.toNat q.2).bind fun q2 => if (q2.1.map (madeP old B)).sum = size then some q2 else none := by
  unfold tokensP
  rw [Option.bind_assoc]
theorem ent_cells {w : World} {base : Nat} {ea : Option Addr} {ec : Nat} {es : List (ByteArray × Nat × Int)} (h : w.ownsRow base 115 3 (.slice ea es.length ec) es.length (entCells es)) : ∀ i (hi : i < es.length), ∃ g, ea = some ⟨g, 0, none⟩ ∧ g < w.heap.size ∧ w.cell? ⟨g, i * 3, none⟩ = some (.string es[i].1) ∧ w.cell? ⟨g, i * 3 + 1, none⟩ = some (.int .i64 es[i].2.1) ∧ w.cell? ⟨g, i * 3 + 2, none⟩ = some (.int .u64 es[i].2.2) := by
  obtain ⟨va, cap, hv, _, hc⟩ := El_of_row h
  simp only [Value.slice.injEq] at hv
  obtain ⟨rfl, _, _⟩ := hv
  exact hc
end Go.Proofs.YtbhccdedcoajmaaGreatDoor
