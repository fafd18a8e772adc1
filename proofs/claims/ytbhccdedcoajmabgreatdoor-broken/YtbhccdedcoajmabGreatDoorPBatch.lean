import Derived.Test.YtbhccdedcoajmabGreatDoorPTargets
import Derived.Test.YtbhccdedcoajmabGreatDoorToldM
namespace Go.Proofs.YtbhccdedcoajmabGreatDoor
open Go.RowKit

theorem slice_to (b n cap e : Nat) (h0 : 0 < cap) (h2 : e ≤ cap) (W : World) :
    (Instr.slice 25 (.slice (some ⟨b, 0, none⟩) n cap) none (some (.int .i64 e)) none).run Tryz.prog W = .ok (.slice (some ⟨b, 0, none⟩) e cap) W := by
  have hu : Tryz.prog.underlying 25 = some (.slice (Tryz.prog.elem 25)) := by kernel_rfl
  have hs : (sizeOf (Tryz.prog.elem 25)).run Tryz.prog W = .ok 1 W := by kernel_rfl
  have hb : (Instr.sliceBounds true n cap none (some (.int .i64 e)) none).run Tryz.prog W = .ok (0, e, cap) W := by
    simp [Instr.sliceBounds, run_sliceBound, show (e : Int) ≤ (cap : Int) by omega]
  rw [run_slice_any W 25 _ n cap hu, hb]
  simp only [Result.andThen_ok, hs, sliced]
  rw [if_neg (by omega)]
  simp [Addr.add]

def EndOk (s : ByteArray) (p : Nat) : Prop := p + 8 = s.size ∧ getN (((nums s).drop p).take 8) = digestOf ((nums s).take p)

set_option maxRecDepth 10000 in
set_option maxHeartbeats 400000 in
theorem pend_ok (r b cap p : Nat) (s : ByteArray) (w : World) (hs : s.size ≤ 70000) (hcap : s.size ≤ cap) (h0 : 0 < cap) (hR : PRd w r b cap s p true) (hbr : b ≠ r) (hb : b < w.heap.size) (hc : ∀ k (h : k < (nums s).length), w.cell? ⟨b, 0 + k, none⟩ = some (.int .u8 (nums s)[k])) (hE : EndOk s p) :
    Calls Tryz.prog 124 #[.pointer (some ⟨r, 0, none⟩)] w fun e w' => e = .returned (.tuple #[]) ∧ PRd w' r b cap s s.size true ∧ w.grownBy w' (some r) := by
  obtain ⟨hp8, hdg⟩ := hE
  have HR := hide hR
  obtain ⟨ev, hev, c0, c1, c2, hf⟩ := hR.open
  obtain rfl : ev = .nilIface := hev
  have hsl := slice_to b s.size cap p h0 (by omega)
  have hl : ((nums s).take p).length = p := by rw [List.length_take, nums_length]; omega
  have HD : Hid (∀ q, Calls Tryz.prog 67 #[.slice (some ⟨b, 0, none⟩) p cap] (w.drewN q) fun e w' => e = .returned (.int .u64 (digestOf ((nums s).take p))) ∧ w' = w.drewN q) := by
    intro q
    have := digest_any b 0 cap ((nums s).take p) (w.drewN q) (by omega) ((nums_bytes s).take p) (fun k h => by
      rw [hl] at h
      rw [List.getElem_take]
      exact (cells_below hc (below_drewN (Below.refl _ _) q)) k (by rw [nums_length]; omega))
    rw [hl] at this
    exact this
  have HC := hide hc
  clear hR hc hl c2 hf
  have HDG := hide hdg
  clear hdg
  generalize hDD : digestOf ((nums s).take p) = D at *
  clear hDD
  go_enter Tryz.func124, Tryz.ntmps124
  go_wp2_with fail
  go_quiet ((go_at_call 67; refine Calls.quiet_of_same (HD.out _)))
  have HR1 : Hid (PRd (w.drewN nq) r b cap s p true) := HR.out.below (below_drewN (Below.refl _ _) nq)
  have HG1 : Hid (w.grownBy (w.drewN nq) (some r)) := grown_drewN (grown_refl _ _) nq
  clear c0 c1 hsl HD
  generalize w.drewN nq = w1 at *
  have hb1 : b < w1.heap.size := Nat.lt_of_lt_of_le hb HG1.out.size
  have HWI := hide (pwide_any r b cap p 8 s true w1 hs hcap (by omega) (by omega) HR1.out hbr hb1 (cells_grow hbr HG1.out HC.out))
  go_wp2_with fail
  refine HWI.out.mono ?_
  rintro e w2 ⟨v, rfl, p2, ok2, hR2, hS2, hv2, _, _, _, hg2⟩
  have hok2 : p2 = s.size ∧ ok2 = true := by
    rcases hS2 with ⟨_, h2, h3, h4⟩ | ⟨_, _, h | h⟩
    · exact ⟨by omega, h4⟩
    · cases h
    · omega
  obtain ⟨rfl, rfl⟩ := hok2
  obtain rfl : v = D := by rw [hv2 rfl]; exact HDG.out
  have HR2 := hide hR2
  have HG2 := hide (HG1.out.trans hg2)
  clear hR2 hS2 hv2 hg2 HWI
  go_wp2_with fail
  refine (pmust_any r b cap s.size s _ true true w2 HR2.out).mono ?_
  rintro e w3 ⟨rfl, hR3, hg3⟩
  obtain ⟨ev, hev, k0, k1, k2, kf⟩ := hR3.open
  have HR3 := hide hR3
  have HG3 := hide (HG2.out.trans hg3)
  have HMU : Hid (∀ holds what, Calls Tryz.prog 119 #[.pointer (some ⟨r, 0, none⟩), .bool holds, .string what] w3.drew fun e w' => e = .returned (.tuple #[]) ∧ PRd w' r b cap s s.size (true && holds) ∧ w3.grownBy w' (some r)) := by
    intro holds what
    refine (pmust_any r b cap s.size s what true holds w3.drew (HR3.out.below (Below.refl _ _).drew)).mono ?_
    rintro e w' ⟨rfl, h1, h2⟩
    exact ⟨rfl, h1, (grown_of_below (Below.refl _ _).drew).trans h2⟩
  clear hR3 hg3 k2 kf hev
  go_wp2_with fail
  go_region_held3 (fun w' => w'.cell? ⟨r, 0, none⟩ = some (.slice (some ⟨b, 0, none⟩) s.size cap) ∧ w'.cell? ⟨r, 1, none⟩ = some (.int .i64 s.size))
    (first | exact ⟨k0, k1⟩ | exact ⟨m0, m1⟩)
    ((go_at_call 119; refine (HMU.out true _).mono ?_; rintro e w4 ⟨rfl, hR4, hg4⟩; obtain ⟨ev4, hev4, m0, m1, m2, mf⟩ := hR4.open))
  have HF : Hid (PRd w4 r b cap s s.size true ∧ w.grownBy w4 (some r)) := ⟨hR4, HG3.out.trans hg4⟩
  clear hR4 hg4 m0 m1 m2 mf hev4
  go_wp2_with fail
  go_end0
  exact ⟨rfl, HF.out.1, HF.out.2⟩

theorem name_first (last nm : List Int) : (nameB nm && (true || ltL last nm)) = (nameB nm && (false || ltL [] nm)) := by
  cases hn : nameB nm with
  | false => rfl
  | true =>
    cases h : nm with
    | nil => rw [h] at hn; simp [nameB] at hn
    | cons a r => rfl
theorem entry_first (last l : List Int) : entryP true last l = entryP false [] l := by
  unfold entryP
  simp only [name_first]

theorem basis_first (n : Nat) (last l : List Int) : basisP n true last l = basisP n false [] l := by
  cases n with
  | zero => rfl
  | succ n => unfold basisP; rw [entry_first]
theorem targets_first (bas : List EntL) (B n : Nat) (last l : List Int) : targetsP bas B n true last l = targetsP bas B n false [] l := by
  cases n with
  | zero => rfl
  | succ n => unfold targetsP; rw [entry_first]
theorem entry_facts {last l l' : List Int} {e : EntL} (h : entryP false last l = some (e, l')) : e.size ≤ 300 ∧ ltL last e.name = true := by
  unfold entryP at h
  simp only [Option.bind_eq_bind, Option.bind_eq_some_iff] at h
  obtain ⟨q, _, q2, _, h⟩ := h
  split at h
  · rename_i hc
    simp only [Option.bind_eq_some_iff] at h
    obtain ⟨q3, _, h⟩ := h
    split at h
    · rename_i hz
      simp only [Option.bind_eq_some_iff] at h
      obtain ⟨q4, _, h⟩ := h
      simp only [Option.some.injEq, Prod.mk.injEq] at h
      obtain ⟨rfl, _⟩ := h
      rw [Bool.and_eq_true, Bool.false_or] at hc
      exact ⟨hz, hc.2⟩
    · cases h
  · cases h
theorem basis_facts : ∀ (n : Nat) (last l l' : List Int) (es : List EntL), basisP n false last l = some (es, l') → (∀ e ∈ es, e.size ≤ 300 ∧ ltL last e.name = true) ∧ es.Pairwise (fun a b => ltL a.name b.name = true)
  | 0, last, l, l', es, h => by
    simp only [basisP, Option.some.injEq, Prod.mk.injEq] at h
    obtain ⟨rfl, _⟩ := h
    exact ⟨fun e he => by simp at he, List.Pairwise.nil⟩
  | n + 1, last, l, l', es, h => by
    rw [basis_step] at h
    simp only [Option.bind_eq_some_iff, Option.map_eq_some_iff] at h
    obtain ⟨q, hq, q2, hq2, h⟩ := h
    simp only [Prod.mk.injEq] at h
    obtain ⟨rfl, _⟩ := h
    have h1 := entry_facts hq
    have h2 := basis_facts n _ _ _ _ hq2
    refine ⟨fun e he => ?_, List.pairwise_cons.2 ⟨fun e he => (h2.1 e he).2, h2.2⟩⟩
    rcases List.mem_cons.1 he with rfl | he
    · exact h1
    · exact ⟨(h2.1 e he).1, ltL_trans h1.2 (h2.1 e he).2⟩
theorem lt_ne {a b : List Int} (h : ltL a b = true) : a ≠ b := fun e => by rw [e, ltL_irrefl] at h; cases h

/-- what a batch that is one says of its parts -/
theorem read_parts {s : ByteArray} {bl : Int} {bs : List EntL} {ts : List (EntL × List Tok)} (h : readL (nums s) = some ⟨bl, bs, ts⟩) :
    4 ≤ s.size ∧ (nums s).take 3 = [66, 65, 84] ∧ getN (((nums s).drop 3).take 1) = bl ∧ 1 ≤ bl ∧ bl ≤ 64 ∧ ∃ l1 l2, ((filesP ((nums s).drop 4)).bind fun q => basisP q.1 false [] q.2) = some (bs, l1) ∧ ((filesP l1).bind fun q => targetsP bs bl.toNat q.1 false [] q.2) = some (ts, l2) ∧ numP 8 l2 = some (digestOf ((nums s).take ((nums s).length - l2.length)), []) := by
  have hl := nums_length s
  unfold readL at h
  simp only [Option.bind_eq_bind, Option.bind_eq_some_iff] at h
  obtain ⟨q, hq, h⟩ := h
  split at h
  · rename_i h3
    simp only [Option.bind_eq_some_iff] at h
    obtain ⟨q1, hq1, h⟩ := h
    split at h
    · rename_i hb
      simp only [Option.bind_eq_some_iff] at h
      obtain ⟨q2, hq2, h⟩ := h
      split at h
      · rename_i hn
        simp only [Option.bind_eq_some_iff] at h
        obtain ⟨q3, hq3, q4, hq4, h⟩ := h
        split at h
        · rename_i hm
          simp only [Option.bind_eq_some_iff] at h
          obtain ⟨q5, hq5, q6, hq6, h⟩ := h
          split at h
          · rename_i he
            simp only [Option.some.injEq, BatL.mk.injEq] at h
            obtain ⟨rfl, rfl, rfl⟩ := h
            have g1 : 3 ≤ s.size ∧ q = ((nums s).take 3, (nums s).drop 3) := by
              unfold txtP at hq
              split at hq
              · cases hq
              · cases hq
                exact ⟨by omega, rfl⟩
            obtain ⟨g1, rfl⟩ := g1
            have g2 : 4 ≤ s.size ∧ q1 = (getN (((nums s).drop 3).take 1), (nums s).drop 4) := by
              unfold numP at hq1
              split at hq1
              · cases hq1
              · cases hq1
                rename_i hlen
                rw [List.length_drop] at hlen
                exact ⟨by omega, by rw [List.drop_drop]⟩
            obtain ⟨g2, rfl⟩ := g2
            refine ⟨g2, h3, rfl, hb.1, hb.2, q3.2, q5.2, ?_, ?_, ?_⟩
            · unfold filesP
              rw [hq2]
              simp only [Option.bind_some]
              rw [if_pos hn]
              simp only [Option.bind_some]
              rw [← basis_first _ [], hq3]
            · unfold filesP
              rw [hq4]
              simp only [Option.bind_some]
              rw [if_pos hm]
              simp only [Option.bind_some]
              rw [← targets_first _ _ _ [], hq5]
            · rw [hq6]
              congr 1
              exact Prod.ext he.2 he.1
          · cases h
        · cases h
      · cases h
    · cases h
  · cases h
end Go.Proofs.YtbhccdedcoajmabGreatDoor
