import Derived.Test.YtbhccdedcoajmaaGreatDoorLListM
import Derived.Test.YtbhccdedcoajmaaGreatDoorPMkM
import Derived.Test.YtbhccdedcoajmaaGreatDoorRReplW
import Derived.Test.YtbhccdedcoajmaaGreatDoorPRepPM
import Derived.Test.YtbhccdedcoajmaaGreatDoorLListsCM
namespace Go.Proofs.YtbhccdedcoajmaaGreatDoor
open Go.RowKit

theorem pairs_inj : ∀ {a b : List (ByteArray × ByteArray)}, a.map (fun p => (nums p.1, nums p.2)) = b.map (fun p => (nums p.1, nums p.2)) → a = b
  | [], [], _ => rfl
  | [], _ :: _, h => by simp at h
  | _ :: _, [], h => by simp at h
  | p :: a, q :: b, h => by
    simp only [List.map_cons, List.cons.injEq, Prod.mk.injEq] at h
    rw [pairs_inj h.2, Prod.ext (nums_inj h.1.1) (nums_inj h.1.2)]
/-- what a step on one mirror leaves -/
def MsR (w : World) (ρ : Nat → Nat) (i : Nat) (x : MS) (w' : World) : Prop :=
  ∃ x' : MS, x'.m = x.m ∧ x'.r = x.r ∧ Keeps (fun k => ρ k = 2 * i + 7 ∨ ρ k = 2 * i + 8) w w' ∧ MsOk w' ρ i x' ∧ ∀ g, x'.cur.ownBlock = some g → g < w'.heap.size
theorem MsOk.same {w w' : World} {ρ : Nat → Nat} {i : Nat} {x : MS} (h : MsOk w ρ i x) (hf : ∀ g, x.cur.ownBlock = some g → g < w.heap.size) (hb : Below w.heap.size w w') : MsR w ρ i x w' :=
  ⟨x, rfl, rfl, below_keeps hb _, h.keeps (below_keeps hb (fun _ => False)) (fun _ hk => hk.elim) (fun _ _ _ => rfl) hf, fun g hg => Nat.lt_of_lt_of_le (hf g hg) hb.size⟩
theorem keeps_fresh {w w1 W2 : World} {g : Nat} (hb : Below w.heap.size w w1) (hk : Keeps (fun k => k = g) w1 W2) (hg : w.heap.size ≤ g) : Below w.heap.size w W2 :=
  ⟨hk.os.trans hb.os, hk.tape.trans hb.tape, hk.output.trans hb.output, Nat.le_trans hb.size hk.size, fun k h => (hk.block k (Nat.lt_of_lt_of_le h hb.size) (by omega)).trans (hb.block k h)⟩

theorem replayed_ms {w : World} {ρ : Nat → Nat} {i : Nat} {x : MS} (h : MsOk w ρ i x) (he : ErrT w) (hz : ∀ k, w.heap.size ≤ k → ρ k = 0) (hf : ∀ g, x.cur.ownBlock = some g → g < w.heap.size) (s : ByteArray) (hs : s.size ≤ 70000) (c : Int) (hc0 : -9223372036854775808 ≤ c) (hc1 : c ≤ 9223372036854775807) :
    Calls Tryz.prog 15 #[.agg #[.pointer (some ⟨x.m, 0, none⟩), .pointer (some ⟨x.r, 0, none⟩)], .string s, .int .i64 c] w fun e w' => e = .returned (.bool true) ∧ MsR w ρ i x w' := by
  have hrlt := h.ref.lt
  have hmlt := h.mir.lt
  have hmr : x.m ≠ x.r := fun e => by have h1 := h.rm; have h2 := h.rr; rw [e] at h1; omega
  refine replayed_walk x.m x.r s c w hs (fun w' => MsR w ρ i x w') ?_
  intro W g hb hg hnew
  have hgW : g < W.heap.size := (Array.getElem?_eq_some_iff.1 hnew).1
  cases hd : x.down with
  | true =>
    have hM := h.mir.below hb
    rw [hd] at hM
    refine (pReplay_down x.m x.room x.lo x.hi x.v x.v2 _ x.fs c W (he.keep hb) hM).mono ?_
    rintro e w1 ⟨k, n, rfl, rfl, rfl, hb1⟩
    refine ⟨_, _, rfl, hb1.size, fun j _ hj => hb1.block j hj, fun W2 hk2 => ?_⟩
    have hb2 : Below w.heap.size w W2 := keeps_fresh (below_all hb hb1) hk2 hg
    have hR := h.ref.below hb2
    rw [hd] at hR
    refine (rreplay_down x.r x.T x.N x.room c s W2 hR).mono ?_
    rintro e w2 ⟨rfl, rfl⟩
    exact ⟨rfl, h.same hf hb2⟩
  | false =>
    have hM := h.mir.below hb
    rw [hd] at hM
    have hcur : x.cur = x.T := by unfold MS.cur; rw [hd]
    obtain ⟨Na, Nn, Nc, hN⟩ := h.nsl
    refine (pReplay_any x.m x.room x.lo x.hi x.v x.v2 x.fs g (s.size + 2) s c W (he.keep hb) hM hs (by omega) (by omega) hgW (by omega) (row_cells hnew) (by have := h.tree.len; omega) (fun p hp => (h.tree.sizes p hp).2)).mono ?_
    rintro e w1 ⟨k, n, rfl, hq⟩
    refine ⟨k, n, rfl, ?_⟩
    unfold PRplQ at hq
    cases hr : replayS x.fs (nums s) x.room with
    | error q =>
      rw [hr] at hq
      obtain ⟨hk, hn, hb1⟩ := hq
      refine ⟨hb1.size, fun j _ hj => hb1.block j hj, fun W2 hk2 => ?_⟩
      have hb2 : Below w.heap.size w W2 := keeps_fresh (below_all hb hb1) hk2 hg
      have hR := h.ref.below hb2
      rw [hd, hN] at hR
      refine (rreplay_up x.r x.T Na Nn Nc x.room c x.fs s W2 hR h.r0 h.r1 hs (hcur ▸ h.fl.below hb2) h.tree hc0 hc1).mono ?_
      rintro e w2 ⟨v, rfl, k', nm', rfl, hq'⟩
      rw [hr] at hq'
      obtain ⟨hk', hn', hb3⟩ := hq'
      obtain rfl : k = k' := hk.trans hk'.symm
      obtain rfl : n = nm' := nums_inj (hn.trans hn'.symm)
      exact ⟨rfl, h.same hf (below_all hb2 hb3)⟩
    | ok l =>
      rw [hr] at hq
      obtain ⟨rfl, hg1, hq⟩ := hq
      refine ⟨hg1.size, fun j hj1 hj => hg1.block j hj (by simp; omega), fun W2 hk2 => ?_⟩
      have hkm : Keeps (fun k => k = x.m) w W2 := ((below_keeps hb _).trans (grown_keeps hg1 (S := fun k => k = x.m) (fun k e => by simpa using e.symm)) (fun _ _ h => h)).trans hk2 (fun k hk e => by omega)
      have hR := h.ref.keeps hkm (fun e => hmr e.symm)
      rw [hd, hN] at hR
      have hflT : Fl W2 x.T x.fs := hcur ▸ h.fl.keeps hkm (fun k hk e => by have h1 := h.coldf k hk; have h2 := h.rm; rw [e] at h1; omega)
      refine (rreplay_up x.r x.T Na Nn Nc x.room c x.fs s W2 hR h.r0 h.r1 hs hflT h.tree hc0 hc1).mono ?_
      rintro e w2 ⟨v, rfl, k', nm', rfl, hq'⟩
      rw [hr] at hq'
      obtain ⟨rfl, hg2, gs, T', hgs, hown, hq'⟩ := hq'
      have hk12 : Keeps (fun k => k = g ∨ k = x.r) w1 w2 := (hk2.mono (fun k _ h => .inl h)).trans (grown_keeps hg2 (S := fun k => k = x.r) (fun k e => by simpa using e.symm)) (fun _ _ h => .inr h)
      have hkall : Keeps (fun k => ρ k = 2 * i + 7 ∨ ρ k = 2 * i + 8) w w2 := by
        refine (hkm.mono (fun k _ e => .inl (by rw [e]; exact h.rm))).trans (grown_keeps hg2 (S := fun k => k = x.r) (fun k e => by simpa using e.symm)) (fun k _ e => .inr (by rw [e]; exact h.rr))
      have hW2 : w.heap.size ≤ W2.heap.size := hkm.size
      have hWw : w.heap.size ≤ W.heap.size := hb.size
      have hTsl : ∃ a n c, T' = .slice a n c := row_slice hown
      have hTc : ∀ j, T'.ownBlock = some j → ρ j = 0 ∧ j < w2.heap.size := fun j hj => ⟨hz j (Nat.le_trans hW2 (hown.lt j hj).1), (hown.lt j hj).2⟩
      have hTold : ∀ j, x.T.ownBlock = some j → ρ j = 0 ∧ j < w2.heap.size := fun j hj => by
        rw [← hcur] at hj
        exact ⟨h.coldf j hj, Nat.lt_of_lt_of_le (hf j hj) hkall.size⟩
      have hFlT2 : Fl w2 x.T x.fs := hflT.keeps (grown_keeps hg2 (S := fun k => k = x.r) (fun k e => by simpa using e.symm)) (fun k hk e => by have h1 := (hTold k hk).1; have h2 := h.rr; rw [e] at h1; omega)
      have hFlN : Fl w2 T' gs := Fl_of_row hown
      have hll : l.length = gs.length := by rw [← hgs, List.length_map]
      rcases hq with ⟨p1, p2, rfl, bv', hM'⟩ | ⟨gs', lo', hi', tv', bv', hgs', hlo', hq⟩
      · obtain ⟨rfl, hR'⟩ : k' = 12 ∧ RMb w2 x.r x.T x.room true x.T := by
          rcases hq' with ⟨_, _, h1, h2⟩ | ⟨h1, _, _⟩ | ⟨h1, _, _⟩
          · exact ⟨h1, h2⟩
          · omega
          · omega
        have hM2 := hM'.keeps hk12 (by omega) (fun k a b => by
          have h1 := h.cold k a b
          have h2 := h.rr
          have h3 := h.mir.tr.1
          rintro (e | e)
          · omega
          · rw [e] at h1; omega)
        exact ⟨rfl, { x with v2 := bv', down := true, N := x.T }, rfl, rfl, hkall, ⟨hM2, hR', h.tsl, h.tsl, hFlT2, h.tree, h.r0, h.r1, h.rm, h.rr, h.cold, fun j hj => (hTold j hj).1⟩, fun j hj => (hTold j hj).2⟩
      · obtain rfl : gs = gs' := pairs_inj (hgs.trans hgs'.symm)
        have htree : TreeOk gs := made_tree h.tree hr hgs
        have hcold : ∀ k, lo' ≤ k → k < hi' → ρ k = 0 := fun k a _ => hz k (by omega)
        rcases hq with ⟨p1, rfl, hM'⟩ | ⟨p1, rfl, hM'⟩
        · obtain ⟨rfl, hR'⟩ : k' = 12 ∧ RMb w2 x.r x.T x.room true T' := by
            rcases hq' with ⟨_, h1, _, _⟩ | ⟨_, h1, h2⟩ | ⟨h1, _, _⟩
            · omega
            · exact ⟨h1, h2⟩
            · omega
          have hM2 := hM'.keeps hk12 (by omega) (fun k a b => by omega)
          exact ⟨rfl, { x with lo := lo', hi := hi', v := tv', v2 := bv', fs := gs, down := true, N := T' }, rfl, rfl, hkall, ⟨hM2, hR', h.tsl, hTsl, hFlN, htree, h.r0, h.r1, h.rm, h.rr, hcold, fun j hj => (hTc j hj).1⟩, fun j hj => (hTc j hj).2⟩
        · obtain ⟨rfl, hR'⟩ : k' = 0 ∧ RMb w2 x.r T' x.room false (.slice Na Nn Nc) := by
            rcases hq' with ⟨_, h1, _, _⟩ | ⟨h1, _, _⟩ | ⟨_, h1, h2⟩
            · omega
            · omega
            · exact ⟨h1, h2⟩
          have hM2 := hM'.keeps hk12 (by omega) (fun k a b => by omega)
          exact ⟨rfl, { x with lo := lo', hi := hi', v := tv', v2 := bv', fs := gs, down := false, T := T' }, rfl, rfl, hkall, ⟨hM2, hN ▸ hR', hTsl, h.nsl, hFlN, htree, h.r0, h.r1, h.rm, h.rr, hcold, fun j hj => (hTc j hj).1⟩, fun j hj => (hTc j hj).2⟩
end Go.Proofs.YtbhccdedcoajmaaGreatDoor
namespace Go.Proofs.YtbhccdedcoajmaaGreatDoor
open Go.RowKit

/-- what one step of the script leaves -/
def StepR (wz : World) (B0 W0 K O : Nat) (w' : World) : Prop := ∃ ρ' s', Inv wz w' B0 W0 (K + 1) (O + 8) ρ' s'
theorem Inv.stepR {w w' : World} {wz : World} {B0 W0 K O : Nat} {ρ : Nat → Nat} {s : St} (h : Inv wz w B0 W0 K O ρ s) (hb : Below w.heap.size w w') : StepR wz B0 W0 K O w' := ⟨_, _, h.keep (Nat.le_succ K) (by omega) (below_keeps hb _)⟩
theorem StepR.wide {w : World} {wz : World} {B0 W0 K O : Nat} (h : ∃ ρ' s', Inv wz w B0 W0 (K + 1) O ρ' s') : StepR wz B0 W0 K O w := by
  obtain ⟨ρ, s, h⟩ := h
  exact ⟨ρ, s, h.keep (Nat.le_refl _) (by omega) (Keeps.refl _ _)⟩
theorem StepR.wide2 {w : World} {wz : World} {B0 W0 K O : Nat} (h : ∃ ρ' s', Inv wz w B0 W0 K (O + 8) ρ' s') : StepR wz B0 W0 K O w := by
  obtain ⟨ρ, s, h⟩ := h
  exact ⟨ρ, s, h.keep (Nat.le_succ _) (Nat.le_refl _) (Keeps.refl _ _)⟩

theorem lists_some {w : World} {wz : World} {B0 W0 K O : Nat} {ρ : Nat → Nat} {st : St} (hI : Inv wz w B0 W0 K O ρ st) (he : ErrT w) (hK : K ≤ 65536) (k a b c : Int) (hk : k = 1 ∨ k = 2 ∨ k = 3 ∨ k = 4 ∨ k = 5) (ha : (Lit.int .i64 a).wf = true) (hb : (Lit.int .i64 b).wf = true) (hc : (Lit.int .i64 c).wf = true) (s t : ByteArray) (hs : s.size ≤ 65536) (ht : t.size ≤ 65536) :
    Calls Tryz.prog 10 #[.pointer (some ⟨W0, 0, none⟩), .agg #[.int .i64 k, .int .i64 a, .int .i64 b, .int .i64 c, .string s, .string t]] w fun e w' => e = .returned (.tuple #[.bool true, .bool true]) ∧ StepR wz B0 W0 K O w' := by
  rcases hk with rfl | rfl | rfl | rfl | rfl
  · exact (lists_file hI hK a b c s t hs ht).mono fun e w' ⟨h1, h2⟩ => ⟨h1, StepR.wide h2⟩
  · exact (lists_tree hI hK a b c s t).mono fun e w' ⟨h1, h2⟩ => ⟨h1, StepR.wide h2⟩
  · rcases Nat.eq_zero_or_pos st.trees.length with h0 | h0
    · exact (lists_rec0 hI a b c s t h0).mono fun e w' ⟨h1, h2⟩ => ⟨h1, hI.stepR h2⟩
    · exact (lists_rec hI he hK a b c ha hb hc s t h0).mono fun e w' ⟨h1, h2⟩ => ⟨h1, StepR.wide h2⟩
  · exact (lists_bytes hI hK a b c s t hs).mono fun e w' ⟨h1, h2⟩ => ⟨h1, StepR.wide h2⟩
  · rcases Nat.eq_zero_or_pos st.batches.length with h0 | h0
    · exact (lists_turn0 hI a b c s t h0).mono fun e w' ⟨h1, h2⟩ => ⟨h1, hI.stepR h2⟩
    · exact (lists_turn hI hK a b c ha hb s t h0).mono fun e w' ⟨h1, h2⟩ => ⟨h1, StepR.wide h2⟩

set_option maxRecDepth 10000 in
set_option maxHeartbeats 1000000 in
theorem step_lists {w : World} {wz : World} {B0 W0 K O : Nat} {ρ : Nat → Nat} {st : St} (hI : Inv wz w B0 W0 K O ρ st) (he : ErrT w) (hK : K ≤ 65536) (k a b c : Int) (hk : k = 1 ∨ k = 2 ∨ k = 3 ∨ k = 4 ∨ k = 5) (ha : (Lit.int .i64 a).wf = true) (hb : (Lit.int .i64 b).wf = true) (hc : (Lit.int .i64 c).wf = true) (s t : ByteArray) (hs : s.size ≤ 65536) (ht : t.size ≤ 65536) :
    Calls Tryz.prog 8 #[.pointer (some ⟨W0, 0, none⟩), .agg #[.int .i64 k, .int .i64 a, .int .i64 b, .int .i64 c, .string s, .string t]] w fun e w' => e = .returned (.bool true) ∧ StepR wz B0 W0 K O w' := by
  have hba : ∀ ob, Below w.heap.size w (w.alloc ob) := fun ob => (Below.refl _ _).alloc (Nat.le_refl _) _
  have HL : Hid (∀ ob, Calls Tryz.prog 10 #[.pointer (some ⟨W0, 0, none⟩), .agg #[.int .i64 k, .int .i64 a, .int .i64 b, .int .i64 c, .string s, .string t]] (w.alloc ob) fun e w' => e = .returned (.tuple #[.bool true, .bool true]) ∧ StepR wz B0 W0 K O w') := fun ob => lists_some (hI.keep (Nat.le_refl _) (Nat.le_refl _) (below_keeps (hba ob) _)) (he.keep (hba ob)) hK k a b c hk ha hb hc s t hs ht
  clear hI he hk ha hb hc hba
  go_enter Tryz.func8, Tryz.ntmps8
  go_wp2_with fail
  refine (HL.out _).mono ?_
  rintro e w1 ⟨rfl, hR⟩
  have HR := hide hR
  clear hR HL
  go_wp2_with fail
  go_ret
  exact ⟨rfl, HR.out⟩

set_option maxRecDepth 10000 in
set_option maxHeartbeats 1000000 in
theorem step_new0 {w : World} {wz : World} {B0 W0 K O : Nat} {ρ : Nat → Nat} {st : St} (hI : Inv wz w B0 W0 K O ρ st) (a b c : Int) (s t : ByteArray) (h0 : st.trees.length = 0) :
    Calls Tryz.prog 8 #[.pointer (some ⟨W0, 0, none⟩), .agg #[.int .i64 6, .int .i64 a, .int .i64 b, .int .i64 c, .string s, .string t]] w fun e w' => e = .returned (.bool true) ∧ StepR wz B0 W0 K O w' := by
  have hba : ∀ ob, Below w.heap.size w (w.alloc ob) := fun ob => (Below.refl _ _).alloc (Nat.le_refl _) _
  obtain ⟨ob, hob⟩ : ∃ ob, ob = Obj.cells #[.int .i64 6, .int .i64 a, .int .i64 b, .int .i64 c, .string s, .string t] 35 := ⟨_, rfl⟩
  have hlt := hI.lt
  obtain ⟨ta, tc, hvt⟩ := row_len hI.rt.1
  rw [h0] at hvt
  have HL : Hid (Calls Tryz.prog 10 #[.pointer (some ⟨W0, 0, none⟩), .agg #[.int .i64 6, .int .i64 a, .int .i64 b, .int .i64 c, .string s, .string t]] (w.alloc ob) fun e w' => e = .returned (.tuple #[.bool false, .bool true]) ∧ Below w.heap.size w w' ∧ w'.cell? ⟨w.heap.size, 0, none⟩ = some (.int .i64 6) ∧ w'.cell? ⟨W0, 1, none⟩ = some (.slice ta 0 tc)) := by
    refine (lists_none W0 6 a b c s t (w.alloc ob) (by omega)).mono ?_
    rintro e w' ⟨rfl, hb'⟩
    have hb2 := below_all (hba ob) hb'
    refine ⟨rfl, hb2, (hb'.cell (p := ⟨w.heap.size, 0, none⟩) (by simp)).trans (by rw [hob]; exact cell_new rfl rfl), ?_⟩
    rw [← hvt]
    exact (hb2.cell (p := ⟨W0, 1, none⟩) hlt).trans (cell_row hI.blk rfl)
  have HI := hide hI
  rw [hob] at HL
  clear hI hba hob hvt
  go_enter Tryz.func8, Tryz.ntmps8
  go_wp2_with fail
  refine HL.out.mono ?_
  rintro e w1 ⟨rfl, hb1, d0, d1⟩
  have HR := hide (HI.out.stepR hb1)
  clear hb1 HL HI
  go_wp2_with fail
  go_ret
  exact ⟨rfl, HR.out⟩

theorem bad_of_not {fs : List (ByteArray × ByteArray)} (h : ¬ TreeOk fs) : ∃ i, BadAt fs i := by
  obtain ⟨i, hi, hn⟩ : ∃ i, i < fs.length ∧ ¬ OkAt fs i := by
    refine Classical.byContradiction fun hno => h fun i hi => Classical.byContradiction fun hn => hno ⟨i, hi, hn⟩
  induction i using Nat.strongRecOn with
  | ind i ih =>
    by_cases h2 : ∃ j, j < i ∧ ¬ OkAt fs j
    · obtain ⟨j, hj, hjn⟩ := h2
      exact ih j hj (by omega) hjn
    · exact ⟨i, hi, fun j hj => Classical.byContradiction fun hn' => h2 ⟨j, hj, hn'⟩, hn⟩
/-- 'opened', any tree, any room -/
theorem opened_any {w : World} {wz : World} {B0 W0 K O : Nat} {ρ : Nat → Nat} {s : St} (hI : Inv wz w B0 W0 K O ρ s) (he : ErrT w) (hK : K ≤ 65536) (v : Value) (fs : List (ByteArray × ByteArray)) (hT : TreeAt w ρ K (v, fs)) (room : Int) :
    Calls Tryz.prog 11 #[.pointer (some ⟨W0, 0, none⟩), v, .int .i64 room] w fun e w' => e = .returned (.bool true) ∧ StepR wz B0 W0 K O w' ∧ Keeps (fun k => ρ k = 1 ∨ ρ k = 5) w w' ∧ w'.cell? ⟨W0, 1, none⟩ = some s.vt := by
  have hF : Fl w v fs := hT.1
  have hl : fs.length ≤ 70000 := by have := hT.2.1; simp only at this; omega
  have hz : ∀ p ∈ fs, p.1.size ≤ 70000 ∧ p.2.size ≤ 70000 := fun p hp => by have := hT.2.2.1 p hp; omega
  have hend : ∀ w', Below w.heap.size w w' → StepR wz B0 W0 K O w' ∧ Keeps (fun k => ρ k = 1 ∨ ρ k = 5) w w' ∧ w'.cell? ⟨W0, 1, none⟩ = some s.vt := fun w' h2 => ⟨hI.stepR h2, below_keeps h2 _, (h2.cell (p := ⟨W0, 1, none⟩) hI.lt).trans (cell_row hI.blk rfl)⟩
  by_cases htr : TreeOk fs
  · by_cases hr : 0 ≤ room ∧ room ≤ 1048576
    · exact (opened_ok hI hK v fs hT htr room hr.1 hr.2).mono fun e w' ⟨h1, h2, h3⟩ => ⟨h1, StepR.wide h2, h3⟩
    · have hr' : room < 0 ∨ 1048576 < room := by omega
      exact (opened_err W0 v fs room w hl hz hF 6 ⟨#[]⟩ (.inr rfl) (fun u W hb hk => pNew_room u fs room W (he.keep hb) hk.af htr hr') (fun W hb => rnew_room v fs room W hl hz (hF.below hb) htr hr')).mono fun e w' ⟨h1, h2⟩ => ⟨h1, hend w' h2⟩
  · obtain ⟨i, hi⟩ := bad_of_not htr
    exact (opened_err W0 v fs room w hl hz hF 4 _ (.inl rfl) (fun u W hb hk => pNew_bad u fs room W (he.keep hb) hl hz hk.af hi) (fun W hb => rnew_bad v fs room W hl hz (hF.below hb) hi)).mono fun e w' ⟨h1, h2⟩ => ⟨h1, hend w' h2⟩

set_option maxRecDepth 10000 in
set_option maxHeartbeats 800000 in
theorem step_new {w : World} {wz : World} {B0 W0 K O : Nat} {ρ : Nat → Nat} {st : St} (hI : Inv wz w B0 W0 K O ρ st) (he : ErrT w) (hK : K ≤ 65536) (a b c : Int) (ha : (Lit.int .i64 a).wf = true) (s t : ByteArray) (h0 : 0 < st.trees.length) :
    Calls Tryz.prog 8 #[.pointer (some ⟨W0, 0, none⟩), .agg #[.int .i64 6, .int .i64 a, .int .i64 b, .int .i64 c, .string s, .string t]] w fun e w' => e = .returned (.bool true) ∧ StepR wz B0 W0 K O w' := by
  have hba : ∀ ob, Below w.heap.size w (w.alloc ob) := fun ob => (Below.refl _ _).alloc (Nat.le_refl _) _
  obtain ⟨ob, hob⟩ : ∃ ob, ob = Obj.cells #[.int .i64 6, .int .i64 a, .int .i64 b, .int .i64 c, .string s, .string t] 35 := ⟨_, rfl⟩
  have hlt := hI.lt
  have hkn := hI.kt
  obtain ⟨g, tc, hvt, hglt⟩ : ∃ g tc, st.vt = .slice (some ⟨g, 0, none⟩) st.trees.length tc ∧ g < w.heap.size := by
    rcases hI.rt.1.2 with ⟨_, h9⟩ | ⟨g, c, cur, h9, _, hg, _⟩
    · omega
    · exact ⟨g, c, h9, (Array.getElem?_eq_some_iff.1 hg).1⟩
  obtain ⟨k, hk, hp⟩ := lpick a ha st.trees.length (by omega) (by omega)
  obtain ⟨va, vc, fs, tk, hTA⟩ : ∃ va vc fs, w.cell? ⟨g, k, none⟩ = some (.slice va fs.length vc) ∧ TreeAt w ρ K (.slice va fs.length vc, fs) := by
    have hA := hI.trees _ (List.getElem_mem hk)
    have h9 := hI.rt.1.cells (g := g) (by rw [hvt]; rfl) k st.trees[k].1 (by simp [hk])
    rw [add_at] at h9
    obtain ⟨va, vc, hv, _⟩ := hA.1
    refine ⟨va, vc, st.trees[k].2, by rw [h9, hv], ?_⟩
    rw [← hv]
    exact hA
  have HL : Hid (Calls Tryz.prog 10 #[.pointer (some ⟨W0, 0, none⟩), .agg #[.int .i64 6, .int .i64 a, .int .i64 b, .int .i64 c, .string s, .string t]] (w.alloc ob) fun e w' => e = .returned (.tuple #[.bool false, .bool true]) ∧ Below w.heap.size w w' ∧ w'.cell? ⟨w.heap.size, 0, none⟩ = some (.int .i64 6) ∧ w'.cell? ⟨w.heap.size, 1, none⟩ = some (.int .i64 a) ∧ w'.cell? ⟨w.heap.size, 2, none⟩ = some (.int .i64 b) ∧ w'.cell? ⟨W0, 1, none⟩ = some (.slice (some ⟨g, 0, none⟩) st.trees.length tc) ∧ w'.cell? ⟨g, k, none⟩ = some (.slice va fs.length vc)) := by
    refine (lists_none W0 6 a b c s t (w.alloc ob) (by omega)).mono ?_
    rintro e w' ⟨rfl, hb'⟩
    have hb2 := below_all (hba ob) hb'
    refine ⟨rfl, hb2, (hb'.cell (p := ⟨w.heap.size, 0, none⟩) (by simp)).trans (by rw [hob]; exact cell_new rfl rfl), (hb'.cell (p := ⟨w.heap.size, 1, none⟩) (by simp)).trans (by rw [hob]; exact cell_new rfl rfl), (hb'.cell (p := ⟨w.heap.size, 2, none⟩) (by simp)).trans (by rw [hob]; exact cell_new rfl rfl), ?_, (hb2.cell (p := ⟨g, k, none⟩) hglt).trans tk⟩
    rw [← hvt]
    exact (hb2.cell (p := ⟨W0, 1, none⟩) hlt).trans (cell_row hI.blk rfl)
  have HN3 : Hid (¬ (ρ g = 1 ∨ ρ g = 5)) := by
    have hg3 : ρ g = 3 := hI.rt.2 g (by rw [hvt]; rfl)
    show ¬ _
    omega
  have HN0 : Hid (¬ (ρ w.heap.size = 1 ∨ ρ w.heap.size = 5)) := by
    have hzb : ρ w.heap.size = 0 := hI.zero _ (Nat.le_refl _)
    show ¬ _
    omega
  have HOP : Hid (∀ W, Below w.heap.size w W → Calls Tryz.prog 11 #[.pointer (some ⟨W0, 0, none⟩), .slice va fs.length vc, .int .i64 b] W fun e w' => e = .returned (.bool true) ∧ StepR wz B0 W0 K O w' ∧ Keeps (fun k => ρ k = 1 ∨ ρ k = 5) W w' ∧ w'.cell? ⟨W0, 1, none⟩ = some (.slice (some ⟨g, 0, none⟩) st.trees.length tc)) := by
    intro W hb
    rw [← hvt]
    exact opened_any (hI.keep (Nat.le_refl _) (Nat.le_refl _) (below_keeps hb _)) (he.keep hb) hK _ fs (hTA.keeps (Nat.le_refl _) (below_keeps hb (fun _ => False)) (fun _ hk => hk.elim) (fun _ _ _ => rfl)) b
  have HP := hide hp
  rw [hob] at HL
  have hne : ((st.trees.length : Int) == 0) = false := by rw [beq_eq_false_iff_ne]; omega
  clear hI hba hob hvt hp hTA tk he ha
  go_enter Tryz.func8, Tryz.ntmps8
  go_wp2_with fail
  refine HL.out.mono ?_
  rintro e w1 ⟨rfl, hb1, d0, d1, d2, d3, d4⟩
  have HB1 := hide hb1
  have hbw : w.heap.size < w1.drew.heap.size := World.block_lt_of_cell? w1 _ d1
  have hgw : g < w1.drew.heap.size := World.block_lt_of_cell? w1 _ d4
  clear hb1 HL
  go_upto_region 7 with fail
  go_cut [4] (fun v4 wc => v4 = .bool true ∧ Hid (StepR wz B0 W0 K O wc))
  case first =>
    go_wp2_with fail
    go_region_held3 (fun w' => w'.cell? ⟨W0, 1, none⟩ = some (.slice (some ⟨g, 0, none⟩) st.trees.length tc) ∧ w'.cell? ⟨w.heap.size, 1, none⟩ = some (.int .i64 a) ∧ w'.cell? ⟨w.heap.size, 2, none⟩ = some (.int .i64 b) ∧ w'.cell? ⟨g, k, none⟩ = some (.slice va fs.length vc))
      (first | exact ⟨d3, d1, d2, d4⟩ | exact ⟨hc, p1, p2, p4⟩ | exact ⟨by go_keep, by go_keep, by go_keep, by go_keep⟩)
      ((first | (go_at_call 12; refine (HP.out _).mono ?_; rintro e w2 ⟨rfl, hw2⟩; obtain rfl := hw2.symm) | (go_at_call 11; refine (HOP.out _ HB1.out.drew).mono ?_; rintro e w2 ⟨rfl, hR, hkp, hc⟩; have p1 := (hkp.cell (p := ⟨w.heap.size, 1, none⟩) hbw HN0.out).trans d1; have p2 := (hkp.cell (p := ⟨w.heap.size, 2, none⟩) hbw HN0.out).trans d2; have p4 := (hkp.cell (p := ⟨g, k, none⟩) hgw HN3.out).trans d4)))
    go_wp2_with fail
    go_meet
    exact ⟨rfl, hR⟩
  case rest =>
    obtain ⟨rfl, HR⟩ := hcut
    go_wp2_with fail
    go_ret
    exact ⟨rfl, HR.out⟩
end Go.Proofs.YtbhccdedcoajmaaGreatDoor
