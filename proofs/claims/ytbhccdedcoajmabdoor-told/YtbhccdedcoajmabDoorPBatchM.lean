import Derived.Test.YtbhccdedcoajmabDoorPTargets
import Derived.Test.YtbhccdedcoajmabDoorTold
namespace Go.Proofs.YtbhccdedcoajmabDoor
open Go.RowKit

theorem slice_to (b n cap e : Nat) (h0 : 0 < cap) (h2 : e ≤ cap) (W : World) :
    (Instr.slice 26 (.slice (some ⟨b, 0, none⟩) n cap) none (some (.int .i64 e)) none).run Tryd.prog W = .ok (.slice (some ⟨b, 0, none⟩) e cap) W := by
  have hu : Tryd.prog.underlying 26 = some (.slice (Tryd.prog.elem 26)) := by kernel_rfl
  have hs : (sizeOf (Tryd.prog.elem 26)).run Tryd.prog W = .ok 1 W := by kernel_rfl
  have hb : (Instr.sliceBounds true n cap none (some (.int .i64 e)) none).run Tryd.prog W = .ok (0, e, cap) W := by
    simp [Instr.sliceBounds, run_sliceBound, show (e : Int) ≤ (cap : Int) by omega]
  rw [run_slice_any W 26 _ n cap hu, hb]
  simp only [Result.andThen_ok, hs, sliced]
  rw [if_neg (by omega)]
  simp [Addr.add]

def EndOk (s : ByteArray) (p : Nat) : Prop := p + 8 = s.size ∧ getN (((nums s).drop p).take 8) = digestOf ((nums s).take p)

set_option maxRecDepth 10000 in
set_option maxHeartbeats 400000 in
theorem pend_ok (r b cap p : Nat) (s : ByteArray) (w : World) (hs : s.size ≤ 70000) (hcap : s.size ≤ cap) (h0 : 0 < cap) (hR : PRd w r b cap s p true) (hbr : b ≠ r) (hb : b < w.heap.size) (hc : ∀ k (h : k < (nums s).length), w.cell? ⟨b, 0 + k, none⟩ = some (.int .u8 (nums s)[k])) (hE : EndOk s p) :
    Calls Tryd.prog 50 #[.pointer (some ⟨r, 0, none⟩)] w fun e w' => e = .returned (.tuple #[]) ∧ PRd w' r b cap s s.size true ∧ w.grownBy w' (some r) := by
  obtain ⟨hp8, hdg⟩ := hE
  have HR := hide hR
  obtain ⟨ev, hev, c0, c1, c2, hf⟩ := hR.open
  obtain rfl : ev = .nilIface := hev
  have hsl := slice_to b s.size cap p h0 (by omega)
  have hl : ((nums s).take p).length = p := by rw [List.length_take, nums_length]; omega
  have HD : Hid (∀ q, Calls Tryd.prog 14 #[.slice (some ⟨b, 0, none⟩) p cap] (w.drewN q) fun e w' => e = .returned (.int .u64 (digestOf ((nums s).take p))) ∧ w' = w.drewN q) := by
    intro q
    have := digest_any b 0 cap ((nums s).take p) (w.drewN q) (by omega) ((nums_bytes s).take p) (fun k h => by
      rw [hl] at h
      rw [List.getElem_take]
      exact (cells_below hc (below_drewN (Below.refl _ _) q)) k (by rw [nums_length]; omega))
    rw [hl] at this
    exact this
  have HC := hide hc
  clear hR hc hl c2 hf
  have HDG := hide hdg
  clear hdg
  generalize hDD : digestOf ((nums s).take p) = D at *
  clear hDD
  go_enter Tryd.func50, Tryd.ntmps50
  go_wp2_with fail
  go_quiet ((go_at_call 14; refine Calls.quiet_of_same (HD.out _)))
  have HR1 : Hid (PRd (w.drewN nq) r b cap s p true) := HR.out.below (below_drewN (Below.refl _ _) nq)
  have HG1 : Hid (w.grownBy (w.drewN nq) (some r)) := grown_drewN (grown_refl _ _) nq
  clear c0 c1 hsl HD
  generalize w.drewN nq = w1 at *
  have hb1 : b < w1.heap.size := Nat.lt_of_lt_of_le hb HG1.out.size
  have HWI := hide (pwide_any r b cap p 8 s true w1 hs hcap (by omega) (by omega) HR1.out hbr hb1 (cells_grow hbr HG1.out HC.out))
  go_wp2_with fail
  refine HWI.out.mono ?_
  rintro e w2 ⟨v, rfl, p2, ok2, hR2, hS2, hv2, _, _, _, hg2⟩
  have hok2 : p2 = s.size ∧ ok2 = true := by
    rcases hS2 with ⟨_, h2, h3, h4⟩ | ⟨_, _, h | h⟩
    · exact ⟨by omega, h4⟩
    · cases h
    · omega
  obtain ⟨rfl, rfl⟩ := hok2
  obtain rfl : v = D := by rw [hv2 rfl]; exact HDG.out
  have HR2 := hide hR2
  have HG2 := hide (HG1.out.trans hg2)
  clear hR2 hS2 hv2 hg2 HWI
  go_wp2_with fail
  refine (pmust_any r b cap s.size s _ true true w2 HR2.out).mono ?_
  rintro e w3 ⟨rfl, hR3, hg3⟩
  obtain ⟨ev, hev, k0, k1, k2, kf⟩ := hR3.open
  have HR3 := hide hR3
  have HG3 := hide (HG2.out.trans hg3)
  have HMU : Hid (∀ holds what, Calls Tryd.prog 45 #[.pointer (some ⟨r, 0, none⟩), .bool holds, .string what] w3.drew fun e w' => e = .returned (.tuple #[]) ∧ PRd w' r b cap s s.size (true && holds) ∧ w3.grownBy w' (some r)) := by
    intro holds what
    refine (pmust_any r b cap s.size s what true holds w3.drew (HR3.out.below (Below.refl _ _).drew)).mono ?_
    rintro e w' ⟨rfl, h1, h2⟩
    exact ⟨rfl, h1, (grown_of_below (Below.refl _ _).drew).trans h2⟩
  clear hR3 hg3 k2 kf hev
  go_wp2_with fail
  go_region_held3 (fun w' => w'.cell? ⟨r, 0, none⟩ = some (.slice (some ⟨b, 0, none⟩) s.size cap) ∧ w'.cell? ⟨r, 1, none⟩ = some (.int .i64 s.size))
    (first | exact ⟨k0, k1⟩ | exact ⟨m0, m1⟩)
    ((go_at_call 45; refine (HMU.out true _).mono ?_; rintro e w4 ⟨rfl, hR4, hg4⟩; obtain ⟨ev4, hev4, m0, m1, m2, mf⟩ := hR4.open))
  have HF : Hid (PRd w4 r b cap s s.size true ∧ w.grownBy w4 (some r)) := ⟨hR4, HG3.out.trans hg4⟩
  clear hR4 hg4 m0 m1 m2 mf hev4
  go_wp2_with fail
  go_end0
  exact ⟨rfl, HF.out.1, HF.out.2⟩

theorem name_first (last nm : List Int) : (nameB nm && (true || ltL last nm)) = (nameB nm && (false || ltL [] nm)) := by
  cases hn : nameB nm with
  | false => rfl
  | true =>
    cases h : nm with
    | nil => rw [h] at hn; simp [nameB] at hn
    | cons a r => rfl
theorem entry_first (last l : List Int) : entryP true last l = entryP false [] l := by
  unfold entryP
  simp only [name_first]

theorem basis_first (n : Nat) (last l : List Int) : basisP n true last l = basisP n false [] l := by
  cases n with
  | zero => rfl
  | succ n => unfold basisP; rw [entry_first]
theorem targets_first (bas : List EntL) (B n : Nat) (last l : List Int) : targetsP bas B n true last l = targetsP bas B n false [] l := by
  cases n with
  | zero => rfl
  | succ n => unfold targetsP; rw [entry_first]
theorem entry_facts {last l l' : List Int} {e : EntL} (h : entryP false last l = some (e, l')) : e.size ≤ 300 ∧ ltL last e.name = true := by
  unfold entryP at h
  simp only [Option.bind_eq_bind, Option.bind_eq_some_iff] at h
  obtain ⟨q, _, q2, _, h⟩ := h
  split at h
  · rename_i hc
    simp only [Option.bind_eq_some_iff] at h
    obtain ⟨q3, _, h⟩ := h
    split at h
    · rename_i hz
      simp only [Option.bind_eq_some_iff] at h
      obtain ⟨q4, _, h⟩ := h
      simp only [Option.some.injEq, Prod.mk.injEq] at h
      obtain ⟨rfl, _⟩ := h
      rw [Bool.and_eq_true, Bool.false_or] at hc
      exact ⟨hz, hc.2⟩
    · cases h
  · cases h
theorem basis_facts : ∀ (n : Nat) (last l l' : List Int) (es : List EntL), basisP n false last l = some (es, l') → (∀ e ∈ es, e.size ≤ 300 ∧ ltL last e.name = true) ∧ es.Pairwise (fun a b => ltL a.name b.name = true)
  | 0, last, l, l', es, h => by
    simp only [basisP, Option.some.injEq, Prod.mk.injEq] at h
    obtain ⟨rfl, _⟩ := h
    exact ⟨fun e he => by simp at he, List.Pairwise.nil⟩
  | n + 1, last, l, l', es, h => by
    rw [basis_step] at h
    simp only [Option.bind_eq_some_iff, Option.map_eq_some_iff] at h
    obtain ⟨q, hq, q2, hq2, h⟩ := h
    simp only [Prod.mk.injEq] at h
    obtain ⟨rfl, _⟩ := h
    have h1 := entry_facts hq
    have h2 := basis_facts n _ _ _ _ hq2
    refine ⟨fun e he => ?_, List.pairwise_cons.2 ⟨fun e he => (h2.1 e he).2, h2.2⟩⟩
    rcases List.mem_cons.1 he with rfl | he
    · exact h1
    · exact ⟨(h2.1 e he).1, ltL_trans h1.2 (h2.1 e he).2⟩
theorem lt_ne {a b : List Int} (h : ltL a b = true) : a ≠ b := fun e => by rw [e, ltL_irrefl] at h; cases h

/-- what a batch that is one says of its parts -/
theorem read_parts {s : ByteArray} {bl : Int} {bs : List EntL} {ts : List (EntL × List Tok)} (h : readL (nums s) = some ⟨bl, bs, ts⟩) :
    4 ≤ s.size ∧ (nums s).take 3 = [66, 65, 84] ∧ getN (((nums s).drop 3).take 1) = bl ∧ 1 ≤ bl ∧ bl ≤ 64 ∧ ∃ l1 l2, ((filesP ((nums s).drop 4)).bind fun q => basisP q.1 false [] q.2) = some (bs, l1) ∧ ((filesP l1).bind fun q => targetsP bs bl.toNat q.1 false [] q.2) = some (ts, l2) ∧ numP 8 l2 = some (digestOf ((nums s).take ((nums s).length - l2.length)), []) := by
  have hl := nums_length s
  unfold readL at h
  simp only [Option.bind_eq_bind, Option.bind_eq_some_iff] at h
  obtain ⟨q, hq, h⟩ := h
  split at h
  · rename_i h3
    simp only [Option.bind_eq_some_iff] at h
    obtain ⟨q1, hq1, h⟩ := h
    split at h
    · rename_i hb
      simp only [Option.bind_eq_some_iff] at h
      obtain ⟨q2, hq2, h⟩ := h
      split at h
      · rename_i hn
        simp only [Option.bind_eq_some_iff] at h
        obtain ⟨q3, hq3, q4, hq4, h⟩ := h
        split at h
        · rename_i hm
          simp only [Option.bind_eq_some_iff] at h
          obtain ⟨q5, hq5, q6, hq6, h⟩ := h
          split at h
          · rename_i he
            simp only [Option.some.injEq, BatL.mk.injEq] at h
            obtain ⟨rfl, rfl, rfl⟩ := h
            have g1 : 3 ≤ s.size ∧ q = ((nums s).take 3, (nums s).drop 3) := by
              unfold txtP at hq
              split at hq
              · cases hq
              · cases hq
                exact ⟨by omega, rfl⟩
            obtain ⟨g1, rfl⟩ := g1
            have g2 : 4 ≤ s.size ∧ q1 = (getN (((nums s).drop 3).take 1), (nums s).drop 4) := by
              unfold numP at hq1
              split at hq1
              · cases hq1
              · cases hq1
                rename_i hlen
                rw [List.length_drop] at hlen
                exact ⟨by omega, by rw [List.drop_drop]⟩
            obtain ⟨g2, rfl⟩ := g2
            refine ⟨g2, h3, rfl, hb.1, hb.2, q3.2, q5.2, ?_, ?_, ?_⟩
            · unfold filesP
              rw [hq2]
              simp only [Option.bind_some]
              rw [if_pos hn]
              simp only [Option.bind_some]
              rw [← basis_first _ [], hq3]
            · unfold filesP
              rw [hq4]
              simp only [Option.bind_some]
              rw [if_pos hm]
              simp only [Option.bind_some]
              rw [← targets_first _ _ _ [], hq5]
            · rw [hq6]
              congr 1
              exact Prod.ext he.2 he.1
          · cases h
        · cases h
      · cases h
    · cases h
  · cases h
end Go.Proofs.YtbhccdedcoajmabDoor
namespace Go.Proofs.YtbhccdedcoajmabDoor
open Go.RowKit

theorem own_setR {w : World} {base2 : Nat} {e : TypeId} {size : Nat} {v : Value} {n : Nat} {xs : List Value} (h : w.ownsRow base2 e size v n xs) {g : Nat} (hg : g < base2) (x y z : Value) :
    (((w.setCell ⟨g, 0, none⟩ x).setCell ⟨g, 1, none⟩ y).setCell ⟨g, 2, none⟩ z).ownsRow base2 e size v n xs :=
  row_kept (row_kept (row_kept h (setCell_grown _) hg) (setCell_grown _) hg) (setCell_grown _) hg
theorem TgOk.set3 {w : World} {base : Nat} {x : Tg} (h : TgOk w base x) {g : Nat} (hg : g < base) (a b c : Value) : TgOk (((w.setCell ⟨g, 0, none⟩ a).setCell ⟨g, 1, none⟩ b).setCell ⟨g, 2, none⟩ c) base x :=
  ((h.keepR (setCell_grown _) hg).keepR (setCell_grown _) hg).keepR (setCell_grown _) hg
theorem TgOk.base {w : World} {base base' : Nat} {x : Tg} (h : TgOk w base x) (hb : base' ≤ base) : TgOk w base' x := ⟨Nat.le_trans hb h.low, h.row, h.b1, h.b2, h.high, h.small, h.len⟩

/-- the rows of a batch that was read -/
def BatR (w' : World) (base : Nat) (bs : List EntL) (ts : List (EntL × List Tok)) (bv tv : Value) : Prop :=
  ∃ (es : List (ByteArray × Nat × Int)) (xs : List Tg), w'.ownsRow base 41 3 bv es.length (entCells es) ∧ es.map entV = bs ∧ es.length ≤ 8 ∧ w'.ownsRow base 46 4 tv xs.length (tgCells xs) ∧ xs.length ≤ 8 ∧ (∀ x ∈ xs, TgOk w' base x) ∧ xs.Pairwise (fun x y => x.hi ≤ y.lo) ∧ (∀ x ∈ xs, ∀ k, tv.ownBlock = some k → k < x.lo ∨ x.hi ≤ k) ∧ xs.map tgV = ts
theorem BatR.below {w w' : World} {base : Nat} {bs : List EntL} {ts : List (EntL × List Tok)} {bv tv : Value} (h : BatR w base bs ts bv tv) (hb : Below w.heap.size w w') : BatR w' base bs ts bv tv := by
  obtain ⟨es, xs, h1, h2, h3, h4, h5, h6, h7⟩ := h
  exact ⟨es, xs, ownsRow_below h1 hb, h2, h3, ownsRow_below h4 hb, h5, fun x hx => (h6 x hx).below hb, h7⟩
theorem BatR.base {w : World} {base base' : Nat} {bs : List EntL} {ts : List (EntL × List Tok)} {bv tv : Value} (h : BatR w base bs ts bv tv) (hb : base' ≤ base) : BatR w base' bs ts bv tv := by
  obtain ⟨es, xs, h1, h2, h3, h4, h5, h6, h7⟩ := h
  exact ⟨es, xs, ownsRow_base h1 hb, h2, h3, ownsRow_base h4 hb, h5, fun x hx => (h6 x hx).base hb, h7⟩
theorem BatR.set3 {w : World} {base : Nat} {bs : List EntL} {ts : List (EntL × List Tok)} {bv tv : Value} (h : BatR w base bs ts bv tv) {g : Nat} (hg : g < base) (a b c : Value) : BatR (((w.setCell ⟨g, 0, none⟩ a).setCell ⟨g, 1, none⟩ b).setCell ⟨g, 2, none⟩ c) base bs ts bv tv := by
  obtain ⟨es, xs, h1, h2, h3, h4, h5, h6, h7⟩ := h
  exact ⟨es, xs, own_setR h1 hg _ _ _, h2, h3, own_setR h4 hg _ _ _, h5, fun x hx => (h6 x hx).set3 hg _ _ _, h7⟩
theorem row_slice {w : World} {base : Nat} {e : TypeId} {size : Nat} {v : Value} {n : Nat} {xs : List Value} (h : w.ownsRow base e size v n xs) : ∃ a n c, v = .slice a n c := by
  rcases h.2 with ⟨h, _⟩ | ⟨g, c, cur, h, _⟩
  · exact ⟨_, _, _, h⟩
  · exact ⟨_, _, _, h⟩

set_option maxRecDepth 10000 in
set_option maxHeartbeats 600000 in
theorem pbatch_ok (r b cap : Nat) (s : ByteArray) (bl : Int) (bs : List EntL) (ts : List (EntL × List Tok)) (w : World) (hs : s.size ≤ 70000) (hcap : s.size ≤ cap) (hR : PRd w r b cap s 0 true) (hbr : b ≠ r) (hb : b < w.heap.size) (hc : ∀ k (h : k < (nums s).length), w.cell? ⟨b, 0 + k, none⟩ = some (.int .u8 (nums s)[k])) (hread : readL (nums s) = some ⟨bl, bs, ts⟩) :
    Calls Tryd.prog 30 #[.pointer (some ⟨r, 0, none⟩)] w fun e w' => ∃ bv tv, e = .returned (.agg #[.int .i64 bl, bv, tv]) ∧ PRd w' r b cap s s.size true ∧ BatR w' w.heap.size bs ts bv tv ∧ w.grownBy w' (some r) := by
  obtain ⟨g4, hhead, hbl, hbl1, hbl2, l1, l2, hbas, htgt, hend⟩ := read_parts hread
  clear hread
  have hlr := hR.lt
  have HA : Hid (∀ o, Below w.heap.size w (w.alloc o)) := fun o => (Below.refl _ _).alloc (Nat.le_refl _) o
  have HR0 : Hid (∀ o, PRd (w.alloc o) r b cap s 0 true) := fun o => hR.below (HA.out o)
  have HC := hide hc
  have HG0 : Hid (∀ o, w.grownBy (w.alloc o) (some r)) := fun o => World.grownBy_alloc w _ _
  have HBAS := hide hbas
  have HTGT := hide htgt
  have HEND := hide hend
  have HHEAD := hide hhead
  have HBL := hide hbl
  clear hR hc hbas htgt hend hhead hbl
  have hbat : ((⟨#[66, 65, 84]⟩ : ByteArray).toList == (⟨#[66, 65, 84]⟩ : ByteArray).toList) = true := by simp
  go_enter Tryd.func30, Tryd.ntmps30
  go_wp2_with fail
  refine (ptake_any r b cap 0 3 s true _ hs hcap (by omega) (by omega) (HR0.out _)).mono ?_
  rintro e w1 ⟨va, m, p1, ok1, rfl, hR1, hS1, hyes, hno, hg1⟩
  obtain ⟨rfl, rfl⟩ : p1 = 3 ∧ ok1 = true := by
    rcases hS1 with ⟨_, _, h3, h4⟩ | ⟨_, _, h | h⟩
    · exact ⟨by omega, h4⟩
    · cases h
    · omega
  have HG1 : Hid (w.grownBy w1 (some r)) := (HG0.out _).trans hg1
  have HGR : Hid (∀ W, w1.grownBy W (some r) → W.heap[w.heap.size]? = some (.cells #[.int .i64 0, .slice none 0 0, .slice none 0 0] 33 (0, 0))) := by
    intro W hW
    have hgall := hg1.trans hW
    rw [hgall.block _ (by simp) (by simp; omega)]
    exact heap_alloc_new _ _
  have hw1 : w.heap.size + 1 ≤ w1.heap.size := by have := hg1.size; simpa using this
  obtain ⟨t, hcv, _, hnt⟩ := conv_take (s := s) (b := b) (p := 0) (n := 3) (W := w1) (fun _ => by omega) hyes hno (cells_plain (cells_grow hbr HG1.out HC.out))
  obtain rfl : t = ⟨#[66, 65, 84]⟩ := nums_inj (by rw [hnt rfl, List.drop_zero, HHEAD.out]; rfl)
  have HR1 := hide hR1
  clear hR1 hS1 hyes hno hg1 hnt
  go_wp2_with fail
  clear hcv
  refine (pmust_any r b cap 3 s _ true true w1 HR1.out).mono ?_
  rintro e w2 ⟨rfl, hR2, hg2⟩
  have HR2 := hide hR2
  have HG2 := hide hg2
  have HG2w : Hid (w.grownBy w2 (some r)) := HG1.out.trans hg2
  clear hR2 hg2 hbat
  have HNU := hide (pnumber_any r b cap 3 1 s true w2 hs hcap (by omega) (by omega) HR2.out hbr (Nat.lt_of_lt_of_le hb HG2w.out.size) (cells_grow hbr HG2w.out HC.out))
  go_wp2_with fail
  refine HNU.out.mono ?_
  rintro e w3 ⟨v, rfl, _, _, p3, ok3, hR3, hS3, hv3, _, _, _, hg3⟩
  obtain ⟨rfl, rfl⟩ : p3 = 4 ∧ ok3 = true := by
    rcases hS3 with ⟨_, _, h3, h4⟩ | ⟨_, _, h | h⟩
    · exact ⟨by omega, h4⟩
    · cases h
    · omega
  have hvb : (v : Int) = bl := by rw [hv3 rfl]; exact HBL.out
  subst hvb
  have HR3 := hide hR3
  have HG3 := hide (HG2.out.trans hg3)
  have HG3w : Hid (w.grownBy w3 (some r)) := HG2w.out.trans hg3
  clear hR3 hS3 hv3 hg3 HNU
  have HCB := hide (fun W => checkBlock_ok (v : Int) hbl1 hbl2 W)
  go_wp2_with fail
  refine (HCB.out _).mono ?_
  rintro e w4 ⟨rfl, hw4⟩
  obtain rfl := hw4.symm
  go_wp2_with fail
  refine (pmust_any r b cap 4 s _ true true w3 HR3.out).mono ?_
  rintro e w5 ⟨rfl, hR5, hg5⟩
  have HR5 := hide hR5
  have HG5 := hide (HG3.out.trans hg5)
  have HG5w : Hid (w.grownBy w5 (some r)) := HG3w.out.trans hg5
  clear hR5 hg5
  have HBA := hide (pbasis_any r b cap 4 s true w5 hs hcap (by omega) HR5.out hbr (Nat.lt_of_lt_of_le hb HG5w.out.size) (cells_grow hbr HG5w.out HC.out))
  go_wp2_with fail
  refine HBA.out.mono ?_
  rintro e w6 ⟨bv, rfl, p6, ok6, es, hR6, hp6, hel, ho6, hyes6, hno6, hg6⟩
  obtain rfl : ok6 = true := by
    cases ok6 with
    | true => rfl
    | false =>
      rcases hno6 rfl with h | h
      · cases h
      · rw [HBAS.out] at h; cases h
  obtain ⟨hesb, hl1⟩ : es.map entV = bs ∧ (nums s).drop p6 = l1 := by
    have := (hyes6 rfl).2
    rw [HBAS.out] at this
    simp only [Option.some.injEq, Prod.mk.injEq] at this
    exact ⟨this.1.symm, this.2.symm⟩
  have HR6 := hide hR6
  have HG6 := hide (HG5.out.trans hg6)
  have HG6w : Hid (w.grownBy w6 (some r)) := HG5w.out.trans hg6
  have hw5 : w1.heap.size ≤ w5.heap.size := HG5.out.size
  have HO6 : Hid (w6.ownsRow (w.heap.size + 1) 41 3 bv es.length (entCells es)) := ownsRow_base ho6 (by omega)
  have HFAC : Hid ((∀ e ∈ es, e.2.1 ≤ 300) ∧ es.Pairwise fun a b => nums a.1 ≠ nums b.1) := by
    have h1 := HBAS.out
    simp only [Option.bind_eq_some_iff] at h1
    obtain ⟨q, _, h1⟩ := h1
    have h2 := basis_facts _ _ _ _ _ h1
    rw [← hesb] at h2
    refine ⟨fun e he => ?_, ?_⟩
    · have := (h2.1 (entV e) (List.mem_map_of_mem he)).1
      have e1 : (entV e).size = ((e.2.1 : Nat) : Int) := rfl
      rw [e1] at this
      omega
    · have := h2.2
      rw [List.pairwise_map] at this
      exact this.imp fun h => lt_ne h
  have HTA := hide (ptargets_any r b cap p6 v s true bv es w6 hs hcap hp6 HR6.out hbr (Nat.lt_of_lt_of_le hb HG6w.out.size) (cells_grow hbr HG6w.out HC.out) (fun W hg => El_of_row (row_kept HO6.out hg (by omega))) hel (fun _ => ⟨HFAC.out.1, HFAC.out.2, by omega, by omega⟩))
  clear hR6 hyes6 hno6 hg6 ho6 HBA
  obtain ⟨ba, bn, bc, rfl⟩ := row_slice HO6.out
  go_wp2_with fail
  refine HTA.out.mono ?_
  rintro e w7 ⟨tv, rfl, p7, ok7, xs, hR7, hp7, hxl, ho7, hx7, hpw7, hrow7, hyes7, hno7, hg7⟩
  have HTG2 : Hid (((filesP ((nums s).drop p6)).bind fun q => targetsP (es.map entV) v q.1 false [] q.2) = some (ts, l2)) := by
    show _ = _
    rw [hl1, hesb]
    have := HTGT.out
    rw [Int.toNat_natCast] at this
    exact this
  obtain rfl : ok7 = true := by
    cases ok7 with
    | true => rfl
    | false =>
      rcases hno7 rfl with h | h
      · cases h
      · rw [HTG2.out] at h; cases h
  obtain ⟨hxts, hl2⟩ : xs.map tgV = ts ∧ (nums s).drop p7 = l2 := by
    have := (hyes7 rfl).2
    rw [HTG2.out] at this
    simp only [Option.some.injEq, Prod.mk.injEq] at this
    exact ⟨this.1.symm, this.2.symm⟩
  have hE : EndOk s p7 := by
    have h := HEND.out
    rw [← hl2] at h
    have hln := nums_length s
    unfold numP at h
    split at h
    · cases h
    · rename_i hlen
      rw [List.length_drop] at hlen h
      simp only [Option.some.injEq, Prod.mk.injEq] at h
      have h2 := congrArg List.length h.2
      rw [List.length_drop, List.length_drop] at h2
      simp at h2
      refine ⟨by omega, ?_⟩
      rw [h.1]
      congr 2
      omega
  have HR7 := hide hR7
  have HG7 := hide (HG6.out.trans hg7)
  have HG7w : Hid (w.grownBy w7 (some r)) := HG6w.out.trans hg7
  have HBR : Hid (BatR w7 (w.heap.size + 1) bs ts (.slice ba bn bc) tv) := ⟨es, xs, row_kept HO6.out hg7 (by omega), hesb, hel, ownsRow_base ho7 (by have := HG6.out.size; omega), hxl, fun x hx => (hx7 x hx).base (by have := HG6.out.size; omega), hpw7, hrow7, hxts⟩
  have HEN := hide (pend_ok r b cap p7 s w7 hs hcap (by omega) HR7.out hbr (Nat.lt_of_lt_of_le hb HG7w.out.size) (cells_grow hbr HG7w.out HC.out) hE)
  obtain ⟨ta, tn, tc, rfl⟩ := row_slice ho7
  clear hR7 hyes7 hno7 hg7 ho7 hx7 hpw7 hrow7 HTA hE
  go_wp2_with fail
  refine HEN.out.mono ?_
  rintro e w8 ⟨rfl, hR8, hg8⟩
  have hgr := HGR.out w8 (HG7.out.trans hg8)
  have k0 : w8.cell? ⟨w.heap.size, 0, none⟩ = some (.int .i64 0) := cell_row hgr rfl
  have k1 : w8.cell? ⟨w.heap.size, 1, none⟩ = some (.slice none 0 0) := cell_row hgr rfl
  have k2 : w8.cell? ⟨w.heap.size, 2, none⟩ = some (.slice none 0 0) := cell_row hgr rfl
  have kf : ∀ j, w8.frozen? ⟨w.heap.size, j, none⟩ = false := fun j => frozen_of_row _ _ _ _ _ hgr
  have HR8 := hide hR8
  have HG8w : Hid (w.grownBy w8 (some r)) := HG7w.out.trans hg8
  have HB8 : Hid (BatR w8 (w.heap.size + 1) bs ts (.slice ba bn bc) (.slice ta tn tc)) := by
    obtain ⟨es, xs, h1, h2, h3, h4, h5, h6, h7⟩ := HBR.out
    exact ⟨es, xs, row_kept h1 hg8 (by omega), h2, h3, row_kept h4 hg8 (by omega), h5, fun x hx => (h6 x hx).keepR hg8 (by omega), h7⟩
  clear hR8 hg8 hgr
  go_wp2_with fail
  refine bodyPost_ret (v := .agg #[.int .i64 (v : Int), .slice ba bn bc, .slice ta tn tc]) (by simp [results, Tryd.results30, go_sem, k0, k1, k2]) rfl ⟨_, _, rfl, HR8.out.set3 hlr _ _ _, (HB8.out.set3 (by omega) _ _ _).base (by omega), ?_⟩
  exact grown_setNew (grown_setNew (grown_setNew HG8w.out (Nat.le_refl _) _ _) (Nat.le_refl _) _ _) (Nat.le_refl _) _ _
end Go.Proofs.YtbhccdedcoajmabDoor
namespace Go.Proofs.YtbhccdedcoajmabDoor
open Go.RowKit

theorem below_set3 {base : Nat} {w w' : World} (h : Below base w w') {g : Nat} (hg : base ≤ g) (x y z : Value) : Below base w (((w'.setCell ⟨g, 0, none⟩ x).setCell ⟨g, 1, none⟩ y).setCell ⟨g, 2, none⟩ z) := ((h.setCell (p := ⟨g, 0, none⟩) hg _).setCell (p := ⟨g, 1, none⟩) hg _).setCell (p := ⟨g, 2, none⟩) hg _

set_option maxRecDepth 10000 in
set_option maxHeartbeats 400000 in
theorem bread_ok (b cap : Nat) (s : ByteArray) (bl : Int) (bs : List EntL) (ts : List (EntL × List Tok)) (w : World) (hs : s.size ≤ 70000) (hcap : s.size ≤ cap) (hb : b < w.heap.size) (hc : ∀ k (h : k < (nums s).length), w.cell? ⟨b, 0 + k, none⟩ = some (.int .u8 (nums s)[k])) (hread : readL (nums s) = some ⟨bl, bs, ts⟩) :
    Calls Tryd.prog 18 #[.slice (some ⟨b, 0, none⟩) s.size cap] w fun e w' => ∃ bv tv, e = .returned (.tuple #[.agg #[.int .i64 bl, bv, tv], .nilIface]) ∧ BatR w' w.heap.size bs ts bv tv ∧ Below w.heap.size w w' := by
  obtain ⟨o1, ho1⟩ : ∃ o, o = Obj.cells #[.int .i64 0, .slice none 0 0, .slice none 0 0] 33 := ⟨_, rfl⟩
  obtain ⟨o2, ho2⟩ : ∃ o, o = Obj.cells #[.slice (some ⟨b, 0, none⟩) s.size cap, .int .i64 0, .nilIface] 86 := ⟨_, rfl⟩
  have hB0 : Below w.heap.size w ((w.alloc o1).alloc o2) := ((Below.refl _ _).alloc (Nat.le_refl _) _).alloc (by simp) _
  have hR0 : PRd ((w.alloc o1).alloc o2) (w.heap.size + 1) b cap s 0 true := by
    refine ⟨.nilIface, rfl, ?_⟩
    have := heap_alloc_new (w.alloc o1) o2
    rw [show (w.alloc o1).heap.size = w.heap.size + 1 by simp] at this
    rw [this, ho2]
    rfl
  have hz0 : ((w.alloc o1).alloc o2).heap.size = w.heap.size + 2 := by simp
  have HBT := hide (pbatch_ok (w.heap.size + 1) b cap s bl bs ts ((w.alloc o1).alloc o2) hs hcap hR0 (by omega) (by omega) (cells_below hc hB0) hread)
  have HGR : Hid (∀ W, ((w.alloc o1).alloc o2).grownBy W (some (w.heap.size + 1)) → W.heap[w.heap.size]? = some (.cells #[.int .i64 0, .slice none 0 0, .slice none 0 0] 33 (0, 0))) := by
    intro W hW
    rw [hW.block _ (by simp; omega) (by simp), (((Below.refl (w.alloc o1).heap.size (w.alloc o1)).alloc (Nat.le_refl _) o2).block _ (by simp)), heap_alloc_new, ho1]
  rw [hz0] at HBT
  have HB0 := hide hB0
  rw [ho1, ho2] at HBT HGR HB0
  clear hB0 hR0 hz0 ho1 ho2 hc hread
  go_enter Tryd.func18, Tryd.ntmps18
  go_wp2_with fail
  refine HBT.out.mono ?_
  rintro e w1 ⟨bv, tv, rfl, hR1, hbr, hg1⟩
  obtain ⟨ba, bn, bc, rfl⟩ : ∃ a n c, bv = .slice a n c := by obtain ⟨es, xs, h1, _⟩ := hbr; exact row_slice h1
  obtain ⟨ta, tn, tc, rfl⟩ : ∃ a n c, tv = .slice a n c := by obtain ⟨es, xs, _, _, _, h4, _⟩ := hbr; exact row_slice h4
  have hw1 : w.heap.size + 2 ≤ w1.heap.size := by have := hg1.size; simpa using this
  have HB1 : Hid (Below w.heap.size w w1) := HB0.out.grown hg1 (by simp; omega) (fun j hj => by simp at hj; omega)
  have hgr := HGR.out w1 hg1
  obtain ⟨ev, hev, c0, c1, c2, cf⟩ := hR1.open
  obtain rfl : ev = .nilIface := hev
  have HBR := hide hbr
  have hrl := hR1.lt
  clear hbr hg1 hR1 HBT HGR HB0
  obtain ⟨o3, ho3⟩ : ∃ o, o = Obj.cells #[.int .i64 bl, .slice ba bn bc, .slice ta tn tc] 33 := ⟨_, rfl⟩
  obtain ⟨o4, ho4⟩ : ∃ o, o = Obj.cells #[.int .i64 0] 27 := ⟨_, rfl⟩
  have hB3 : Below w1.heap.size w1 ((w1.alloc o3).alloc o4) := ((Below.refl _ _).alloc (Nat.le_refl _) _).alloc (by simp) _
  have d2 : ((w1.alloc o3).alloc o4).cell? ⟨w.heap.size + 1, 2, none⟩ = some .nilIface := (hB3.cell (p := ⟨w.heap.size + 1, 2, none⟩) hrl).trans c2
  have hgr3 : ((w1.alloc o3).alloc o4).heap[w.heap.size]? = some (.cells #[.int .i64 0, .slice none 0 0, .slice none 0 0] 33 (0, 0)) := (hB3.block _ (by omega)).trans hgr
  have hn3 : ((w1.alloc o3).alloc o4).heap[w1.heap.size]? = some (.cells #[.int .i64 bl, .slice ba bn bc, .slice ta tn tc] 33 (0, 0)) := by
    rw [(((Below.refl (w1.alloc o3).heap.size (w1.alloc o3)).alloc (Nat.le_refl _) o4).block _ (by simp)), heap_alloc_new, ho3]
  have k0 : ((w1.alloc o3).alloc o4).cell? ⟨w.heap.size, 0, none⟩ = some (.int .i64 0) := cell_row hgr3 rfl
  have k1 : ((w1.alloc o3).alloc o4).cell? ⟨w.heap.size, 1, none⟩ = some (.slice none 0 0) := cell_row hgr3 rfl
  have k2 : ((w1.alloc o3).alloc o4).cell? ⟨w.heap.size, 2, none⟩ = some (.slice none 0 0) := cell_row hgr3 rfl
  have kf : ∀ j, ((w1.alloc o3).alloc o4).frozen? ⟨w.heap.size, j, none⟩ = false := fun j => frozen_of_row _ _ _ _ _ hgr3
  have n0 : ((w1.alloc o3).alloc o4).cell? ⟨w1.heap.size, 0, none⟩ = some (.int .i64 bl) := cell_row hn3 rfl
  have n1 : ((w1.alloc o3).alloc o4).cell? ⟨w1.heap.size, 1, none⟩ = some (.slice ba bn bc) := cell_row hn3 rfl
  have n2 : ((w1.alloc o3).alloc o4).cell? ⟨w1.heap.size, 2, none⟩ = some (.slice ta tn tc) := cell_row hn3 rfl
  have HB3 := hide hB3
  have hne : w1.heap.size ≠ w.heap.size := by omega
  rw [ho3, ho4] at d2 k0 k1 k2 kf n0 n1 n2 HB3
  clear hgr hgr3 hn3 hB3 ho3 ho4 c0 c1 c2 cf
  go_wp2_with fail
  generalize hWA : (w1.alloc (.cells #[.int .i64 bl, .slice ba bn bc, .slice ta tn tc] 33)).alloc (.cells #[.int .i64 0] 27) = wa at *
  clear hWA
  go_wp2_with fail
  refine (as_nil _ _).mono ?_
  rintro e w2 ⟨rfl, hw2⟩
  obtain rfl := hw2.symm
  go_wp2_with fail
  refine bodyPost_ret (v := .tuple #[.agg #[.int .i64 bl, .slice ba bn bc, .slice ta tn tc], .nilIface]) (by simp [results, Tryd.results18, go_sem, k0, k1, k2]) rfl ⟨_, _, rfl, ?_, ?_⟩
  · exact ((HBR.out.below HB3.out).set3 (by omega) _ _ _).base (by omega)
  · exact below_set3 (below_all HB1.out HB3.out) (Nat.le_refl _) _ _ _

set_option maxRecDepth 10000 in
set_option maxHeartbeats 400000 in
theorem mread_ok (v : Value) (bl : Int) (bs : List EntL) (ts : List (EntL × List Tok)) (w : World) (hc : ∀ W, Below w.heap.size w W → Calls Tryd.prog 18 #[v] W fun e w' => ∃ bv tv, e = .returned (.tuple #[.agg #[.int .i64 bl, bv, tv], .nilIface]) ∧ BatR w' W.heap.size bs ts bv tv ∧ Below W.heap.size W w') :
    Calls Tryd.prog 13 #[v] w fun e w' => ∃ bv tv, e = .returned (.tuple #[.agg #[.int .i64 bl, bv, tv], .nilIface]) ∧ BatR w' w.heap.size bs ts bv tv ∧ Below w.heap.size w w' := by
  have HA : Hid (∀ o, Below w.heap.size w (w.alloc o)) := fun o => (Below.refl _ _).alloc (Nat.le_refl _) o
  have HC := hide (fun o => hc (w.alloc o) (HA.out o))
  clear hc
  go_enter Tryd.func13, Tryd.ntmps13
  go_wp2_with fail
  refine (HC.out _).mono ?_
  rintro e w1 ⟨bv, tv, rfl, hbr, hb1⟩
  obtain ⟨ba, bn, bc, rfl⟩ : ∃ a n c, bv = .slice a n c := by obtain ⟨es, xs, h1, _⟩ := hbr; exact row_slice h1
  obtain ⟨ta, tn, tc, rfl⟩ : ∃ a n c, tv = .slice a n c := by obtain ⟨es, xs, _, _, _, h4, _⟩ := hbr; exact row_slice h4
  have hgr : w1.heap[w.heap.size]? = some (.cells #[.int .i64 0, .slice none 0 0, .slice none 0 0] 33 (0, 0)) := (hb1.block _ (by simp)).trans (heap_alloc_new _ _)
  have k0 : w1.cell? ⟨w.heap.size, 0, none⟩ = some (.int .i64 0) := cell_row hgr rfl
  have k1 : w1.cell? ⟨w.heap.size, 1, none⟩ = some (.slice none 0 0) := cell_row hgr rfl
  have k2 : w1.cell? ⟨w.heap.size, 2, none⟩ = some (.slice none 0 0) := cell_row hgr rfl
  have kf : ∀ j, w1.frozen? ⟨w.heap.size, j, none⟩ = false := fun j => frozen_of_row _ _ _ _ _ hgr
  have HB1 : Hid (Below w.heap.size w w1) := below_all (HA.out _) hb1
  have HBR : Hid (BatR w1 (w.heap.size + 1) bs ts (.slice ba bn bc) (.slice ta tn tc)) := hbr.base (by simp)
  clear hgr hbr hb1 HC
  go_wp2_with fail
  refine bodyPost_ret (v := .tuple #[.agg #[.int .i64 bl, .slice ba bn bc, .slice ta tn tc], .nilIface]) (by simp [results, Tryd.results13, go_sem, k0, k1, k2]) rfl ⟨_, _, rfl, (HBR.out.set3 (by omega) _ _ _).base (by omega), below_set3 HB1.out (Nat.le_refl _) _ _ _⟩

set_option maxRecDepth 10000 in
set_option maxHeartbeats 400000 in
theorem pRead_ok (b cap : Nat) (s : ByteArray) (bl : Int) (bs : List EntL) (ts : List (EntL × List Tok)) (w : World) (hs : s.size ≤ 70000) (hcap : s.size ≤ cap) (hb : b < w.heap.size) (hc : ∀ k (h : k < (nums s).length), w.cell? ⟨b, 0 + k, none⟩ = some (.int .u8 (nums s)[k])) (hread : readL (nums s) = some ⟨bl, bs, ts⟩) :
    Calls Tryd.prog 7 #[.slice (some ⟨b, 0, none⟩) s.size cap] w fun e w' => ∃ bv tv, e = .returned (.tuple #[.agg #[.int .i64 bl, bv, tv], .int .i64 0]) ∧ BatR w' w.heap.size bs ts bv tv ∧ Below w.heap.size w w' := by
  have HA : Hid (∀ o, Below w.heap.size w (w.alloc o)) := fun o => (Below.refl _ _).alloc (Nat.le_refl _) o
  have HC : Hid (∀ o, Calls Tryd.prog 13 #[.slice (some ⟨b, 0, none⟩) s.size cap] (w.alloc o) fun e w' => ∃ bv tv, e = .returned (.tuple #[.agg #[.int .i64 bl, bv, tv], .nilIface]) ∧ BatR w' (w.alloc o).heap.size bs ts bv tv ∧ Below (w.alloc o).heap.size (w.alloc o) w') := by
    intro o
    refine mread_ok _ bl bs ts (w.alloc o) (fun W hW => ?_)
    have hbW := below_all (HA.out o) hW
    exact bread_ok b cap s bl bs ts W hs hcap (Nat.lt_of_lt_of_le hb hbW.size) (cells_below hc hbW) hread
  clear hc hread
  go_enter Tryd.func7, Tryd.ntmps7
  go_wp2_with fail
  refine (HC.out _).mono ?_
  rintro e w1 ⟨bv, tv, rfl, hbr, hb1⟩
  obtain ⟨ba, bn, bc, rfl⟩ : ∃ a n c, bv = .slice a n c := by obtain ⟨es, xs, h1, _⟩ := hbr; exact row_slice h1
  obtain ⟨ta, tn, tc, rfl⟩ : ∃ a n c, tv = .slice a n c := by obtain ⟨es, xs, _, _, _, h4, _⟩ := hbr; exact row_slice h4
  have hgr : w1.heap[w.heap.size]? = some (.cells #[.int .i64 0, .slice none 0 0, .slice none 0 0] 33 (0, 0)) := (hb1.block _ (by simp)).trans (heap_alloc_new _ _)
  have hw1 : w.heap.size < w1.heap.size := (Array.getElem?_eq_some_iff.1 hgr).1
  have HGR := hide hgr
  have HB1 : Hid (Below w.heap.size w w1) := below_all (HA.out _) hb1
  have HBR : Hid (BatR w1 (w.heap.size + 1) bs ts (.slice ba bn bc) (.slice ta tn tc)) := hbr.base (by simp)
  obtain ⟨o, ho⟩ : ∃ o, o = Obj.cells #[.int .i64 bl, .slice ba bn bc, .slice ta tn tc] 33 := ⟨_, rfl⟩
  have hx0 : (w1.alloc o).cell? ⟨w1.heap.size, 0, none⟩ = some (.int .i64 bl) := by rw [ho]; exact cell_new rfl rfl
  have hx1 : (w1.alloc o).cell? ⟨w1.heap.size, 1, none⟩ = some (.slice ba bn bc) := by rw [ho]; exact cell_new rfl rfl
  have hx2 : (w1.alloc o).cell? ⟨w1.heap.size, 2, none⟩ = some (.slice ta tn tc) := by rw [ho]; exact cell_new rfl rfl
  have HA1 : Hid (Below w1.heap.size w1 (w1.alloc o)) := (Below.refl _ _).alloc (Nat.le_refl _) _
  rw [ho] at hx0 hx1 hx2 HA1
  clear hgr hbr hb1 HC ho
  go_wp2_with fail
  generalize hWA : w1.alloc (.cells #[.int .i64 bl, .slice ba bn bc, .slice ta tn tc] 33) = wa at *
  clear hWA
  have hwa : w1.heap.size < wa.heap.size := World.block_lt_of_cell? wa _ hx0
  refine (told_nil _).mono ?_
  rintro e w2 ⟨rfl, hb2⟩
  have y0 := (hb2.cell (p := ⟨w1.heap.size, 0, none⟩) hwa).trans hx0
  have y1 := (hb2.cell (p := ⟨w1.heap.size, 1, none⟩) hwa).trans hx1
  have y2 := (hb2.cell (p := ⟨w1.heap.size, 2, none⟩) hwa).trans hx2
  have hB12 := below_all HA1.out hb2
  have HB2 : Hid (Below w.heap.size w w2) := below_all HB1.out hB12
  have HBR2 := hide (HBR.out.below hB12)
  have hgr : w2.heap[w.heap.size]? = some (.cells #[.int .i64 0, .slice none 0 0, .slice none 0 0] 33 (0, 0)) := (hB12.block _ hw1).trans HGR.out
  have k0 : w2.cell? ⟨w.heap.size, 0, none⟩ = some (.int .i64 0) := cell_row hgr rfl
  have k1 : w2.cell? ⟨w.heap.size, 1, none⟩ = some (.slice none 0 0) := cell_row hgr rfl
  have k2 : w2.cell? ⟨w.heap.size, 2, none⟩ = some (.slice none 0 0) := cell_row hgr rfl
  have kf : ∀ j, w2.frozen? ⟨w.heap.size, j, none⟩ = false := fun j => frozen_of_row _ _ _ _ _ hgr
  clear hgr hb2 hB12 hx0 hx1 hx2
  go_wp2_with fail
  refine bodyPost_ret (v := .tuple #[.agg #[.int .i64 bl, .slice ba bn bc, .slice ta tn tc], .int .i64 0]) (by simp [results, Tryd.results7, go_sem, k0, k1, k2]) rfl ⟨_, _, rfl, (HBR2.out.set3 (by omega) _ _ _).base (by omega), below_set3 HB2.out (Nat.le_refl _) _ _ _⟩
end Go.Proofs.YtbhccdedcoajmabDoor
