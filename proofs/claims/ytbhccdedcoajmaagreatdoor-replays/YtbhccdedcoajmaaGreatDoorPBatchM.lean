import Derived.Test.YtbhccdedcoajmaaGreatDoorPTargets
import Derived.Test.YtbhccdedcoajmaaGreatDoorAsFM
import Derived.Laws.Bits64
namespace Go.Proofs.YtbhccdedcoajmaaGreatDoor
open Go.RowKit

theorem slice_to (b n cap e : Nat) (h0 : 0 < cap) (h2 : e ≤ cap) (W : World) :
    (Instr.slice 38 (.slice (some ⟨b, 0, none⟩) n cap) none (some (.int .i64 e)) none).run Tryz.prog W = .ok (.slice (some ⟨b, 0, none⟩) e cap) W := by
  have hu : Tryz.prog.underlying 38 = some (.slice (Tryz.prog.elem 38)) := by kernel_rfl
  have hs : (sizeOf (Tryz.prog.elem 38)).run Tryz.prog W = .ok 1 W := by kernel_rfl
  have hb : (Instr.sliceBounds true n cap none (some (.int .i64 e)) none).run Tryz.prog W = .ok (0, e, cap) W := by
    simp [Instr.sliceBounds, run_sliceBound, show (e : Int) ≤ (cap : Int) by omega]
  rw [run_slice_any W 38 _ n cap hu, hb]
  simp only [Result.andThen_ok, hs, sliced]
  rw [if_neg (by omega)]
  simp [Addr.add]

def EndOk (s : ByteArray) (p : Nat) : Prop := p + 8 = s.size ∧ getN (((nums s).drop p).take 8) = digestOf ((nums s).take p)

set_option maxRecDepth 10000 in
set_option maxHeartbeats 400000 in
theorem pend_ok (r b cap p : Nat) (s : ByteArray) (w : World) (hs : s.size ≤ 70000) (hcap : s.size ≤ cap) (h0 : 0 < cap) (hR : PRd w r b cap s p true) (hbr : b ≠ r) (hb : b < w.heap.size) (hc : ∀ k (h : k < (nums s).length), w.cell? ⟨b, 0 + k, none⟩ = some (.int .u8 (nums s)[k])) (hE : EndOk s p) :
    Calls Tryz.prog 156 #[.pointer (some ⟨r, 0, none⟩)] w fun e w' => e = .returned (.tuple #[]) ∧ PRd w' r b cap s s.size true ∧ w.grownBy w' (some r) := by
  obtain ⟨hp8, hdg⟩ := hE
  have HR := hide hR
  obtain ⟨ev, hev, c0, c1, c2, hf⟩ := hR.open
  obtain rfl : ev = .nilIface := hev
  have hsl := slice_to b s.size cap p h0 (by omega)
  have hl : ((nums s).take p).length = p := by rw [List.length_take, nums_length]; omega
  have HD : Hid (∀ q, Calls Tryz.prog 124 #[.slice (some ⟨b, 0, none⟩) p cap] (w.drewN q) fun e w' => e = .returned (.int .u64 (digestOf ((nums s).take p))) ∧ w' = w.drewN q) := by
    intro q
    have := digest_any b 0 cap ((nums s).take p) (w.drewN q) (by omega) ((nums_bytes s).take p) (fun k h => by
      rw [hl] at h
      rw [List.getElem_take]
      exact (cells_below hc (below_drewN (Below.refl _ _) q)) k (by rw [nums_length]; omega))
    rw [hl] at this
    exact this
  have HC := hide hc
  clear hR hc hl c2 hf
  have HDG := hide hdg
  clear hdg
  generalize hDD : digestOf ((nums s).take p) = D at *
  clear hDD
  go_enter Tryz.func156, Tryz.ntmps156
  go_wp2_with fail
  go_quiet ((go_at_call 124; refine Calls.quiet_of_same (HD.out _)))
  have HR1 : Hid (PRd (w.drewN nq) r b cap s p true) := HR.out.below (below_drewN (Below.refl _ _) nq)
  have HG1 : Hid (w.grownBy (w.drewN nq) (some r)) := grown_drewN (grown_refl _ _) nq
  clear c0 c1 hsl HD
  generalize w.drewN nq = w1 at *
  have hb1 : b < w1.heap.size := Nat.lt_of_lt_of_le hb HG1.out.size
  have HWI := hide (pwide_any r b cap p 8 s true w1 hs hcap (by omega) (by omega) HR1.out hbr hb1 (cells_grow hbr HG1.out HC.out))
  go_wp2_with fail
  refine HWI.out.mono ?_
  rintro e w2 ⟨v, rfl, p2, ok2, hR2, hS2, hv2, _, _, _, hg2⟩
  have hok2 : p2 = s.size ∧ ok2 = true := by
    rcases hS2 with ⟨_, h2, h3, h4⟩ | ⟨_, _, h | h⟩
    · exact ⟨by omega, h4⟩
    · cases h
    · omega
  obtain ⟨rfl, rfl⟩ := hok2
  obtain rfl : v = D := by rw [hv2 rfl]; exact HDG.out
  have HR2 := hide hR2
  have HG2 := hide (HG1.out.trans hg2)
  clear hR2 hS2 hv2 hg2 HWI
  go_wp2_with fail
  refine (pmust_any r b cap s.size s _ true true w2 HR2.out).mono ?_
  rintro e w3 ⟨rfl, hR3, hg3⟩
  obtain ⟨ev, hev, k0, k1, k2, kf⟩ := hR3.open
  have HR3 := hide hR3
  have HG3 := hide (HG2.out.trans hg3)
  have HMU : Hid (∀ holds what, Calls Tryz.prog 151 #[.pointer (some ⟨r, 0, none⟩), .bool holds, .string what] w3.drew fun e w' => e = .returned (.tuple #[]) ∧ PRd w' r b cap s s.size (true && holds) ∧ w3.grownBy w' (some r)) := by
    intro holds what
    refine (pmust_any r b cap s.size s what true holds w3.drew (HR3.out.below (Below.refl _ _).drew)).mono ?_
    rintro e w' ⟨rfl, h1, h2⟩
    exact ⟨rfl, h1, (grown_of_below (Below.refl _ _).drew).trans h2⟩
  clear hR3 hg3 k2 kf hev
  go_wp2_with fail
  go_region_held3 (fun w' => w'.cell? ⟨r, 0, none⟩ = some (.slice (some ⟨b, 0, none⟩) s.size cap) ∧ w'.cell? ⟨r, 1, none⟩ = some (.int .i64 s.size))
    (first | exact ⟨k0, k1⟩ | exact ⟨m0, m1⟩)
    ((go_at_call 151; refine (HMU.out true _).mono ?_; rintro e w4 ⟨rfl, hR4, hg4⟩; obtain ⟨ev4, hev4, m0, m1, m2, mf⟩ := hR4.open))
  have HF : Hid (PRd w4 r b cap s s.size true ∧ w.grownBy w4 (some r)) := ⟨hR4, HG3.out.trans hg4⟩
  clear hR4 hg4 m0 m1 m2 mf hev4
  go_wp2_with fail
  go_end0
  exact ⟨rfl, HF.out.1, HF.out.2⟩

theorem name_first (last nm : List Int) : (nameB nm && (true || ltL last nm)) = (nameB nm && (false || ltL [] nm)) := by
  cases hn : nameB nm with
  | false => rfl
  | true =>
    cases h : nm with
    | nil => rw [h] at hn; simp [nameB] at hn
    | cons a r => rfl
theorem entry_first (last l : List Int) : entryP true last l = entryP false [] l := by
  unfold entryP
  simp only [name_first]

theorem basis_first (n : Nat) (last l : List Int) : basisP n true last l = basisP n false [] l := by
  cases n with
  | zero => rfl
  | succ n => unfold basisP; rw [entry_first]
theorem targets_first (bas : List EntL) (B n : Nat) (last l : List Int) : targetsP bas B n true last l = targetsP bas B n false [] l := by
  cases n with
  | zero => rfl
  | succ n => unfold targetsP; rw [entry_first]
theorem entry_facts {last l l' : List Int} {e : EntL} (h : entryP false last l = some (e, l')) : e.size ≤ 300 ∧ ltL last e.name = true := by
  unfold entryP at h
  simp only [Option.bind_eq_bind, Option.bind_eq_some_iff] at h
  obtain ⟨q, _, q2, _, h⟩ := h
  split at h
  · rename_i hc
    simp only [Option.bind_eq_some_iff] at h
    obtain ⟨q3, _, h⟩ := h
    split at h
    · rename_i hz
      simp only [Option.bind_eq_some_iff] at h
      obtain ⟨q4, _, h⟩ := h
      simp only [Option.some.injEq, Prod.mk.injEq] at h
      obtain ⟨rfl, _⟩ := h
      rw [Bool.and_eq_true, Bool.false_or] at hc
      exact ⟨hz, hc.2⟩
    · cases h
  · cases h
theorem basis_facts : ∀ (n : Nat) (last l l' : List Int) (es : List EntL), basisP n false last l = some (es, l') → (∀ e ∈ es, e.size ≤ 300 ∧ ltL last e.name = true) ∧ es.Pairwise (fun a b => ltL a.name b.name = true)
  | 0, last, l, l', es, h => by
    simp only [basisP, Option.some.injEq, Prod.mk.injEq] at h
    obtain ⟨rfl, _⟩ := h
    exact ⟨fun e he => by simp at he, List.Pairwise.nil⟩
  | n + 1, last, l, l', es, h => by
    rw [basis_step] at h
    simp only [Option.bind_eq_some_iff, Option.map_eq_some_iff] at h
    obtain ⟨q, hq, q2, hq2, h⟩ := h
    simp only [Prod.mk.injEq] at h
    obtain ⟨rfl, _⟩ := h
    have h1 := entry_facts hq
    have h2 := basis_facts n _ _ _ _ hq2
    refine ⟨fun e he => ?_, List.pairwise_cons.2 ⟨fun e he => (h2.1 e he).2, h2.2⟩⟩
    rcases List.mem_cons.1 he with rfl | he
    · exact h1
    · exact ⟨(h2.1 e he).1, ltL_trans h1.2 (h2.1 e he).2⟩
theorem lt_ne {a b : List Int} (h : ltL a b = true) : a ≠ b := fun e => by rw [e, ltL_irrefl] at h; cases h

/-- what a batch that is one says of its parts -/
theorem read_parts {s : ByteArray} {bl : Int} {bs : List EntL} {ts : List (EntL × List Tok)} (h : readL (nums s) = some ⟨bl, bs, ts⟩) :
    4 ≤ s.size ∧ (nums s).take 3 = [66, 65, 84] ∧ getN (((nums s).drop 3).take 1) = bl ∧ 1 ≤ bl ∧ bl ≤ 64 ∧ ∃ l1 l2, ((filesP ((nums s).drop 4)).bind fun q => basisP q.1 false [] q.2) = some (bs, l1) ∧ ((filesP l1).bind fun q => targetsP bs bl.toNat q.1 false [] q.2) = some (ts, l2) ∧ numP 8 l2 = some (digestOf ((nums s).take ((nums s).length - l2.length)), []) := by
  have hl := nums_length s
  unfold readL at h
  simp only [Option.bind_eq_bind, Option.bind_eq_some_iff] at h
  obtain ⟨q, hq, h⟩ := h
  split at h
  · rename_i h3
    simp only [Option.bind_eq_some_iff] at h
    obtain ⟨q1, hq1, h⟩ := h
    split at h
    · rename_i hb
      simp only [Option.bind_eq_some_iff] at h
      obtain ⟨q2, hq2, h⟩ := h
      split at h
      · rename_i hn
        simp only [Option.bind_eq_some_iff] at h
        obtain ⟨q3, hq3, q4, hq4, h⟩ := h
        split at h
        · rename_i hm
          simp only [Option.bind_eq_some_iff] at h
          obtain ⟨q5, hq5, q6, hq6, h⟩ := h
          split at h
          · rename_i he
            simp only [Option.some.injEq, BatL.mk.injEq] at h
            obtain ⟨rfl, rfl, rfl⟩ := h
            have g1 : 3 ≤ s.size ∧ q = ((nums s).take 3, (nums s).drop 3) := by
              unfold txtP at hq
              split at hq
              · cases hq
              · cases hq
                exact ⟨by omega, rfl⟩
            obtain ⟨g1, rfl⟩ := g1
            have g2 : 4 ≤ s.size ∧ q1 = (getN (((nums s).drop 3).take 1), (nums s).drop 4) := by
              unfold numP at hq1
              split at hq1
              · cases hq1
              · cases hq1
                rename_i hlen
                rw [List.length_drop] at hlen
                exact ⟨by omega, by rw [List.drop_drop]⟩
            obtain ⟨g2, rfl⟩ := g2
            refine ⟨g2, h3, rfl, hb.1, hb.2, q3.2, q5.2, ?_, ?_, ?_⟩
            · unfold filesP
              rw [hq2]
              simp only [Option.bind_some]
              rw [if_pos hn]
              simp only [Option.bind_some]
              rw [← basis_first _ [], hq3]
            · unfold filesP
              rw [hq4]
              simp only [Option.bind_some]
              rw [if_pos hm]
              simp only [Option.bind_some]
              rw [← targets_first _ _ _ [], hq5]
            · rw [hq6]
              congr 1
              exact Prod.ext he.2 he.1
          · cases h
        · cases h
      · cases h
    · cases h
  · cases h
end Go.Proofs.YtbhccdedcoajmaaGreatDoor
namespace Go.Proofs.YtbhccdedcoajmaaGreatDoor
open Go.RowKit

theorem dstep_nat (d x : Nat) (hd : d < 18446744073709551616) (hx : x < 256) : dstep d x = (((d ^^^ x) * 1099511628211 % 18446744073709551616 : Nat) : Int) := by
  unfold dstep
  rw [bits_xor_u64_nat d x hd (by omega), IntKind.wrap_u64]
  omega
theorem mul_inj64 {n m : Nat} (hn : n < 18446744073709551616) (hm : m < 18446744073709551616) (h : n * 1099511628211 % 18446744073709551616 = m * 1099511628211 % 18446744073709551616) : n = m := by
  have e : ∀ n : Nat, n < 18446744073709551616 → (n * 1099511628211 % 18446744073709551616) * 14886173955864302971 % 18446744073709551616 = n := by
    intro n hn
    rw [Nat.mod_mul_mod, Nat.mul_assoc, show 1099511628211 * 14886173955864302971 = 1 + 18446744073709551616 * ((1099511628211 * 14886173955864302971 - 1) / 18446744073709551616) from by decide, Nat.mul_add, Nat.mul_one]
    rw [Nat.mul_left_comm, Nat.add_mul_mod_self_left]
    exact Nat.mod_eq_of_lt hn
  rw [← e n hn, h, e m hm]
theorem xor_lt64 {d x : Nat} (hd : d < 18446744073709551616) (hx : x < 256) : d ^^^ x < 18446744073709551616 := Nat.xor_lt_two_pow (n := 64) (by omega) (by omega)
/-- a step of the digest is one to one: in the sum, and in the byte -/
theorem dstep_inj {d d' x x' : Int} (hd0 : 0 ≤ d) (hd1 : d < 256 ^ 8) (hd0' : 0 ≤ d') (hd1' : d' < 256 ^ 8) (hx : 0 ≤ x ∧ x < 256) (hx' : 0 ≤ x' ∧ x' < 256) (h : dstep d x = dstep d' x') : d.toNat ^^^ x.toNat = d'.toNat ^^^ x'.toNat := by
  obtain ⟨a, rfl⟩ : ∃ a : Nat, d = a := ⟨d.toNat, by omega⟩
  obtain ⟨b, rfl⟩ : ∃ a : Nat, d' = a := ⟨d'.toNat, by omega⟩
  obtain ⟨y, rfl⟩ : ∃ a : Nat, x = a := ⟨x.toNat, by omega⟩
  obtain ⟨z, rfl⟩ : ∃ a : Nat, x' = a := ⟨x'.toNat, by omega⟩
  have ha : a < 18446744073709551616 := by omega
  have hb : b < 18446744073709551616 := by omega
  have hy : y < 256 := by omega
  have hz : z < 256 := by omega
  rw [dstep_nat a y ha hy, dstep_nat b z hb hz] at h
  have h' := Int.ofNat_inj.1 h
  rw [Int.toNat_natCast, Int.toNat_natCast, Int.toNat_natCast, Int.toNat_natCast]
  exact mul_inj64 (n := a ^^^ y) (m := b ^^^ z) (xor_lt64 ha hy) (xor_lt64 hb hz) h'
theorem dstep_fits (d x : Int) : 0 ≤ dstep d x ∧ dstep d x < 256 ^ 8 := by unfold dstep; rw [IntKind.wrap_u64]; omega
theorem xor_cancel {a b x : Nat} (h : a ^^^ x = b ^^^ x) : a = b := by
  have := congrArg (· ^^^ x) h
  simpa [Nat.xor_assoc] using this
theorem xor_cancel_left {a x y : Nat} (h : a ^^^ x = a ^^^ y) : x = y := by
  rw [Nat.xor_comm a x, Nat.xor_comm a y] at h
  exact xor_cancel h
theorem fold_ne : ∀ (l : List Int) (d d' : Int), Bytes l → 0 ≤ d → d < 256 ^ 8 → 0 ≤ d' → d' < 256 ^ 8 → d ≠ d' → l.foldl dstep d ≠ l.foldl dstep d'
  | [], _, _, _, _, _, _, _, h => h
  | x :: l, d, d', hb, h0, h1, h0', h1', h => by
    have hx := hb x (by simp)
    refine fold_ne l _ _ (fun y hy => hb y (by simp [hy])) (dstep_fits _ _).1 (dstep_fits _ _).2 (dstep_fits _ _).1 (dstep_fits _ _).2 fun e => h ?_
    have := xor_cancel (dstep_inj h0 h1 h0' h1' hx hx e)
    omega
/-- bytes of which one is another have another digest -/
theorem digest_one {l : List Int} {k : Nat} {y : Int} (hb : Bytes l) (hy : 0 ≤ y ∧ y < 256) (hk : k < l.length) (hne : y ≠ l[k]) : digestOf (l.set k y) ≠ digestOf l := by
  have e1 : l = l.take k ++ l[k] :: l.drop (k + 1) := by rw [← List.drop_eq_getElem_cons hk, List.take_append_drop]
  have e2 : l.set k y = l.take k ++ y :: l.drop (k + 1) := by rw [List.set_eq_take_append_cons_drop, if_pos hk]
  have hx := hb l[k] (List.getElem_mem hk)
  rw [e2]
  intro h
  rw [show digestOf l = digestOf (l.take k ++ l[k] :: l.drop (k + 1)) by rw [← e1]] at h
  unfold digestOf at h
  rw [List.foldl_append, List.foldl_append, List.foldl_cons, List.foldl_cons] at h
  have hf := digestOf_fits (l.take k)
  unfold digestOf at hf
  refine fold_ne _ _ _ (hb.drop _) (dstep_fits _ _).1 (dstep_fits _ _).2 (dstep_fits _ _).1 (dstep_fits _ _).2 (fun e => hne ?_) h
  have := xor_cancel_left (dstep_inj hf.1 hf.2 hf.1 hf.2 hy hx e)
  omega
theorem getN_inj : ∀ (n : Nat) (a b : List Int), a.length = n → b.length = n → Bytes a → Bytes b → getN a = getN b → a = b
  | 0, a, b, ha, hb, _, _, _ => by rw [List.length_eq_zero_iff.1 ha, List.length_eq_zero_iff.1 hb]
  | n + 1, a, b, ha, hb, hA, hB, h => by
    rcases snoc_cases a with rfl | ⟨a', x, rfl⟩
    · simp at ha
    · rcases snoc_cases b with rfl | ⟨b', y, rfl⟩
      · simp at hb
      · rw [getN_snoc, getN_snoc] at h
        have hx := hA x (by simp)
        have hy := hB y (by simp)
        have : a' = b' := getN_inj n a' b' (by simpa using ha) (by simpa using hb) (fun z hz => hA z (by simp [hz])) (fun z hz => hB z (by simp [hz])) (by omega)
        rw [this, show x = y by omega]
end Go.Proofs.YtbhccdedcoajmaaGreatDoor
namespace Go.Proofs.YtbhccdedcoajmaaGreatDoor
open Go.RowKit

/-- is a list the end of another? -/
def Suf (l r : List Int) : Prop := ∃ p, r = l.drop p
theorem Suf.trans {a b c : List Int} (h : Suf a b) (k : Suf b c) : Suf a c := by
  obtain ⟨p, rfl⟩ := h
  obtain ⟨q, rfl⟩ := k
  exact ⟨p + q, by rw [List.drop_drop]⟩
theorem Suf.refl (a : List Int) : Suf a a := ⟨0, rfl⟩
theorem num_suf {n : Nat} {l : List Int} {q : Int × List Int} (h : numP n l = some q) : Suf l q.2 := by
  unfold numP at h
  split at h
  · cases h
  · cases h; exact ⟨n, rfl⟩
theorem txt_suf {n : Nat} {l : List Int} {q : List Int × List Int} (h : txtP n l = some q) : Suf l q.2 := by
  unfold txtP at h
  split at h
  · cases h
  · cases h; exact ⟨n, rfl⟩
theorem entry_suf {first : Bool} {last l : List Int} {q : EntL × List Int} (h : entryP first last l = some q) : Suf l q.2 := by
  unfold entryP at h
  simp only [Option.bind_eq_bind, Option.bind_eq_some_iff] at h
  obtain ⟨a, ha, b, hb, h⟩ := h
  split at h
  · simp only [Option.bind_eq_some_iff] at h
    obtain ⟨c, hc, h⟩ := h
    split at h
    · simp only [Option.bind_eq_some_iff] at h
      obtain ⟨d, hd, h⟩ := h
      cases h
      exact (((num_suf ha).trans (txt_suf hb)).trans (num_suf hc)).trans (num_suf hd)
    · cases h
  · cases h
theorem tok_suf {old B : Nat} {l : List Int} {q : Tok × List Int} (h : tokP old B l = some q) : Suf l q.2 := by
  unfold tokP at h
  simp only [Option.bind_eq_bind, Option.bind_eq_some_iff] at h
  obtain ⟨a, ha, h⟩ := h
  split at h
  · simp only [Option.bind_eq_some_iff] at h
    obtain ⟨b, hb, h⟩ := h
    split at h
    · simp only [Option.bind_eq_some_iff] at h
      obtain ⟨c, hc, h⟩ := h
      cases h
      exact ((num_suf ha).trans (num_suf hb)).trans (txt_suf hc)
    · cases h
  · split at h
    · simp only [Option.bind_eq_some_iff] at h
      obtain ⟨b, hb, c, hc, h⟩ := h
      split at h
      · cases h
        exact ((num_suf ha).trans (num_suf hb)).trans (num_suf hc)
      · cases h
    · cases h
theorem toks_suf {old B : Nat} : ∀ (n : Nat) (l : List Int) (q : List Tok × List Int), toksP old B n l = some q → Suf l q.2
  | 0, l, q, h => by
    simp only [toksP, Option.some.injEq] at h
    rw [← h]; exact Suf.refl _
  | n + 1, l, q, h => by
    rw [toks_step] at h
    simp only [Option.bind_eq_some_iff, Option.map_eq_some_iff] at h
    obtain ⟨a, ha, b, hb, h⟩ := h
    rw [← h]
    have h2 := toks_suf n _ _ hb
    exact (tok_suf ha).trans h2
theorem basis_suf : ∀ (n : Nat) (last l : List Int) (q : List EntL × List Int), basisP n false last l = some q → Suf l q.2
  | 0, last, l, q, h => by
    simp only [basisP, Option.some.injEq] at h
    rw [← h]; exact Suf.refl _
  | n + 1, last, l, q, h => by
    rw [basis_step] at h
    simp only [Option.bind_eq_some_iff, Option.map_eq_some_iff] at h
    obtain ⟨a, ha, b, hb, h⟩ := h
    rw [← h]
    have h2 := basis_suf n _ _ _ hb
    exact (entry_suf ha).trans h2
theorem tokens_suf {old B : Nat} {z : Int} {l : List Int} {q : List Tok × List Int} (h : tokensP old B z l = some q) : Suf l q.2 := by
  unfold tokensP at h
  simp only [Option.bind_eq_some_iff] at h
  obtain ⟨d, hd, e, he, h⟩ := h
  split at h
  · cases h
    exact (num_suf hd).trans (toks_suf _ _ _ he)
  · cases h
theorem targets_suf {bas : List EntL} {B : Nat} : ∀ (n : Nat) (last l : List Int) (q : List (EntL × List Tok) × List Int), targetsP bas B n false last l = some q → Suf l q.2
  | 0, last, l, q, h => by
    simp only [targetsP, Option.some.injEq] at h
    rw [← h]; exact Suf.refl _
  | n + 1, last, l, q, h => by
    rw [targets_step] at h
    simp only [Option.bind_eq_some_iff, Option.map_eq_some_iff] at h
    obtain ⟨a, ha, b, hb, c, hc, h⟩ := h
    rw [← h]
    have h2 := targets_suf n _ _ _ hc
    exact ((entry_suf ha).trans (tokens_suf hb)).trans h2
theorem files_suf {l : List Int} {q : Nat × List Int} (h : filesP l = some q) : Suf l q.2 := by
  unfold filesP at h
  simp only [Option.bind_eq_some_iff] at h
  obtain ⟨u, hu, h⟩ := h
  split at h
  · cases h; exact num_suf hu
  · cases h

theorem num_ext {n : Nat} {l : List Int} {q : Int × List Int} (h : numP n l = some q) (t : List Int) : numP n (l ++ t) = some (q.1, q.2 ++ t) := by
  unfold numP at h ⊢
  split at h
  · cases h
  · rename_i hl
    cases h
    rw [if_neg (by rw [List.length_append]; omega), List.take_append_of_le_length (by omega), List.drop_append_of_le_length (by omega)]
theorem txt_ext {n : Nat} {l : List Int} {q : List Int × List Int} (h : txtP n l = some q) (t : List Int) : txtP n (l ++ t) = some (q.1, q.2 ++ t) := by
  unfold txtP at h ⊢
  split at h
  · cases h
  · rename_i hl
    cases h
    rw [if_neg (by rw [List.length_append]; omega), List.take_append_of_le_length (by omega), List.drop_append_of_le_length (by omega)]
theorem entry_ext {first : Bool} {last l : List Int} {q : EntL × List Int} (h : entryP first last l = some q) (t : List Int) : entryP first last (l ++ t) = some (q.1, q.2 ++ t) := by
  unfold entryP at h ⊢
  simp only [Option.bind_eq_bind, Option.bind_eq_some_iff] at h ⊢
  obtain ⟨a, ha, b, hb, h⟩ := h
  refine ⟨_, num_ext ha t, _, txt_ext hb t, ?_⟩
  split at h
  · rename_i hc1
    simp only [Option.bind_eq_some_iff] at h
    obtain ⟨c, hc, h⟩ := h
    rw [if_pos hc1]
    simp only [Option.bind_eq_some_iff]
    refine ⟨_, num_ext hc t, ?_⟩
    split at h
    · rename_i hc2
      simp only [Option.bind_eq_some_iff] at h
      obtain ⟨d, hd, h⟩ := h
      rw [if_pos hc2]
      simp only [Option.bind_eq_some_iff]
      refine ⟨_, num_ext hd t, ?_⟩
      cases h; rfl
    · cases h
  · cases h
theorem tok_ext {old B : Nat} {l : List Int} {q : Tok × List Int} (h : tokP old B l = some q) (t : List Int) : tokP old B (l ++ t) = some (q.1, q.2 ++ t) := by
  unfold tokP at h ⊢
  simp only [Option.bind_eq_bind, Option.bind_eq_some_iff] at h ⊢
  obtain ⟨a, ha, h⟩ := h
  refine ⟨_, num_ext ha t, ?_⟩
  split at h
  · rename_i h0
    rw [if_pos h0]
    simp only [Option.bind_eq_some_iff] at h ⊢
    obtain ⟨b, hb, h⟩ := h
    refine ⟨_, num_ext hb t, ?_⟩
    split at h
    · rename_i h1
      rw [if_pos h1]
      simp only [Option.bind_eq_some_iff] at h ⊢
      obtain ⟨c, hc, h⟩ := h
      refine ⟨_, txt_ext hc t, ?_⟩
      cases h; rfl
    · cases h
  · rename_i h0
    rw [if_neg h0]
    split at h
    · rename_i h1
      rw [if_pos h1]
      simp only [Option.bind_eq_some_iff] at h ⊢
      obtain ⟨b, hb, c, hc, h⟩ := h
      refine ⟨_, num_ext hb t, _, num_ext hc t, ?_⟩
      split at h
      · rename_i h2
        rw [if_pos h2]
        cases h; rfl
      · cases h
    · cases h
theorem toks_ext {old B : Nat} (t : List Int) : ∀ (n : Nat) (l : List Int) (q : List Tok × List Int), toksP old B n l = some q → toksP old B n (l ++ t) = some (q.1, q.2 ++ t)
  | 0, l, q, h => by
    simp only [toksP, Option.some.injEq] at h
    rw [← h]; rfl
  | n + 1, l, q, h => by
    rw [toks_step] at h ⊢
    simp only [Option.bind_eq_some_iff, Option.map_eq_some_iff] at h ⊢
    obtain ⟨a, ha, b, hb, h⟩ := h
    refine ⟨_, tok_ext ha t, _, toks_ext t n _ _ hb, ?_⟩
    rw [← h]
theorem basis_ext (t : List Int) : ∀ (n : Nat) (last l : List Int) (q : List EntL × List Int), basisP n false last l = some q → basisP n false last (l ++ t) = some (q.1, q.2 ++ t)
  | 0, last, l, q, h => by
    simp only [basisP, Option.some.injEq] at h
    rw [← h]; rfl
  | n + 1, last, l, q, h => by
    rw [basis_step] at h ⊢
    simp only [Option.bind_eq_some_iff, Option.map_eq_some_iff] at h ⊢
    obtain ⟨a, ha, b, hb, h⟩ := h
    refine ⟨_, entry_ext ha t, _, basis_ext t n _ _ _ hb, ?_⟩
    rw [← h]
theorem tokens_ext {old B : Nat} {z : Int} {l : List Int} {q : List Tok × List Int} (h : tokensP old B z l = some q) (t : List Int) : tokensP old B z (l ++ t) = some (q.1, q.2 ++ t) := by
  unfold tokensP at h ⊢
  simp only [Option.bind_eq_some_iff] at h ⊢
  obtain ⟨d, hd, e, he, h⟩ := h
  refine ⟨_, num_ext hd t, _, toks_ext t _ _ _ he, ?_⟩
  split at h
  · rename_i h0
    rw [if_pos h0]
    cases h; rfl
  · cases h
theorem targets_ext {bas : List EntL} {B : Nat} (t : List Int) : ∀ (n : Nat) (last l : List Int) (q : List (EntL × List Tok) × List Int), targetsP bas B n false last l = some q → targetsP bas B n false last (l ++ t) = some (q.1, q.2 ++ t)
  | 0, last, l, q, h => by
    simp only [targetsP, Option.some.injEq] at h
    rw [← h]; rfl
  | n + 1, last, l, q, h => by
    rw [targets_step] at h ⊢
    simp only [Option.bind_eq_some_iff, Option.map_eq_some_iff] at h ⊢
    obtain ⟨a, ha, b, hb, c, hc, h⟩ := h
    refine ⟨_, entry_ext ha t, _, tokens_ext hb t, _, targets_ext t n _ _ _ hc, ?_⟩
    rw [← h]
theorem files_ext {l : List Int} {q : Nat × List Int} (h : filesP l = some q) (t : List Int) : filesP (l ++ t) = some (q.1, q.2 ++ t) := by
  unfold filesP at h ⊢
  simp only [Option.bind_eq_some_iff] at h ⊢
  obtain ⟨u, hu, h⟩ := h
  refine ⟨_, num_ext hu t, ?_⟩
  split at h
  · rename_i h0
    rw [if_pos h0]
    cases h; rfl
  · cases h

/-- a batch with more bytes behind is none -/
theorem read_more {s s' : ByteArray} {t : List Int} {b : BatL} (h : readL (nums s) = some b) (ht : t ≠ []) (hs : nums s' = nums s ++ t) : readL (nums s') = none := by
  cases h' : readL (nums s') with
  | none => rfl
  | some b' =>
    exfalso
    obtain ⟨bl, bs, ts⟩ := b
    obtain ⟨bl', bs', ts'⟩ := b'
    obtain ⟨g4, _, h3, _, _, l1, l2, h1, h2, h5⟩ := read_parts h
    obtain ⟨_, _, h3', _, _, l1', l2', h1', h2', h5'⟩ := read_parts h'
    have hl := nums_length s
    rw [hs, List.drop_append_of_le_length (by omega)] at h1' h3'
    rw [List.take_append_of_le_length (by rw [List.length_drop]; omega), h3] at h3'
    subst h3'
    simp only [Option.bind_eq_some_iff] at h1 h2
    obtain ⟨q, hq, h1⟩ := h1
    obtain ⟨u, hu, h2⟩ := h2
    rw [files_ext hq t] at h1'
    simp only [Option.bind_some] at h1'
    rw [basis_ext t _ _ _ _ h1] at h1'
    simp only [Option.some.injEq, Prod.mk.injEq] at h1'
    obtain ⟨rfl, rfl⟩ := h1'
    rw [files_ext hu t] at h2'
    simp only [Option.bind_some] at h2'
    rw [targets_ext t _ _ _ _ h2] at h2'
    simp only [Option.some.injEq, Prod.mk.injEq] at h2'
    obtain ⟨rfl, rfl⟩ := h2'
    rw [num_ext h5 t] at h5'
    simp only [Option.some.injEq, Prod.mk.injEq, List.nil_append] at h5'
    exact ht h5'.2
/-- a batch ends with the digest of what is ahead -/
theorem read_end {s : ByteArray} {b : BatL} (h : readL (nums s) = some b) : 8 ≤ s.size ∧ getN ((nums s).drop (s.size - 8)) = digestOf ((nums s).take (s.size - 8)) := by
  obtain ⟨bl, bs, ts⟩ := b
  obtain ⟨g4, _, _, _, _, l1, l2, h1, h2, h5⟩ := read_parts h
  have hl := nums_length s
  simp only [Option.bind_eq_some_iff] at h1 h2
  obtain ⟨q, hq, h1⟩ := h1
  obtain ⟨u, hu, h2⟩ := h2
  have h40 : Suf (nums s) ((nums s).drop 4) := ⟨4, rfl⟩
  have h41 : Suf q.2 l1 := basis_suf _ _ _ _ h1
  have h42 : Suf u.2 l2 := targets_suf _ _ _ _ h2
  obtain ⟨p, hp⟩ : Suf (nums s) l2 := Suf.trans (Suf.trans (Suf.trans (Suf.trans h40 (files_suf hq)) h41) (files_suf hu)) h42
  unfold numP at h5
  split at h5
  · cases h5
  · rename_i hlen
    simp only [Option.some.injEq, Prod.mk.injEq] at h5
    have h6 := congrArg List.length h5.2
    rw [List.length_drop] at h6
    simp at h6
    have h8 : l2.length = 8 := by omega
    rw [hp, List.length_drop, hl] at h8
    have hpe : p = s.size - 8 := by omega
    refine ⟨by omega, ?_⟩
    have h7 := h5.1
    rw [List.take_of_length_le (by omega)] at h7
    rw [← hpe, ← hp, h7, hp]
    congr 2
    rw [List.length_drop]
    omega
/-- a batch of which one byte is another is none -/
theorem read_changed {s s' : ByteArray} {k : Nat} {y : Int} {b : BatL} (h : readL (nums s) = some b) (hk : k < (nums s).length) (hy : 0 ≤ y ∧ y < 256) (hne : y ≠ (nums s)[k]) (hs : nums s' = (nums s).set k y) : readL (nums s') = none := by
  cases h' : readL (nums s') with
  | none => rfl
  | some b' =>
    exfalso
    obtain ⟨g8, e1⟩ := read_end h
    obtain ⟨_, e2⟩ := read_end h'
    have hl := nums_length s
    have hsz : s'.size = s.size := by
      have := congrArg List.length hs
      rw [nums_length, List.length_set, nums_length] at this
      exact this
    rw [hs, hsz] at e2
    have hB := nums_bytes s
    rcases Nat.lt_or_ge k (s.size - 8) with hlt | hge
    · have a1 : ((nums s).set k y).drop (s.size - 8) = (nums s).drop (s.size - 8) := List.drop_set_of_lt hlt
      have a2 : ((nums s).set k y).take (s.size - 8) = ((nums s).take (s.size - 8)).set k y := List.take_set
      rw [a1, a2, e1] at e2
      have hk2 : k < ((nums s).take (s.size - 8)).length := by rw [List.length_take]; omega
      exact digest_one (hB.take _) hy hk2 (by rw [List.getElem_take]; exact hne) e2.symm
    · have a1 : ((nums s).set k y).take (s.size - 8) = (nums s).take (s.size - 8) := List.take_set_of_le hge
      rw [a1, ← e1] at e2
      have hB' : Bytes ((nums s).set k y) := by rw [← hs]; exact nums_bytes s'
      have := getN_inj 8 _ _ (by rw [List.length_drop, List.length_set]; omega) (by rw [List.length_drop]; omega) (hB'.drop _) (hB.drop _) e2
      have h9 := congrArg (fun l => l[k - (s.size - 8)]?) this
      simp only [List.getElem?_drop] at h9
      rw [show s.size - 8 + (k - (s.size - 8)) = k by omega, List.getElem?_set_self hk, List.getElem?_eq_getElem hk] at h9
      exact hne (Option.some.inj h9)
end Go.Proofs.YtbhccdedcoajmaaGreatDoor
