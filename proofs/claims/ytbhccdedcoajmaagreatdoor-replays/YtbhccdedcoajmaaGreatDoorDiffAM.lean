import Derived.Test.YtbhccdedcoajmaaGreatDoorDeltaM
import Derived.Test.YtbhccdedcoajmaaGreatDoorAddTok
import Derived.Test.YtbhccdedcoajmaaGreatDoorTokRowM
import Derived.Deep.RegionHeld3
import Derived.Test.YtbhccdedcoajmaaGreatDoorMadeM
import Derived.Deep.QuietTactic
import Derived.BigQuiet
namespace Go.Proofs.YtbhccdedcoajmaaGreatDoor
open Go.RowKit Go.Maps

theorem Tryz.elemBytes : Tryz.prog.elem 38 = 5 := by kernel_rfl
theorem slice3 (b off n cap a : Nat) (E : Int) (e : Nat) (hE : E = (e : Int)) (h1 : a < e) (h2 : e ≤ cap) (W : World) :
    (Instr.slice 38 (.slice (some ⟨b, off, none⟩) n cap) (some (.int .i64 a)) (some (.int .i64 E)) (some (.int .i64 E))).run Tryz.prog W = .ok (.slice (some ⟨b, off + a, none⟩) (e - a) (e - a)) W := by
  have hu : Tryz.prog.underlying 38 = some (.slice (Tryz.prog.elem 38)) := by kernel_rfl
  have hs : (sizeOf (Tryz.prog.elem 38)).run Tryz.prog W = .ok 1 W := by kernel_rfl
  have hb : (Instr.sliceBounds true n cap (some (.int .i64 a)) (some (.int .i64 E)) (some (.int .i64 E))).run Tryz.prog W = .ok (a, e, e) W := by
    subst hE
    simp [Instr.sliceBounds, run_sliceBound, show (a : Int) ≤ (e : Int) by omega, show (e : Int) ≤ (cap : Int) by omega]
  rw [run_slice_any W 38 _ n cap hu, hb]
  simp only [Result.andThen_ok, hs, sliced]
  rw [if_neg (by omega)]
  simp [Addr.add]

set_option maxHeartbeats 400000 in
theorem checkBoth_bad (v v2 : Option Addr) (n cap n2 cap2 : Nat) (B k : Int) (w : World) (hc : Calls Tryz.prog 157 #[.slice v n cap, .int .i64 B] w fun e w' => e = .returned (.iface 50 (.int .i64 k)) ∧ w' = w) :
    Calls Tryz.prog 144 #[.slice v n cap, .slice v2 n2 cap2, .int .i64 B] w fun e w' => e = .returned (.iface 50 (.int .i64 k)) ∧ w' = w := by
  have HC := hide hc
  clear hc
  go_enter Tryz.func144, Tryz.ntmps144
  go_wp2_with fail
  refine HC.out.mono ?_
  rintro e w' ⟨rfl, rfl⟩
  go_wp2_with fail
  go_ret
  exact ⟨rfl, rfl⟩
set_option maxHeartbeats 400000 in
theorem checkBoth_next (v v2 : Option Addr) (n cap n2 cap2 : Nat) (B : Int) (r : Value) (w : World) (hc : Calls Tryz.prog 157 #[.slice v n cap, .int .i64 B] w fun e w' => e = .returned .nilIface ∧ w' = w)
    (hd : Calls Tryz.prog 157 #[.slice v2 n2 cap2, .int .i64 B] w fun e w' => e = .returned r ∧ w' = w) :
    Calls Tryz.prog 144 #[.slice v n cap, .slice v2 n2 cap2, .int .i64 B] w fun e w' => e = .returned r ∧ w' = w := by
  have HC := hide hc
  have HD := hide hd
  clear hc hd
  go_enter Tryz.func144, Tryz.ntmps144
  go_wp2_with fail
  refine HC.out.mono ?_
  rintro e w1 ⟨rfl, hw1⟩
  obtain rfl := hw1.symm
  go_wp2_with fail
  refine HD.out.mono ?_
  rintro e w1 ⟨rfl, hw1⟩
  obtain rfl := hw1.symm
  go_wp2_with fail
  go_ret
  exact ⟨rfl, rfl⟩
set_option maxRecDepth 10000 in
set_option maxHeartbeats 400000 in
theorem diff_bad (v v2 : Option Addr) (n cap n2 cap2 : Nat) (B k : Int) (w : World) (hc : Calls Tryz.prog 144 #[.slice v n cap, .slice v2 n2 cap2, .int .i64 B] w fun e w' => e = .returned (.iface 50 (.int .i64 k)) ∧ w' = w) :
    Calls Tryz.prog 121 #[.slice v n cap, .slice v2 n2 cap2, .int .i64 B] w fun e w' => e = .returned (.tuple #[.slice none 0 0, .iface 50 (.int .i64 k)]) ∧ w' = w := by
  have HC := hide hc
  clear hc
  go_enter Tryz.func121, Tryz.ntmps121
  go_wp2_with fail
  refine HC.out.mono ?_
  rintro e w' ⟨rfl, rfl⟩
  go_wp2_with fail
  go_ret2
  exact ⟨rfl, rfl⟩

end Go.Proofs.YtbhccdedcoajmaaGreatDoor
namespace Go.Proofs.YtbhccdedcoajmaaGreatDoor
open Go.RowKit

/-- what the program's reader keeps of its first fault -/
def ErrV (ok : Bool) (ev : Value) : Prop := match ok with | true => ev = .nilIface | false => ∃ fb, ev = .iface 276 (.pointer (some ⟨fb, 0, none⟩))
/-- the program's reader: the bytes, where it is, the fault -/
def PRd (w : World) (r b cap : Nat) (s : ByteArray) (p : Nat) (ok : Bool) : Prop :=
  ∃ ev, ErrV ok ev ∧ w.heap[r]? = some (.cells #[.slice (some ⟨b, 0, none⟩) s.size cap, .int .i64 p, ev] 245 (0, 0))
theorem PRd.open {w : World} {r b cap p : Nat} {s : ByteArray} {ok : Bool} (h : PRd w r b cap s p ok) : ∃ ev, ErrV ok ev ∧ w.cell? ⟨r, 0, none⟩ = some (.slice (some ⟨b, 0, none⟩) s.size cap) ∧ w.cell? ⟨r, 1, none⟩ = some (.int .i64 p) ∧ w.cell? ⟨r, 2, none⟩ = some ev ∧ ∀ j, w.frozen? ⟨r, j, none⟩ = false := by
  obtain ⟨ev, h1, h2⟩ := h
  exact ⟨ev, h1, cell_row h2 rfl, cell_row h2 rfl, cell_row h2 rfl, fun j => frozen_of_row _ _ _ _ _ h2⟩
theorem PRd.lt {w : World} {r b cap p : Nat} {s : ByteArray} {ok : Bool} (h : PRd w r b cap s p ok) : r < w.heap.size := by
  obtain ⟨ev, h1, h2⟩ := h
  exact (Array.getElem?_eq_some_iff.1 h2).1
theorem PRd.below {w w' : World} {r b cap p : Nat} {s : ByteArray} {ok : Bool} (h : PRd w r b cap s p ok) (hb : Below w.heap.size w w') : PRd w' r b cap s p ok := by
  obtain ⟨ev, h1, h2⟩ := h
  exact ⟨ev, h1, (hb.block r (Array.getElem?_eq_some_iff.1 h2).1).trans h2⟩
theorem PRd.set1 {w : World} {r b cap p : Nat} {s : ByteArray} {ok : Bool} (h : PRd w r b cap s p ok) (p' : Nat) : PRd (w.setCell ⟨r, 1, none⟩ (.int .i64 p')) r b cap s p' ok := by
  obtain ⟨ev, h1, h2⟩ := h
  refine ⟨ev, h1, ?_⟩
  rw [heap_setCell_same _ _ _ _ _ _ h2]; rfl
theorem PRd.fault {w : World} {r b cap p : Nat} {s : ByteArray} {ok : Bool} (h : PRd w r b cap s p ok) (fb : Nat) : PRd (w.setCell ⟨r, 2, none⟩ (.iface 276 (.pointer (some ⟨fb, 0, none⟩)))) r b cap s p false := by
  obtain ⟨ev, h1, h2⟩ := h
  refine ⟨_, ⟨fb, rfl⟩, ?_⟩
  rw [heap_setCell_same _ _ _ _ _ _ h2]; rfl
theorem grown_of_below {w w' : World} {row : Option Nat} (h : Below w.heap.size w w') : w.grownBy w' row := grown_below h

set_option maxRecDepth 10000 in
set_option maxHeartbeats 1000000 in
theorem pmust_any (r b cap p : Nat) (s what : ByteArray) (ok holds : Bool) (w : World) (hR : PRd w r b cap s p ok) :
    Calls Tryz.prog 151 #[.pointer (some ⟨r, 0, none⟩), .bool holds, .string what] w fun e w' => e = .returned (.tuple #[]) ∧ PRd w' r b cap s p (ok && holds) ∧ w.grownBy w' (some r) := by
  have HR := hide hR
  obtain ⟨ev, hev, c0, c1, c2, hf⟩ := hR.open
  have hlt := hR.lt
  clear hR
  cases holds with
  | true =>
    rw [Bool.and_true]
    go_enter Tryz.func151, Tryz.ntmps151
    go_wp2_with fail
    go_end0
    exact ⟨rfl, HR.out, grown_refl _ _⟩
  | false =>
    rw [Bool.and_false]
    cases ok with
    | false =>
      obtain ⟨fb, rfl⟩ := hev
      go_enter Tryz.func151, Tryz.ntmps151
      go_wp2_with fail
      go_end0
      exact ⟨rfl, HR.out, grown_refl _ _⟩
    | true =>
      obtain rfl : ev = .nilIface := hev
      go_enter Tryz.func151, Tryz.ntmps151
      go_wp2_with fail
      go_end0
      exact ⟨rfl, (HR.out.fault _).below ((Below.refl _ _).alloc (Nat.le_refl _) _), (setCell_grown _).trans (grown_of_below ((Below.refl _ _).alloc (Nat.le_refl _) _))⟩

set_option maxRecDepth 10000 in
set_option maxHeartbeats 1000000 in
theorem ptake_any (r b cap p n : Nat) (s : ByteArray) (ok : Bool) (w : World) (hs : s.size ≤ 70000) (hcap : s.size ≤ cap) (hp : p ≤ s.size) (hn : n ≤ 70000) (hR : PRd w r b cap s p ok) :
    Calls Tryz.prog 152 #[.pointer (some ⟨r, 0, none⟩), .int .i64 n] w fun e w' => ∃ (va : Option Addr) (m p' : Nat) (ok' : Bool), e = .returned (.slice va m m) ∧ PRd w' r b cap s p' ok' ∧ Step s ok p n p' ok' ∧ (ok' = true → m = n ∧ (0 < n → va = some ⟨b, p, none⟩)) ∧ (ok' = false → m = 0 ∧ va = none) ∧ w.grownBy w' (some r) := by
  have HR := hide hR
  obtain ⟨ev, hev, c0, c1, c2, hf⟩ := hR.open
  have hlt := hR.lt
  have hw1 : IntKind.i64.wrap ((s.size : Int) - (p : Int)) = (s.size : Int) - (p : Int) := by rw [IntKind.wrap_i64]; omega
  have HMU : Hid (∀ holds what, Calls Tryz.prog 151 #[.pointer (some ⟨r, 0, none⟩), .bool holds, .string what] w.drew fun e w' => e = .returned (.tuple #[]) ∧ PRd w' r b cap s p (ok && holds) ∧ w.grownBy w' (some r)) := by
    intro holds what
    refine (pmust_any r b cap p s what ok holds w.drew (HR.out.below (Below.refl _ _).drew)).mono ?_
    rintro e w' ⟨rfl, h1, h2⟩
    exact ⟨rfl, h1, (grown_of_below (Below.refl _ _).drew).trans h2⟩
  clear hR c2 hf hev
  by_cases hfit : p + n ≤ s.size
  · have hd : decide ((n : Int) ≤ (s.size : Int) - (p : Int)) = true := decide_eq_true (by omega)
    have hle : (n : Int) ≤ (s.size : Int) - (p : Int) := by omega
    go_enter Tryz.func152, Tryz.ntmps152
    go_wp2_with fail
    go_region_held3 (fun w' => w'.cell? ⟨r, 0, none⟩ = some (.slice (some ⟨b, 0, none⟩) s.size cap) ∧ w'.cell? ⟨r, 1, none⟩ = some (.int .i64 p))
      (first | exact ⟨c0, c1⟩ | exact ⟨k0, k1⟩)
      ((go_at_call 151; refine (HMU.out _ _).mono ?_; rintro e w2 ⟨rfl, hR2, hg2⟩; obtain ⟨ev2, hev2, k0, k1, k2, kf⟩ := hR2.open))
    rw [Bool.and_true] at hR2 hev2
    have HR2 := hide hR2
    have HG2 := hide hg2
    clear hR2 hg2 c0 c1
    cases ok with
    | false =>
      obtain ⟨fb, rfl⟩ := hev2
      go_wp2_with fail
      go_ret
      exact ⟨none, 0, p, false, rfl, HR2.out, .inr ⟨rfl, rfl, .inl rfl⟩, (fun h => by cases h), (fun _ => ⟨rfl, rfl⟩), HG2.out⟩
    | true =>
      obtain rfl : ev2 = .nilIface := hev2
      have hw2 : IntKind.i64.wrap ((p : Int) + (n : Int)) = ((p + n : Nat) : Int) := by rw [IntKind.wrap_i64] <;> omega
      go_wp2_with fail
      go_quiet (fail)
      have HR3 : Hid (PRd (w2.drewN nq) r b cap s p true) := HR2.out.below (below_drewN (Below.refl _ _) nq)
      have HG3 : Hid (w.grownBy (w2.drewN nq) (some r)) := grown_drewN HG2.out nq
      obtain ⟨ev3, _, m0, m1, m2, mf⟩ := HR3.out.open
      clear k0 k1 k2 kf HR2 HG2
      generalize w2.drewN nq = w3 at *
      by_cases h0 : n = 0
      · subst h0
        rw [Nat.add_zero] at *
        go_wp2_with fail
        go_ret
        exact ⟨_, 0, p, true, rfl, HR3.out.set1 p, .inl ⟨rfl, hfit, rfl, rfl⟩, (fun _ => ⟨rfl, fun h => by omega⟩), (fun h => by cases h), HG3.out.trans (setCell_grown _)⟩
      · go_wp2_with fail
        go_ret
        refine ⟨some ⟨b, p, none⟩, n, p + n, true, ?_, HR3.out.set1 (p + n), .inl ⟨rfl, hfit, rfl, rfl⟩, (fun _ => ⟨rfl, fun _ => rfl⟩), (fun h => by cases h), HG3.out.trans (setCell_grown _)⟩
        simp
  · have hd : decide ((n : Int) ≤ (s.size : Int) - (p : Int)) = false := decide_eq_false (by omega)
    have hle : (s.size : Int) - (p : Int) < (n : Int) := by omega
    go_enter Tryz.func152, Tryz.ntmps152
    go_wp2_with fail
    go_region_held3 (fun w' => w'.cell? ⟨r, 0, none⟩ = some (.slice (some ⟨b, 0, none⟩) s.size cap) ∧ w'.cell? ⟨r, 1, none⟩ = some (.int .i64 p))
      (first | exact ⟨c0, c1⟩ | exact ⟨k0, k1⟩)
      ((go_at_call 151; refine (HMU.out _ _).mono ?_; rintro e w2 ⟨rfl, hR2, hg2⟩; obtain ⟨ev2, hev2, k0, k1, k2, kf⟩ := hR2.open))
    rw [Bool.and_false] at hR2 hev2
    have HR2 := hide hR2
    have HG2 := hide hg2
    clear hR2 hg2 c0 c1
    obtain ⟨fb, rfl⟩ := hev2
    go_wp2_with fail
    go_ret
    exact ⟨none, 0, p, false, rfl, HR2.out, .inr ⟨rfl, rfl, .inr (by omega)⟩, (fun h => by cases h), (fun _ => ⟨rfl, rfl⟩), HG2.out⟩

/-- what reading a number of n bytes leaves -/
def WideQ (w : World) (r b cap : Nat) (s : ByteArray) (ok : Bool) (p n : Nat) (v : Int) (w' : World) : Prop :=
  ∃ (p' : Nat) (ok' : Bool), PRd w' r b cap s p' ok' ∧ Step s ok p n p' ok' ∧ (ok' = true → v = getN (((nums s).drop p).take n)) ∧ 0 ≤ v ∧ v < 256 ^ n ∧ (ok' = false → v = 0) ∧ w.grownBy w' (some r)
theorem or_byte (G x : Int) (hG : 0 ≤ G) (hx0 : 0 ≤ x) (hx1 : x < 256) (h : 256 * G + x < 18446744073709551616) : bits .or .u64 (G * 256) x = 256 * G + x := by
  obtain ⟨g, rfl⟩ : ∃ g : Nat, G = g := ⟨G.toNat, by omega⟩
  obtain ⟨y, rfl⟩ : ∃ y : Nat, x = y := ⟨x.toNat, by omega⟩
  rw [Go.u64_or _ _ (by omega) (by omega) (by omega) (by omega)]
  have e : ((g : Int) * 256).toNat = g <<< 8 := by rw [Nat.shiftLeft_eq]; omega
  rw [e, Int.toNat_natCast, ← Nat.shiftLeft_add_eq_or_of_lt (by omega : y < 2 ^ 8), Nat.shiftLeft_eq]
  omega

set_option maxRecDepth 10000 in
set_option maxHeartbeats 1000000 in
theorem pwide_any (r b cap p n : Nat) (s : ByteArray) (ok : Bool) (w : World) (hs : s.size ≤ 70000) (hcap : s.size ≤ cap) (hp : p ≤ s.size) (hn : n ≤ 8) (hR : PRd w r b cap s p ok) (hbr : b ≠ r) (_hb : b < w.heap.size) (hc : ∀ k (h : k < (nums s).length), w.cell? ⟨b, 0 + k, none⟩ = some (.int .u8 (nums s)[k])) :
    Calls Tryz.prog 165 #[.pointer (some ⟨r, 0, none⟩), .int .i64 n] w fun e w' => ∃ v : Int, e = .returned (.int .u64 v) ∧ WideQ w r b cap s ok p n v w' := by
  have HT := hide (ptake_any r b cap p n s ok w hs hcap hp (by omega) hR)
  have HC : Hid (∀ (W : World), w.grownBy W (some r) → ∀ k (h : k < s.size), W.cell? ⟨b, k, none⟩ = some (.int .u8 (s[k].toNat : Int))) := by
    intro W hg k h
    have := hg.cell (hc k (by rw [nums_length]; exact h)) (by simp; exact hbr)
    rw [Nat.zero_add, nums_at s k h] at this
    exact this
  have hpos : (0 : Int) < 256 ^ n := Int.pow_pos (by omega)
  have HPOS := hide hpos
  have HV : Hid (p + n ≤ s.size → ∀ k, k < n → ∃ (h : p + k < s.size), getN (((nums s).drop p).take (k + 1)) = 256 * getN (((nums s).drop p).take k) + (s[p + k].toNat : Int) ∧ 0 ≤ getN (((nums s).drop p).take k) ∧ 256 * getN (((nums s).drop p).take k) + (s[p + k].toNat : Int) < 18446744073709551616) := by
    intro hfit k hk
    have h : p + k < s.size := by omega
    have hl := nums_length s
    have e1 := getN_take (l := (nums s).drop p) (k := k) (by rw [List.length_drop]; omega)
    rw [List.getElem_drop, nums_at s (p + k) h] at e1
    have hb := getN_bd (l := ((nums s).drop p).take (k + 1)) (((nums_bytes s).drop p).take _)
    have hb0 := getN_bd (l := ((nums s).drop p).take k) (((nums_bytes s).drop p).take _)
    have hpw := pow_le8 (show (((nums s).drop p).take (k + 1)).length ≤ 8 by rw [List.length_take, List.length_drop]; omega)
    refine ⟨h, e1, hb0.1, ?_⟩
    rw [← e1]
    omega
  have HBD : Hid (p + n ≤ s.size → 0 ≤ getN (((nums s).drop p).take n) ∧ getN (((nums s).drop p).take n) < 256 ^ n) := by
    intro hfit
    have hb := getN_bd (l := ((nums s).drop p).take n) (((nums_bytes s).drop p).take _)
    rw [List.length_take, List.length_drop, nums_length, show min n (s.size - p) = n by omega] at hb
    exact hb
  clear hR hc hpos
  go_enter Tryz.func165, Tryz.ntmps165
  go_wp2_with fail
  refine HT.out.mono ?_
  rintro e w1 ⟨va, m, p', ok', rfl, hR1, hst, hyes, hno, hg1⟩
  have HR1 := hide hR1
  have HST := hide hst
  have HG1 := hide hg1
  cases ok' with
  | false =>
    obtain ⟨rfl, rfl⟩ := hno rfl
    clear hR1 hst hg1 hyes hno HT
    go_wp2_with fail
    go_loop [5, 12] (fun v5 v12 => v5 = .int .u64 0 ∧ v12 = .int .i64 0) (fun _ _ => 0)
    case atStart => exact ⟨rfl, rfl⟩
    case round =>
      obtain ⟨rfl, rfl⟩ := hrel
      go_wp2_with fail
      go_ret
      exact ⟨0, rfl, p', false, HR1.out, HST.out, (fun h => by cases h), by omega, HPOS.out, (fun _ => rfl), HG1.out⟩
  | true =>
    obtain ⟨rfl, hva⟩ := hyes rfl
    have hfit : p + m ≤ s.size := by
      rcases hst with ⟨_, h, _⟩ | ⟨h, _⟩
      · exact h
      · cases h
    have HVA := hide hva
    have HVV := hide (HV.out hfit)
    clear hR1 hst hg1 hyes hno HT hva HV
    go_wp2_with fail
    go_loop [5, 12] (fun v5 v12 => ∃ k : Nat, k ≤ m ∧ v12 = .int .i64 k ∧ v5 = .int .u64 (getN (((nums s).drop p).take k))) (fun _ v12 => m - (intOf v12).toNat)
    case atStart => exact ⟨0, Nat.zero_le _, rfl, by simp [getN]⟩
    case round =>
      obtain ⟨k, hk, rfl, rfl⟩ := hrel
      by_cases hlt : k < m
      · obtain ⟨h, e1, h0, hbd⟩ := HVV.out k hlt
        obtain rfl : va = some ⟨b, p, none⟩ := HVA.out (by omega)
        have d0 := HC.out _ HG1.out (p + k) h
        have hx := s[p + k].toNat_lt
        have hw : IntKind.u64.wrap (getN (((nums s).drop p).take k) * 256) = getN (((nums s).drop p).take k) * 256 := by rw [IntKind.wrap_u64]; omega
        have hor := or_byte (getN (((nums s).drop p).take k)) (s[p + k].toNat : Int) h0 (by omega) (by omega) hbd
        have E1 := hide e1
        clear e1
        generalize getN (((nums s).drop p).take k) = G at *
        have HOR := hide hor
        clear hor
        go_wp2_with fail
        go_round
        case rel => exact ⟨k + 1, by omega, by go_num, by rw [E1.out, ← HOR.out]⟩
        case measure => simp [intOf]; omega
      · have hkn : k = m := by omega
        subst hkn
        go_wp2_with fail
        go_ret
        exact ⟨_, rfl, p', true, HR1.out, HST.out, (fun _ => rfl), (HBD.out hfit).1, (HBD.out hfit).2, (fun h => by cases h), HG1.out⟩

set_option maxRecDepth 10000 in
set_option maxHeartbeats 1000000 in
theorem pnumber_any (r b cap p n : Nat) (s : ByteArray) (ok : Bool) (w : World) (hs : s.size ≤ 70000) (hcap : s.size ≤ cap) (hp : p ≤ s.size) (hn : n ≤ 2) (hR : PRd w r b cap s p ok) (hbr : b ≠ r) (hb : b < w.heap.size) (hc : ∀ k (h : k < (nums s).length), w.cell? ⟨b, 0 + k, none⟩ = some (.int .u8 (nums s)[k])) :
    Calls Tryz.prog 153 #[.pointer (some ⟨r, 0, none⟩), .int .i64 n] w fun e w' => ∃ v : Nat, e = .returned (.int .i64 v) ∧ v ≤ 65535 ∧ (n = 1 → v ≤ 255) ∧ WideQ w r b cap s ok p n v w' := by
  have HT := hide (pwide_any r b cap p n s ok w hs hcap hp (by omega) hR hbr hb hc)
  have hpw : (256 : Int) ^ n = ((256 ^ n : Nat) : Int) := (Int.natCast_pow 256 n).symm
  have hp2 : (256 : Nat) ^ n ≤ 65536 := by
    have h : n = 0 ∨ n = 1 ∨ n = 2 := by omega
    rcases h with rfl | rfl | rfl <;> decide
  have HPW := hide hpw
  have HP2 := hide hp2
  clear hR hc hpw hp2
  go_enter Tryz.func153, Tryz.ntmps153
  go_wp2_with fail
  refine HT.out.mono ?_
  rintro e w1 ⟨v, rfl, hq⟩
  have HQ := hide hq
  obtain ⟨p', ok', hR1, hst, hyes, h0, h1, hno, hg1⟩ := hq
  rw [HPW.out] at h1
  have h65 := HP2.out
  obtain ⟨x, rfl⟩ : ∃ x : Nat, v = x := ⟨v.toNat, by omega⟩
  have hlt : x < 256 ^ n := by omega
  have hsm : (x : Int) < 65536 := by omega
  have H1 : Hid (x ≤ 65535 ∧ (n = 1 → x ≤ 255)) := ⟨by omega, fun h => by subst h; omega⟩
  clear hR1 hst hyes h1 hno hg1 hlt h65
  go_wp2_with fail
  go_ret
  exact ⟨x, rfl, H1.out.1, H1.out.2, HQ.out⟩
end Go.Proofs.YtbhccdedcoajmaaGreatDoor
namespace Go.Proofs.YtbhccdedcoajmaaGreatDoor
open Go.RowKit

def charB (c : Int) : Bool := decide (97 ≤ c ∧ c ≤ 122) || decide (48 ≤ c ∧ c ≤ 57) || decide (c = 46) || decide (c = 47)
theorem charB_iff (c : Int) : charB c = true ↔ (97 ≤ c ∧ c ≤ 122) ∨ (48 ≤ c ∧ c ≤ 57) ∨ c = 46 ∨ c = 47 := by
  simp only [charB, Bool.or_eq_true, decide_eq_true_eq]
  omega
theorem nameB_no {l : List Int} {k : Nat} (h : k < l.length) (hc : charB l[k] = false) : nameB l = false := by
  cases hn : nameB l with
  | false => rfl
  | true =>
    simp only [nameB, Bool.and_eq_true, List.all_eq_true] at hn
    have := hn.2 l[k] (List.getElem_mem h)
    rw [show (decide (97 ≤ l[k] ∧ l[k] ≤ 122) || decide (48 ≤ l[k] ∧ l[k] ≤ 57) || decide (l[k] = 46) || decide (l[k] = 47)) = charB l[k] from rfl, hc] at this
    cases this
theorem nameB_all {l : List Int} (h : ∀ k (hk : k < l.length), charB l[k] = true) : nameB l = (decide (1 ≤ l.length) && decide (l.length ≤ 12)) := by
  have : (l.all fun c => decide (97 ≤ c ∧ c ≤ 122) || decide (48 ≤ c ∧ c ≤ 57) || decide (c = 46) || decide (c = 47)) = true := by
    rw [List.all_eq_true]
    intro x hx
    obtain ⟨k, hk, rfl⟩ := List.getElem_of_mem hx
    exact h k hk
  rw [nameB, this, Bool.and_true]

set_option maxRecDepth 10000 in
set_option maxHeartbeats 1000000 in
theorem named_any (s : ByteArray) (hs : s.size ≤ 70000) (w : World) :
    Calls Tryz.prog 37 #[.string s] w fun e w' => e = .returned (.bool (nameB (nums s))) ∧ w' = w := by
  have HNO : Hid (∀ k (h : k < s.size), charB (s[k].toNat : Int) = false → nameB (nums s) = false) := by
    intro k h hc
    refine nameB_no (k := k) (by rw [nums_length]; exact h) ?_
    rw [nums_at s k h]; exact hc
  have HALL : Hid ((∀ k (h : k < s.size), charB (s[k].toNat : Int) = true) → nameB (nums s) = (decide (1 ≤ s.size) && decide (s.size ≤ 12))) := by
    intro h
    have := nameB_all (l := nums s) (fun k hk => by rw [nums_length] at hk; rw [nums_at s k hk]; exact h k hk)
    rw [nums_length] at this
    exact this
  go_enter Tryz.func37, Tryz.ntmps37
  go_wp2_with fail
  go_loop [3] (fun i => ∃ k : Nat, k ≤ s.size ∧ i = .int .i64 k ∧ Hid (∀ j (h : j < s.size), j < k → charB (s[j].toNat : Int) = true)) (fun i => s.size - (intOf i).toNat)
  case atStart => exact ⟨0, Nat.zero_le _, rfl, fun j _ hj => by omega⟩
  case round =>
    obtain ⟨k, hk, rfl, HA⟩ := hrel
    by_cases hlt : k < s.size
    · have hc := charB_iff (s[k].toNat : Int)
      have HC := hide hc
      have hb := s[k].toNat_lt
      clear hc
      by_cases hA : (s[k].toNat : Int) < 46
      · have hd : ((s[k].toNat : Int) != 46) = true := by simp; omega
        have hd2 : ((s[k].toNat : Int) != 47) = true := by simp; omega
        go_wp2_with fail
        go_ret
        refine ⟨?_, rfl⟩
        rw [HNO.out k hlt (Bool.eq_false_iff.2 fun h => by have := HC.out.1 h; omega)]
        rfl
      by_cases hA : (s[k].toNat : Int) = 46
      · have hd : ((s[k].toNat : Int) != 46) = false := by rw [hA]; rfl
        go_wp2_with fail
        go_round
        case rel =>
          refine ⟨k + 1, by omega, by go_num, fun j h hj => ?_⟩
          rcases Nat.lt_or_ge j k with h' | h'
          · exact HA.out j h h'
          · obtain rfl : j = k := by omega
            exact HC.out.2 (by omega)
        case measure => simp [intOf]; omega
      by_cases hA : (s[k].toNat : Int) = 47
      · have hd : ((s[k].toNat : Int) != 47) = false := by rw [hA]; rfl
        have hd2 : ((s[k].toNat : Int) != 46) = true := by rw [hA]; rfl
        go_wp2_with fail
        go_round
        case rel =>
          refine ⟨k + 1, by omega, by go_num, fun j h hj => ?_⟩
          rcases Nat.lt_or_ge j k with h' | h'
          · exact HA.out j h h'
          · obtain rfl : j = k := by omega
            exact HC.out.2 (by omega)
        case measure => simp [intOf]; omega
      by_cases hA : (s[k].toNat : Int) < 58
      · go_wp2_with fail
        go_round
        case rel =>
          refine ⟨k + 1, by omega, by go_num, fun j h hj => ?_⟩
          rcases Nat.lt_or_ge j k with h' | h'
          · exact HA.out j h h'
          · obtain rfl : j = k := by omega
            exact HC.out.2 (by omega)
        case measure => simp [intOf]; omega
      by_cases hA : (s[k].toNat : Int) < 97
      · have hd : ((s[k].toNat : Int) != 46) = true := by simp; omega
        have hd2 : ((s[k].toNat : Int) != 47) = true := by simp; omega
        go_wp2_with fail
        go_ret
        refine ⟨?_, rfl⟩
        rw [HNO.out k hlt (Bool.eq_false_iff.2 fun h => by have := HC.out.1 h; omega)]
        rfl
      by_cases hA : (s[k].toNat : Int) < 123
      · go_wp2_with fail
        go_round
        case rel =>
          refine ⟨k + 1, by omega, by go_num, fun j h hj => ?_⟩
          rcases Nat.lt_or_ge j k with h' | h'
          · exact HA.out j h h'
          · obtain rfl : j = k := by omega
            exact HC.out.2 (by omega)
        case measure => simp [intOf]; omega
      have hd : ((s[k].toNat : Int) != 46) = true := by simp; omega
      have hd2 : ((s[k].toNat : Int) != 47) = true := by simp; omega
      go_wp2_with fail
      go_ret
      refine ⟨?_, rfl⟩
      rw [HNO.out k hlt (Bool.eq_false_iff.2 fun h => by have := HC.out.1 h; omega)]
      rfl
    · have hkn : k = s.size := by omega
      have HR : Hid (nameB (nums s) = (decide (1 ≤ s.size) && decide (s.size ≤ 12))) := HALL.out fun j h => HA.out j h (by omega)
      clear hkn
      by_cases h1 : 1 ≤ s.size
      · by_cases h2 : s.size ≤ 12
        · go_wp2_with fail
          go_ret
          refine ⟨congrArg (fun x => Ending.returned (Value.bool x)) ?_, rfl⟩
          rw [HR.out, Bool.eq_iff_iff]
          simp
          try omega
        · go_wp2_with fail
          go_ret
          refine ⟨congrArg (fun x => Ending.returned (Value.bool x)) ?_, rfl⟩
          rw [HR.out, Bool.eq_iff_iff]
          simp
          try omega
      · go_wp2_with fail
        go_ret
        refine ⟨congrArg (fun x => Ending.returned (Value.bool x)) ?_, rfl⟩
        rw [HR.out, Bool.eq_iff_iff]
        simp
        try omega
end Go.Proofs.YtbhccdedcoajmaaGreatDoor
namespace Go.Proofs.YtbhccdedcoajmaaGreatDoor
open Go.RowKit

/-- a list of the reference's files in memory, to be read -/
def Fl (w : World) (v : Value) (fs : List (ByteArray × ByteArray)) : Prop :=
  ∃ va cap, v = .slice va fs.length cap ∧ fs.length ≤ cap ∧ ∀ i (hi : i < fs.length), ∃ g, va = some ⟨g, 0, none⟩ ∧ g < w.heap.size ∧ w.cell? ⟨g, i * 2, none⟩ = some (.string fs[i].1) ∧ w.cell? ⟨g, i * 2 + 1, none⟩ = some (.string fs[i].2)
theorem Fl.below {w w' : World} {v : Value} {fs : List (ByteArray × ByteArray)} (h : Fl w v fs) (hb : Below w.heap.size w w') : Fl w' v fs := by
  obtain ⟨va, cap, h1, h2, h3⟩ := h
  refine ⟨va, cap, h1, h2, fun i hi => ?_⟩
  obtain ⟨g, e, hg, c0, c1⟩ := h3 i hi
  exact ⟨g, e, Nat.lt_of_lt_of_le hg hb.size, (hb.cell (p := ⟨g, _, none⟩) hg).trans c0, (hb.cell (p := ⟨g, _, none⟩) hg).trans c1⟩
def filOf (p : ByteArray × ByteArray) : Fil := ⟨nums p.1, nums p.2⟩
theorem nums_eq_iff {a b : ByteArray} : nums a = nums b ↔ a = b := ⟨nums_inj, fun h => by rw [h]⟩

def foundOf (fs : List (ByteArray × ByteArray)) (nm : ByteArray) : Option ByteArray := (fs.find? fun p => decide (nums p.1 = nums nm)).map Prod.snd
theorem found_hit {fs : List (ByteArray × ByteArray)} {nm : ByteArray} {k : Nat} (hk : k < fs.length) (h : nums fs[k].1 = nums nm) (hno : ∀ j (hj : j < fs.length), j < k → nums fs[j].1 ≠ nums nm) : foundOf fs nm = some fs[k].2 := by
  unfold foundOf
  have : fs.find? (fun p => decide (nums p.1 = nums nm)) = some fs[k] := by
    rw [List.find?_eq_some_iff_getElem]
    exact ⟨by simpa using h, k, hk, rfl, fun j hj => by simpa using hno j (by omega) hj⟩
  rw [this]; rfl
theorem found_no {fs : List (ByteArray × ByteArray)} {nm : ByteArray} (hno : ∀ j (hj : j < fs.length), nums fs[j].1 ≠ nums nm) : foundOf fs nm = none := by
  unfold foundOf
  have : fs.find? (fun p => decide (nums p.1 = nums nm)) = none := by
    rw [List.find?_eq_none]
    intro p hp
    obtain ⟨k, hk, rfl⟩ := List.getElem_of_mem hp
    simpa using hno k hk
  rw [this]; rfl
theorem found_findL (fs : List (ByteArray × ByteArray)) (nm : ByteArray) : findL (fs.map filOf) (nums nm) = nums ((foundOf fs nm).getD ⟨#[]⟩) := by
  unfold findL foundOf
  induction fs with
  | nil => rfl
  | cons p l ih =>
    by_cases h : nums p.1 = nums nm
    · rw [List.map_cons, List.find?_cons_of_pos (p := fun f : Fil => decide (f.name = nums nm)) (a := filOf p) (decide_eq_true h), List.find?_cons_of_pos (p := fun p : ByteArray × ByteArray => decide (nums p.1 = nums nm)) (a := p) (decide_eq_true h)]; rfl
    · rw [List.map_cons, List.find?_cons_of_neg (p := fun f : Fil => decide (f.name = nums nm)) (a := filOf p) (fun e => h (of_decide_eq_true e)), List.find?_cons_of_neg (p := fun p : ByteArray × ByteArray => decide (nums p.1 = nums nm)) (a := p) (fun e => h (of_decide_eq_true e))]; exact ih

set_option maxRecDepth 10000 in
set_option maxHeartbeats 1000000 in
theorem rfind_any (v : Value) (fs : List (ByteArray × ByteArray)) (nm : ByteArray) (w : World) (hl : fs.length ≤ 70000) (hF : Fl w v fs) :
    Calls Tryz.prog 39 #[v, .string nm] w fun e w' => e = .returned (.tuple #[.string ((foundOf fs nm).getD ⟨#[]⟩), .bool (foundOf fs nm).isSome]) ∧ Below w.heap.size w w' := by
  obtain ⟨va, cap, rfl, hcap, hcell⟩ := hF
  have HC := hide hcell
  clear hcell
  have HHIT : Hid (∀ k (hk : k < fs.length), nums fs[k].1 = nums nm → (∀ j (hj : j < fs.length), j < k → nums fs[j].1 ≠ nums nm) → foundOf fs nm = some fs[k].2) := fun k hk h hno => found_hit hk h hno
  have HNO : Hid ((∀ j (hj : j < fs.length), nums fs[j].1 ≠ nums nm) → foundOf fs nm = none) := fun h => found_no h
  have HTE : Hid (∀ k (hk : k < fs.length), (fs[k].1.toList == nm.toList) = decide (nums fs[k].1 = nums nm)) := fun k hk => text_eq _ _
  go_enter Tryz.func39, Tryz.ntmps39
  go_wp2_with fail
  go_loopw [6] (fun i wr => ∃ k : Nat, k ≤ fs.length ∧ i = .int .i64 k ∧ Hid (∀ j (hj : j < fs.length), j < k → nums fs[j].1 ≠ nums nm) ∧ Hid (Below w.heap.size w wr)) (fun i _ => fs.length - (intOf i).toNat)
  case atStart => exact ⟨0, Nat.zero_le _, rfl, (fun j _ hj => by omega), Below.refl _ _⟩
  case round =>
    obtain ⟨k, hk, rfl, HA, HBr⟩ := hrel
    by_cases hlt : k < fs.length
    · obtain ⟨g, rfl, hg, c0, c1⟩ := HC.out k hlt
      have d0 := (HBr.out.cell (p := ⟨g, k * 2, none⟩) hg).trans c0
      have d1 := (HBr.out.cell (p := ⟨g, k * 2 + 1, none⟩) hg).trans c1
      have hte := HTE.out k hlt
      have HIT := hide (HHIT.out k hlt)
      have HNE : Hid (nums fs[k].1 ≠ nums nm → ∀ j (hj : j < fs.length), j < k + 1 → nums fs[j].1 ≠ nums nm) := by
        intro h j hj hjk
        rcases Nat.lt_or_ge j k with h' | h'
        · exact HA.out j hj h'
        · obtain rfl : j = k := by omega
          exact h
      clear c0 c1
      generalize fs[k].1 = a at *
      generalize fs[k].2 = b at *
      by_cases hh : nums a = nums nm
      · have HH := hide hh
        rw [decide_eq_true hh] at hte
        clear hh
        go_wp2_with fail
        go_ret2
        refine ⟨?_, HBr.out⟩
        rw [HIT.out HH.out HA.out]; rfl
      · have HH := hide hh
        rw [decide_eq_false hh] at hte
        clear hh
        go_wp2_with fail
        go_roundw
        case rel => exact ⟨k + 1, by omega, by go_num, HNE.out HH.out, HBr.out⟩
        case measure => simp [intOf]; omega
    · go_wp2_with fail
      go_ret2
      refine ⟨?_, HBr.out⟩
      rw [HNO.out (fun j hj => HA.out j hj (by omega))]; rfl
end Go.Proofs.YtbhccdedcoajmaaGreatDoor
namespace Go.Proofs.YtbhccdedcoajmaaGreatDoor
open Go.RowKit

/-- does the list stay a tree with its i-th file? -/
def OkAt (fs : List (ByteArray × ByteArray)) (i : Nat) : Prop :=
  ∃ hi : i < fs.length, nameB (nums fs[i].1) = true ∧ (0 < i → ltL (nums (fs[i - 1]'(by omega)).1) (nums fs[i].1) = true) ∧ fs[i].2.size ≤ 300 ∧ i < 8
/-- the name ahead of the k-th file -/
def aheadOf (fs : List (ByteArray × ByteArray)) : Nat → ByteArray
  | 0 => ⟨#[]⟩
  | k + 1 => (fs[k]?.map Prod.fst).getD ⟨#[]⟩
theorem aheadOf_succ {fs : List (ByteArray × ByteArray)} {k : Nat} (h : k < fs.length) : aheadOf fs (k + 1) = fs[k].1 := by
  show (fs[k]?.map Prod.fst).getD ⟨#[]⟩ = _
  rw [List.getElem?_eq_getElem h]; rfl
theorem nums_empty : nums ⟨#[]⟩ = [] := rfl
theorem okAt_iff {fs : List (ByteArray × ByteArray)} {k : Nat} (hk : k < fs.length) : OkAt fs k ↔ (nameB (nums fs[k].1) && ltL (nums (aheadOf fs k)) (nums fs[k].1) && decide (fs[k].2.size ≤ 300)) = true ∧ k < 8 := by
  unfold OkAt
  simp only [Bool.and_eq_true, decide_eq_true_eq]
  constructor
  · rintro ⟨_, h1, h2, h3, h4⟩
    refine ⟨⟨⟨h1, ?_⟩, h3⟩, h4⟩
    rcases k with _ | k
    · unfold aheadOf
      rw [nums_empty]
      cases hn : nums (fs[0]'hk).1 with
      | nil => rw [hn] at h1; simp [nameB] at h1
      | cons a r => rfl
    · rw [aheadOf_succ (by omega)]
      exact h2 (by omega)
  · rintro ⟨⟨⟨h1, h2⟩, h3⟩, h4⟩
    refine ⟨hk, h1, fun h0 => ?_, h3, h4⟩
    obtain ⟨k, rfl⟩ : ∃ j, k = j + 1 := ⟨k - 1, by omega⟩
    rw [aheadOf_succ (by omega)] at h2
    exact h2
/-- is a list a tree? -/
def TreeOk (fs : List (ByteArray × ByteArray)) : Prop := ∀ i, i < fs.length → OkAt fs i
/-- the place at which a list is no tree any more -/
def BadAt (fs : List (ByteArray × ByteArray)) (i : Nat) : Prop := ∃ _ : i < fs.length, (∀ j, j < i → OkAt fs j) ∧ ¬ OkAt fs i
theorem BadAt.only {fs : List (ByteArray × ByteArray)} {i j : Nat} (h : BadAt fs i) (k : BadAt fs j) : i = j := by
  obtain ⟨_, h2, h3⟩ := h
  obtain ⟨_, k2, k3⟩ := k
  rcases Nat.lt_trichotomy i j with h | h | h
  · exact absurd (k2 i h) h3
  · exact h
  · exact absurd (h2 j h) k3
theorem BadAt.not {fs : List (ByteArray × ByteArray)} {i : Nat} (h : BadAt fs i) : ¬ TreeOk fs := fun k => h.2.2 (k i h.1)
theorem TreeOk.len {fs : List (ByteArray × ByteArray)} (h : TreeOk fs) : fs.length ≤ 8 := by
  rcases Nat.lt_or_ge 8 fs.length with hl | hl
  · obtain ⟨_, _, _, _, h8⟩ := h 8 hl
    omega
  · exact hl
theorem nameB_size {l : List Int} (h : nameB l = true) : 1 ≤ l.length ∧ l.length ≤ 12 := by
  simp only [nameB, Bool.and_eq_true, decide_eq_true_eq] at h
  exact ⟨h.1.1, h.1.2⟩
theorem TreeOk.sizes {fs : List (ByteArray × ByteArray)} (h : TreeOk fs) : ∀ p ∈ fs, p.1.size ≤ 12 ∧ p.2.size ≤ 300 := by
  intro p hp
  obtain ⟨i, hi, rfl⟩ := List.getElem_of_mem hp
  obtain ⟨_, h1, _, h3, _⟩ := h i hi
  have := nameB_size h1
  rw [nums_length] at this
  exact ⟨this.2, h3⟩

/-- a list of the program's files in memory, to be read -/
def Af (w : World) (v : Value) (fs : List (ByteArray × ByteArray)) : Prop :=
  ∃ va cap, v = .slice va fs.length cap ∧ fs.length ≤ cap ∧ ∀ i (hi : i < fs.length), ∃ g b cp, va = some ⟨g, 0, none⟩ ∧ g < w.heap.size ∧ w.cell? ⟨g, i * 2, none⟩ = some (.string fs[i].1) ∧ w.cell? ⟨g, i * 2 + 1, none⟩ = some (.slice (some ⟨b, 0, none⟩) fs[i].2.size cp) ∧
    b < w.heap.size ∧ fs[i].2.size ≤ cp ∧ ∀ k (h : k < (nums fs[i].2).length), w.cell? ⟨b, 0 + k, none⟩ = some (.int .u8 (nums fs[i].2)[k])
theorem Af.below {w w' : World} {v : Value} {fs : List (ByteArray × ByteArray)} (h : Af w v fs) (hb : Below w.heap.size w w') : Af w' v fs := by
  obtain ⟨va, cap, h1, h2, h3⟩ := h
  refine ⟨va, cap, h1, h2, fun i hi => ?_⟩
  obtain ⟨g, b, cp, e, hg, c0, c1, hb1, hcp, hc⟩ := h3 i hi
  exact ⟨g, b, cp, e, Nat.lt_of_lt_of_le hg hb.size, (hb.cell (p := ⟨g, _, none⟩) hg).trans c0, (hb.cell (p := ⟨g, _, none⟩) hg).trans c1, Nat.lt_of_lt_of_le hb1 hb.size, hcp, fun k hk => (hb.cell (p := ⟨b, _, none⟩) hb1).trans (hc k hk)⟩
end Go.Proofs.YtbhccdedcoajmaaGreatDoor
