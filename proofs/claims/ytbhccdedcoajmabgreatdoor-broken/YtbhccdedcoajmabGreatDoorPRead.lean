import Derived.Test.YtbhccdedcoajmabGreatDoorConvM
import Derived.Test.YtbhccdedcoajmabGreatDoorAddTokM
import Derived.Deep.RegionHeld3
namespace Go.Proofs.YtbhccdedcoajmabGreatDoor
open Go.RowKit

/-- what the program's reader keeps of its first fault -/
def ErrV (ok : Bool) (ev : Value) : Prop := match ok with | true => ev = .nilIface | false => ∃ fb, ev = .iface 221 (.pointer (some ⟨fb, 0, none⟩))
/-- the program's reader: the bytes, where it is, the fault -/
def PRd (w : World) (r b cap : Nat) (s : ByteArray) (p : Nat) (ok : Bool) : Prop :=
  ∃ ev, ErrV ok ev ∧ w.heap[r]? = some (.cells #[.slice (some ⟨b, 0, none⟩) s.size cap, .int .i64 p, ev] 175 (0, 0))
theorem PRd.open {w : World} {r b cap p : Nat} {s : ByteArray} {ok : Bool} (h : PRd w r b cap s p ok) : ∃ ev, ErrV ok ev ∧ w.cell? ⟨r, 0, none⟩ = some (.slice (some ⟨b, 0, none⟩) s.size cap) ∧ w.cell? ⟨r, 1, none⟩ = some (.int .i64 p) ∧ w.cell? ⟨r, 2, none⟩ = some ev ∧ ∀ j, w.frozen? ⟨r, j, none⟩ = false := by
  obtain ⟨ev, h1, h2⟩ := h
  exact ⟨ev, h1, cell_row h2 rfl, cell_row h2 rfl, cell_row h2 rfl, fun j => frozen_of_row _ _ _ _ _ h2⟩
theorem PRd.lt {w : World} {r b cap p : Nat} {s : ByteArray} {ok : Bool} (h : PRd w r b cap s p ok) : r < w.heap.size := by
  obtain ⟨ev, h1, h2⟩ := h
  exact (Array.getElem?_eq_some_iff.1 h2).1
theorem PRd.below {w w' : World} {r b cap p : Nat} {s : ByteArray} {ok : Bool} (h : PRd w r b cap s p ok) (hb : Below w.heap.size w w') : PRd w' r b cap s p ok := by
  obtain ⟨ev, h1, h2⟩ := h
  exact ⟨ev, h1, (hb.block r (Array.getElem?_eq_some_iff.1 h2).1).trans h2⟩
theorem PRd.set1 {w : World} {r b cap p : Nat} {s : ByteArray} {ok : Bool} (h : PRd w r b cap s p ok) (p' : Nat) : PRd (w.setCell ⟨r, 1, none⟩ (.int .i64 p')) r b cap s p' ok := by
  obtain ⟨ev, h1, h2⟩ := h
  refine ⟨ev, h1, ?_⟩
  rw [heap_setCell_same _ _ _ _ _ _ h2]; rfl
theorem PRd.fault {w : World} {r b cap p : Nat} {s : ByteArray} {ok : Bool} (h : PRd w r b cap s p ok) (fb : Nat) : PRd (w.setCell ⟨r, 2, none⟩ (.iface 221 (.pointer (some ⟨fb, 0, none⟩)))) r b cap s p false := by
  obtain ⟨ev, h1, h2⟩ := h
  refine ⟨_, ⟨fb, rfl⟩, ?_⟩
  rw [heap_setCell_same _ _ _ _ _ _ h2]; rfl
theorem grown_of_below {w w' : World} {row : Option Nat} (h : Below w.heap.size w w') : w.grownBy w' row := grown_below h

set_option maxRecDepth 10000 in
set_option maxHeartbeats 1000000 in
theorem pmust_any (r b cap p : Nat) (s what : ByteArray) (ok holds : Bool) (w : World) (hR : PRd w r b cap s p ok) :
    Calls Tryz.prog 119 #[.pointer (some ⟨r, 0, none⟩), .bool holds, .string what] w fun e w' => e = .returned (.tuple #[]) ∧ PRd w' r b cap s p (ok && holds) ∧ w.grownBy w' (some r) := by
  have HR := hide hR
  obtain ⟨ev, hev, c0, c1, c2, hf⟩ := hR.open
  have hlt := hR.lt
  clear hR
  cases holds with
  | true =>
    rw [Bool.and_true]
    go_enter Tryz.func119, Tryz.ntmps119
    go_wp2_with fail
    go_end0
    exact ⟨rfl, HR.out, grown_refl _ _⟩
  | false =>
    rw [Bool.and_false]
    cases ok with
    | false =>
      obtain ⟨fb, rfl⟩ := hev
      go_enter Tryz.func119, Tryz.ntmps119
      go_wp2_with fail
      go_end0
      exact ⟨rfl, HR.out, grown_refl _ _⟩
    | true =>
      obtain rfl : ev = .nilIface := hev
      go_enter Tryz.func119, Tryz.ntmps119
      go_wp2_with fail
      go_end0
      exact ⟨rfl, (HR.out.fault _).below ((Below.refl _ _).alloc (Nat.le_refl _) _), (setCell_grown _).trans (grown_of_below ((Below.refl _ _).alloc (Nat.le_refl _) _))⟩

set_option maxRecDepth 10000 in
set_option maxHeartbeats 1000000 in
theorem ptake_any (r b cap p n : Nat) (s : ByteArray) (ok : Bool) (w : World) (hs : s.size ≤ 70000) (hcap : s.size ≤ cap) (hp : p ≤ s.size) (hn : n ≤ 70000) (hR : PRd w r b cap s p ok) :
    Calls Tryz.prog 120 #[.pointer (some ⟨r, 0, none⟩), .int .i64 n] w fun e w' => ∃ (va : Option Addr) (m p' : Nat) (ok' : Bool), e = .returned (.slice va m m) ∧ PRd w' r b cap s p' ok' ∧ Step s ok p n p' ok' ∧ (ok' = true → m = n ∧ (0 < n → va = some ⟨b, p, none⟩)) ∧ (ok' = false → m = 0 ∧ va = none) ∧ w.grownBy w' (some r) := by
  have HR := hide hR
  obtain ⟨ev, hev, c0, c1, c2, hf⟩ := hR.open
  have hlt := hR.lt
  have hw1 : IntKind.i64.wrap ((s.size : Int) - (p : Int)) = (s.size : Int) - (p : Int) := by rw [IntKind.wrap_i64]; omega
  have HMU : Hid (∀ holds what, Calls Tryz.prog 119 #[.pointer (some ⟨r, 0, none⟩), .bool holds, .string what] w.drew fun e w' => e = .returned (.tuple #[]) ∧ PRd w' r b cap s p (ok && holds) ∧ w.grownBy w' (some r)) := by
    intro holds what
    refine (pmust_any r b cap p s what ok holds w.drew (HR.out.below (Below.refl _ _).drew)).mono ?_
    rintro e w' ⟨rfl, h1, h2⟩
    exact ⟨rfl, h1, (grown_of_below (Below.refl _ _).drew).trans h2⟩
  clear hR c2 hf hev
  by_cases hfit : p + n ≤ s.size
  · have hd : decide ((n : Int) ≤ (s.size : Int) - (p : Int)) = true := decide_eq_true (by omega)
    have hle : (n : Int) ≤ (s.size : Int) - (p : Int) := by omega
    go_enter Tryz.func120, Tryz.ntmps120
    go_wp2_with fail
    go_region_held3 (fun w' => w'.cell? ⟨r, 0, none⟩ = some (.slice (some ⟨b, 0, none⟩) s.size cap) ∧ w'.cell? ⟨r, 1, none⟩ = some (.int .i64 p))
      (first | exact ⟨c0, c1⟩ | exact ⟨k0, k1⟩)
      ((go_at_call 119; refine (HMU.out _ _).mono ?_; rintro e w2 ⟨rfl, hR2, hg2⟩; obtain ⟨ev2, hev2, k0, k1, k2, kf⟩ := hR2.open))
    rw [Bool.and_true] at hR2 hev2
    have HR2 := hide hR2
    have HG2 := hide hg2
    clear hR2 hg2 c0 c1
    cases ok with
    | false =>
      obtain ⟨fb, rfl⟩ := hev2
      go_wp2_with fail
      go_ret
      exact ⟨none, 0, p, false, rfl, HR2.out, .inr ⟨rfl, rfl, .inl rfl⟩, (fun h => by cases h), (fun _ => ⟨rfl, rfl⟩), HG2.out⟩
    | true =>
      obtain rfl : ev2 = .nilIface := hev2
      have hw2 : IntKind.i64.wrap ((p : Int) + (n : Int)) = ((p + n : Nat) : Int) := by rw [IntKind.wrap_i64] <;> omega
      go_wp2_with fail
      go_quiet (fail)
      have HR3 : Hid (PRd (w2.drewN nq) r b cap s p true) := HR2.out.below (below_drewN (Below.refl _ _) nq)
      have HG3 : Hid (w.grownBy (w2.drewN nq) (some r)) := grown_drewN HG2.out nq
      obtain ⟨ev3, _, m0, m1, m2, mf⟩ := HR3.out.open
      clear k0 k1 k2 kf HR2 HG2
      generalize w2.drewN nq = w3 at *
      by_cases h0 : n = 0
      · subst h0
        rw [Nat.add_zero] at *
        go_wp2_with fail
        go_ret
        exact ⟨_, 0, p, true, rfl, HR3.out.set1 p, .inl ⟨rfl, hfit, rfl, rfl⟩, (fun _ => ⟨rfl, fun h => by omega⟩), (fun h => by cases h), HG3.out.trans (setCell_grown _)⟩
      · go_wp2_with fail
        go_ret
        refine ⟨some ⟨b, p, none⟩, n, p + n, true, ?_, HR3.out.set1 (p + n), .inl ⟨rfl, hfit, rfl, rfl⟩, (fun _ => ⟨rfl, fun _ => rfl⟩), (fun h => by cases h), HG3.out.trans (setCell_grown _)⟩
        simp
  · have hd : decide ((n : Int) ≤ (s.size : Int) - (p : Int)) = false := decide_eq_false (by omega)
    have hle : (s.size : Int) - (p : Int) < (n : Int) := by omega
    go_enter Tryz.func120, Tryz.ntmps120
    go_wp2_with fail
    go_region_held3 (fun w' => w'.cell? ⟨r, 0, none⟩ = some (.slice (some ⟨b, 0, none⟩) s.size cap) ∧ w'.cell? ⟨r, 1, none⟩ = some (.int .i64 p))
      (first | exact ⟨c0, c1⟩ | exact ⟨k0, k1⟩)
      ((go_at_call 119; refine (HMU.out _ _).mono ?_; rintro e w2 ⟨rfl, hR2, hg2⟩; obtain ⟨ev2, hev2, k0, k1, k2, kf⟩ := hR2.open))
    rw [Bool.and_false] at hR2 hev2
    have HR2 := hide hR2
    have HG2 := hide hg2
    clear hR2 hg2 c0 c1
    obtain ⟨fb, rfl⟩ := hev2
    go_wp2_with fail
    go_ret
    exact ⟨none, 0, p, false, rfl, HR2.out, .inr ⟨rfl, rfl, .inr (by omega)⟩, (fun h => by cases h), (fun _ => ⟨rfl, rfl⟩), HG2.out⟩

/-- what reading a number of n bytes leaves -/
def WideQ (w : World) (r b cap : Nat) (s : ByteArray) (ok : Bool) (p n : Nat) (v : Int) (w' : World) : Prop :=
  ∃ (p' : Nat) (ok' : Bool), PRd w' r b cap s p' ok' ∧ Step s ok p n p' ok' ∧ (ok' = true → v = getN (((nums s).drop p).take n)) ∧ 0 ≤ v ∧ v < 256 ^ n ∧ (ok' = false → v = 0) ∧ w.grownBy w' (some r)
theorem or_byte (G x : Int) (hG : 0 ≤ G) (hx0 : 0 ≤ x) (hx1 : x < 256) (h : 256 * G + x < 18446744073709551616) : bits .or .u64 (G * 256) x = 256 * G + x := by
  obtain ⟨g, rfl⟩ : ∃ g : Nat, G = g := ⟨G.toNat, by omega⟩
  obtain ⟨y, rfl⟩ : ∃ y : Nat, x = y := ⟨x.toNat, by omega⟩
  rw [Go.u64_or _ _ (by omega) (by omega) (by omega) (by omega)]
  have e : ((g : Int) * 256).toNat = g <<< 8 := by rw [Nat.shiftLeft_eq]; omega
  rw [e, Int.toNat_natCast, ← Nat.shiftLeft_add_eq_or_of_lt (by omega : y < 2 ^ 8), Nat.shiftLeft_eq]
  omega

set_option maxRecDepth 10000 in
set_option maxHeartbeats 1000000 in
theorem pwide_any (r b cap p n : Nat) (s : ByteArray) (ok : Bool) (w : World) (hs : s.size ≤ 70000) (hcap : s.size ≤ cap) (hp : p ≤ s.size) (hn : n ≤ 8) (hR : PRd w r b cap s p ok) (hbr : b ≠ r) (_hb : b < w.heap.size) (hc : ∀ k (h : k < (nums s).length), w.cell? ⟨b, 0 + k, none⟩ = some (.int .u8 (nums s)[k])) :
    Calls Tryz.prog 134 #[.pointer (some ⟨r, 0, none⟩), .int .i64 n] w fun e w' => ∃ v : Int, e = .returned (.int .u64 v) ∧ WideQ w r b cap s ok p n v w' := by
  have HT := hide (ptake_any r b cap p n s ok w hs hcap hp (by omega) hR)
  have HC : Hid (∀ (W : World), w.grownBy W (some r) → ∀ k (h : k < s.size), W.cell? ⟨b, k, none⟩ = some (.int .u8 (s[k].toNat : Int))) := by
    intro W hg k h
    have := hg.cell (hc k (by rw [nums_length]; exact h)) (by simp; exact hbr)
    rw [Nat.zero_add, nums_at s k h] at this
    exact this
  have hpos : (0 : Int) < 256 ^ n := Int.pow_pos (by omega)
  have HPOS := hide hpos
  have HV : Hid (p + n ≤ s.size → ∀ k, k < n → ∃ (h : p + k < s.size), getN (((nums s).drop p).take (k + 1)) = 256 * getN (((nums s).drop p).take k) + (s[p + k].toNat : Int) ∧ 0 ≤ getN (((nums s).drop p).take k) ∧ 256 * getN (((nums s).drop p).take k) + (s[p + k].toNat : Int) < 18446744073709551616) := by
    intro hfit k hk
    have h : p + k < s.size := by omega
    have hl := nums_length s
    have e1 := getN_take (l := (nums s).drop p) (k := k) (by rw [List.length_drop]; omega)
    rw [List.getElem_drop, nums_at s (p + k) h] at e1
    have hb := getN_bd (l := ((nums s).drop p).take (k + 1)) (((nums_bytes s).drop p).take _)
    have hb0 := getN_bd (l := ((nums s).drop p).take k) (((nums_bytes s).drop p).take _)
    have hpw := pow_le8 (show (((nums s).drop p).take (k + 1)).length ≤ 8 by rw [List.length_take, List.length_drop]; omega)
    refine ⟨h, e1, hb0.1, ?_⟩
    rw [← e1]
    omega
  have HBD : Hid (p + n ≤ s.size → 0 ≤ getN (((nums s).drop p).take n) ∧ getN (((nums s).drop p).take n) < 256 ^ n) := by
    intro hfit
    have hb := getN_bd (l := ((nums s).drop p).take n) (((nums_bytes s).drop p).take _)
    rw [List.length_take, List.length_drop, nums_length, show min n (s.size - p) = n by omega] at hb
    exact hb
  clear hR hc hpos
  go_enter Tryz.func134, Tryz.ntmps134
  go_wp2_with fail
  refine HT.out.mono ?_
  rintro e w1 ⟨va, m, p', ok', rfl, hR1, hst, hyes, hno, hg1⟩
  have HR1 := hide hR1
  have HST := hide hst
  have HG1 := hide hg1
  cases ok' with
  | false =>
    obtain ⟨rfl, rfl⟩ := hno rfl
    clear hR1 hst hg1 hyes hno HT
    go_wp2_with fail
    go_loop [5, 12] (fun v5 v12 => v5 = .int .u64 0 ∧ v12 = .int .i64 0) (fun _ _ => 0)
    case atStart => exact ⟨rfl, rfl⟩
    case round =>
      obtain ⟨rfl, rfl⟩ := hrel
      go_wp2_with fail
      go_ret
      exact ⟨0, rfl, p', false, HR1.out, HST.out, (fun h => by cases h), by omega, HPOS.out, (fun _ => rfl), HG1.out⟩
  | true =>
    obtain ⟨rfl, hva⟩ := hyes rfl
    have hfit : p + m ≤ s.size := by
      rcases hst with ⟨_, h, _⟩ | ⟨h, _⟩
      · exact h
      · cases h
    have HVA := hide hva
    have HVV := hide (HV.out hfit)
    clear hR1 hst hg1 hyes hno HT hva HV
    go_wp2_with fail
    go_loop [5, 12] (fun v5 v12 => ∃ k : Nat, k ≤ m ∧ v12 = .int .i64 k ∧ v5 = .int .u64 (getN (((nums s).drop p).take k))) (fun _ v12 => m - (intOf v12).toNat)
    case atStart => exact ⟨0, Nat.zero_le _, rfl, by simp [getN]⟩
    case round =>
      obtain ⟨k, hk, rfl, rfl⟩ := hrel
      by_cases hlt : k < m
      · obtain ⟨h, e1, h0, hbd⟩ := HVV.out k hlt
        obtain rfl : va = some ⟨b, p, none⟩ := HVA.out (by omega)
        have d0 := HC.out _ HG1.out (p + k) h
        have hx := s[p + k].toNat_lt
        have hw : IntKind.u64.wrap (getN (((nums s).drop p).take k) * 256) = getN (((nums s).drop p).take k) * 256 := by rw [IntKind.wrap_u64]; omega
        have hor := or_byte (getN (((nums s).drop p).take k)) (s[p + k].toNat : Int) h0 (by omega) (by omega) hbd
        have E1 := hide e1
        clear e1
        generalize getN (((nums s).drop p).take k) = G at *
        have HOR := hide hor
        clear hor
        go_wp2_with fail
        go_round
        case rel => exact ⟨k + 1, by omega, by go_num, by rw [E1.out, ← HOR.out]⟩
        case measure => simp [intOf]; omega
      · have hkn : k = m := by omega
        subst hkn
        go_wp2_with fail
        go_ret
        exact ⟨_, rfl, p', true, HR1.out, HST.out, (fun _ => rfl), (HBD.out hfit).1, (HBD.out hfit).2, (fun h => by cases h), HG1.out⟩

set_option maxRecDepth 10000 in
set_option maxHeartbeats 1000000 in
theorem pnumber_any (r b cap p n : Nat) (s : ByteArray) (ok : Bool) (w : World) (hs : s.size ≤ 70000) (hcap : s.size ≤ cap) (hp : p ≤ s.size) (hn : n ≤ 2) (hR : PRd w r b cap s p ok) (hbr : b ≠ r) (hb : b < w.heap.size) (hc : ∀ k (h : k < (nums s).length), w.cell? ⟨b, 0 + k, none⟩ = some (.int .u8 (nums s)[k])) :
    Calls Tryz.prog 121 #[.pointer (some ⟨r, 0, none⟩), .int .i64 n] w fun e w' => ∃ v : Nat, e = .returned (.int .i64 v) ∧ v ≤ 65535 ∧ (n = 1 → v ≤ 255) ∧ WideQ w r b cap s ok p n v w' := by
  have HT := hide (pwide_any r b cap p n s ok w hs hcap hp (by omega) hR hbr hb hc)
  have hpw : (256 : Int) ^ n = ((256 ^ n : Nat) : Int) := (Int.natCast_pow 256 n).symm
  have hp2 : (256 : Nat) ^ n ≤ 65536 := by
    have h : n = 0 ∨ n = 1 ∨ n = 2 := by omega
    rcases h with rfl | rfl | rfl <;> decide
  have HPW := hide hpw
  have HP2 := hide hp2
  clear hR hc hpw hp2
  go_enter Tryz.func121, Tryz.ntmps121
  go_wp2_with fail
  refine HT.out.mono ?_
  rintro e w1 ⟨v, rfl, hq⟩
  have HQ := hide hq
  obtain ⟨p', ok', hR1, hst, hyes, h0, h1, hno, hg1⟩ := hq
  rw [HPW.out] at h1
  have h65 := HP2.out
  obtain ⟨x, rfl⟩ : ∃ x : Nat, v = x := ⟨v.toNat, by omega⟩
  have hlt : x < 256 ^ n := by omega
  have hsm : (x : Int) < 65536 := by omega
  have H1 : Hid (x ≤ 65535 ∧ (n = 1 → x ≤ 255)) := ⟨by omega, fun h => by subst h; omega⟩
  clear hR1 hst hyes h1 hno hg1 hlt h65
  go_wp2_with fail
  go_ret
  exact ⟨x, rfl, H1.out.1, H1.out.2, HQ.out⟩
end Go.Proofs.YtbhccdedcoajmabGreatDoor
