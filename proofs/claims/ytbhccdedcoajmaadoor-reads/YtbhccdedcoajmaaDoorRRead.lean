import Derived.Test.YtbhccdedcoajmaaDoorTokRowM
import Derived.Deep.QuietTactic
import Derived.BigQuiet
import Derived.Laws.Strings2
namespace Go.Proofs.YtbhccdedcoajmaaDoor
open Go.RowKit

/-- the reference's reader: the text, where it is, is all well -/
def Rd (w : World) (r : Nat) (s : ByteArray) (p : Nat) (ok : Bool) : Prop := w.heap[r]? = some (.cells #[.string s, .int .i64 p, .bool ok] 103 (0, 0))
theorem Rd.c0 {w : World} {r p : Nat} {s : ByteArray} {ok : Bool} (h : Rd w r s p ok) : w.cell? ⟨r, 0, none⟩ = some (.string s) := cell_row h rfl
theorem Rd.c1 {w : World} {r p : Nat} {s : ByteArray} {ok : Bool} (h : Rd w r s p ok) : w.cell? ⟨r, 1, none⟩ = some (.int .i64 p) := cell_row h rfl
theorem Rd.c2 {w : World} {r p : Nat} {s : ByteArray} {ok : Bool} (h : Rd w r s p ok) : w.cell? ⟨r, 2, none⟩ = some (.bool ok) := cell_row h rfl
theorem Rd.fz {w : World} {r p : Nat} {s : ByteArray} {ok : Bool} (h : Rd w r s p ok) (j : Nat) : w.frozen? ⟨r, j, none⟩ = false := frozen_of_row _ _ _ _ _ h
theorem Rd.drewN {w : World} {r p : Nat} {s : ByteArray} {ok : Bool} (h : Rd w r s p ok) (q : Nat) : Rd (w.drewN q) r s p ok := ((below_drewN (Below.refl (w.heap.size + r + 1) w) q).block r (by omega)).trans h
theorem Rd.set1 {w : World} {r p : Nat} {s : ByteArray} {ok : Bool} (h : Rd w r s p ok) (p' : Nat) : Rd (w.setCell ⟨r, 1, none⟩ (.int .i64 p')) r s p' ok := by
  show _ = _
  rw [heap_setCell_same _ _ _ _ _ _ h]; rfl
theorem Rd.set2 {w : World} {r p : Nat} {s : ByteArray} {ok : Bool} (h : Rd w r s p ok) (ok' : Bool) : Rd (w.setCell ⟨r, 2, none⟩ (.bool ok')) r s p ok' := by
  show _ = _
  rw [heap_setCell_same _ _ _ _ _ _ h]; rfl
set_option maxRecDepth 10000 in
set_option maxHeartbeats 1000000 in
theorem number_off (r p n : Nat) (s : ByteArray) (w : World) (hR : Rd w r s p false) :
    Calls Tryd.prog 47 #[.pointer (some ⟨r, 0, none⟩), .int .i64 n] w fun e w' => e = .returned (.int .u64 0) ∧ Rd w' r s p false ∧ w.grownBy w' (some r) := by
  have c2 := hR.c2
  have HR := hide hR
  have hf := hR.fz
  clear hR
  go_enter Tryd.func47, Tryd.ntmps47
  go_wp2_with fail
  go_quiet (fail)
  have HR1 := hide (HR.out.drewN nq)
  have c2' := HR1.out.c2
  have hf' := HR1.out.fz
  have HG1 : Hid (w.grownBy (w.drewN nq) (some r)) := grown_drewN (grown_refl _ _) nq
  clear c2 hf
  generalize w.drewN nq = w1 at *
  go_wp2_with fail
  go_ret
  exact ⟨rfl, HR1.out.set2 false, HG1.out.trans (setCell_grown _)⟩
set_option maxRecDepth 10000 in
set_option maxHeartbeats 1000000 in
theorem number_short (r p n : Nat) (s : ByteArray) (w : World) (hs : s.size ≤ 70000) (hp : p ≤ s.size) (hn : s.size - p < n) (hR : Rd w r s p true) :
    Calls Tryd.prog 47 #[.pointer (some ⟨r, 0, none⟩), .int .i64 n] w fun e w' => e = .returned (.int .u64 0) ∧ Rd w' r s p false ∧ w.grownBy w' (some r) := by
  have c0 := hR.c0
  have c1 := hR.c1
  have c2 := hR.c2
  have hd : decide ((s.size : Int) - (p : Int) < (n : Int)) = true := decide_eq_true (by omega)
  have hlt : (s.size : Int) - (p : Int) < (n : Int) := by omega
  have HR := hide hR
  have hf := hR.fz
  clear hR
  go_enter Tryd.func47, Tryd.ntmps47
  go_wp2_with fail
  go_quiet (fail)
  have HR1 := hide (HR.out.drewN nq)
  have c2' := HR1.out.c2
  have hf' := HR1.out.fz
  have HG1 : Hid (w.grownBy (w.drewN nq) (some r)) := grown_drewN (grown_refl _ _) nq
  clear c0 c1 c2 hf
  generalize w.drewN nq = w1 at *
  go_wp2_with fail
  go_ret
  exact ⟨rfl, HR1.out.set2 false, HG1.out.trans (setCell_grown _)⟩
set_option maxRecDepth 10000 in
set_option maxHeartbeats 1000000 in
theorem number_on (r p n : Nat) (s : ByteArray) (w : World) (hs : s.size ≤ 70000) (hp : p + n ≤ s.size) (hn : n ≤ 8) (hR : Rd w r s p true) :
    Calls Tryd.prog 47 #[.pointer (some ⟨r, 0, none⟩), .int .i64 n] w fun e w' => e = .returned (.int .u64 (getN (((nums s).drop p).take n))) ∧ Rd w' r s (p + n) true ∧ w.grownBy w' (some r) := by
  have c0 := hR.c0
  have c1 := hR.c1
  have c2 := hR.c2
  have hd : decide ((s.size : Int) - (p : Int) < (n : Int)) = false := decide_eq_false (by omega)
  have HR := hide hR
  have HV : Hid (∀ k, k < n → ∃ (h : p + k < s.size), getN (((nums s).drop p).take (k + 1)) = 256 * getN (((nums s).drop p).take k) + (s[p + k].toNat : Int) ∧ 0 ≤ getN (((nums s).drop p).take k) ∧ 256 * getN (((nums s).drop p).take k) + (s[p + k].toNat : Int) < 18446744073709551616) := by
    intro k hk
    have h : p + k < s.size := by omega
    have hl := nums_length s
    have e1 := getN_take (l := (nums s).drop p) (k := k) (by rw [List.length_drop]; omega)
    rw [List.getElem_drop, nums_at s (p + k) h] at e1
    have hb := getN_bd (l := ((nums s).drop p).take (k + 1)) (((nums_bytes s).drop p).take _)
    have hb0 := getN_bd (l := ((nums s).drop p).take k) (((nums_bytes s).drop p).take _)
    have hpw := pow_le8 (show (((nums s).drop p).take (k + 1)).length ≤ 8 by rw [List.length_take, List.length_drop]; omega)
    refine ⟨h, e1, hb0.1, ?_⟩
    rw [← e1]
    omega
  clear hR
  go_enter Tryd.func47, Tryd.ntmps47
  go_wp2_with fail
  go_quiet (fail)
  have HR1 := hide (HR.out.drewN nq)
  have HG1 : Hid (w.grownBy (w.drewN nq) (some r)) := grown_drewN (grown_refl _ _) nq
  clear c0 c1 c2
  generalize w.drewN nq = w1 at *
  go_wp2_with fail
  go_loopw [5, 6] (fun v5 v6 wr => ∃ k : Nat, k ≤ n ∧ v6 = .int .i64 k ∧ v5 = .int .u64 (getN (((nums s).drop p).take k)) ∧ Hid (Rd wr r s p true) ∧ Hid (w.grownBy wr (some r))) (fun _ v6 _ => n - (intOf v6).toNat)
  case atStart => exact ⟨0, Nat.zero_le _, rfl, by simp [getN], HR1.out, HG1.out⟩
  case round =>
    obtain ⟨k, hk, rfl, rfl, HRr, HGr⟩ := hrel
    by_cases hlt : k < n
    · obtain ⟨h, e1, h0, hbd⟩ := HV.out k hlt
      have d0 := HRr.out.c0
      have d1 := HRr.out.c1
      have hw : IntKind.u64.wrap (256 * getN (((nums s).drop p).take k)) = 256 * getN (((nums s).drop p).take k) := by rw [IntKind.wrap_u64]; omega
      have hw2 : IntKind.u64.wrap (256 * getN (((nums s).drop p).take k) + (s[p + k].toNat : Int)) = 256 * getN (((nums s).drop p).take k) + (s[p + k].toNat : Int) := by rw [IntKind.wrap_u64]; omega
      have E1 := hide e1
      clear e1
      have hx1 : (0 : Int) ≤ (p : Int) + (k : Int) := by omega
      have hx2 : (p : Int) + (k : Int) < (s.size : Int) := by omega
      have hx3 : ((p : Int) + (k : Int)).toNat = p + k := by omega
      have hx4 : IntKind.i64.wrap ((p : Int) + (k : Int)) = (p : Int) + (k : Int) := by rw [IntKind.wrap_i64]; omega
      have hix : ∀ W : World, (Instr.index 9 (.string s) (.int .i64 ((p : Int) + (k : Int)))).run Tryd.prog W = .ok (.int .u8 (s[p + k].toNat : Int)) W := by
        intro W
        rw [run_index_string _ _ _ _ _ (by kernel_rfl)]
        rw [dif_pos ⟨hx1, hx2⟩]
        simp only [hx3]
      generalize getN (((nums s).drop p).take k) = G at *
      go_wp2_with fail
      go_quiet (fail)
      go_wp2_with fail
      go_roundw
      case rel => exact ⟨k + 1, by omega, by go_num, by rw [E1.out], HRr.out.drewN _, grown_drewN HGr.out _⟩
      case measure => simp [intOf]; omega
    · have hkn : k = n := by omega
      have HKN := hide hkn
      clear hkn
      have d1 := HRr.out.c1
      have hf := HRr.out.fz
      go_wp2_with fail
      go_ret
      refine ⟨by rw [HKN.out]; rfl, ?_, HGr.out.trans (setCell_grown _)⟩
      have := HRr.out.set1 (p + n)
      simpa using this

set_option maxRecDepth 10000 in
set_option maxHeartbeats 1000000 in
theorem text_off (r p n : Nat) (s : ByteArray) (w : World) (hR : Rd w r s p false) :
    Calls Tryd.prog 45 #[.pointer (some ⟨r, 0, none⟩), .int .i64 n] w fun e w' => e = .returned (.string ⟨#[]⟩) ∧ Rd w' r s p false ∧ w.grownBy w' (some r) := by
  have c2 := hR.c2
  have HR := hide hR
  clear hR
  go_enter Tryd.func45, Tryd.ntmps45
  go_wp2_with fail
  go_quiet (fail)
  have HR1 := hide (HR.out.drewN nq)
  have c2' := HR1.out.c2
  have hf' := HR1.out.fz
  have HG1 : Hid (w.grownBy (w.drewN nq) (some r)) := grown_drewN (grown_refl _ _) nq
  clear c2
  generalize w.drewN nq = w1 at *
  go_wp2_with fail
  go_ret
  exact ⟨rfl, HR1.out.set2 false, HG1.out.trans (setCell_grown _)⟩
set_option maxRecDepth 10000 in
set_option maxHeartbeats 1000000 in
theorem text_short (r p n : Nat) (s : ByteArray) (w : World) (hs : s.size ≤ 70000) (hp : p ≤ s.size) (hn : s.size - p < n) (hR : Rd w r s p true) :
    Calls Tryd.prog 45 #[.pointer (some ⟨r, 0, none⟩), .int .i64 n] w fun e w' => e = .returned (.string ⟨#[]⟩) ∧ Rd w' r s p false ∧ w.grownBy w' (some r) := by
  have c0 := hR.c0
  have c1 := hR.c1
  have c2 := hR.c2
  have hd : decide ((s.size : Int) - (p : Int) < (n : Int)) = true := decide_eq_true (by omega)
  have hlt : (s.size : Int) - (p : Int) < (n : Int) := by omega
  have HR := hide hR
  clear hR
  go_enter Tryd.func45, Tryd.ntmps45
  go_wp2_with fail
  go_quiet (fail)
  have HR1 := hide (HR.out.drewN nq)
  have c2' := HR1.out.c2
  have hf' := HR1.out.fz
  have HG1 : Hid (w.grownBy (w.drewN nq) (some r)) := grown_drewN (grown_refl _ _) nq
  clear c0 c1 c2
  generalize w.drewN nq = w1 at *
  go_wp2_with fail
  go_ret
  exact ⟨rfl, HR1.out.set2 false, HG1.out.trans (setCell_grown _)⟩
set_option maxRecDepth 10000 in
set_option maxHeartbeats 1000000 in
theorem text_on (r p n : Nat) (s : ByteArray) (w : World) (hs : s.size ≤ 70000) (hp : p + n ≤ s.size) (hR : Rd w r s p true) :
    Calls Tryd.prog 45 #[.pointer (some ⟨r, 0, none⟩), .int .i64 n] w fun e w' => e = .returned (.string (s.extract p (p + n))) ∧ Rd w' r s (p + n) true ∧ w.grownBy w' (some r) := by
  have c0 := hR.c0
  have c1 := hR.c1
  have c2 := hR.c2
  have hd : decide ((s.size : Int) - (p : Int) < (n : Int)) = false := decide_eq_false (by omega)
  have HR := hide hR
  clear hR
  go_enter Tryd.func45, Tryd.ntmps45
  go_wp2_with fail
  go_quiet (fail)
  have HR1 := hide (HR.out.drewN nq)
  have c0' := HR1.out.c0
  have c1' := HR1.out.c1
  have HG1 : Hid (w.grownBy (w.drewN nq) (some r)) := grown_drewN (grown_refl _ _) nq
  clear c0 c1 c2
  generalize w.drewN nq = w1 at *
  have hx4 : IntKind.i64.wrap ((p : Int) + (n : Int)) = (p : Int) + (n : Int) := by rw [IntKind.wrap_i64]; omega
  have hsl : ∀ W : World, (Instr.slice 9 (.string s) (some (.int .i64 p)) (some (.int .i64 ((p : Int) + (n : Int)))) none).run Tryd.prog W = .ok (.string (s.extract p (p + n))) W := by
    intro W
    have := run_slice_string (P := Tryd.prog) W 9 s .i64 .i64 (p : Int) ((p : Int) + (n : Int)) (by kernel_rfl) (by omega) (by omega) (by omega)
    rw [show ((p : Int)).toNat = p by omega, show ((p : Int) + (n : Int)).toNat = p + n by omega] at this
    exact this
  go_wp2_with fail
  go_quiet (fail)
  have HR2 := hide (HR1.out.drewN nq)
  have c1'' := HR2.out.c1
  have hf' := HR2.out.fz
  have HG2 : Hid (w.grownBy (w1.drewN nq) (some r)) := grown_drewN HG1.out nq
  clear c0' c1'
  generalize w1.drewN nq = w2 at *
  go_wp2_with fail
  go_ret
  refine ⟨rfl, ?_, HG2.out.trans (setCell_grown _)⟩
  have := HR2.out.set1 (p + n)
  simpa using this

set_option maxRecDepth 10000 in
set_option maxHeartbeats 400000 in
theorem must_any (r p : Nat) (s : ByteArray) (ok b : Bool) (w : World) (hR : Rd w r s p ok) :
    Calls Tryd.prog 46 #[.pointer (some ⟨r, 0, none⟩), .bool b] w fun e w' => e = .returned (.tuple #[]) ∧ Rd w' r s p (ok && b) ∧ w.grownBy w' (some r) := by
  have c2 := hR.c2
  have hf := hR.fz
  have HR := hide hR
  clear hR
  cases ok
  · go_enter Tryd.func46, Tryd.ntmps46
    go_wp2_with fail
    go_end0
    exact ⟨rfl, HR.out.set2 _, setCell_grown _⟩
  · go_enter Tryd.func46, Tryd.ntmps46
    go_wp2_with fail
    go_end0
    exact ⟨rfl, HR.out.set2 _, setCell_grown _⟩
end Go.Proofs.YtbhccdedcoajmaaDoor
