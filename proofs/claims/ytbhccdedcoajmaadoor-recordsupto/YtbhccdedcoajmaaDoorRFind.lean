import Derived.Test.YtbhccdedcoajmaaDoorBatch
import Derived.Test.YtbhccdedcoajmaaDoorConv
import Derived.Test.YtbhccdedcoajmaaDoorRName
import Derived.Deep.QuietTactic
import Derived.BigQuiet
namespace Go.Proofs.YtbhccdedcoajmaaDoor
open Go.RowKit

/-- a list of the reference's files in memory, to be read -/
def Fl (w : World) (v : Value) (fs : List (ByteArray × ByteArray)) : Prop :=
  ∃ va cap, v = .slice va fs.length cap ∧ fs.length ≤ cap ∧ ∀ i (hi : i < fs.length), ∃ g, va = some ⟨g, 0, none⟩ ∧ g < w.heap.size ∧ w.cell? ⟨g, i * 2, none⟩ = some (.string fs[i].1) ∧ w.cell? ⟨g, i * 2 + 1, none⟩ = some (.string fs[i].2)
theorem Fl.below {w w' : World} {v : Value} {fs : List (ByteArray × ByteArray)} (h : Fl w v fs) (hb : Below w.heap.size w w') : Fl w' v fs := by
  obtain ⟨va, cap, h1, h2, h3⟩ := h
  refine ⟨va, cap, h1, h2, fun i hi => ?_⟩
  obtain ⟨g, e, hg, c0, c1⟩ := h3 i hi
  exact ⟨g, e, Nat.lt_of_lt_of_le hg hb.size, (hb.cell (p := ⟨g, _, none⟩) hg).trans c0, (hb.cell (p := ⟨g, _, none⟩) hg).trans c1⟩
def filOf (p : ByteArray × ByteArray) : Fil := ⟨nums p.1, nums p.2⟩
theorem nums_eq_iff {a b : ByteArray} : nums a = nums b ↔ a = b := ⟨nums_inj, fun h => by rw [h]⟩

def foundOf (fs : List (ByteArray × ByteArray)) (nm : ByteArray) : Option ByteArray := (fs.find? fun p => decide (nums p.1 = nums nm)).map Prod.snd
theorem found_hit {fs : List (ByteArray × ByteArray)} {nm : ByteArray} {k : Nat} (hk : k < fs.length) (h : nums fs[k].1 = nums nm) (hno : ∀ j (hj : j < fs.length), j < k → nums fs[j].1 ≠ nums nm) : foundOf fs nm = some fs[k].2 := by
  unfold foundOf
  have : fs.find? (fun p => decide (nums p.1 = nums nm)) = some fs[k] := by
    rw [List.find?_eq_some_iff_getElem]
    exact ⟨by simpa using h, k, hk, rfl, fun j hj => by simpa using hno j (by omega) hj⟩
  rw [this]; rfl
theorem found_no {fs : List (ByteArray × ByteArray)} {nm : ByteArray} (hno : ∀ j (hj : j < fs.length), nums fs[j].1 ≠ nums nm) : foundOf fs nm = none := by
  unfold foundOf
  have : fs.find? (fun p => decide (nums p.1 = nums nm)) = none := by
    rw [List.find?_eq_none]
    intro p hp
    obtain ⟨k, hk, rfl⟩ := List.getElem_of_mem hp
    simpa using hno k hk
  rw [this]; rfl
theorem found_findL (fs : List (ByteArray × ByteArray)) (nm : ByteArray) : findL (fs.map filOf) (nums nm) = nums ((foundOf fs nm).getD ⟨#[]⟩) := by
  unfold findL foundOf
  induction fs with
  | nil => rfl
  | cons p l ih =>
    by_cases h : nums p.1 = nums nm
    · rw [List.map_cons, List.find?_cons_of_pos (p := fun f : Fil => decide (f.name = nums nm)) (a := filOf p) (decide_eq_true h), List.find?_cons_of_pos (p := fun p : ByteArray × ByteArray => decide (nums p.1 = nums nm)) (a := p) (decide_eq_true h)]; rfl
    · rw [List.map_cons, List.find?_cons_of_neg (p := fun f : Fil => decide (f.name = nums nm)) (a := filOf p) (fun e => h (of_decide_eq_true e)), List.find?_cons_of_neg (p := fun p : ByteArray × ByteArray => decide (nums p.1 = nums nm)) (a := p) (fun e => h (of_decide_eq_true e))]; exact ih

set_option maxRecDepth 10000 in
set_option maxHeartbeats 1000000 in
theorem rfind_any (v : Value) (fs : List (ByteArray × ByteArray)) (nm : ByteArray) (w : World) (hl : fs.length ≤ 70000) (hF : Fl w v fs) :
    Calls Tryd.prog 57 #[v, .string nm] w fun e w' => e = .returned (.tuple #[.string ((foundOf fs nm).getD ⟨#[]⟩), .bool (foundOf fs nm).isSome]) ∧ Below w.heap.size w w' := by
  obtain ⟨va, cap, rfl, hcap, hcell⟩ := hF
  have HC := hide hcell
  clear hcell
  have HHIT : Hid (∀ k (hk : k < fs.length), nums fs[k].1 = nums nm → (∀ j (hj : j < fs.length), j < k → nums fs[j].1 ≠ nums nm) → foundOf fs nm = some fs[k].2) := fun k hk h hno => found_hit hk h hno
  have HNO : Hid ((∀ j (hj : j < fs.length), nums fs[j].1 ≠ nums nm) → foundOf fs nm = none) := fun h => found_no h
  have HTE : Hid (∀ k (hk : k < fs.length), (fs[k].1.toList == nm.toList) = decide (nums fs[k].1 = nums nm)) := fun k hk => text_eq _ _
  go_enter Tryd.func57, Tryd.ntmps57
  go_wp2_with fail
  go_loopw [6] (fun i wr => ∃ k : Nat, k ≤ fs.length ∧ i = .int .i64 k ∧ Hid (∀ j (hj : j < fs.length), j < k → nums fs[j].1 ≠ nums nm) ∧ Hid (Below w.heap.size w wr)) (fun i _ => fs.length - (intOf i).toNat)
  case atStart => exact ⟨0, Nat.zero_le _, rfl, (fun j _ hj => by omega), Below.refl _ _⟩
  case round =>
    obtain ⟨k, hk, rfl, HA, HBr⟩ := hrel
    by_cases hlt : k < fs.length
    · obtain ⟨g, rfl, hg, c0, c1⟩ := HC.out k hlt
      have d0 := (HBr.out.cell (p := ⟨g, k * 2, none⟩) hg).trans c0
      have d1 := (HBr.out.cell (p := ⟨g, k * 2 + 1, none⟩) hg).trans c1
      have hte := HTE.out k hlt
      have HIT := hide (HHIT.out k hlt)
      have HNE : Hid (nums fs[k].1 ≠ nums nm → ∀ j (hj : j < fs.length), j < k + 1 → nums fs[j].1 ≠ nums nm) := by
        intro h j hj hjk
        rcases Nat.lt_or_ge j k with h' | h'
        · exact HA.out j hj h'
        · obtain rfl : j = k := by omega
          exact h
      clear c0 c1
      generalize fs[k].1 = a at *
      generalize fs[k].2 = b at *
      by_cases hh : nums a = nums nm
      · have HH := hide hh
        rw [decide_eq_true hh] at hte
        clear hh
        go_wp2_with fail
        go_ret2
        refine ⟨?_, HBr.out⟩
        rw [HIT.out HH.out HA.out]; rfl
      · have HH := hide hh
        rw [decide_eq_false hh] at hte
        clear hh
        go_wp2_with fail
        go_roundw
        case rel => exact ⟨k + 1, by omega, by go_num, HNE.out HH.out, HBr.out⟩
        case measure => simp [intOf]; omega
    · go_wp2_with fail
      go_ret2
      refine ⟨?_, HBr.out⟩
      rw [HNO.out (fun j hj => HA.out j hj (by omega))]; rfl
end Go.Proofs.YtbhccdedcoajmaaDoor
