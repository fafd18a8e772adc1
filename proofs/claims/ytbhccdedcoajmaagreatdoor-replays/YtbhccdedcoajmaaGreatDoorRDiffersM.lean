import Derived.Test.YtbhccdedcoajmaaGreatDoorPApplyM
import Derived.Test.YtbhccdedcoajmaaGreatDoorPEndAM
import Derived.Test.YtbhccdedcoajmaaGreatDoorDiffAM
import Derived.Test.YtbhccdedcoajmaaGreatDoorLFilesM
import Derived.Deep.QuietTactic
import Derived.BigQuiet
namespace Go.Proofs.YtbhccdedcoajmaaGreatDoor
open Go.RowKit

theorem text_less (a b : ByteArray) : Op.bytesLess a.toList b.toList = ltL (nums a) (nums b) := by
  rw [Lib.toList_data, Lib.toList_data, less_nums]
  rfl
theorem lesser_lt {a b : List Int} (h : ltL a b = true) : lesser a b = a := by
  unfold lesser
  split
  · rename_i h2
    have := ltL_trans h h2
    rw [ltL_irrefl] at this
    cases this
  · rfl
theorem lesser_gt {a b : List Int} (h : ltL b a = true) : lesser a b = b := if_pos h
theorem lesser_self (a : List Int) : lesser a a = a := by unfold lesser; split <;> rfl
/-- what differs tells -/
def DifQ (fs : List (ByteArray × ByteArray)) (es : List EntL) (n : ByteArray) (b : Bool) : Prop :=
  match basisBad fs es with
  | none => n = ⟨#[]⟩ ∧ b = false
  | some x => nums n = x ∧ b = true
def DifV (fs : List (ByteArray × ByteArray)) (es : List EntL) (v : Value) : Prop := ∃ n b, v = .tuple #[.string n, .bool b] ∧ DifQ fs es n b

set_option maxRecDepth 10000 in
set_option maxHeartbeats 1000000 in
theorem differs_any (v bv : Value) (fs : List (ByteArray × ByteArray)) (es : List (ByteArray × Nat × Int)) (base : Nat) (w : World) (hl : fs.length ≤ 8) (hz : ∀ p ∈ fs, p.2.size ≤ 300) (hF : Fl w v fs) (_he : es.length ≤ 8) (hE : w.ownsRow base 115 3 bv es.length (entCells es)) :
    Calls Tryz.prog 45 #[v, bv] w fun e w' => ∃ v, e = .returned v ∧ DifV fs (es.map entV) v ∧ Below w.heap.size w w' := by
  obtain ⟨va, cap, rfl, hcap, hcell⟩ := hF
  have HC : Hid (∀ k, k < fs.length → ∃ (g : Nat) (a d : ByteArray), va = some ⟨g, 0, none⟩ ∧ g < w.heap.size ∧ w.cell? ⟨g, k * 2, none⟩ = some (.string a) ∧ w.cell? ⟨g, k * 2 + 1, none⟩ = some (.string d) ∧ d.size ≤ 300 ∧ fs.drop k = (a, d) :: fs.drop (k + 1)) := by
    intro k hk
    obtain ⟨g, e, hg, c0, c1⟩ := hcell k hk
    exact ⟨g, fs[k].1, fs[k].2, e, hg, c0, c1, hz _ (List.getElem_mem hk), by rw [List.drop_eq_getElem_cons hk]⟩
  obtain ⟨ba, bcap, rfl, hbc, HD⟩ : ∃ ba bcap, bv = .slice ba es.length bcap ∧ es.length ≤ bcap ∧ Hid (∀ k, k < es.length → ∃ (g : Nat) (a : ByteArray) (z : Nat) (d : Int), ba = some ⟨g, 0, none⟩ ∧ g < w.heap.size ∧ w.cell? ⟨g, k * 3, none⟩ = some (.string a) ∧ w.cell? ⟨g, k * 3 + 1, none⟩ = some (.int .i64 z) ∧ w.cell? ⟨g, k * 3 + 2, none⟩ = some (.int .u64 d) ∧ (es.map entV).drop k = ⟨nums a, z, d⟩ :: (es.map entV).drop (k + 1)) := by
    rcases hE.2 with ⟨hv, h0⟩ | ⟨g, bcap, cur, hv, _, hg, h1, _⟩
    · exact ⟨none, 0, by rw [hv, h0], by omega, fun k hk => by omega⟩
    · refine ⟨some ⟨g, 0, none⟩, bcap, hv, h1, fun k hk => ?_⟩
      obtain ⟨e0, e1, e2⟩ := entCells_at es k hk
      have hc := hE.cells (g := g) (by rw [hv]; rfl)
      simp only [add_at] at hc
      refine ⟨g, es[k].1, es[k].2.1, es[k].2.2, rfl, (Array.getElem?_eq_some_iff.1 hg).1, hc _ _ e0, hc _ _ e1, hc _ _ e2, ?_⟩
      rw [List.drop_eq_getElem_cons (by simpa using hk), List.getElem_map]
      rfl
  have HLE : Hid ((es.map entV).length = es.length) := List.length_map _
  clear hcell hz hE
  generalize es.map entV = el at *
  generalize es.length = m at *
  go_enter Tryz.func45, Tryz.ntmps45
  go_wp2_with fail
  go_loopw [6, 7] (fun v6 v7 wr => ∃ k : Nat, k ≤ fs.length ∧ k ≤ m ∧ v6 = .int .i64 k ∧ v7 = .int .i64 k ∧ Hid (basisBad fs el = basisBad (fs.drop k) (el.drop k)) ∧ Hid (Below w.heap.size w wr)) (fun v6 _ _ => fs.length - (intOf v6).toNat)
  case atStart => exact ⟨0, Nat.zero_le _, Nat.zero_le _, rfl, rfl, (rfl : _ = _), Below.refl _ _⟩
  case round =>
    obtain ⟨k, hk, hkm, rfl, rfl, HBS, HBr⟩ := hrel
    by_cases h1 : k < fs.length
    · obtain ⟨g, a, d, rfl, hg, c0, c1, hd, hdr⟩ := HC.out k h1
      have d0 := (HBr.out.cell (p := ⟨g, k * 2, none⟩) hg).trans c0
      have d1 := (HBr.out.cell (p := ⟨g, k * 2 + 1, none⟩) hg).trans c1
      have HDR := hide hdr
      clear c0 c1 hdr
      have h1' : (k : Int) < (fs.length : Int) := by omega
      by_cases h2 : k < m
      · obtain ⟨g2, n, z, dg, rfl, hg2, e0, e1, e2, hdr2⟩ := HD.out k h2
        have f0 := (HBr.out.cell (p := ⟨g2, k * 3, none⟩) hg2).trans e0
        have f1 := (HBr.out.cell (p := ⟨g2, k * 3 + 1, none⟩) hg2).trans e1
        have f2 := (HBr.out.cell (p := ⟨g2, k * 3 + 2, none⟩) hg2).trans e2
        have HDR2 := hide hdr2
        clear e0 e1 e2 hdr2
        have h2' : (k : Int) < (m : Int) := by omega
        have h3' : ((k : Int) == (m : Int)) = false := by rw [beq_eq_false_iff_ne]; omega
        have h4' : ((k : Int) == (fs.length : Int)) = false := by rw [beq_eq_false_iff_ne]; omega
        have h5' : decide ((k : Int) < (fs.length : Int)) = true := decide_eq_true (by omega)
        have hHD : Hid (basisBad fs el = if Same (a, d) ⟨nums n, z, dg⟩ then basisBad (fs.drop (k + 1)) (el.drop (k + 1)) else some (lesser (nums a) (nums n))) := by
          show _ = _
          rw [HBS.out, HDR.out, HDR2.out]
          rfl
        cases hx : Op.bytesLess a.toList n.toList with
        | true =>
          have HLT : Hid (ltL (nums a) (nums n) = true) := by show _ = _; rw [← text_less, hx]
          go_wp2_with fail
          go_quiet (fail)
          go_wp2_with fail
          go_ret2
          refine ⟨_, rfl, ⟨_, _, rfl, ?_⟩, below_drewN HBr.out _⟩
          unfold DifQ
          rw [hHD.out, if_neg (fun hs => by have e : nums a = nums n := hs.1; have h := HLT.out; rw [e, ltL_irrefl] at h; cases h)]
          exact ⟨(lesser_lt HLT.out).symm, rfl⟩
        | false =>
          cases hy : Op.bytesLess n.toList a.toList with
          | true =>
            have HLT : Hid (ltL (nums n) (nums a) = true) := by show _ = _; rw [← text_less, hy]
            go_wp2_with fail
            go_quiet (fail)
            go_wp2_with fail
            go_quiet (fail)
            go_wp2_with fail
            go_ret2
            refine ⟨_, rfl, ⟨_, _, rfl, ?_⟩, by first | exact below_drewN HBr.out _ | exact below_drewN (below_drewN HBr.out _) _⟩
            unfold DifQ
            rw [hHD.out, if_neg (fun hs => by have e : nums a = nums n := hs.1; have h := HLT.out; rw [e, ltL_irrefl] at h; cases h)]
            exact ⟨(lesser_gt HLT.out).symm, rfl⟩
          | false =>
            have HEQ : Hid (nums a = nums n) := by
              show nums a = nums n
              have h := ltL_tri (nums a) (nums n)
              rw [← text_less, ← text_less, hx, hy] at h
              simpa using h
            go_wp2_with fail
            go_quiet (fail)
            go_wp2_with fail
            go_quiet (fail)
            go_wp2_with fail
            refine (rdigest_any d (by omega) _).mono ?_
            rintro e w3 ⟨rfl, hw3⟩
            obtain rfl := hw3.symm
            by_cases hsz : (d.size : Int) = (z : Int)
            · have hs1 : ((d.size : Int) == (z : Int)) = true := by rw [beq_iff_eq]; exact hsz
              have hs2 : ((d.size : Int) != (z : Int)) = false := by rw [bne, hs1]; rfl
              by_cases hdg : digestOf (nums d) = dg
              · have hg1 : (digestOf (nums d) != dg) = false := by rw [bne, beq_iff_eq.2 hdg]; rfl
                have HSM : Hid (Same (a, d) ⟨nums n, z, dg⟩) := ⟨HEQ.out, by rw [← hsz, nums_length], hdg⟩
                have HDG := hide hdg
                have HSZ := hide hsz
                clear hdg hsz
                go_wp2_with fail
                go_quiet (fail)
                go_wp2_with fail
                go_roundw
                case rel =>
                  refine ⟨k + 1, by omega, by omega, by go_num, by go_num, ?_, by first | exact below_drewN HBr.out _ | exact below_drewN (below_drewN HBr.out _) _ | exact below_drewN (below_drewN (below_drewN HBr.out _) _) _⟩
                  show _ = _
                  rw [hHD.out, if_pos HSM.out]
                case measure => simp [intOf]; omega
              · have hg1 : (digestOf (nums d) != dg) = true := by rw [bne_iff_ne]; exact hdg
                have HDG := hide hdg
                have HSZ := hide hsz
                clear hdg hsz
                go_wp2_with fail
                go_quiet (fail)
                go_wp2_with fail
                go_ret2
                refine ⟨_, rfl, ⟨_, _, rfl, ?_⟩, by first | exact below_drewN HBr.out _ | exact below_drewN (below_drewN HBr.out _) _ | exact below_drewN (below_drewN (below_drewN HBr.out _) _) _⟩
                unfold DifQ
                rw [hHD.out, if_neg (fun hs => HDG.out hs.2.2), ← HEQ.out, lesser_self]
                exact ⟨rfl, rfl⟩
            · have hs1 : ((d.size : Int) != (z : Int)) = true := by rw [bne_iff_ne]; exact hsz
              have HSZ := hide hsz
              clear hsz
              go_wp2_with fail
              go_quiet (fail)
              go_wp2_with fail
              go_ret2
              refine ⟨_, rfl, ⟨_, _, rfl, ?_⟩, by first | exact below_drewN HBr.out _ | exact below_drewN (below_drewN HBr.out _) _ | exact below_drewN (below_drewN (below_drewN HBr.out _) _) _⟩
              unfold DifQ
              rw [hHD.out, if_neg (fun hs => HSZ.out (by have := hs.2.1; rw [nums_length] at this; exact this)), ← HEQ.out, lesser_self]
              exact ⟨rfl, rfl⟩
      · have hkm' : k = m := by omega
        have h3' : ((k : Int) == (m : Int)) = true := by rw [beq_iff_eq]; omega
        have h2' : ¬ (k : Int) < (m : Int) := by omega
        have HHD : Hid (basisBad fs el = some (nums a)) := by
          show _ = _
          rw [HBS.out, HDR.out, show el.drop k = [] from List.drop_of_length_le (by rw [HLE.out]; omega)]
          rfl
        have HKM := hide hkm'
        clear hkm'
        go_wp2_with fail
        go_quiet (fail)
        go_wp2_with fail
        go_ret2
        refine ⟨_, rfl, ⟨_, _, rfl, ?_⟩, below_drewN HBr.out _⟩
        unfold DifQ
        rw [HHD.out]
        exact ⟨rfl, rfl⟩
    · have h1' : ¬ (k : Int) < (fs.length : Int) := by omega
      have h4' : ((k : Int) == (fs.length : Int)) = true := by rw [beq_iff_eq]; omega
      have h5' : decide ((k : Int) < (fs.length : Int)) = false := decide_eq_false h1'
      by_cases h2 : k < m
      · obtain ⟨g2, n, z, dg, rfl, hg2, e0, e1, e2, hdr2⟩ := HD.out k h2
        have f0 := (HBr.out.cell (p := ⟨g2, k * 3, none⟩) hg2).trans e0
        have h2' : (k : Int) < (m : Int) := by omega
        have h3' : ((k : Int) == (m : Int)) = false := by rw [beq_eq_false_iff_ne]; omega
        have HHD : Hid (basisBad fs el = some (nums n)) := by
          show _ = _
          rw [HBS.out, hdr2, List.drop_of_length_le (by omega)]
          rfl
        clear e0 e1 e2 hdr2
        go_wp2_with fail
        go_quiet (fail)
        go_wp2_with fail
        go_quiet (fail)
        go_wp2_with fail
        go_ret2
        refine ⟨_, rfl, ⟨_, _, rfl, ?_⟩, by first | exact below_drewN HBr.out _ | exact below_drewN (below_drewN HBr.out _) _⟩
        unfold DifQ
        rw [HHD.out]
        exact ⟨rfl, rfl⟩
      · have h2' : ¬ (k : Int) < (m : Int) := by omega
        have HHD : Hid (basisBad fs el = none) := by
          show _ = _
          rw [HBS.out, List.drop_of_length_le (by omega), List.drop_of_length_le (by rw [HLE.out]; omega)]
          rfl
        go_wp2_with fail
        refine bodyPost_ret (v := .tuple #[.string ⟨#[]⟩, .bool false]) (by simp [results, Tryz.results45, go_sem]) rfl ⟨_, rfl, ⟨⟨#[]⟩, false, rfl, ?_⟩, HBr.out⟩
        unfold DifQ
        rw [HHD.out]
        exact ⟨rfl, rfl⟩
end Go.Proofs.YtbhccdedcoajmaaGreatDoor
namespace Go.Proofs.YtbhccdedcoajmaaGreatDoor
open Go.RowKit

set_option maxRecDepth 10000 in
set_option maxHeartbeats 2000000 in
theorem kept_any (v u : Value) (fs : List (ByteArray × ByteArray)) (w : World) (hl : fs.length ≤ 70000) (hz : ∀ p ∈ fs, p.1.size ≤ 70000 ∧ p.2.size ≤ 70000) (hK : Kf w v fs) (hF : Fl w u fs) :
    Calls Tryz.prog 24 #[v, u] w fun e w' => e = .returned (.bool true) ∧ Below w.heap.size w w' := by
  obtain ⟨va, cap, rfl, hcap, hcell⟩ := hK
  obtain ⟨vb, cap2, rfl, hcap2, hcell2⟩ := hF
  have HC : Hid (∀ k, k < fs.length → ∃ (g g2 b : Nat) (a dt : ByteArray), va = some ⟨g, 0, none⟩ ∧ vb = some ⟨g2, 0, none⟩ ∧ g < w.heap.size ∧ g2 < w.heap.size ∧ w.cell? ⟨g, k * 2, none⟩ = some (.string a) ∧ w.cell? ⟨g, k * 2 + 1, none⟩ = some (.slice (some ⟨b, 0, none⟩) dt.size (dt.size + 2)) ∧ w.cell? ⟨g2, k * 2, none⟩ = some (.string a) ∧ w.cell? ⟨g2, k * 2 + 1, none⟩ = some (.string dt) ∧ dt.size ≤ 70000 ∧ b < w.heap.size ∧ w.heap[b]? = some (roomyObj dt)) := by
    intro k hk
    obtain ⟨g, b, e, hg, c0, c1, hb, hh⟩ := hcell k hk
    obtain ⟨g2, e2, hg2, c2, c3⟩ := hcell2 k hk
    exact ⟨g, g2, b, _, _, e, e2, hg, hg2, c0, c1, c2, c3, (hz _ (List.getElem_mem hk)).2, hb, hh⟩
  clear hcell hcell2 hz
  generalize fs.length = n at *
  go_enter Tryz.func24, Tryz.ntmps24
  go_wp2_with fail
  go_loopw [5] (fun i wr => ∃ k : Nat, k ≤ n ∧ i = .int .i64 k ∧ Hid (Below w.heap.size w wr)) (fun i _ => n - (intOf i).toNat)
  case atStart => exact ⟨0, Nat.zero_le _, rfl, Below.refl _ _⟩
  case round =>
    obtain ⟨k, hk, rfl, HBr⟩ := hrel
    by_cases hlt : k < n
    · obtain ⟨g, g2, b, a, dt, rfl, rfl, hg, hg2, c0, c1, c2, c3, hdt, hb, hh⟩ := HC.out k hlt
      have d0 := (HBr.out.cell (p := ⟨g, k * 2, none⟩) hg).trans c0
      have d1 := (HBr.out.cell (p := ⟨g, k * 2 + 1, none⟩) hg).trans c1
      have d2 := (HBr.out.cell (p := ⟨g2, k * 2, none⟩) hg2).trans c2
      have d3 := (HBr.out.cell (p := ⟨g2, k * 2 + 1, none⟩) hg2).trans c3
      have HS : Hid (∀ q, Calls Tryz.prog 29 #[.slice (some ⟨b, 0, none⟩) dt.size (dt.size + 2), .string dt] (wr.drewN q) fun e w' => e = .returned (.bool true) ∧ w' = wr.drewN q) := fun q => still_any dt hdt b (wr.drewN q) ((HBr.out.block b hb).trans hh)
      have hne : (a.toList != a.toList) = false := by simp
      have heq : (a.toList == a.toList) = true := by simp
      clear c0 c1 c2 c3 hh
      go_wp2_with fail
      go_quiet ((go_at_call 29; refine Calls.quiet_of_same (HS.out _)))
      go_wp2_with fail
      go_quiet (fail)
      go_wp2_with fail
      go_roundw
      case rel => exact ⟨k + 1, by omega, by go_num, below_drewN HBr.out _⟩
      case measure => simp [intOf]; omega
    · go_wp2_with fail
      go_ret
      exact ⟨rfl, HBr.out⟩
end Go.Proofs.YtbhccdedcoajmaaGreatDoor
namespace Go.Proofs.YtbhccdedcoajmaaGreatDoor
open Go.RowKit

set_option maxRecDepth 10000 in
set_option maxHeartbeats 6000000 in
theorem rtree_any (v : Value) (fs : List (ByteArray × ByteArray)) (w : World) (hl : fs.length ≤ 70000) (hsz : ∀ p ∈ fs, p.1.size ≤ 70000 ∧ p.2.size ≤ 70000) (hF : Fl w v fs) :
    Calls Tryz.prog 20 #[v] w fun e w' => ((e = .returned (.tuple #[.bool true, .string ⟨#[]⟩]) ∧ ∀ i, i < fs.length → OkAt fs i) ∨ ∃ i, ∃ hi : i < fs.length, (∀ j, j < i → OkAt fs j) ∧ ¬ OkAt fs i ∧ e = .returned (.tuple #[.bool false, .string fs[i].1])) ∧ Below w.heap.size w w' := by
  obtain ⟨va, cap, rfl, hcap, hcell⟩ := hF
  have HC : Hid (∀ k, k < fs.length → ∃ (g : Nat) (a p b : ByteArray), va = some ⟨g, 0, none⟩ ∧ g < w.heap.size ∧ w.cell? ⟨g, k * 2, none⟩ = some (.string a) ∧ w.cell? ⟨g, k * 2 + 1, none⟩ = some (.string b) ∧ (0 < k → w.cell? ⟨g, (k - 1) * 2, none⟩ = some (.string p)) ∧ a.size ≤ 70000 ∧ b.size ≤ 70000 ∧ (OkAt fs k ↔ nameB (nums a) = true ∧ (0 < k → ltL (nums p) (nums a) = true) ∧ b.size ≤ 300 ∧ k < 8) ∧
      (∀ e : Ending, e = .returned (.tuple #[.bool false, .string a]) → (∀ j, j < k → OkAt fs j) → ¬ OkAt fs k → ∃ i, ∃ hi : i < fs.length, (∀ j, j < i → OkAt fs j) ∧ ¬ OkAt fs i ∧ e = .returned (.tuple #[.bool false, .string fs[i].1]))) := by
    intro k hk
    obtain ⟨g, e, hg, c0, c1⟩ := hcell k hk
    have hz := hsz _ (List.getElem_mem hk)
    refine ⟨g, fs[k].1, (fs[k - 1]'(by omega)).1, fs[k].2, e, hg, c0, c1, fun h0 => ?_, hz.1, hz.2, ⟨fun ⟨_, h⟩ => h, fun h => ⟨hk, h⟩⟩, fun e he h1 h2 => ⟨k, hk, h1, h2, he⟩⟩
    obtain ⟨g', e', _, c0', _⟩ := hcell (k - 1) (by omega)
    rw [e] at e'
    obtain rfl : g = g' := by simpa using e'
    exact c0'
  clear hcell hsz
  go_enter Tryz.func20, Tryz.ntmps20
  go_wp2_with fail
  go_loopw [4] (fun i wr => ∃ k : Nat, k ≤ fs.length ∧ i = .int .i64 k ∧ Hid (∀ j, j < k → OkAt fs j) ∧ Hid (Below w.heap.size w wr)) (fun i _ => fs.length - (intOf i).toNat)
  case atStart => exact ⟨0, Nat.zero_le _, rfl, (fun j hj => by omega), Below.refl _ _⟩
  case round =>
    obtain ⟨k, hk, rfl, HA, HBr⟩ := hrel
    by_cases hlt : k < fs.length
    · obtain ⟨g, a, p, b, rfl, hg, c0, c1, cp, ha, hb, hok, hbad⟩ := HC.out k hlt
      have d0 := (HBr.out.cell (p := ⟨g, k * 2, none⟩) hg).trans c0
      have d1 := (HBr.out.cell (p := ⟨g, k * 2 + 1, none⟩) hg).trans c1
      have HDP : Hid (0 < k → wr.cell? ⟨g, (k - 1) * 2, none⟩ = some (.string p)) := fun h => (HBr.out.cell (p := ⟨g, (k - 1) * 2, none⟩) hg).trans (cp h)
      have HOK := hide hok
      have HBAD := hide hbad
      have hgt := text_gtr a p
      have HGT := hide hgt
      have HNEXT : Hid (OkAt fs k → ∀ j, j < k + 1 → OkAt fs j) := by
        intro h j hj
        rcases Nat.lt_or_ge j k with h' | h'
        · exact HA.out j h'
        · obtain rfl : j = k := by omega
          exact h
      clear c0 c1 cp hok hbad hgt
      go_wp2_with fail
      refine (named_any a ha wr).mono ?_
      rintro e w1 ⟨rfl, hw1⟩
      obtain rfl := hw1.symm
      cases hnb : nameB (nums a) with
      | false =>
        have HNB := hide hnb
        clear hnb
        go_wp2_with fail
        go_quiet (fail)
        go_wp2_with fail
        go_quiet (fail)
        go_wp2_with fail
        go_ret2
        exact ⟨.inr (HBAD.out _ rfl HA.out (fun h => by obtain ⟨h1, h2, h3, h4⟩ := HOK.out.1 h; rw [HNB.out] at h1; cases h1)), below_drewN (below_drewN HBr.out _) _⟩
      | true =>
        have HNB := hide hnb
        clear hnb
        by_cases hs : b.size ≤ 300
        · have hs1 : decide ((300 : Int) < (b.size : Int)) = false := decide_eq_false (by omega)
          by_cases hk0 : 0 < k
          · have dp := HDP.out hk0
            have hk1 : IntKind.i64.wrap ((k : Int) - 1) = ((k - 1 : Nat) : Int) := by rw [IntKind.wrap_i64] <;> omega
            have hk2 : (0 : Int) < (k : Int) := by omega
            have hk5 : decide ((0 : Int) < (k : Int)) = true := decide_eq_true hk2
            have hkl : k - 1 < fs.length := by omega
            cases hx : Op.bytesLess a.toList p.toList with
            | true =>
              have HX : Hid (ltL (nums p) (nums a) = false) := by rw [← HGT.out, hx]; rfl
              go_wp2_with fail
              go_quiet (fail)
              go_wp2_with fail
              go_quiet (fail)
              go_wp2_with fail
              go_ret2
              exact ⟨.inr (HBAD.out _ rfl HA.out (fun h => by obtain ⟨h1, h2, h3, h4⟩ := HOK.out.1 h; have := h2 hk0; rw [HX.out] at this; cases this)), below_drewN (below_drewN HBr.out _) _⟩
            | false =>
              cases hy : a.toList == p.toList with
              | true =>
                have HX : Hid (ltL (nums p) (nums a) = false) := by rw [← HGT.out, hx, hy]; rfl
                go_wp2_with fail
                go_quiet (fail)
                go_wp2_with fail
                go_quiet (fail)
                go_wp2_with fail
                go_ret2
                exact ⟨.inr (HBAD.out _ rfl HA.out (fun h => by obtain ⟨h1, h2, h3, h4⟩ := HOK.out.1 h; have := h2 hk0; rw [HX.out] at this; cases this)), below_drewN (below_drewN HBr.out _) _⟩
              | false =>
                have HX : Hid (ltL (nums p) (nums a) = true) := by rw [← HGT.out, hx, hy]; rfl
                by_cases h8 : k < 8
                · have h81 : decide ((8 : Int) ≤ (k : Int)) = false := decide_eq_false (by omega)
                  have h82 : (k : Int) < 8 := by omega
                  go_wp2_with fail
                  go_quiet (fail)
                  go_wp2_with fail
                  go_roundw
                  case rel => exact ⟨k + 1, by omega, by go_num, HNEXT.out (HOK.out.2 ⟨HNB.out, fun _ => HX.out, hs, h8⟩), below_drewN HBr.out _⟩
                  case measure => simp [intOf]; omega
                · have h81 : decide ((8 : Int) ≤ (k : Int)) = true := decide_eq_true (by omega)
                  have h82 : 8 ≤ (k : Int) := by omega
                  go_wp2_with fail
                  go_quiet (fail)
                  go_wp2_with fail
                  go_quiet (fail)
                  go_wp2_with fail
                  go_ret2
                  exact ⟨.inr (HBAD.out _ rfl HA.out (fun h => by obtain ⟨h1, h2, h3, h4⟩ := HOK.out.1 h; omega)), below_drewN (below_drewN HBr.out _) _⟩
          · obtain rfl : k = 0 := by omega
            rw [Nat.zero_mul] at d0
            rw [Nat.zero_mul, Nat.zero_add] at d1
            clear hk0
            go_wp2_with fail
            go_quiet (fail)
            go_wp2_with fail
            go_roundw
            case rel => exact ⟨0 + 1, by omega, by go_num, HNEXT.out (HOK.out.2 ⟨HNB.out, fun h => absurd h (Nat.lt_irrefl 0), hs, by omega⟩), below_drewN HBr.out _⟩
            case measure => simp [intOf]; omega
        · have hs1 : decide ((300 : Int) < (b.size : Int)) = true := decide_eq_true (by omega)
          by_cases hk0 : 0 < k
          · have dp := HDP.out hk0
            have hk1 : IntKind.i64.wrap ((k : Int) - 1) = ((k - 1 : Nat) : Int) := by rw [IntKind.wrap_i64] <;> omega
            have hk2 : (0 : Int) < (k : Int) := by omega
            have hk5 : decide ((0 : Int) < (k : Int)) = true := decide_eq_true hk2
            have hkl : k - 1 < fs.length := by omega
            cases hx : Op.bytesLess a.toList p.toList with
            | true =>
              have HX : Hid (ltL (nums p) (nums a) = false) := by rw [← HGT.out, hx]; rfl
              go_wp2_with fail
              go_quiet (fail)
              go_wp2_with fail
              go_quiet (fail)
              go_wp2_with fail
              go_ret2
              exact ⟨.inr (HBAD.out _ rfl HA.out (fun h => by obtain ⟨h1, h2, h3, h4⟩ := HOK.out.1 h; have := h2 hk0; rw [HX.out] at this; cases this)), below_drewN (below_drewN HBr.out _) _⟩
            | false =>
              cases hy : a.toList == p.toList with
              | true =>
                have HX : Hid (ltL (nums p) (nums a) = false) := by rw [← HGT.out, hx, hy]; rfl
                go_wp2_with fail
                go_quiet (fail)
                go_wp2_with fail
                go_quiet (fail)
                go_wp2_with fail
                go_ret2
                exact ⟨.inr (HBAD.out _ rfl HA.out (fun h => by obtain ⟨h1, h2, h3, h4⟩ := HOK.out.1 h; have := h2 hk0; rw [HX.out] at this; cases this)), below_drewN (below_drewN HBr.out _) _⟩
              | false =>
                have HX : Hid (ltL (nums p) (nums a) = true) := by rw [← HGT.out, hx, hy]; rfl
                go_wp2_with fail
                go_quiet (fail)
                go_wp2_with fail
                go_quiet (fail)
                go_wp2_with fail
                go_ret2
                exact ⟨.inr (HBAD.out _ rfl HA.out (fun h => by obtain ⟨h1, h2, h3, h4⟩ := HOK.out.1 h; omega)), below_drewN (below_drewN HBr.out _) _⟩
          · obtain rfl : k = 0 := by omega
            rw [Nat.zero_mul] at d0
            rw [Nat.zero_mul, Nat.zero_add] at d1
            clear hk0
            go_wp2_with fail
            go_quiet (fail)
            go_wp2_with fail
            go_quiet (fail)
            go_wp2_with fail
            go_ret2
            exact ⟨.inr (HBAD.out _ rfl HA.out (fun h => by obtain ⟨h1, h2, h3, h4⟩ := HOK.out.1 h; omega)), below_drewN (below_drewN HBr.out _) _⟩
    · have hkn : k = fs.length := by omega
      go_wp2_with fail
      go_ret2
      exact ⟨.inl ⟨rfl, fun i hi => HA.out i (by omega)⟩, HBr.out⟩
end Go.Proofs.YtbhccdedcoajmaaGreatDoor
