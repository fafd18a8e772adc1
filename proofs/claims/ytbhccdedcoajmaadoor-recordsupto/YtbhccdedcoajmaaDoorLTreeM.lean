import Derived.Test.YtbhccdedcoajmaaDoorTreeL
import Derived.Deep.RegionHeldLaw
import Derived.Deep.AppendLies
import Derived.Test.YtbhccdedcoajmaaDoorRoomy
import Derived.Test.YtbhccdedcoajmaaDoorChunks
import Derived.Deep.RegionHeld3
import Derived.Deep.QuietTactic
import Derived.BigQuiet
namespace Go.Proofs.YtbhccdedcoajmaaDoor
open Go.RowKit

theorem grown_drew2 {w w' : World} {r : Option Nat} (h : w.grownBy w' r) : w.grownBy w'.drew r := ⟨h.os, h.tape, h.output, h.size, h.block⟩
/-- a list of texts in memory, to be read -/
def Sl (w : World) (v : Value) (ss : List ByteArray) : Prop :=
  ∃ va cap, v = .slice va ss.length cap ∧ ss.length ≤ cap ∧ ∀ i (hi : i < ss.length), ∃ g o, va = some ⟨g, o, none⟩ ∧ g < w.heap.size ∧ w.cell? ⟨g, o + i, none⟩ = some (.string ss[i])
theorem Sl.below {w w' : World} {v : Value} {ss : List ByteArray} (h : Sl w v ss) (hb : Below w.heap.size w w') : Sl w' v ss := by
  obtain ⟨va, cap, h1, h2, h3⟩ := h
  refine ⟨va, cap, h1, h2, fun i hi => ?_⟩
  obtain ⟨g, o, e, hg, c0⟩ := h3 i hi
  exact ⟨g, o, e, Nat.lt_of_lt_of_le hg hb.size, (hb.cell (p := ⟨g, _, none⟩) hg).trans c0⟩

def flCells (fs : List (ByteArray × ByteArray)) : List Value := fs.flatMap fun p => [.string p.1, .string p.2]
theorem flCells_snoc (fs : List (ByteArray × ByteArray)) (p : ByteArray × ByteArray) : flCells (fs ++ [p]) = flCells fs ++ [.string p.1, .string p.2] := by simp [flCells]
theorem flCells_at : ∀ (fs : List (ByteArray × ByteArray)) (i : Nat) (hi : i < fs.length), (flCells fs)[i * 2]? = some (.string fs[i].1) ∧ (flCells fs)[i * 2 + 1]? = some (.string fs[i].2)
  | p :: fs, 0, _ => by simp [flCells]
  | p :: fs, i + 1, h => by
    have := flCells_at fs i (by simpa using h)
    have e : flCells (p :: fs) = .string p.1 :: .string p.2 :: flCells fs := by simp [flCells]
    rw [e, show (i + 1) * 2 = i * 2 + 1 + 1 by omega]
    simpa using this
theorem Fl_of_row {w : World} {base : Nat} {v : Value} {fs : List (ByteArray × ByteArray)} (h : w.ownsRow base 90 2 v fs.length (flCells fs)) : Fl w v fs := by
  rcases h.2 with ⟨hv, h0⟩ | ⟨g, cap, cur, hv, _, hg, h1, _⟩
  · exact ⟨none, 0, by rw [hv, h0], by omega, fun i hi => by omega⟩
  · have hlt : g < w.heap.size := (Array.getElem?_eq_some_iff.1 hg).1
    refine ⟨some ⟨g, 0, none⟩, cap, hv, h1, fun i hi => ⟨g, rfl, hlt, ?_, ?_⟩⟩
    · have := h.cells (g := g) (by rw [hv]; rfl) (i * 2) _ (flCells_at fs i hi).1
      rw [add_at] at this; exact this
    · have := h.cells (g := g) (by rw [hv]; rfl) (i * 2 + 1) _ (flCells_at fs i hi).2
      rw [add_at] at this; exact this

theorem Tryd.info90 : (Tryd.prog.info? 90).map (fun i => (i.zero, i.size, i.bytes)) = some (some (.agg #[.string ⟨#[]⟩, .string ⟨#[]⟩]), 2, 32) := by kernel_rfl

set_option maxRecDepth 10000 in
set_option maxHeartbeats 2000000 in
theorem ltree_any (vn vd : Value) (ns ds : List ByteArray) (w : World) (hN : Sl w vn ns) (hD : Sl w vd ds) (hl : ns.length ≤ 1048576) (_hl2 : ds.length ≤ 1048576) :
    Calls Tryd.prog 26 #[vn, vd] w fun e w' => ∃ v, e = .returned v ∧ w'.ownsRow w.heap.size 90 2 v (ns.zip ds).length (flCells (ns.zip ds)) ∧ Below w.heap.size w w' := by
  obtain ⟨i0, hi, z0, z1, z2⟩ := info_parts Tryd.info90
  obtain ⟨va, cap, rfl, hcap, hca⟩ := hN
  obtain ⟨vb, capb, rfl, hcapb, hcb⟩ := hD
  obtain ⟨fs, hfs⟩ : ∃ fs, fs = ns.zip ds := ⟨_, rfl⟩
  have hmin : fs.length = min ns.length ds.length := by rw [hfs, List.length_zip]
  have HAT : Hid (∀ k, k < ns.length → k < ds.length → ∃ (g o g2 o2 : Nat) (a b : ByteArray), va = some ⟨g, o, none⟩ ∧ g < w.heap.size ∧ w.cell? ⟨g, o + k, none⟩ = some (.string a) ∧ vb = some ⟨g2, o2, none⟩ ∧ g2 < w.heap.size ∧ w.cell? ⟨g2, o2 + k, none⟩ = some (.string b) ∧ flCells (fs.take (k + 1)) = flCells (fs.take k) ++ [.string a, .string b]) := by
    intro k h1 h2
    obtain ⟨g, o, e, hg, c⟩ := hca k h1
    obtain ⟨g2, o2, e2, hg2, c2⟩ := hcb k h2
    refine ⟨g, o, g2, o2, _, _, e, hg, c, e2, hg2, c2, ?_⟩
    have hk : k < fs.length := by omega
    rw [List.take_succ_eq_append_getElem hk, flCells_snoc]
    simp [hfs]
  rw [← hfs]
  have HFS := hide hfs
  clear hca hcb hfs
  have HFN : Hid (fs.length = min ns.length ds.length) := hmin
  clear hmin
  generalize ns.length = n at *
  generalize ds.length = m at *
  go_enter Tryd.func26, Tryd.ntmps26
  go_wp2_with fail
  go_loopw [5, 6] (fun v5 v6 wr => ∃ k : Nat, k ≤ n ∧ k ≤ m ∧ v6 = .int .i64 k ∧ Hid (wr.ownsRow w.heap.size 90 2 v5 k (flCells (fs.take k))) ∧ Hid (Below w.heap.size w wr)) (fun _ v6 _ => n - (intOf v6).toNat)
  case atStart => exact ⟨0, Nat.zero_le _, Nat.zero_le _, rfl, World.ownsRow_nil _ _ _ _, Below.refl _ _⟩
  case round =>
    obtain ⟨k, hk, hkm, rfl, HOr, HBr⟩ := hrel
    by_cases h1 : k < n
    · by_cases h2 : k < m
      · obtain ⟨g, o, g2, o2, a, b, rfl, hg, c0, rfl, hg2, c1, hst⟩ := HAT.out k h1 h2
        have d0 := (HBr.out.cell (p := ⟨g, o + k, none⟩) hg).trans c0
        have d1 := (HBr.out.cell (p := ⟨g2, o2 + k, none⟩) hg2).trans c1
        have HST := hide hst
        have HOA : Hid (∀ ob, (wr.alloc ob).drew.ownsRow w.heap.size 90 2 u5 k (flCells (fs.take k))) := fun ob => (HOr.out.alloc ob).drew
        clear c0 c1 hst
        go_wp2_with fail
        go_region_held_law (fun w' => w'.cell? ⟨g, o + k, none⟩ = some (.string a) ∧ w'.cell? ⟨g2, o2 + k, none⟩ = some (.string b))
          (first | exact ⟨d0, d1⟩ | exact ⟨by go_keep, by go_keep⟩ | (refine ⟨(hgrow.cell_far ⟨g, o + k, none⟩ (by have := HBr.out.size; simp; omega) (fun e => by have := (HOr.out.lt _ e.symm).1; simp at this; omega)).trans (by go_keep), (hgrow.cell_far ⟨g2, o2 + k, none⟩ (by have := HBr.out.size; simp; omega) (fun e => by have := (HOr.out.lt _ e.symm).1; simp at this; omega)).trans (by go_keep)⟩))
          ((refine step_append_lies _ (by rfl) _ _ _ (by rfl) w.heap.size 90 i0 _ 2 32 Tryd.underlying57 hi z0 z1 z2 rfl (by omega) u5 k (flCells (fs.take k)) (by rfl) (HOA.out _) ⟨wr.heap.size, 0, none⟩ 1 1 [.string a, .string b] (by rfl) (by rfl) (World.news_of_block (cs := #[.string a, .string b]) (t := 90) (fr := (0, 0)) (heap_alloc_new wr _)) (by simp [Value.oneCell']) (by omega) (by unfold maxLen; omega) (by omega) (by have := HBr.out.size; simp; omega) (wr.heap.size + 1) (by simp) ?_; intro g3 c3 w3 hown3 hgrow hat hlt3))
        have HGW : Hid (wr.grownBy w3 u5.ownBlock) := (grown_drew2 (World.grownBy_alloc wr _ _)).trans hgrow
        have HB3 : Hid (Below w.heap.size w w3) := HBr.out.grown HGW.out HBr.out.size (fun j hj => (HOr.out.lt j hj).1)
        have HO3 : Hid (w3.ownsRow w.heap.size 90 2 (.slice (some ⟨g3, 0, none⟩) (k + 1) c3) (k + 1) (flCells (fs.take (k + 1)))) := by rw [HST.out]; exact hown3
        clear hown3 hgrow hat hlt3
        go_wp2_with fail
        go_roundw
        case rel => exact ⟨k + 1, by omega, by omega, by go_num, HO3.out, HB3.out⟩
        case measure => simp [intOf]; omega
      · go_wp2_with fail
        go_ret
        refine ⟨_, rfl, ?_, HBr.out⟩
        have hfl : fs.length = k := by have := HFN.out; omega
        have := HOr.out
        rw [List.take_of_length_le (by omega), ← hfl] at this
        exact this
    · go_wp2_with fail
      go_ret
      refine ⟨_, rfl, ?_, HBr.out⟩
      have hfl : fs.length = k := by have := HFN.out; omega
      have := HOr.out
      rw [List.take_of_length_le (by omega), ← hfl] at this
      exact this

/-- how many bytes there are, as far as mirrorlaw.size looks -/
def bulkOf (fs : List (ByteArray × ByteArray)) : Nat := fs.length + (fs.map fun p => p.1.size + p.2.size).sum
theorem bulk_mem : ∀ {fs : List (ByteArray × ByteArray)} {p : ByteArray × ByteArray}, p ∈ fs → p.1.size + p.2.size ≤ (fs.map fun p => p.1.size + p.2.size).sum
  | q :: fs, p, h => by
    rw [List.map_cons, List.sum_cons]
    rcases List.mem_cons.1 h with rfl | h
    · omega
    · have := bulk_mem h; omega
theorem sum_take_le (l : List Nat) (k : Nat) : (l.take k).sum ≤ l.sum := by
  have h : (l.take k).sum + (l.drop k).sum = l.sum := by rw [← List.sum_append, List.take_append_drop]
  omega
theorem sum_take_succ (l : List Nat) (k : Nat) (h : k < l.length) : (l.take (k + 1)).sum = (l.take k).sum + l[k] := by
  rw [List.take_succ_eq_append_getElem h, List.sum_append]; simp

set_option maxRecDepth 10000 in
set_option maxHeartbeats 2000000 in
theorem lsize_any (v : Value) (fs : List (ByteArray × ByteArray)) (w : World) (hl : fs.length ≤ 1048576) (hz : ∀ p ∈ fs, p.1.size ≤ 140737488355328 ∧ p.2.size ≤ 140737488355328) (hF : Fl w v fs) :
    Calls Tryd.prog 27 #[v] w fun e w' => ∃ n : Nat, e = .returned (.int .i64 n) ∧ (n ≤ 65536 → bulkOf fs ≤ 65536) ∧ Below w.heap.size w w' := by
  obtain ⟨va, cap, rfl, hcap, hcell⟩ := hF
  obtain ⟨tot, htot⟩ : ∃ tot : Nat → Nat, tot = fun k => fs.length + ((fs.map fun p => p.1.size + p.2.size).take k).sum := ⟨_, rfl⟩
  have HT0 : Hid (tot 0 = fs.length) := by show _ = _; rw [htot]; simp
  have HTN : Hid (tot fs.length = bulkOf fs) := by show _ = _; rw [htot]; simp [bulkOf, List.take_of_length_le]
  have HC : Hid (∀ k, k < fs.length → ∃ (g : Nat) (a b : ByteArray), va = some ⟨g, 0, none⟩ ∧ g < w.heap.size ∧ w.cell? ⟨g, k * 2, none⟩ = some (.string a) ∧ w.cell? ⟨g, k * 2 + 1, none⟩ = some (.string b) ∧ a.size ≤ 140737488355328 ∧ b.size ≤ 140737488355328 ∧ tot (k + 1) = tot k + a.size + b.size) := by
    intro k hk
    obtain ⟨g, e, hg, c0, c1⟩ := hcell k hk
    have h2 := hz _ (List.getElem_mem hk)
    refine ⟨g, _, _, e, hg, c0, c1, h2.1, h2.2, ?_⟩
    rw [htot]
    simp only []
    rw [sum_take_succ _ k (by simpa using hk)]
    simp; omega
  clear hcell hz
  generalize hN : fs.length = n at *
  clear hN
  clear htot
  go_enter Tryd.func27, Tryd.ntmps27
  go_wp2_with fail
  go_loopw [3, 4] (fun v3 v4 wr => ∃ (k x : Nat), k ≤ n ∧ v4 = .int .i64 k ∧ v3 = .int .i64 x ∧ x ≤ 1000000000000000 ∧ Hid (tot k = x) ∧ Hid (Below w.heap.size w wr)) (fun _ v4 _ => n - (intOf v4).toNat)
  case atStart => exact ⟨0, n, Nat.zero_le _, rfl, rfl, by omega, HT0.out, Below.refl _ _⟩
  case round =>
    obtain ⟨k, x, hk, rfl, rfl, hx, HX, HBr⟩ := hrel
    by_cases hlt : k < n
    · by_cases hx2 : x ≤ 65536
      · have hx3 : (x : Int) ≤ 65536 := by omega
        obtain ⟨g, a, b, rfl, hg, c0, c1, ha, hb, hst⟩ := HC.out k hlt
        have d0 := (HBr.out.cell (p := ⟨g, k * 2, none⟩) hg).trans c0
        have d1 := (HBr.out.cell (p := ⟨g, k * 2 + 1, none⟩) hg).trans c1
        have HST := hide hst
        have w1 : IntKind.i64.wrap ((x : Int) + (a.size : Int)) = (x : Int) + (a.size : Int) := by rw [IntKind.wrap_i64] <;> omega
        have w2 : IntKind.i64.wrap ((x : Int) + (a.size : Int) + (b.size : Int)) = ((x + a.size + b.size : Nat) : Int) := by rw [IntKind.wrap_i64] <;> omega
        clear c0 c1 hst
        go_wp2_with fail
        go_quiet (fail)
        go_wp2_with fail
        go_roundw
        case rel => exact ⟨k + 1, x + a.size + b.size, by omega, by go_num, by go_num, by omega, by show _ = _; rw [HST.out, HX.out], below_drewN HBr.out _⟩
        case measure => simp [intOf]; omega
      · have hx3 : (65536 : Int) < (x : Int) := by omega
        go_wp2_with fail
        go_ret
        exact ⟨x, rfl, fun h => absurd h hx2, HBr.out⟩
    · have hkn : k = n := by omega
      subst hkn
      go_wp2_with fail
      go_ret
      exact ⟨x, rfl, fun h => by rw [← HTN.out, HX.out]; exact h, HBr.out⟩
end Go.Proofs.YtbhccdedcoajmaaDoor
namespace Go.Proofs.YtbhccdedcoajmaaDoor
open Go.RowKit

/-- the block of a file's bytes, with the two of spare room behind -/
def roomyObj (s : ByteArray) : Obj := .cells (u8s (nums s) ++ [Value.int .u8 77, Value.int .u8 88]).toArray 5 (0, 0)
/-- a list of files that the law hands in -/
def Kf (w : World) (v : Value) (fs : List (ByteArray × ByteArray)) : Prop :=
  ∃ va cap, v = .slice va fs.length cap ∧ fs.length ≤ cap ∧ ∀ i (hi : i < fs.length), ∃ g b, va = some ⟨g, 0, none⟩ ∧ g < w.heap.size ∧ w.cell? ⟨g, i * 2, none⟩ = some (.string fs[i].1) ∧ w.cell? ⟨g, i * 2 + 1, none⟩ = some (.slice (some ⟨b, 0, none⟩) fs[i].2.size (fs[i].2.size + 2)) ∧
    b < w.heap.size ∧ w.heap[b]? = some (roomyObj fs[i].2)
theorem Kf.below {w w' : World} {v : Value} {fs : List (ByteArray × ByteArray)} (h : Kf w v fs) (hb : Below w.heap.size w w') : Kf w' v fs := by
  obtain ⟨va, cap, h1, h2, h3⟩ := h
  refine ⟨va, cap, h1, h2, fun i hi => ?_⟩
  obtain ⟨g, b, e, hg, c0, c1, hb1, hc⟩ := h3 i hi
  exact ⟨g, b, e, Nat.lt_of_lt_of_le hg hb.size, (hb.cell (p := ⟨g, _, none⟩) hg).trans c0, (hb.cell (p := ⟨g, _, none⟩) hg).trans c1, Nat.lt_of_lt_of_le hb1 hb.size, (hb.block b hb1).trans hc⟩
theorem Kf.af {w : World} {v : Value} {fs : List (ByteArray × ByteArray)} (h : Kf w v fs) : Af w v fs := by
  obtain ⟨va, cap, h1, h2, h3⟩ := h
  refine ⟨va, cap, h1, h2, fun i hi => ?_⟩
  obtain ⟨g, b, e, hg, c0, c1, hb1, hc⟩ := h3 i hi
  exact ⟨g, b, _, e, hg, c0, c1, hb1, by omega, row_cells hc⟩

def kfCells (ps : List ((ByteArray × ByteArray) × Nat)) : List Value := ps.flatMap fun p => [.string p.1.1, .slice (some ⟨p.2, 0, none⟩) p.1.2.size (p.1.2.size + 2)]
theorem kfCells_snoc (ps : List ((ByteArray × ByteArray) × Nat)) (p : (ByteArray × ByteArray) × Nat) : kfCells (ps ++ [p]) = kfCells ps ++ [.string p.1.1, .slice (some ⟨p.2, 0, none⟩) p.1.2.size (p.1.2.size + 2)] := by simp [kfCells]
theorem kfCells_at : ∀ (ps : List ((ByteArray × ByteArray) × Nat)) (i : Nat) (hi : i < ps.length), (kfCells ps)[i * 2]? = some (.string ps[i].1.1) ∧ (kfCells ps)[i * 2 + 1]? = some (.slice (some ⟨ps[i].2, 0, none⟩) ps[i].1.2.size (ps[i].1.2.size + 2))
  | p :: ps, 0, _ => by simp [kfCells]
  | p :: ps, i + 1, h => by
    have := kfCells_at ps i (by simpa using h)
    have e : kfCells (p :: ps) = .string p.1.1 :: .slice (some ⟨p.2, 0, none⟩) p.1.2.size (p.1.2.size + 2) :: kfCells ps := by simp [kfCells]
    rw [e, show (i + 1) * 2 = i * 2 + 1 + 1 by omega]
    simpa using this
theorem Kf_of_row {w : World} {base : Nat} {v : Value} {ps : List ((ByteArray × ByteArray) × Nat)} (h : w.ownsRow base 117 2 v ps.length (kfCells ps)) (hd : ∀ p ∈ ps, p.2 < w.heap.size ∧ w.heap[p.2]? = some (roomyObj p.1.2)) : Kf w v (ps.map Prod.fst) := by
  rcases h.2 with ⟨hv, h0⟩ | ⟨g, cap, cur, hv, _, hg, h1, _⟩
  · exact ⟨none, 0, by rw [hv, List.length_map, h0], by rw [List.length_map]; omega, fun i hi => by rw [List.length_map] at hi; omega⟩
  · have hlt : g < w.heap.size := (Array.getElem?_eq_some_iff.1 hg).1
    refine ⟨some ⟨g, 0, none⟩, cap, by rw [List.length_map]; exact hv, by rw [List.length_map]; exact h1, fun i hi => ?_⟩
    rw [List.length_map] at hi
    rw [List.getElem_map]
    refine ⟨g, ps[i].2, rfl, hlt, ?_, ?_, (hd _ (List.getElem_mem hi)).1, (hd _ (List.getElem_mem hi)).2⟩
    · have := h.cells (g := g) (by rw [hv]; rfl) (i * 2) _ (kfCells_at ps i hi).1
      rw [add_at] at this; exact this
    · have := h.cells (g := g) (by rw [hv]; rfl) (i * 2 + 1) _ (kfCells_at ps i hi).2
      rw [add_at] at this; exact this

theorem Tryd.info117 : (Tryd.prog.info? 117).map (fun i => (i.zero, i.size, i.bytes)) = some (some (.agg #[.string ⟨#[]⟩, .slice none 0 0]), 2, 40) := by kernel_rfl

set_option maxRecDepth 10000 in
set_option maxHeartbeats 2000000 in
theorem lfiles_any (v : Value) (fs : List (ByteArray × ByteArray)) (w : World) (hl : fs.length ≤ 70000) (hz : ∀ p ∈ fs, p.1.size ≤ 70000 ∧ p.2.size ≤ 70000) (hF : Fl w v fs) :
    Calls Tryd.prog 39 #[v] w fun e w' => ∃ u, e = .returned u ∧ Kf w' u fs ∧ Below w.heap.size w w' := by
  obtain ⟨i0, hi, z0, z1, z2⟩ := info_parts Tryd.info117
  obtain ⟨va, cap, rfl, hcap, hcell⟩ := hF
  have HC : Hid (∀ k, k < fs.length → ∃ (g : Nat) (a b : ByteArray), va = some ⟨g, 0, none⟩ ∧ g < w.heap.size ∧ w.cell? ⟨g, k * 2, none⟩ = some (.string a) ∧ w.cell? ⟨g, k * 2 + 1, none⟩ = some (.string b) ∧ b.size ≤ 70000 ∧ fs.take (k + 1) = fs.take k ++ [(a, b)]) := by
    intro k hk
    obtain ⟨g, e, hg, c0, c1⟩ := hcell k hk
    exact ⟨g, _, _, e, hg, c0, c1, (hz _ (List.getElem_mem hk)).2, List.take_succ_eq_append_getElem hk⟩
  clear hcell hz
  have HTK : Hid (fs.take fs.length = fs) := List.take_of_length_le (Nat.le_refl _)
  generalize hN : fs.length = n at *
  clear hN
  go_enter Tryd.func39, Tryd.ntmps39
  go_wp2_with fail
  go_loopw [3, 4] (fun v3 v4 wr => ∃ (k : Nat) (ps : List ((ByteArray × ByteArray) × Nat)), k ≤ n ∧ v4 = .int .i64 k ∧ Hid (ps.length = k ∧ ps.map Prod.fst = fs.take k) ∧ Hid (wr.ownsRow w.heap.size 117 2 v3 k (kfCells ps)) ∧ Hid (∀ p ∈ ps, p.2 < wr.heap.size ∧ v3.ownBlock ≠ some p.2 ∧ wr.heap[p.2]? = some (roomyObj p.1.2)) ∧ Hid (Below w.heap.size w wr)) (fun _ v4 _ => n - (intOf v4).toNat)
  case atStart => exact ⟨0, [], Nat.zero_le _, rfl, ⟨rfl, by simp⟩, World.ownsRow_nil _ _ _ _, (fun p hp => by simp at hp), Below.refl _ _⟩
  case round =>
    obtain ⟨k, ps, hk, rfl, HPS, HOr, HDr, HBr⟩ := hrel
    by_cases hlt : k < n
    · obtain ⟨g, a, b, rfl, hg, c0, c1, hb, hst⟩ := HC.out k hlt
      have d0 := (HBr.out.cell (p := ⟨g, k * 2, none⟩) hg).trans c0
      have d1 := (HBr.out.cell (p := ⟨g, k * 2 + 1, none⟩) hg).trans c1
      have HST := hide hst
      have HRO : Hid (Calls Tryd.prog 11 #[.string b] wr.drew fun e w' => e = .returned (.slice (some ⟨wr.heap.size, 0, none⟩) b.size (b.size + 2)) ∧ w'.heap[wr.heap.size]? = some (roomyObj b) ∧ Below wr.heap.size wr w') := by
        refine (roomy_any b hb wr.drew).mono ?_
        rintro e w' ⟨rfl, h1, h2⟩
        exact ⟨rfl, h1, ((Below.refl wr.heap.size wr).drew).trans h2⟩
      have hgr : g < wr.heap.size := Nat.lt_of_lt_of_le hg HBr.out.size
      have hbs : w.heap.size ≤ wr.heap.size := HBr.out.size
      clear c0 c1 hst
      go_wp2_with fail
      go_region_held_law (fun w' => w'.cell? ⟨g, k * 2, none⟩ = some (.string a) ∧ w'.cell? ⟨g, k * 2 + 1, none⟩ = some (.string b))
        (first | exact ⟨d0, d1⟩ | exact ⟨e0, e1⟩ | exact ⟨by go_keep, by go_keep⟩ | (refine ⟨(hgrow.cell_far ⟨g, k * 2, none⟩ (by simp; omega) (fun e => by have := (HOr.out.lt _ e.symm).1; simp at this; omega)).trans (by go_keep), (hgrow.cell_far ⟨g, k * 2 + 1, none⟩ (by simp; omega) (fun e => by have := (HOr.out.lt _ e.symm).1; simp at this; omega)).trans (by go_keep)⟩))
        ((first | (go_at_call 11; refine HRO.out.mono ?_; rintro e w2 ⟨rfl, hnew, hb2⟩; have e0 := (hb2.cell (p := ⟨g, k * 2, none⟩) hgr).trans d0; have e1 := (hb2.cell (p := ⟨g, k * 2 + 1, none⟩) hgr).trans d1; have hs2 := hb2.size) | (refine step_append_lies _ (by rfl) _ _ _ (by rfl) w.heap.size 117 i0 _ 2 40 Tryd.underlying91 hi z0 z1 z2 rfl (by omega) u3 k (kfCells ps) (by rfl) ((ownsRow_below HOr.out hb2).alloc _) ⟨w2.heap.size, 0, none⟩ 1 1 [.string a, .slice (some ⟨wr.heap.size, 0, none⟩) b.size (b.size + 2)] (by rfl) (by rfl) (World.news_of_block (cs := #[.string a, .slice (some ⟨wr.heap.size, 0, none⟩) b.size (b.size + 2)]) (t := 117) (fr := (0, 0)) (heap_alloc_new w2 _)) (by simp [Value.oneCell']) (by omega) (by unfold maxLen; omega) (by omega) (by simp; omega) (w2.heap.size + 1) (by simp) ?_; intro g3 c3 w3 hown3 hgrow hat hlt3)))
      have HGW : Hid (wr.grownBy w3 u3.ownBlock) := ((grown_below hb2).trans (World.grownBy_alloc w2 _ _)).trans hgrow
      have HB3 : Hid (Below w.heap.size w w3) := HBr.out.grown HGW.out HBr.out.size (fun j hj => (HOr.out.lt j hj).1)
      have HO3 : Hid (w3.ownsRow w.heap.size 117 2 (.slice (some ⟨g3, 0, none⟩) (k + 1) c3) (k + 1) (kfCells (ps ++ [((a, b), wr.heap.size)]))) := by rw [kfCells_snoc]; exact hown3
      have hw3 : w2.heap.size + 1 ≤ w3.heap.size := by have := hgrow.size; simpa using this
      have HD3 : Hid (∀ p ∈ ps ++ [((a, b), wr.heap.size)], p.2 < w3.heap.size ∧ (Value.slice (some ⟨g3, 0, none⟩) (k + 1) c3).ownBlock ≠ some p.2 ∧ w3.heap[p.2]? = some (roomyObj p.1.2)) := by
        intro p hp
        rcases List.mem_append.1 hp with hp | hp
        · obtain ⟨q1, q2, q3⟩ := HDr.out p hp
          refine ⟨by omega, ?_, (HGW.out.block p.2 q1 (Ne.symm q2)).trans q3⟩
          intro e
          have eg : g3 = p.2 := by simpa [Value.ownBlock] using e
          rcases hat with h | h
          · exact q2 (eg ▸ h)
          · omega
        · simp only [List.mem_singleton] at hp
          subst hp
          have hno : u3.ownBlock ≠ some wr.heap.size := fun e => by have := (HOr.out.lt _ e).2; omega
          have hlt2 : wr.heap.size < w2.heap.size := by
            rcases Nat.lt_or_ge wr.heap.size w2.heap.size with h | h
            · exact h
            · rw [Array.getElem?_eq_none h] at hnew; cases hnew
          refine ⟨by show wr.heap.size < _; omega, ?_, ?_⟩
          · intro e
            have eg : g3 = wr.heap.size := by simpa [Value.ownBlock] using e
            rcases hat with h | h
            · exact hno (eg ▸ h)
            · omega
          · show w3.heap[wr.heap.size]? = _
            rw [hgrow.block wr.heap.size (by simp; omega) (Ne.symm hno)]
            exact (((Below.refl _ w2).alloc (Nat.le_refl _) _).block _ hlt2).trans hnew
      have HPS3 : Hid ((ps ++ [((a, b), wr.heap.size)]).length = k + 1 ∧ (ps ++ [((a, b), wr.heap.size)]).map Prod.fst = fs.take (k + 1)) := by
        refine ⟨by simp [HPS.out.1], ?_⟩
        rw [HST.out, List.map_append, HPS.out.2]; rfl
      clear hown3 hgrow hat hlt3 hnew hb2 e0 e1 hs2 hw3
      go_wp2_with fail
      go_roundw
      case rel => exact ⟨k + 1, _, by omega, by go_num, HPS3.out, HO3.out, HD3.out, HB3.out⟩
      case measure => simp [intOf]; omega
    · have hkn : k = n := by omega
      subst hkn
      go_wp2_with fail
      go_ret
      refine ⟨_, rfl, ?_, HBr.out⟩
      have h1 := HOr.out
      rw [← HPS.out.1] at h1
      have h2 := Kf_of_row h1 (fun p hp => ⟨(HDr.out p hp).1, (HDr.out p hp).2.2⟩)
      rw [HPS.out.2] at h2
      rw [HTK.out] at h2
      exact h2
end Go.Proofs.YtbhccdedcoajmaaDoor
namespace Go.Proofs.YtbhccdedcoajmaaDoor
open Go.RowKit

set_option maxRecDepth 10000 in
set_option maxHeartbeats 2000000 in
theorem kept_any (v u : Value) (fs : List (ByteArray × ByteArray)) (w : World) (hl : fs.length ≤ 70000) (hz : ∀ p ∈ fs, p.1.size ≤ 70000 ∧ p.2.size ≤ 70000) (hK : Kf w v fs) (hF : Fl w u fs) :
    Calls Tryd.prog 41 #[v, u] w fun e w' => e = .returned (.bool true) ∧ Below w.heap.size w w' := by
  obtain ⟨va, cap, rfl, hcap, hcell⟩ := hK
  obtain ⟨vb, cap2, rfl, hcap2, hcell2⟩ := hF
  have HC : Hid (∀ k, k < fs.length → ∃ (g g2 b : Nat) (a dt : ByteArray), va = some ⟨g, 0, none⟩ ∧ vb = some ⟨g2, 0, none⟩ ∧ g < w.heap.size ∧ g2 < w.heap.size ∧ w.cell? ⟨g, k * 2, none⟩ = some (.string a) ∧ w.cell? ⟨g, k * 2 + 1, none⟩ = some (.slice (some ⟨b, 0, none⟩) dt.size (dt.size + 2)) ∧ w.cell? ⟨g2, k * 2, none⟩ = some (.string a) ∧ w.cell? ⟨g2, k * 2 + 1, none⟩ = some (.string dt) ∧ dt.size ≤ 70000 ∧ b < w.heap.size ∧ w.heap[b]? = some (roomyObj dt)) := by
    intro k hk
    obtain ⟨g, b, e, hg, c0, c1, hb, hh⟩ := hcell k hk
    obtain ⟨g2, e2, hg2, c2, c3⟩ := hcell2 k hk
    exact ⟨g, g2, b, _, _, e, e2, hg, hg2, c0, c1, c2, c3, (hz _ (List.getElem_mem hk)).2, hb, hh⟩
  clear hcell hcell2 hz
  generalize fs.length = n at *
  go_enter Tryd.func41, Tryd.ntmps41
  go_wp2_with fail
  go_loopw [5] (fun i wr => ∃ k : Nat, k ≤ n ∧ i = .int .i64 k ∧ Hid (Below w.heap.size w wr)) (fun i _ => n - (intOf i).toNat)
  case atStart => exact ⟨0, Nat.zero_le _, rfl, Below.refl _ _⟩
  case round =>
    obtain ⟨k, hk, rfl, HBr⟩ := hrel
    by_cases hlt : k < n
    · obtain ⟨g, g2, b, a, dt, rfl, rfl, hg, hg2, c0, c1, c2, c3, hdt, hb, hh⟩ := HC.out k hlt
      have d0 := (HBr.out.cell (p := ⟨g, k * 2, none⟩) hg).trans c0
      have d1 := (HBr.out.cell (p := ⟨g, k * 2 + 1, none⟩) hg).trans c1
      have d2 := (HBr.out.cell (p := ⟨g2, k * 2, none⟩) hg2).trans c2
      have d3 := (HBr.out.cell (p := ⟨g2, k * 2 + 1, none⟩) hg2).trans c3
      have HS : Hid (∀ q, Calls Tryd.prog 13 #[.slice (some ⟨b, 0, none⟩) dt.size (dt.size + 2), .string dt] (wr.drewN q) fun e w' => e = .returned (.bool true) ∧ w' = wr.drewN q) := fun q => still_any dt hdt b (wr.drewN q) ((HBr.out.block b hb).trans hh)
      have hne : (a.toList != a.toList) = false := by simp
      have heq : (a.toList == a.toList) = true := by simp
      clear c0 c1 c2 c3 hh
      go_wp2_with fail
      go_quiet ((go_at_call 13; refine Calls.quiet_of_same (HS.out _)))
      go_wp2_with fail
      go_quiet (fail)
      go_wp2_with fail
      go_roundw
      case rel => exact ⟨k + 1, by omega, by go_num, below_drewN HBr.out _⟩
      case measure => simp [intOf]; omega
    · go_wp2_with fail
      go_ret
      exact ⟨rfl, HBr.out⟩
end Go.Proofs.YtbhccdedcoajmaaDoor
