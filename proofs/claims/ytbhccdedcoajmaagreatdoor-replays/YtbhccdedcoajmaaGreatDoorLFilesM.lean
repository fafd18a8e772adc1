import Derived.Test.YtbhccdedcoajmaaGreatDoorMakeLM
import Derived.Test.YtbhccdedcoajmaaGreatDoorMadeM
import Derived.Test.YtbhccdedcoajmaaGreatDoorAsFM
import Derived.Deep.RegionHeld3
import Derived.Test.YtbhccdedcoajmaaGreatDoorTokRowM
import Derived.Test.YtbhccdedcoajmaaGreatDoorStrAtM
import Derived.WalkSpells
namespace Go.Proofs.YtbhccdedcoajmaaGreatDoor
open Go.RowKit

/-- the block of a file's bytes, with the two of spare room behind -/
def roomyObj (s : ByteArray) : Obj := .cells (u8s (nums s) ++ [Value.int .u8 77, Value.int .u8 88]).toArray 5 (0, 0)
/-- a list of files that the law hands in -/
def Kf (w : World) (v : Value) (fs : List (ByteArray × ByteArray)) : Prop :=
  ∃ va cap, v = .slice va fs.length cap ∧ fs.length ≤ cap ∧ ∀ i (hi : i < fs.length), ∃ g b, va = some ⟨g, 0, none⟩ ∧ g < w.heap.size ∧ w.cell? ⟨g, i * 2, none⟩ = some (.string fs[i].1) ∧ w.cell? ⟨g, i * 2 + 1, none⟩ = some (.slice (some ⟨b, 0, none⟩) fs[i].2.size (fs[i].2.size + 2)) ∧
    b < w.heap.size ∧ w.heap[b]? = some (roomyObj fs[i].2)
theorem Kf.below {w w' : World} {v : Value} {fs : List (ByteArray × ByteArray)} (h : Kf w v fs) (hb : Below w.heap.size w w') : Kf w' v fs := by
  obtain ⟨va, cap, h1, h2, h3⟩ := h
  refine ⟨va, cap, h1, h2, fun i hi => ?_⟩
  obtain ⟨g, b, e, hg, c0, c1, hb1, hc⟩ := h3 i hi
  exact ⟨g, b, e, Nat.lt_of_lt_of_le hg hb.size, (hb.cell (p := ⟨g, _, none⟩) hg).trans c0, (hb.cell (p := ⟨g, _, none⟩) hg).trans c1, Nat.lt_of_lt_of_le hb1 hb.size, (hb.block b hb1).trans hc⟩
theorem Kf.af {w : World} {v : Value} {fs : List (ByteArray × ByteArray)} (h : Kf w v fs) : Af w v fs := by
  obtain ⟨va, cap, h1, h2, h3⟩ := h
  refine ⟨va, cap, h1, h2, fun i hi => ?_⟩
  obtain ⟨g, b, e, hg, c0, c1, hb1, hc⟩ := h3 i hi
  exact ⟨g, b, _, e, hg, c0, c1, hb1, by omega, row_cells hc⟩

def kfCells (ps : List ((ByteArray × ByteArray) × Nat)) : List Value := ps.flatMap fun p => [.string p.1.1, .slice (some ⟨p.2, 0, none⟩) p.1.2.size (p.1.2.size + 2)]
theorem kfCells_snoc (ps : List ((ByteArray × ByteArray) × Nat)) (p : (ByteArray × ByteArray) × Nat) : kfCells (ps ++ [p]) = kfCells ps ++ [.string p.1.1, .slice (some ⟨p.2, 0, none⟩) p.1.2.size (p.1.2.size + 2)] := by simp [kfCells]
theorem kfCells_at : ∀ (ps : List ((ByteArray × ByteArray) × Nat)) (i : Nat) (hi : i < ps.length), (kfCells ps)[i * 2]? = some (.string ps[i].1.1) ∧ (kfCells ps)[i * 2 + 1]? = some (.slice (some ⟨ps[i].2, 0, none⟩) ps[i].1.2.size (ps[i].1.2.size + 2))
  | p :: ps, 0, _ => by simp [kfCells]
  | p :: ps, i + 1, h => by
    have := kfCells_at ps i (by simpa using h)
    have e : kfCells (p :: ps) = .string p.1.1 :: .slice (some ⟨p.2, 0, none⟩) p.1.2.size (p.1.2.size + 2) :: kfCells ps := by simp [kfCells]
    rw [e, show (i + 1) * 2 = i * 2 + 1 + 1 by omega]
    simpa using this
theorem Kf_of_row {w : World} {base : Nat} {v : Value} {ps : List ((ByteArray × ByteArray) × Nat)} (h : w.ownsRow base 69 2 v ps.length (kfCells ps)) (hd : ∀ p ∈ ps, p.2 < w.heap.size ∧ w.heap[p.2]? = some (roomyObj p.1.2)) : Kf w v (ps.map Prod.fst) := by
  rcases h.2 with ⟨hv, h0⟩ | ⟨g, cap, cur, hv, _, hg, h1, _⟩
  · exact ⟨none, 0, by rw [hv, List.length_map, h0], by rw [List.length_map]; omega, fun i hi => by rw [List.length_map] at hi; omega⟩
  · have hlt : g < w.heap.size := (Array.getElem?_eq_some_iff.1 hg).1
    refine ⟨some ⟨g, 0, none⟩, cap, by rw [List.length_map]; exact hv, by rw [List.length_map]; exact h1, fun i hi => ?_⟩
    rw [List.length_map] at hi
    rw [List.getElem_map]
    refine ⟨g, ps[i].2, rfl, hlt, ?_, ?_, (hd _ (List.getElem_mem hi)).1, (hd _ (List.getElem_mem hi)).2⟩
    · have := h.cells (g := g) (by rw [hv]; rfl) (i * 2) _ (kfCells_at ps i hi).1
      rw [add_at] at this; exact this
    · have := h.cells (g := g) (by rw [hv]; rfl) (i * 2 + 1) _ (kfCells_at ps i hi).2
      rw [add_at] at this; exact this

theorem Tryz.info69 : (Tryz.prog.info? 69).map (fun i => (i.zero, i.size, i.bytes)) = some (some (.agg #[.string ⟨#[]⟩, .slice none 0 0]), 2, 40) := by kernel_rfl

set_option maxRecDepth 10000 in
set_option maxHeartbeats 2000000 in
theorem lfiles_own (v : Value) (fs : List (ByteArray × ByteArray)) (w : World) (hl : fs.length ≤ 70000) (hz : ∀ p ∈ fs, p.1.size ≤ 70000 ∧ p.2.size ≤ 70000) (hF : Fl w v fs) :
    Calls Tryz.prog 22 #[v] w fun e w' => ∃ u ps, e = .returned u ∧ ps.map Prod.fst = fs ∧ w'.ownsRow w.heap.size 69 2 u ps.length (kfCells ps) ∧ (∀ p ∈ ps, p.2 < w'.heap.size ∧ u.ownBlock ≠ some p.2 ∧ w'.heap[p.2]? = some (roomyObj p.1.2) ∧ w.heap.size ≤ p.2) ∧ Below w.heap.size w w' := by
  obtain ⟨i0, hi, z0, z1, z2⟩ := info_parts Tryz.info69
  obtain ⟨va, cap, rfl, hcap, hcell⟩ := hF
  have HC : Hid (∀ k, k < fs.length → ∃ (g : Nat) (a b : ByteArray), va = some ⟨g, 0, none⟩ ∧ g < w.heap.size ∧ w.cell? ⟨g, k * 2, none⟩ = some (.string a) ∧ w.cell? ⟨g, k * 2 + 1, none⟩ = some (.string b) ∧ b.size ≤ 70000 ∧ fs.take (k + 1) = fs.take k ++ [(a, b)]) := by
    intro k hk
    obtain ⟨g, e, hg, c0, c1⟩ := hcell k hk
    exact ⟨g, _, _, e, hg, c0, c1, (hz _ (List.getElem_mem hk)).2, List.take_succ_eq_append_getElem hk⟩
  clear hcell hz
  have HTK : Hid (fs.take fs.length = fs) := List.take_of_length_le (Nat.le_refl _)
  generalize hN : fs.length = n at *
  clear hN
  go_enter Tryz.func22, Tryz.ntmps22
  go_wp2_with fail
  go_loopw [3, 4] (fun v3 v4 wr => ∃ (k : Nat) (ps : List ((ByteArray × ByteArray) × Nat)), k ≤ n ∧ v4 = .int .i64 k ∧ Hid (ps.length = k ∧ ps.map Prod.fst = fs.take k) ∧ Hid (wr.ownsRow w.heap.size 69 2 v3 k (kfCells ps)) ∧ Hid (∀ p ∈ ps, p.2 < wr.heap.size ∧ v3.ownBlock ≠ some p.2 ∧ wr.heap[p.2]? = some (roomyObj p.1.2) ∧ w.heap.size ≤ p.2) ∧ Hid (Below w.heap.size w wr)) (fun _ v4 _ => n - (intOf v4).toNat)
  case atStart => exact ⟨0, [], Nat.zero_le _, rfl, ⟨rfl, by simp⟩, World.ownsRow_nil _ _ _ _, (fun p hp => by simp at hp), Below.refl _ _⟩
  case round =>
    obtain ⟨k, ps, hk, rfl, HPS, HOr, HDr, HBr⟩ := hrel
    by_cases hlt : k < n
    · obtain ⟨g, a, b, rfl, hg, c0, c1, hb, hst⟩ := HC.out k hlt
      have d0 := (HBr.out.cell (p := ⟨g, k * 2, none⟩) hg).trans c0
      have d1 := (HBr.out.cell (p := ⟨g, k * 2 + 1, none⟩) hg).trans c1
      have HST := hide hst
      have HRO : Hid (Calls Tryz.prog 27 #[.string b] wr.drew fun e w' => e = .returned (.slice (some ⟨wr.heap.size, 0, none⟩) b.size (b.size + 2)) ∧ w'.heap[wr.heap.size]? = some (roomyObj b) ∧ Below wr.heap.size wr w') := by
        refine (roomy_any b hb wr.drew).mono ?_
        rintro e w' ⟨rfl, h1, h2⟩
        exact ⟨rfl, h1, ((Below.refl wr.heap.size wr).drew).trans h2⟩
      have hgr : g < wr.heap.size := Nat.lt_of_lt_of_le hg HBr.out.size
      have hbs : w.heap.size ≤ wr.heap.size := HBr.out.size
      clear c0 c1 hst
      go_wp2_with fail
      go_region_held_law (fun w' => w'.cell? ⟨g, k * 2, none⟩ = some (.string a) ∧ w'.cell? ⟨g, k * 2 + 1, none⟩ = some (.string b))
        (first | exact ⟨d0, d1⟩ | exact ⟨e0, e1⟩ | exact ⟨by go_keep, by go_keep⟩ | (refine ⟨(hgrow.cell_far ⟨g, k * 2, none⟩ (by simp; omega) (fun e => by have := (HOr.out.lt _ e.symm).1; simp at this; omega)).trans (by go_keep), (hgrow.cell_far ⟨g, k * 2 + 1, none⟩ (by simp; omega) (fun e => by have := (HOr.out.lt _ e.symm).1; simp at this; omega)).trans (by go_keep)⟩))
        ((first | (go_at_call 27; refine HRO.out.mono ?_; rintro e w2 ⟨rfl, hnew, hb2⟩; have e0 := (hb2.cell (p := ⟨g, k * 2, none⟩) hgr).trans d0; have e1 := (hb2.cell (p := ⟨g, k * 2 + 1, none⟩) hgr).trans d1; have hs2 := hb2.size) | (refine step_append_lies _ (by rfl) _ _ _ (by rfl) w.heap.size 69 i0 _ 2 40 Tryz.underlying60 hi z0 z1 z2 rfl (by omega) u3 k (kfCells ps) (by rfl) ((ownsRow_below HOr.out hb2).alloc _) ⟨w2.heap.size, 0, none⟩ 1 1 [.string a, .slice (some ⟨wr.heap.size, 0, none⟩) b.size (b.size + 2)] (by rfl) (by rfl) (World.news_of_block (cs := #[.string a, .slice (some ⟨wr.heap.size, 0, none⟩) b.size (b.size + 2)]) (t := 69) (fr := (0, 0)) (heap_alloc_new w2 _)) (by simp [Value.oneCell']) (by omega) (by unfold maxLen; omega) (by omega) (by simp; omega) (w2.heap.size + 1) (by simp) ?_; intro g3 c3 w3 hown3 hgrow hat hlt3)))
      have HGW : Hid (wr.grownBy w3 u3.ownBlock) := ((grown_below hb2).trans (World.grownBy_alloc w2 _ _)).trans hgrow
      have HB3 : Hid (Below w.heap.size w w3) := HBr.out.grown HGW.out HBr.out.size (fun j hj => (HOr.out.lt j hj).1)
      have HO3 : Hid (w3.ownsRow w.heap.size 69 2 (.slice (some ⟨g3, 0, none⟩) (k + 1) c3) (k + 1) (kfCells (ps ++ [((a, b), wr.heap.size)]))) := by rw [kfCells_snoc]; exact hown3
      have hw3 : w2.heap.size + 1 ≤ w3.heap.size := by have := hgrow.size; simpa using this
      have HD3 : Hid (∀ p ∈ ps ++ [((a, b), wr.heap.size)], p.2 < w3.heap.size ∧ (Value.slice (some ⟨g3, 0, none⟩) (k + 1) c3).ownBlock ≠ some p.2 ∧ w3.heap[p.2]? = some (roomyObj p.1.2) ∧ w.heap.size ≤ p.2) := by
        intro p hp
        rcases List.mem_append.1 hp with hp | hp
        · obtain ⟨q1, q2, q3, q4⟩ := HDr.out p hp
          refine ⟨by omega, ?_, (HGW.out.block p.2 q1 (Ne.symm q2)).trans q3, q4⟩
          intro e
          have eg : g3 = p.2 := by simpa [Value.ownBlock] using e
          rcases hat with h | h
          · exact q2 (eg ▸ h)
          · omega
        · simp only [List.mem_singleton] at hp
          subst hp
          have hno : u3.ownBlock ≠ some wr.heap.size := fun e => by have := (HOr.out.lt _ e).2; omega
          have hlt2 : wr.heap.size < w2.heap.size := by
            rcases Nat.lt_or_ge wr.heap.size w2.heap.size with h | h
            · exact h
            · rw [Array.getElem?_eq_none h] at hnew; cases hnew
          refine ⟨by show wr.heap.size < _; omega, ?_, ?_, hbs⟩
          · intro e
            have eg : g3 = wr.heap.size := by simpa [Value.ownBlock] using e
            rcases hat with h | h
            · exact hno (eg ▸ h)
            · omega
          · show w3.heap[wr.heap.size]? = _
            rw [hgrow.block wr.heap.size (by simp; omega) (Ne.symm hno)]
            exact (((Below.refl _ w2).alloc (Nat.le_refl _) _).block _ hlt2).trans hnew
      have HPS3 : Hid ((ps ++ [((a, b), wr.heap.size)]).length = k + 1 ∧ (ps ++ [((a, b), wr.heap.size)]).map Prod.fst = fs.take (k + 1)) := by
        refine ⟨by simp [HPS.out.1], ?_⟩
        rw [HST.out, List.map_append, HPS.out.2]; rfl
      clear hown3 hgrow hat hlt3 hnew hb2 e0 e1 hs2 hw3
      go_wp2_with fail
      go_roundw
      case rel => exact ⟨k + 1, _, by omega, by go_num, HPS3.out, HO3.out, HD3.out, HB3.out⟩
      case measure => simp [intOf]; omega
    · have hkn : k = n := by omega
      subst hkn
      go_wp2_with fail
      go_ret
      refine ⟨_, ps, rfl, HPS.out.2.trans HTK.out, ?_, HDr.out, HBr.out⟩
      rw [HPS.out.1]
      exact HOr.out
theorem lfiles_any (v : Value) (fs : List (ByteArray × ByteArray)) (w : World) (hl : fs.length ≤ 70000) (hz : ∀ p ∈ fs, p.1.size ≤ 70000 ∧ p.2.size ≤ 70000) (hF : Fl w v fs) :
    Calls Tryz.prog 22 #[v] w fun e w' => ∃ u, e = .returned u ∧ Kf w' u fs ∧ Below w.heap.size w w' := by
  refine (lfiles_own v fs w hl hz hF).mono ?_
  rintro e w' ⟨u, ps, rfl, rfl, h1, h2, h3⟩
  exact ⟨u, rfl, Kf_of_row h1 (fun p hp => ⟨(h2 p hp).1, (h2 p hp).2.2.1⟩), h3⟩
end Go.Proofs.YtbhccdedcoajmaaGreatDoor
namespace Go.Proofs.YtbhccdedcoajmaaGreatDoor
open Go.RowKit

end Go.Proofs.YtbhccdedcoajmaaGreatDoor
