import Derived.Test.YtbhccdedcoajmaaDoorREntry
import Derived.Test.YtbhccdedcoajmaaDoorPTokens
import Derived.Test.YtbhccdedcoajmaaDoorAlike
import Derived.Test.YtbhccdedcoajmaaDoorClip
namespace Go.Proofs.YtbhccdedcoajmaaDoor
open Go.RowKit

/-- bytes that are only read -/
def RDat (w : World) (base : Nat) (v : Value) (zs : List Int) : Prop :=
  (v = .slice none 0 0 ∧ zs = []) ∨ ∃ g cap, v = .slice (some ⟨g, 0, none⟩) zs.length cap ∧ base ≤ g ∧ g < w.heap.size ∧ ∀ k (h : k < zs.length), w.cell? ⟨g, k, none⟩ = some (.int .u8 zs[k])
theorem RDat.lt {w : World} {base : Nat} {v : Value} {zs : List Int} (h : RDat w base v zs) {g : Nat} (hg : v.ownBlock = some g) : base ≤ g ∧ g < w.heap.size := by
  rcases h with ⟨rfl, _⟩ | ⟨g', cap, rfl, h1, h2, _⟩
  · cases hg
  · obtain rfl : g' = g := by simpa [Value.ownBlock] using hg
    exact ⟨h1, h2⟩
theorem RDat.kept {w w' : World} {base : Nat} {v : Value} {zs : List Int} {row : Option Nat} (h : RDat w base v zs) (hg : w.grownBy w' row) (hr : ∀ g, v.ownBlock = some g → row ≠ some g) : RDat w' base v zs := by
  rcases h with h | ⟨g, cap, rfl, h1, h2, h3⟩
  · exact .inl h
  · exact .inr ⟨g, cap, rfl, h1, Nat.lt_of_lt_of_le h2 hg.size, fun k hk => hg.cell (h3 k hk) (fun e => hr g rfl e.symm)⟩
theorem RDat.base {w : World} {base base' : Nat} {v : Value} {zs : List Int} (h : RDat w base v zs) (hb : base' ≤ base) : RDat w base' v zs := by
  rcases h with h | ⟨g, cap, h0, h1, h2⟩
  · exact .inl h
  · exact .inr ⟨g, cap, h0, Nat.le_trans hb h1, h2⟩
/-- a row of tokens that is only read -/
structure RRow (w : World) (base : Nat) (v : Value) (ps : List (Tok × Value)) : Prop where
  row : w.ownsRow base 50 3 v ps.length (tcells ps)
  data : ∀ p ∈ ps, RDat w base p.2 p.1.data
  off : ∀ p ∈ ps, ∀ g, p.2.ownBlock = some g → v.ownBlock ≠ some g
theorem RRow.nil (w : World) (base : Nat) : RRow w base (.slice none 0 0) [] := ⟨World.ownsRow_nil _ _ _ _, by simp, by simp⟩
theorem RRow.keepR {w w' : World} {base r : Nat} {v : Value} {ps : List (Tok × Value)} (h : RRow w base v ps) (g : w.grownBy w' (some r)) (hr : r < base) : RRow w' base v ps :=
  ⟨row_kept h.row g hr, fun p hp => (h.data p hp).kept g (fun j hj e => by have := ((h.data p hp).lt hj).1; simp at e; omega), h.off⟩
theorem RRow.below {w w' : World} {base : Nat} {v : Value} {ps : List (Tok × Value)} (h : RRow w base v ps) (hb : Below w.heap.size w w') : RRow w' base v ps :=
  ⟨ownsRow_below h.row hb, fun p hp => (h.data p hp).kept (grown_of_below (row := none) hb) (fun j _ e => by cases e), h.off⟩
theorem RRow.push {w w' : World} {base : Nat} {v v' : Value} {ps : List (Tok × Value)} (h : RRow w base v ps) (t : Tok) (u : Value)
    (hu : RDat w base u t.data) (hoff : ∀ g, u.ownBlock = some g → v.ownBlock ≠ some g)
    (hown : w'.ownsRow base 50 3 v' (ps.length + 1) (tcells ps ++ [.int .i64 t.block, .int .i64 t.count, u])) (hg : w.grownBy w' v.ownBlock) (hloc : v'.ownBlock = v.ownBlock ∨ ∃ k, w.heap.size ≤ k ∧ v'.ownBlock = some k) : RRow w' base v' (ps ++ [(t, u)]) := by
  have hne : ∀ (u : Value) (zs : List Int), RDat w base u zs → (∀ g, u.ownBlock = some g → v.ownBlock ≠ some g) → ∀ g, u.ownBlock = some g → v'.ownBlock ≠ some g := by
    intro u zs hu hoff g hgu
    rcases hloc with e | ⟨k, hk, e⟩
    · rw [e]; exact hoff g hgu
    · rw [e]; intro e'; have := (hu.lt hgu).2; simp at e'; omega
  refine ⟨?_, ?_, ?_⟩
  · rw [tcells_snoc, List.length_append]; exact hown
  · intro p hp
    rcases List.mem_append.1 hp with hp | hp
    · exact (h.data p hp).kept hg (h.off p hp)
    · simp at hp; subst hp; exact hu.kept hg hoff
  · intro p hp
    rcases List.mem_append.1 hp with hp | hp
    · exact hne _ _ (h.data p hp) (h.off p hp)
    · simp at hp; subst hp; exact hne _ _ hu hoff
theorem row_opened {w : World} {base : Nat} {v : Value} {ps : List (Tok × Value)} (h : w.ownsRow base 50 3 v ps.length (tcells ps)) : ∃ va cap, v = .slice va ps.length cap ∧ ps.length ≤ cap ∧ ∀ i (hi : i < ps.length), ∃ g, va = some ⟨g, 0, none⟩ ∧ base ≤ g ∧ g < w.heap.size ∧ w.cell? ⟨g, i * 3, none⟩ = some (.int .i64 ps[i].1.block) ∧ w.cell? ⟨g, i * 3 + 1, none⟩ = some (.int .i64 ps[i].1.count) ∧ w.cell? ⟨g, i * 3 + 2, none⟩ = some ps[i].2 := by
  rcases h.2 with ⟨hv, h0⟩ | ⟨g, cap, cur, hv, hb, hg, h1, _, _, h4⟩
  · exact ⟨none, 0, by rw [hv]; congr 1; omega, by omega, fun i hi => by omega⟩
  · refine ⟨_, cap, hv, h1, fun i hi => ?_⟩
    obtain ⟨e0, e1, e2⟩ := tcells_at ps i hi
    have hlt : g < w.heap.size := (Array.getElem?_eq_some_iff.1 hg).1
    rw [hv] at h
    have hc := h.cells (g := g) rfl
    simp only [add_at] at hc
    exact ⟨g, rfl, hb, hlt, hc _ _ e0, hc _ _ e1, hc _ _ e2⟩

/-- what of a world a row of tokens lies in, and that it reads so in any world that is alike there -/
def RT (w : World) (lo hi : Nat) (v : Value) (ts : List Tok) : Prop :=
  hi ≤ w.heap.size ∧ ∀ W : World, hi ≤ W.heap.size → (∀ k, lo ≤ k → k < hi → W.heap[k]? = w.heap[k]?) → ∃ va cap, v = .slice va ts.length cap ∧ ts.length ≤ cap ∧ ∀ i (h : i < ts.length), ∃ g u, va = some ⟨g, 0, none⟩ ∧ W.cell? ⟨g, i * 3, none⟩ = some (.int .i64 ts[i].block) ∧ W.cell? ⟨g, i * 3 + 1, none⟩ = some (.int .i64 ts[i].count) ∧ W.cell? ⟨g, i * 3 + 2, none⟩ = some u ∧ (convert 25 9 u).run Tryd.prog W = .ok (.string (bytesOf ts[i].data)) W
theorem cell_same {w W : World} {g : Nat} (h : W.heap[g]? = w.heap[g]?) (k : Nat) : W.cell? ⟨g, k, none⟩ = w.cell? ⟨g, k, none⟩ := by simp [World.cell?, h]
theorem RT.same {w w' : World} {lo hi : Nat} {v : Value} {ts : List Tok} (h : RT w lo hi v ts) (hs : hi ≤ w'.heap.size) (he : ∀ k, lo ≤ k → k < hi → w'.heap[k]? = w.heap[k]?) : RT w' lo hi v ts :=
  ⟨hs, fun W hW hk => h.2 W hW fun k h1 h2 => (hk k h1 h2).trans (he k h1 h2)⟩
theorem RT.below {w w' : World} {lo hi : Nat} {v : Value} {ts : List Tok} (h : RT w lo hi v ts) (hb : Below w.heap.size w w') : RT w' lo hi v ts :=
  h.same (Nat.le_trans h.1 hb.size) fun k _ h2 => hb.block k (Nat.lt_of_lt_of_le h2 h.1)
theorem RT.grown {w w' : World} {lo hi : Nat} {v : Value} {ts : List Tok} {row : Option Nat} (h : RT w lo hi v ts) (hg : w.grownBy w' row) (hr : ∀ k, row = some k → k < lo ∨ hi ≤ k) : RT w' lo hi v ts :=
  h.same (Nat.le_trans h.1 hg.size) fun k h1 h2 => hg.block k (Nat.lt_of_lt_of_le h2 h.1) (fun e => by have := hr k e.symm; omega)
theorem RRow.toRT {w : World} {base : Nat} {v : Value} {ps : List (Tok × Value)} (h : RRow w base v ps) (hb : ∀ p ∈ ps, Bytes p.1.data) : RT w base w.heap.size v (ps.map Prod.fst) := by
  refine ⟨Nat.le_refl _, fun W hW hk => ?_⟩
  obtain ⟨va, cap, hv, hc, hcell⟩ := row_opened h.row
  refine ⟨va, cap, by rw [hv, List.length_map], by rw [List.length_map]; exact hc, fun i hi => ?_⟩
  rw [List.length_map] at hi
  obtain ⟨g, hva, h1, h2, c0, c1, c2⟩ := hcell i hi
  have e := hk g h1 h2
  rw [List.getElem_map]
  refine ⟨g, ps[i].2, hva, (cell_same e _).trans c0, (cell_same e _).trans c1, (cell_same e _).trans c2, ?_⟩
  have hby := hb ps[i] (List.getElem_mem hi)
  rcases h.data ps[i] (List.getElem_mem hi) with ⟨h3, h4⟩ | ⟨g', c', h3, h4, h5, h6⟩
  · rw [h3, h4]; exact Tryd.convNil W
  · rw [h3]
    exact conv_cells g' 0 c' ps[i].1.data W hby (fun k hk' => by rw [Nat.zero_add]; exact (cell_same (hk g' h4 h5) k).trans (h6 k hk'))
end Go.Proofs.YtbhccdedcoajmaaDoor
