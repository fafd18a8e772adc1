import Derived.Test.YtbhccdedcoajmaaGreatDoorREntry
import Derived.Test.YtbhccdedcoajmaaGreatDoorPTokens
import Derived.Test.YtbhccdedcoajmaaGreatDoorPTokenM
import Derived.Test.YtbhccdedcoajmaaGreatDoorClipM
import Derived.Test.YtbhccdedcoajmaaGreatDoorStrAtM
namespace Go.Proofs.YtbhccdedcoajmaaGreatDoor
open Go.RowKit

/-- bytes that are only read -/
def RDat (w : World) (base : Nat) (v : Value) (zs : List Int) : Prop :=
  (v = .slice none 0 0 ∧ zs = []) ∨ ∃ g cap, v = .slice (some ⟨g, 0, none⟩) zs.length cap ∧ base ≤ g ∧ g < w.heap.size ∧ ∀ k (h : k < zs.length), w.cell? ⟨g, k, none⟩ = some (.int .u8 zs[k])
theorem RDat.lt {w : World} {base : Nat} {v : Value} {zs : List Int} (h : RDat w base v zs) {g : Nat} (hg : v.ownBlock = some g) : base ≤ g ∧ g < w.heap.size := by
  rcases h with ⟨rfl, _⟩ | ⟨g', cap, rfl, h1, h2, _⟩
  · cases hg
  · obtain rfl : g' = g := by simpa [Value.ownBlock] using hg
    exact ⟨h1, h2⟩
theorem RDat.kept {w w' : World} {base : Nat} {v : Value} {zs : List Int} {row : Option Nat} (h : RDat w base v zs) (hg : w.grownBy w' row) (hr : ∀ g, v.ownBlock = some g → row ≠ some g) : RDat w' base v zs := by
  rcases h with h | ⟨g, cap, rfl, h1, h2, h3⟩
  · exact .inl h
  · exact .inr ⟨g, cap, rfl, h1, Nat.lt_of_lt_of_le h2 hg.size, fun k hk => hg.cell (h3 k hk) (fun e => hr g rfl e.symm)⟩
theorem RDat.base {w : World} {base base' : Nat} {v : Value} {zs : List Int} (h : RDat w base v zs) (hb : base' ≤ base) : RDat w base' v zs := by
  rcases h with h | ⟨g, cap, h0, h1, h2⟩
  · exact .inl h
  · exact .inr ⟨g, cap, h0, Nat.le_trans hb h1, h2⟩
/-- a row of tokens that is only read -/
structure RRow (w : World) (base : Nat) (v : Value) (ps : List (Tok × Value)) : Prop where
  row : w.ownsRow base 100 3 v ps.length (tcells ps)
  data : ∀ p ∈ ps, RDat w base p.2 p.1.data
  off : ∀ p ∈ ps, ∀ g, p.2.ownBlock = some g → v.ownBlock ≠ some g
theorem RRow.nil (w : World) (base : Nat) : RRow w base (.slice none 0 0) [] := ⟨World.ownsRow_nil _ _ _ _, by simp, by simp⟩
theorem RRow.keepR {w w' : World} {base r : Nat} {v : Value} {ps : List (Tok × Value)} (h : RRow w base v ps) (g : w.grownBy w' (some r)) (hr : r < base) : RRow w' base v ps :=
  ⟨row_kept h.row g hr, fun p hp => (h.data p hp).kept g (fun j hj e => by have := ((h.data p hp).lt hj).1; simp at e; omega), h.off⟩
theorem RRow.below {w w' : World} {base : Nat} {v : Value} {ps : List (Tok × Value)} (h : RRow w base v ps) (hb : Below w.heap.size w w') : RRow w' base v ps :=
  ⟨ownsRow_below h.row hb, fun p hp => (h.data p hp).kept (grown_of_below (row := none) hb) (fun j _ e => by cases e), h.off⟩
theorem RRow.push {w w' : World} {base : Nat} {v v' : Value} {ps : List (Tok × Value)} (h : RRow w base v ps) (t : Tok) (u : Value)
    (hu : RDat w base u t.data) (hoff : ∀ g, u.ownBlock = some g → v.ownBlock ≠ some g)
    (hown : w'.ownsRow base 100 3 v' (ps.length + 1) (tcells ps ++ [.int .i64 t.block, .int .i64 t.count, u])) (hg : w.grownBy w' v.ownBlock) (hloc : v'.ownBlock = v.ownBlock ∨ ∃ k, w.heap.size ≤ k ∧ v'.ownBlock = some k) : RRow w' base v' (ps ++ [(t, u)]) := by
  have hne : ∀ (u : Value) (zs : List Int), RDat w base u zs → (∀ g, u.ownBlock = some g → v.ownBlock ≠ some g) → ∀ g, u.ownBlock = some g → v'.ownBlock ≠ some g := by
    intro u zs hu hoff g hgu
    rcases hloc with e | ⟨k, hk, e⟩
    · rw [e]; exact hoff g hgu
    · rw [e]; intro e'; have := (hu.lt hgu).2; simp at e'; omega
  refine ⟨?_, ?_, ?_⟩
  · rw [tcells_snoc, List.length_append]; exact hown
  · intro p hp
    rcases List.mem_append.1 hp with hp | hp
    · exact (h.data p hp).kept hg (h.off p hp)
    · simp at hp; subst hp; exact hu.kept hg hoff
  · intro p hp
    rcases List.mem_append.1 hp with hp | hp
    · exact hne _ _ (h.data p hp) (h.off p hp)
    · simp at hp; subst hp; exact hne _ _ hu hoff
theorem row_opened {w : World} {base : Nat} {v : Value} {ps : List (Tok × Value)} (h : w.ownsRow base 100 3 v ps.length (tcells ps)) : ∃ va cap, v = .slice va ps.length cap ∧ ps.length ≤ cap ∧ ∀ i (hi : i < ps.length), ∃ g, va = some ⟨g, 0, none⟩ ∧ base ≤ g ∧ g < w.heap.size ∧ w.cell? ⟨g, i * 3, none⟩ = some (.int .i64 ps[i].1.block) ∧ w.cell? ⟨g, i * 3 + 1, none⟩ = some (.int .i64 ps[i].1.count) ∧ w.cell? ⟨g, i * 3 + 2, none⟩ = some ps[i].2 := by
  rcases h.2 with ⟨hv, h0⟩ | ⟨g, cap, cur, hv, hb, hg, h1, _, _, h4⟩
  · exact ⟨none, 0, by rw [hv]; congr 1; omega, by omega, fun i hi => by omega⟩
  · refine ⟨_, cap, hv, h1, fun i hi => ?_⟩
    obtain ⟨e0, e1, e2⟩ := tcells_at ps i hi
    have hlt : g < w.heap.size := (Array.getElem?_eq_some_iff.1 hg).1
    rw [hv] at h
    have hc := h.cells (g := g) rfl
    simp only [add_at] at hc
    exact ⟨g, rfl, hb, hlt, hc _ _ e0, hc _ _ e1, hc _ _ e2⟩

/-- what of a world a row of tokens lies in, and that it reads so in any world that is alike there -/
def RT (w : World) (lo hi : Nat) (v : Value) (ts : List Tok) : Prop :=
  hi ≤ w.heap.size ∧ ∀ W : World, hi ≤ W.heap.size → (∀ k, lo ≤ k → k < hi → W.heap[k]? = w.heap[k]?) → ∃ va cap, v = .slice va ts.length cap ∧ ts.length ≤ cap ∧ ∀ i (h : i < ts.length), ∃ g u, va = some ⟨g, 0, none⟩ ∧ W.cell? ⟨g, i * 3, none⟩ = some (.int .i64 ts[i].block) ∧ W.cell? ⟨g, i * 3 + 1, none⟩ = some (.int .i64 ts[i].count) ∧ W.cell? ⟨g, i * 3 + 2, none⟩ = some u ∧ (convert 38 9 u).run Tryz.prog W = .ok (.string (bytesOf ts[i].data)) W ∧ ∃ da dc, u = .slice da ts[i].data.length dc
theorem cell_same {w W : World} {g : Nat} (h : W.heap[g]? = w.heap[g]?) (k : Nat) : W.cell? ⟨g, k, none⟩ = w.cell? ⟨g, k, none⟩ := by simp [World.cell?, h]
theorem RT.same {w w' : World} {lo hi : Nat} {v : Value} {ts : List Tok} (h : RT w lo hi v ts) (hs : hi ≤ w'.heap.size) (he : ∀ k, lo ≤ k → k < hi → w'.heap[k]? = w.heap[k]?) : RT w' lo hi v ts :=
  ⟨hs, fun W hW hk => h.2 W hW fun k h1 h2 => (hk k h1 h2).trans (he k h1 h2)⟩
theorem RT.below {w w' : World} {lo hi : Nat} {v : Value} {ts : List Tok} (h : RT w lo hi v ts) (hb : Below w.heap.size w w') : RT w' lo hi v ts :=
  h.same (Nat.le_trans h.1 hb.size) fun k _ h2 => hb.block k (Nat.lt_of_lt_of_le h2 h.1)
theorem RT.grown {w w' : World} {lo hi : Nat} {v : Value} {ts : List Tok} {row : Option Nat} (h : RT w lo hi v ts) (hg : w.grownBy w' row) (hr : ∀ k, row = some k → k < lo ∨ hi ≤ k) : RT w' lo hi v ts :=
  h.same (Nat.le_trans h.1 hg.size) fun k h1 h2 => hg.block k (Nat.lt_of_lt_of_le h2 h.1) (fun e => by have := hr k e.symm; omega)
theorem RRow.toRT {w : World} {base : Nat} {v : Value} {ps : List (Tok × Value)} (h : RRow w base v ps) (hb : ∀ p ∈ ps, Bytes p.1.data) : RT w base w.heap.size v (ps.map Prod.fst) := by
  refine ⟨Nat.le_refl _, fun W hW hk => ?_⟩
  obtain ⟨va, cap, hv, hc, hcell⟩ := row_opened h.row
  refine ⟨va, cap, by rw [hv, List.length_map], by rw [List.length_map]; exact hc, fun i hi => ?_⟩
  rw [List.length_map] at hi
  obtain ⟨g, hva, h1, h2, c0, c1, c2⟩ := hcell i hi
  have e := hk g h1 h2
  rw [List.getElem_map]
  refine ⟨g, ps[i].2, hva, (cell_same e _).trans c0, (cell_same e _).trans c1, (cell_same e _).trans c2, ?_⟩
  have hby := hb ps[i] (List.getElem_mem hi)
  rcases h.data ps[i] (List.getElem_mem hi) with ⟨h3, h4⟩ | ⟨g', c', h3, h4, h5, h6⟩
  · rw [h3, h4]; exact ⟨Tryz.convNil W, _, _, rfl⟩
  · rw [h3]
    refine ⟨?_, _, _, rfl⟩
    exact conv_cells g' 0 c' ps[i].1.data W hby (fun k hk' => by rw [Nat.zero_add]; exact (cell_same (hk g' h4 h5) k).trans (h6 k hk'))
end Go.Proofs.YtbhccdedcoajmaaGreatDoor
namespace Go.Proofs.YtbhccdedcoajmaaGreatDoor
open Go.RowKit

theorem nums_append (a b : ByteArray) : nums (a ++ b) = nums a ++ nums b := by
  simp [nums, ByteArray.data_append]

/-- what the reference's Apply tells -/
def RTold (r : Except Int (List Int)) (v e0 : Value) : Prop :=
  match r with
  | .ok made => v = .string (bytesOf made) ∧ e0 = .int .i64 0
  | .error k => v = .string ⟨#[]⟩ ∧ e0 = .int .i64 k

set_option maxRecDepth 10000 in
set_option maxHeartbeats 2000000 in
theorem rapply_ok (s : ByteArray) (B base : Nat) (tv : Value) (ps : List (Tok × Value)) (w : World) (hB1 : 1 ≤ B) (hB2 : B ≤ 64) (hm : s.size ≤ 300) (hT : TokRow w base tv ps) (hl : ps.length ≤ 70000) (hh : ∀ p ∈ ps, Held p.1) :
    Calls Tryz.prog 46 #[.string s, tv, .int .i64 B] w fun e w' => ∃ v e0, e = .returned (.tuple #[v, e0]) ∧ RTold (applyGo (nums s) B [] (ps.map Prod.fst)) v e0 ∧ Below w.heap.size w w' := by
  have HBL := hide (blocks_any s B w hB1 hB2 hm)
  have hM := chunks_le (n := s.size) hB1
  have HZL := hide (nums_length s)
  have HZL3 : Hid (∀ a m, ((nums s).drop a |>.take m).length ≤ 300) := fun a m => by show _ ≤ _; rw [List.length_take, List.length_drop, nums_length]; omega
  have HMORE : Hid (∀ b c, ((nums s).drop (b * B)).take ((c + 1) * B) = ((nums s).drop (b * B)).take (c * B) ++ chunk (nums s) B (b + c)) := fun b c => part_more _ _ _ _
  obtain ⟨va, tcap, rfl, htc, hcell⟩ := hT.opened
  have HTOK : Hid (∀ i, i < ps.length → ∃ (t : Tok) (x y : Int) (g m dc : Nat) (da : Option Addr), va = some ⟨g, 0, none⟩ ∧ g < w.heap.size ∧ t.block = x ∧ t.count = y ∧ I64 x ∧ I64 y ∧ t.data.length = m ∧ m ≤ 255 ∧ w.cell? ⟨g, i * 3, none⟩ = some (.int .i64 x) ∧ w.cell? ⟨g, i * 3 + 1, none⟩ = some (.int .i64 y) ∧ w.cell? ⟨g, i * 3 + 2, none⟩ = some (.slice da m dc) ∧
      (ps.map Prod.fst).drop i = t :: (ps.map Prod.fst).drop (i + 1) ∧ (∀ W, Below w.heap.size w W → (convert 38 9 (.slice da m dc)).run Tryz.prog W = .ok (.string (bytesOf t.data)) W) ∧ Bytes t.data) := by
    intro i hi
    obtain ⟨g, hv, _, hg, c0, c1, c2⟩ := hcell i hi
    have hH := hh ps[i] (List.getElem_mem hi)
    have hdrop : (ps.map Prod.fst).drop i = ps[i].1 :: (ps.map Prod.fst).drop (i + 1) := by
      rw [List.drop_eq_getElem_cons (by simpa using hi)]; simp
    have hd := hT.data ps[i] (List.getElem_mem hi)
    rcases own_shape hd with ⟨h, hz⟩ | ⟨g2, dc, h, _⟩
    · refine ⟨ps[i].1, _, _, g, 0, 0, none, hv, hg, rfl, rfl, hH.2.2.1, hH.2.2.2, by rw [hz]; rfl, by omega, c0, c1, by rw [c2, h], hdrop, fun W hb => ?_, hH.1⟩
      rw [h] at hd
      exact conv_own hH.1 (ownsRow_below hd hb)
    · refine ⟨ps[i].1, _, _, g, ps[i].1.data.length, dc, some ⟨g2, 0, none⟩, hv, hg, rfl, rfl, hH.2.2.1, hH.2.2.2, rfl, hH.2.1, c0, c1, by rw [c2, h], hdrop, fun W hb => ?_, hH.1⟩
      rw [h] at hd
      exact conv_own hH.1 (ownsRow_below hd hb)
  clear hcell hT hh
  generalize hNT : ps.length = nt at *
  have HNT := hide hNT
  clear hNT
  go_enter Tryz.func46, Tryz.ntmps46
  go_wp2_with fail
  refine HBL.out.mono ?_
  rintro e W0 ⟨bv, ts, rfl, ho, ht, hb⟩
  obtain ⟨ba, bcap, rfl, hbcap, hbcell⟩ := row_open ho
  have HBLK : Hid (∀ k, k < chunks s.size B → ∃ (gb : Nat) (t : ByteArray), ba = some ⟨gb, 0, none⟩ ∧ gb < W0.heap.size ∧ W0.cell? ⟨gb, k, none⟩ = some (.string t) ∧ nums t = chunk (nums s) B k ∧ t.size ≤ 64) := by
    intro k hk
    obtain ⟨gb, hv, hc⟩ := hbcell k hk
    have hlt : k < ts.length := by
      have := congrArg List.length ht
      simp at this; omega
    have hn : nums ts[k] = chunk (nums s) B k := by
      have := congrArg (fun l => l[k]?) ht
      simpa [hlt, hk] using this
    have hc' : W0.cell? ⟨gb, k, none⟩ = some (.string ts[k]) := by rw [hc]; simp [hlt]
    refine ⟨gb, ts[k], hv, World.block_lt_of_cell? W0 _ hc', hc', hn, ?_⟩
    have := nums_length ts[k]
    rw [hn, chunk_length] at this
    omega
  have HBW := hide hb
  clear ho ht hb hbcell HBL
  have HCH : Hid (chunks (nums s).length B = chunks s.size B) := by show _ = _; rw [nums_length]
  generalize chunks s.size B = M at *
  go_wp2_with fail
  go_loopw [9, 10] (fun v9 v10 wr => ∃ (k : Nat) (u : ByteArray), k ≤ nt ∧ v10 = .int .i64 k ∧ v9 = .string u ∧ u.size ≤ 300 ∧ Hid (applyGo (nums s) B (nums u) ((ps.map Prod.fst).drop k) = applyGo (nums s) B [] (ps.map Prod.fst)) ∧ Hid (Below W0.heap.size W0 wr)) (fun _ v10 _ => nt - (intOf v10).toNat)
  case atStart => exact ⟨0, ⟨#[]⟩, Nat.zero_le _, rfl, rfl, Nat.zero_le _, (rfl : _ = _), Below.refl _ _⟩
  case round =>
    obtain ⟨k, u, hk, rfl, rfl, hu, HAr, HBr⟩ := hrel
    by_cases hlt : k < nt
    · obtain ⟨t, x, y, g, m, dc, da, rfl, hg, hx, hy, hxI, hyI, htm, hm255, c0, c1, c2, hdrop, hcv, hby⟩ := HTOK.out k hlt
      have HBwr : Hid (Below w.heap.size w wr) := below_all HBW.out HBr.out
      have d0 := (HBwr.out.cell (p := ⟨g, k * 3, none⟩) hg).trans c0
      have d1 := (HBwr.out.cell (p := ⟨g, k * 3 + 1, none⟩) hg).trans c1
      have d2 := (HBwr.out.cell (p := ⟨g, k * 3 + 2, none⟩) hg).trans c2
      obtain ⟨hx1, hx2⟩ := hxI
      obtain ⟨hy1, hy2⟩ := hyI
      have HX := hide hx
      have HY := hide hy
      have HTM := hide htm
      have HDR := hide hdrop
      have HBY := hide hby
      have HTD : Hid (t.data = [] ↔ m = 0) := by show _ ↔ _; rw [← htm, List.length_eq_zero_iff]
      have hcvA : (convert 38 9 (.slice da m dc)).run Tryz.prog (wr.alloc (.cells #[.int .i64 x, .int .i64 y, .slice da m dc] 100)) = .ok (.string (bytesOf t.data)) (wr.alloc (.cells #[.int .i64 x, .int .i64 y, .slice da m dc] 100)) := hcv _ (below_all HBwr.out ((Below.refl _ _).alloc (Nat.le_refl _) _))
      have HBA : Hid (Below w.heap.size w (wr.alloc (.cells #[.int .i64 x, .int .i64 y, .slice da m dc] 100))) := below_all HBwr.out ((Below.refl _ _).alloc (Nat.le_refl _) _)
      have HBA0 : Hid (Below W0.heap.size W0 (wr.alloc (.cells #[.int .i64 x, .int .i64 y, .slice da m dc] 100))) := below_all HBr.out ((Below.refl _ _).alloc (Nat.le_refl _) _)
      have HNO : Hid (¬ fitsT M t → applyGo (nums s) B [] (ps.map Prod.fst) = .error 3) := by
        intro hf
        rw [← HAr.out, HDR.out]
        unfold applyGo
        rw [HCH.out, if_neg (fitsB_not hf)]
      have hsz := bytesOf_size t.data
      rw [htm] at hsz
      clear c0 c1 c2 hx hy htm hdrop hby hcv
      by_cases ha : y < 0
      · have HNOF : Hid (¬ fitsT M t) := by
          show ¬ _
          rw [fitsT, HX.out, HY.out, HTD.out]
          omega
        go_wp2_with fail
        go_ret2
        refine ⟨_, _, rfl, ?_, HBA.out⟩
        rw [HNO.out HNOF.out]
        exact ⟨rfl, rfl⟩
      by_cases hb : x < 0
      · have HNOF : Hid (¬ fitsT M t) := by
          show ¬ _
          rw [fitsT, HX.out, HY.out, HTD.out]
          omega
        go_wp2_with fail
        go_ret2
        refine ⟨_, _, rfl, ?_, HBA.out⟩
        rw [HNO.out HNOF.out]
        exact ⟨rfl, rfl⟩
      by_cases hc : 0 < y
      · by_cases hm0 : 0 < m
        · have HNOF : Hid (¬ fitsT M t) := by
            show ¬ _
            rw [fitsT, HX.out, HY.out, HTD.out]
            omega
          go_wp2_with fail
          go_ret2
          refine ⟨_, _, rfl, ?_, HBA.out⟩
          rw [HNO.out HNOF.out]
          exact ⟨rfl, rfl⟩
        by_cases hxM : (M : Int) < x
        · have HNOF : Hid (¬ fitsT M t) := by
            show ¬ _
            rw [fitsT, HX.out, HY.out, HTD.out]
            omega
          go_wp2_with fail
          go_ret2
          refine ⟨_, _, rfl, ?_, HBA.out⟩
          rw [HNO.out HNOF.out]
          exact ⟨rfl, rfl⟩
        by_cases hyM : (M : Int) - x < y
        · have HNOF : Hid (¬ fitsT M t) := by
            show ¬ _
            rw [fitsT, HX.out, HY.out, HTD.out]
            omega
          go_wp2_with fail
          go_ret2
          refine ⟨_, _, rfl, ?_, HBA.out⟩
          rw [HNO.out HNOF.out]
          exact ⟨rfl, rfl⟩
        obtain ⟨bk, rfl⟩ : ∃ bk : Nat, x = bk := ⟨x.toNat, by omega⟩
        obtain ⟨ct, rfl⟩ : ∃ ct : Nat, y = ct := ⟨y.toNat, by omega⟩
        have hm00 : m = 0 := by omega
        have HM0 := hide hm00
        have HFIT : Hid (fitsT M t) := by
          show fitsT _ _
          rw [fitsT, HX.out, HY.out, HTD.out]
          omega
        have HPT : Hid (partT (nums s) B t = ((nums s).drop (bk * B)).take (ct * B)) := by
          show _ = _
          unfold partT
          rw [if_neg (by rw [HY.out]; omega), HX.out, HY.out]; rfl
        have hfit : bk + ct ≤ M := by omega
        clear hm00
        go_wp2_with fail
        go_loop [9, 12] (fun v9 v12 => ∃ (j : Nat) (u2 : ByteArray), j ≤ ct ∧ v12 = .int .i64 j ∧ v9 = .string u2 ∧ u2.size ≤ 600 ∧ Hid (nums u2 = nums u ++ ((nums s).drop (bk * B)).take (j * B))) (fun _ v12 => ct - (intOf v12).toNat)
        case atStart => exact ⟨0, u, Nat.zero_le _, rfl, rfl, by omega, (show nums u = _ by simp)⟩
        case round =>
          obtain ⟨j, u2, hj, rfl, rfl, hu2, HU2⟩ := hrel
          by_cases hjc : j < ct
          · obtain ⟨gb, tt, rfl, hgb, hcb, hnb, htb⟩ := HBLK.out (bk + j) (by omega)
            have hcb' := (HBA0.out.cell (p := ⟨gb, bk + j, none⟩) hgb).trans hcb
            have HNB := hide hnb
            have hlen : (u2 ++ tt).size ≤ 600 := by
              have h1 := nums_length (u2 ++ tt)
              rw [nums_append, HU2.out, HNB.out, List.append_assoc, ← HMORE.out, List.length_append, nums_length] at h1
              have := HZL3.out (bk * B) ((j + 1) * B)
              omega
            clear hcb hnb
            go_wp2_with fail
            go_round
            case rel => exact ⟨j + 1, u2 ++ tt, by omega, by go_num, rfl, hlen, (show _ = _ by rw [nums_append, HU2.out, HNB.out, List.append_assoc, ← HMORE.out])⟩
            case measure => simp [intOf]; omega
          · have hjj : j = ct := by omega
            have HPL : Hid (nums u2 = nums u ++ partT (nums s) B t) := by
              show _ = _
              rw [HPT.out, ← hjj]; exact HU2.out
            have hps : u2.size = u.size + (partT (nums s) B t).length := by
              have := nums_length u2
              rw [HPL.out, List.length_append, nums_length] at this; omega
            have HPS := hide hps
            clear hps hjj
            by_cases hbig : 300 < u2.size + m
            · go_wp2_with fail
              go_ret2
              refine ⟨_, _, rfl, ?_, HBA.out⟩
              rw [← HAr.out, HDR.out]
              unfold applyGo
              rw [HCH.out, if_pos (fitsB_iff.2 HFIT.out), if_pos (by have h1 := HPS.out; have h2 := HM0.out; rw [nums_length]; omega)]
              exact ⟨rfl, rfl⟩
            · go_wp2_with fail
              go_roundw
              case rel =>
                refine ⟨k + 1, u2 ++ bytesOf t.data, by omega, by go_num, rfl, by rw [ByteArray.size_append, hsz]; omega, ?_, HBA0.out⟩
                show _ = _
                rw [← HAr.out, HDR.out]
                conv => rhs; unfold applyGo
                rw [HCH.out, if_pos (fitsB_iff.2 HFIT.out), if_neg (by have h1 := HPS.out; have h2 := HM0.out; rw [nums_length]; omega)]
                congr 1
                rw [nums_append, nums_bytesOf HBY.out]
                rw [HTD.out.2 HM0.out, List.append_nil, HPL.out]
              case measure => simp [intOf]; omega
      · have hy0 : y = 0 := by omega
        subst hy0
        by_cases hx0 : x = 0
        · subst hx0
          have HFIT : Hid (fitsT M t) := by
            show fitsT _ _
            rw [fitsT, HX.out, HY.out, HTD.out]
            omega
          have HPT : Hid (partT (nums s) B t = t.data) := if_pos HY.out
          go_wp2_with fail
          go_loop [9, 12] (fun v9 v12 => v12 = .int .i64 0 ∧ v9 = .string u) (fun _ _ => 0)
          case atStart => exact ⟨rfl, rfl⟩
          case round =>
            obtain ⟨rfl, rfl⟩ := hrel
            by_cases hbig : 300 < u.size + m
            · go_wp2_with fail
              go_ret2
              refine ⟨_, _, rfl, ?_, HBA.out⟩
              rw [← HAr.out, HDR.out]
              unfold applyGo
              rw [HCH.out, if_pos (fitsB_iff.2 HFIT.out), if_pos (by rw [nums_length, HPT.out, HTM.out]; omega)]
              exact ⟨rfl, rfl⟩
            · go_wp2_with fail
              go_roundw
              case rel =>
                refine ⟨k + 1, u ++ bytesOf t.data, by omega, by go_num, rfl, by rw [ByteArray.size_append, hsz]; omega, ?_, HBA0.out⟩
                show _ = _
                rw [← HAr.out, HDR.out]
                conv => rhs; unfold applyGo
                rw [HCH.out, if_pos (fitsB_iff.2 HFIT.out), if_neg (by rw [nums_length, HPT.out, HTM.out]; omega)]
                congr 1
                rw [nums_append, nums_bytesOf HBY.out]
                rw [HPT.out]
              case measure => simp [intOf]; omega
        · have HNOF : Hid (¬ fitsT M t) := by
            show ¬ _
            rw [fitsT, HX.out, HY.out, HTD.out]
            omega
          go_wp2_with fail
          go_ret2
          refine ⟨_, _, rfl, ?_, HBA.out⟩
          rw [HNO.out HNOF.out]
          exact ⟨rfl, rfl⟩
    · go_wp2_with fail
      go_ret2
      refine ⟨_, _, rfl, ?_, below_all HBW.out HBr.out⟩
      have hkn : k = nt := by omega
      have := HAr.out
      rw [hkn, List.drop_of_length_le (by rw [List.length_map, HNT.out]; omega)] at this
      rw [← this]
      exact ⟨by rw [bytesOf_nums]; rfl, rfl⟩
end Go.Proofs.YtbhccdedcoajmaaGreatDoor
