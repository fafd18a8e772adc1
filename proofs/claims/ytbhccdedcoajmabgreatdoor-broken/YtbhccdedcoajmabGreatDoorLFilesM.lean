import Derived.Test.YtbhccdedcoajmabGreatDoorLTreeM
import Derived.Test.YtbhccdedcoajmabGreatDoorBatchM
import Derived.Test.YtbhccdedcoajmabGreatDoorToldM
import Derived.Deep.RegionHeld3
import Derived.Test.YtbhccdedcoajmabGreatDoorPRecAM
import Derived.Test.YtbhccdedcoajmabGreatDoorProg
import Derived.Conc.MuLone
import Derived.Conc.MuData
import Derived.KernelRfl
namespace Go.Proofs.YtbhccdedcoajmabGreatDoor
open Go.RowKit

/-- the block of a file's bytes, with the two of spare room behind -/
def roomyObj (s : ByteArray) : Obj := .cells (u8s (nums s) ++ [Value.int .u8 77, Value.int .u8 88]).toArray 5 (0, 0)
/-- a list of files that the law hands in -/
def Kf (w : World) (v : Value) (fs : List (ByteArray × ByteArray)) : Prop :=
  ∃ va cap, v = .slice va fs.length cap ∧ fs.length ≤ cap ∧ ∀ i (hi : i < fs.length), ∃ g b, va = some ⟨g, 0, none⟩ ∧ g < w.heap.size ∧ w.cell? ⟨g, i * 2, none⟩ = some (.string fs[i].1) ∧ w.cell? ⟨g, i * 2 + 1, none⟩ = some (.slice (some ⟨b, 0, none⟩) fs[i].2.size (fs[i].2.size + 2)) ∧
    b < w.heap.size ∧ w.heap[b]? = some (roomyObj fs[i].2)
theorem Kf.below {w w' : World} {v : Value} {fs : List (ByteArray × ByteArray)} (h : Kf w v fs) (hb : Below w.heap.size w w') : Kf w' v fs := by
  obtain ⟨va, cap, h1, h2, h3⟩ := h
  refine ⟨va, cap, h1, h2, fun i hi => ?_⟩
  obtain ⟨g, b, e, hg, c0, c1, hb1, hc⟩ := h3 i hi
  exact ⟨g, b, e, Nat.lt_of_lt_of_le hg hb.size, (hb.cell (p := ⟨g, _, none⟩) hg).trans c0, (hb.cell (p := ⟨g, _, none⟩) hg).trans c1, Nat.lt_of_lt_of_le hb1 hb.size, (hb.block b hb1).trans hc⟩
theorem Kf.af {w : World} {v : Value} {fs : List (ByteArray × ByteArray)} (h : Kf w v fs) : Af w v fs := by
  obtain ⟨va, cap, h1, h2, h3⟩ := h
  refine ⟨va, cap, h1, h2, fun i hi => ?_⟩
  obtain ⟨g, b, e, hg, c0, c1, hb1, hc⟩ := h3 i hi
  exact ⟨g, b, _, e, hg, c0, c1, hb1, by omega, row_cells hc⟩

def kfCells (ps : List ((ByteArray × ByteArray) × Nat)) : List Value := ps.flatMap fun p => [.string p.1.1, .slice (some ⟨p.2, 0, none⟩) p.1.2.size (p.1.2.size + 2)]
theorem kfCells_snoc (ps : List ((ByteArray × ByteArray) × Nat)) (p : (ByteArray × ByteArray) × Nat) : kfCells (ps ++ [p]) = kfCells ps ++ [.string p.1.1, .slice (some ⟨p.2, 0, none⟩) p.1.2.size (p.1.2.size + 2)] := by simp [kfCells]
theorem kfCells_at : ∀ (ps : List ((ByteArray × ByteArray) × Nat)) (i : Nat) (hi : i < ps.length), (kfCells ps)[i * 2]? = some (.string ps[i].1.1) ∧ (kfCells ps)[i * 2 + 1]? = some (.slice (some ⟨ps[i].2, 0, none⟩) ps[i].1.2.size (ps[i].1.2.size + 2))
  | p :: ps, 0, _ => by simp [kfCells]
  | p :: ps, i + 1, h => by
    have := kfCells_at ps i (by simpa using h)
    have e : kfCells (p :: ps) = .string p.1.1 :: .slice (some ⟨p.2, 0, none⟩) p.1.2.size (p.1.2.size + 2) :: kfCells ps := by simp [kfCells]
    rw [e, show (i + 1) * 2 = i * 2 + 1 + 1 by omega]
    simpa using this
theorem Kf_of_row {w : World} {base : Nat} {v : Value} {ps : List ((ByteArray × ByteArray) × Nat)} (h : w.ownsRow base 37 2 v ps.length (kfCells ps)) (hd : ∀ p ∈ ps, p.2 < w.heap.size ∧ w.heap[p.2]? = some (roomyObj p.1.2)) : Kf w v (ps.map Prod.fst) := by
  rcases h.2 with ⟨hv, h0⟩ | ⟨g, cap, cur, hv, _, hg, h1, _⟩
  · exact ⟨none, 0, by rw [hv, List.length_map, h0], by rw [List.length_map]; omega, fun i hi => by rw [List.length_map] at hi; omega⟩
  · have hlt : g < w.heap.size := (Array.getElem?_eq_some_iff.1 hg).1
    refine ⟨some ⟨g, 0, none⟩, cap, by rw [List.length_map]; exact hv, by rw [List.length_map]; exact h1, fun i hi => ?_⟩
    rw [List.length_map] at hi
    rw [List.getElem_map]
    refine ⟨g, ps[i].2, rfl, hlt, ?_, ?_, (hd _ (List.getElem_mem hi)).1, (hd _ (List.getElem_mem hi)).2⟩
    · have := h.cells (g := g) (by rw [hv]; rfl) (i * 2) _ (kfCells_at ps i hi).1
      rw [add_at] at this; exact this
    · have := h.cells (g := g) (by rw [hv]; rfl) (i * 2 + 1) _ (kfCells_at ps i hi).2
      rw [add_at] at this; exact this

theorem Tryz.info37 : (Tryz.prog.info? 37).map (fun i => (i.zero, i.size, i.bytes)) = some (some (.agg #[.string ⟨#[]⟩, .slice none 0 0]), 2, 40) := by kernel_rfl

end Go.Proofs.YtbhccdedcoajmabGreatDoor
namespace Go.Proofs.YtbhccdedcoajmabGreatDoor
open Go.RowKit

theorem clone_gen (vo : Option Addr) (b cp : Nat) (zs : List Int) (w : World) (hm : zs.length ≤ 70000) (ho : vo = none ∧ cp = 0 ∨ vo = some ⟨b, 0, none⟩) (hD : DataAt w vo b cp zs) :
    Calls Tryz.prog 60 #[.slice vo zs.length cp] w fun e w' => ∃ ua un uc, e = .returned (.slice ua un uc) ∧ w'.ownsRow w.heap.size 5 1 (.slice ua un uc) zs.length (u8s zs) ∧ Below w.heap.size w w' := by
  rcases ho with ⟨rfl, rfl⟩ | rfl
  · have hz : zs = [] := by
      cases zs with
      | nil => rfl
      | cons z r => have := hD.1 (by simp); cases this
    subst hz
    refine (clone_nil w).mono ?_
    rintro e w' ⟨rfl, rfl⟩
    exact ⟨none, 0, 0, rfl, World.ownsRow_nil _ _ _ _, Below.refl _ _⟩
  · refine (clone_any b 0 cp zs w hm hD.2.2).mono ?_
    rintro e w' ⟨v, rfl, h1, h2⟩
    obtain ⟨ua, un, uc, rfl⟩ : ∃ a n c, v = .slice a n c := by
      rcases h1.2 with ⟨h, _⟩ | ⟨g, c, cur, h, _⟩
      · exact ⟨_, _, _, h⟩
      · exact ⟨_, _, _, h⟩
    exact ⟨ua, un, uc, rfl, h1, h2⟩

set_option maxRecDepth 10000 in
set_option maxHeartbeats 2000000 in
/-- the same files in new memory -/
theorem tclone_any (v : Value) (fs : List (ByteArray × ByteArray)) (w : World) (hl : fs.length ≤ 70000) (hz : ∀ p ∈ fs, p.2.size ≤ 70000) (hF : Ag w v fs) :
    Calls Tryz.prog 38 #[v] w fun e w' => ∃ u ps, e = .returned u ∧ FileRow w' w.heap.size u ps ∧ ps.map frF = fs ∧ Below w.heap.size w w' := by
  obtain ⟨i0, hi, z0, z1, z2⟩ := info_parts Tryz.info37
  obtain ⟨va, cap, rfl, hcap, hcell⟩ := hF
  have HC : Hid (∀ k, k < fs.length → ∃ (g : Nat) (vo : Option Addr) (b cp : Nat) (a d : ByteArray), va = some ⟨g, 0, none⟩ ∧ g < w.heap.size ∧ w.cell? ⟨g, k * 2, none⟩ = some (.string a) ∧ w.cell? ⟨g, k * 2 + 1, none⟩ = some (.slice vo (nums d).length cp) ∧ (vo = none ∧ cp = 0 ∨ vo = some ⟨b, 0, none⟩) ∧ DataAt w vo b cp (nums d) ∧ (nums d).length ≤ 70000 ∧ fs.take (k + 1) = fs.take k ++ [(a, d)]) := by
    intro k hk
    obtain ⟨g, vo, b, cp, e, hg, c0, c1, ho, hD⟩ := hcell k hk
    exact ⟨g, vo, b, cp, _, _, e, hg, c0, c1, ho, hD, by rw [nums_length]; exact hz _ (List.getElem_mem hk), List.take_succ_eq_append_getElem hk⟩
  clear hcell hz
  have HTK : Hid (fs.take fs.length = fs) := List.take_of_length_le (Nat.le_refl _)
  generalize hN : fs.length = n at *
  clear hN
  go_enter Tryz.func38, Tryz.ntmps38
  go_wp2_with fail
  go_loopw [3, 8] (fun v3 v8 wr => ∃ (k : Nat) (ps : List (ByteArray × ByteArray × Value)), k ≤ n ∧ v8 = .int .i64 k ∧ Hid (ps.length = k ∧ ps.map frF = fs.take k) ∧ Hid (FileRow wr w.heap.size v3 ps) ∧ Hid (Below w.heap.size w wr)) (fun _ v8 _ => n - (intOf v8).toNat)
  case atStart => exact ⟨0, [], Nat.zero_le _, rfl, ⟨rfl, by simp⟩, FileRow.nil _ _, Below.refl _ _⟩
  case round =>
    obtain ⟨k, ps, hk, rfl, HPS, HFR, HBr⟩ := hrel
    by_cases hlt : k < n
    · obtain ⟨g, vo, b, cp, a, d, rfl, hg, c0, c1, ho, hD, hdl, hst⟩ := HC.out k hlt
      have d0 := (HBr.out.cell (p := ⟨g, k * 2, none⟩) hg).trans c0
      have d1 := (HBr.out.cell (p := ⟨g, k * 2 + 1, none⟩) hg).trans c1
      have HST := hide hst
      have hbs : w.heap.size ≤ wr.heap.size := HBr.out.size
      obtain ⟨o, hoo⟩ : ∃ o, o = Obj.cells #[.string a, .slice vo (nums d).length cp] 37 := ⟨_, rfl⟩
      have x0 : (wr.alloc o).cell? ⟨wr.heap.size, 0, none⟩ = some (.string a) := by rw [hoo]; exact cell_new rfl rfl
      have x1 : (wr.alloc o).cell? ⟨wr.heap.size, 1, none⟩ = some (.slice vo (nums d).length cp) := by rw [hoo]; exact cell_new rfl rfl
      have hba : Below wr.heap.size wr (wr.alloc o) := (Below.refl _ _).alloc (Nat.le_refl _) _
      have HBA : Hid (Below w.heap.size w (wr.alloc o)) := below_all HBr.out hba
      have HFA := hide (HFR.out.below hba)
      have HCL : Hid (Calls Tryz.prog 60 #[.slice vo (nums d).length cp] (wr.alloc o).drew fun e w' => ∃ ua un uc, e = .returned (.slice ua un uc) ∧ w'.ownsRow (wr.alloc o).heap.size 5 1 (.slice ua un uc) (nums d).length (u8s (nums d)) ∧ Below (wr.alloc o).heap.size (wr.alloc o) w') := by
        have hb2 : Below (wr.alloc o).heap.size (wr.alloc o) (wr.alloc o).drew := (Below.refl _ _).drew
        refine (clone_gen vo b cp (nums d) (wr.alloc o).drew hdl ho ((hD.below HBA.out).below hb2)).mono ?_
        rintro e w' ⟨ua, un, uc, rfl, h1, h2⟩
        exact ⟨ua, un, uc, rfl, h1, hb2.trans h2⟩
      rw [hoo] at x0 x1 HBA HFA HCL
      clear c0 c1 hst hoo hba hD ho
      generalize hdn : (nums d).length = dn at *
      have HDN := hide hdn
      clear hdn
      go_wp2_with fail
      generalize hWA : wr.alloc (.cells #[.string a, .slice vo dn cp] 37) = wa at *
      clear hWA
      have hwa : wr.heap.size < wa.heap.size := World.block_lt_of_cell? wa _ x0
      clear d0 d1
      go_region_held_law (fun w' => w'.cell? ⟨wr.heap.size, 0, none⟩ = some (.string a) ∧ w'.cell? ⟨wr.heap.size, 1, none⟩ = some (.slice vo dn cp))
        (first | exact ⟨x0, x1⟩ | exact ⟨e0, e1⟩ | exact ⟨by go_keep, by go_keep⟩ | (refine ⟨(hgrow.cell_far ⟨wr.heap.size, 0, none⟩ (by simp; omega) (fun e => by have := (HFR.out.row.lt _ e.symm).2; simp at this)).trans (by go_keep), (hgrow.cell_far ⟨wr.heap.size, 1, none⟩ (by simp; omega) (fun e => by have := (HFR.out.row.lt _ e.symm).2; simp at this)).trans (by go_keep)⟩))
        ((first | (go_at_call 60; refine HCL.out.mono ?_; rintro e w2 ⟨ua, un, uc, rfl, hnew, hb2⟩; have e0 := (hb2.cell (p := ⟨wr.heap.size, 0, none⟩) hwa).trans x0; have e1 := (hb2.cell (p := ⟨wr.heap.size, 1, none⟩) hwa).trans x1; have hs2 := hb2.size) | (refine step_append_lies _ (by rfl) _ _ _ (by rfl) w.heap.size 37 i0 _ 2 40 Tryz.underlying23 hi z0 z1 z2 rfl (by omega) u3 ps.length (fcells ps) (by rfl) ((ownsRow_below HFA.out.row hb2).alloc _) ⟨w2.heap.size, 0, none⟩ 1 1 [.string a, .slice ua un uc] (by rfl) (by rfl) (World.news_of_block (cs := #[.string a, .slice ua un uc]) (t := 37) (fr := (0, 0)) (heap_alloc_new w2 _)) (by simp [Value.oneCell']) (by omega) (by have := HPS.out.1; unfold maxLen; omega) (by have := HPS.out.1; omega) (by simp; omega) (w2.heap.size + 1) (by simp) ?_; intro g3 c3 w3 hown3 hgrow hat hlt3)))
      have hgg : w2.grownBy w3 u3.ownBlock := (World.grownBy_alloc w2 _ _).trans hgrow
      have HFR2 := HFA.out.below hb2
      have HB3 : Hid (Below w.heap.size w w3) := (below_all HBA.out hb2).grown hgg (by omega) (fun j hj => (HFR.out.row.lt j hj).1)
      have HFR3 : Hid (FileRow w3 w.heap.size (.slice (some ⟨g3, 0, none⟩) (ps.length + 1) c3) (ps ++ [(a, d, Value.slice ua un uc)])) := by
        refine HFR2.push a d (.slice ua un uc) (ownsRow_base (by rw [HDN.out]; exact hnew) (by omega)) (fun p hp q q' hq hq' => ?_) (fun q hq e => ?_) hown3 hgg ?_
        · have h1 := ((HFR.out.data p hp).lt q hq).2
          have h2 := (hnew.lt q' hq').1
          omega
        · have h1 := (hnew.lt q hq).1
          have h2 := (HFR.out.row.lt q e).2
          omega
        · rcases hat with h | h
          · exact .inl h.symm
          · exact .inr ⟨g3, by omega, rfl⟩
      have HPS3 : Hid ((ps ++ [(a, d, Value.slice ua un uc)]).length = k + 1 ∧ (ps ++ [(a, d, Value.slice ua un uc)]).map frF = fs.take (k + 1)) := by
        refine ⟨by simp [HPS.out.1], ?_⟩
        rw [HST.out, List.map_append, HPS.out.2]; rfl
      clear hown3 hgrow hat hlt3 hnew hb2 e0 e1 hs2 hgg HFR2 x0 x1
      go_wp2_with fail
      go_roundw
      case rel => exact ⟨k + 1, _, by omega, by go_num, HPS3.out, HFR3.out, HB3.out⟩
      case measure => simp [intOf]; omega
    · have hkn : k = n := by omega
      subst hkn
      go_wp2_with fail
      go_ret
      exact ⟨_, ps, rfl, HFR.out, by rw [HPS.out.2, HTK.out], HBr.out⟩
end Go.Proofs.YtbhccdedcoajmabGreatDoor
namespace Go.Proofs.YtbhccdedcoajmabGreatDoor
/-- the numbers of the lock's functions and types in this program -/
abbrev Tryz.muLink : Go.Conc.Locks.MuLink := { lock := 29, unlock := 30, ilock := 51, iunlock := 52, lockSlow := 91, unlockSlow := 93, disable := 70, enable := 71, acquire := 82, relMerge := 69, cas32 := 90, add32 := 92, tMutex := 81, tIMutex := 79, tPMutex := 115, tPIMutex := 168, tPI32 := 170, tUP := 102, tNoCopy := 76, tU32 := 77 }
theorem Tryz.muLib : Go.Conc.Locks.MuLib Tryz.prog Tryz.muLink :=
  ⟨Tryz.func29, Tryz.func30, Tryz.func51, Tryz.func52, Tryz.func70, Tryz.func71, Tryz.func82, Tryz.func69, Tryz.func90, Tryz.func92, Tryz.underlying79, Tryz.runUnderlying79, Tryz.sizeOf79, Tryz.isAgg79, Tryz.zeroValue79, Tryz.underlying81, Tryz.runUnderlying81, Tryz.sizeOf81, Tryz.isAgg81, Tryz.zeroValue81, Tryz.underlying115, Tryz.runUnderlying115, Tryz.sizeOf115, Tryz.isAgg115, Tryz.zeroValue115, Tryz.underlying168, Tryz.runUnderlying168, Tryz.sizeOf168, Tryz.isAgg168, Tryz.zeroValue168, Tryz.underlying170, Tryz.runUnderlying170, Tryz.sizeOf170, Tryz.isAgg170, Tryz.zeroValue170, Tryz.underlying102, Tryz.runUnderlying102, Tryz.sizeOf102, Tryz.isAgg102, Tryz.zeroValue102, Tryz.underlying76, Tryz.runUnderlying76, Tryz.sizeOf76, Tryz.isAgg76, Tryz.zeroValue76, Tryz.underlying21, Tryz.runUnderlying21, Tryz.sizeOf21, Tryz.isAgg21, Tryz.zeroValue21, (by kernel_rfl)⟩
end Go.Proofs.YtbhccdedcoajmabGreatDoor
