import Derived.Test.YtbhccdedcoajmaaGreatDoorRDiffersM
import Derived.Test.YtbhccdedcoajmaaGreatDoorSpoiltM
import Derived.Test.YtbhccdedcoajmaaGreatDoorDiffM
import Derived.Test.YtbhccdedcoajmaaGreatDoorLFilesM
import Derived.Test.YtbhccdedcoajmaaGreatDoorProg
import Derived.Conc.MuLone
import Derived.Conc.MuData
import Derived.KernelRfl
namespace Go.Proofs.YtbhccdedcoajmaaGreatDoor
open Go.RowKit

/-- the reference's mirror in memory: its tree, room, is it down? which tree it will have then -/
def RMb (w : World) (r : Nat) (T : Value) (room : Int) (down : Bool) (N : Value) : Prop := w.heap[r]? = some (.cells #[T, .int .i64 room, .bool down, N] 82 (0, 0))
theorem RMb.lt {w : World} {r : Nat} {T N : Value} {room : Int} {down : Bool} (h : RMb w r T room down N) : r < w.heap.size := (Array.getElem?_eq_some_iff.1 h).1
theorem RMb.below {w w' : World} {r : Nat} {T N : Value} {room : Int} {down : Bool} (h : RMb w r T room down N) (hb : Below w.heap.size w w') : RMb w' r T room down N := (hb.block r h.lt).trans h

set_option maxHeartbeats 400000 in
theorem rnew_ok (v : Value) (fs : List (ByteArray × ByteArray)) (room : Int) (w : World) (hl : fs.length ≤ 70000) (hz : ∀ p ∈ fs, p.1.size ≤ 70000 ∧ p.2.size ≤ 70000) (hF : Fl w v fs) (hT : TreeOk fs) (h0 : 0 ≤ room) (h1 : room ≤ 1048576) :
    Calls Tryz.prog 25 #[v, .int .i64 room] w fun e w' => ∃ r, e = .returned (.tuple #[.pointer (some ⟨r, 0, none⟩), .int .i64 0, .string ⟨#[]⟩]) ∧ RMb w' r v room false (.slice none 0 0) ∧ w.heap.size ≤ r ∧ Below w.heap.size w w' := by
  have HC := hide (rtree_ok v fs w hl hz hF hT)
  obtain ⟨va, vc, rfl, _⟩ := hF
  clear hz hT
  go_enter Tryz.func25, Tryz.ntmps25
  go_wp2_with fail
  refine HC.out.mono ?_
  rintro e w1 ⟨rfl, hb⟩
  have HB := hide hb
  clear hb HC
  go_wp2_with fail
  refine bodyPost_ret (v := .tuple #[.pointer (some ⟨w1.heap.size, 0, none⟩), .int .i64 0, .string ⟨#[]⟩]) (by simp [results, Tryz.results25, go_sem]) rfl ⟨_, rfl, heap_alloc_new _ _, HB.out.size, below_all HB.out ((Below.refl _ _).alloc (Nat.le_refl _) _)⟩
set_option maxHeartbeats 400000 in
theorem rnew_bad (v : Value) (fs : List (ByteArray × ByteArray)) (room : Int) (w : World) (hl : fs.length ≤ 70000) (hz : ∀ p ∈ fs, p.1.size ≤ 70000 ∧ p.2.size ≤ 70000) (hF : Fl w v fs) {i : Nat} (hT : BadAt fs i) :
    Calls Tryz.prog 25 #[v, .int .i64 room] w fun e w' => e = .returned (.tuple #[.pointer none, .int .i64 4, .string (fs[i]'hT.1).1]) ∧ Below w.heap.size w w' := by
  have HC := hide (rtree_bad v fs w hl hz hF hT)
  generalize (fs[i]'hT.1).1 = nm at *
  clear hz hT hF
  go_enter Tryz.func25, Tryz.ntmps25
  go_wp2_with fail
  refine HC.out.mono ?_
  rintro e w1 ⟨rfl, hb⟩
  have HB := hide hb
  clear hb HC
  go_wp2_with fail
  refine bodyPost_ret (v := .tuple #[.pointer none, .int .i64 4, .string nm]) (by simp [results, Tryz.results25, go_sem]) rfl ⟨rfl, HB.out⟩
set_option maxHeartbeats 400000 in
theorem rnew_room (v : Value) (fs : List (ByteArray × ByteArray)) (room : Int) (w : World) (hl : fs.length ≤ 70000) (hz : ∀ p ∈ fs, p.1.size ≤ 70000 ∧ p.2.size ≤ 70000) (hF : Fl w v fs) (hT : TreeOk fs) (h0 : room < 0 ∨ 1048576 < room) :
    Calls Tryz.prog 25 #[v, .int .i64 room] w fun e w' => e = .returned (.tuple #[.pointer none, .int .i64 6, .string ⟨#[]⟩]) ∧ Below w.heap.size w w' := by
  have HC := hide (rtree_ok v fs w hl hz hF hT)
  clear hz hT hF
  go_enter Tryz.func25, Tryz.ntmps25
  go_wp2_with fail
  refine HC.out.mono ?_
  rintro e w1 ⟨rfl, hb⟩
  have HB := hide hb
  clear hb HC
  by_cases h : room < 0
  · go_wp2_with fail
    refine bodyPost_ret (v := .tuple #[.pointer none, .int .i64 6, .string ⟨#[]⟩]) (by simp [results, Tryz.results25, go_sem]) rfl ⟨rfl, HB.out⟩
  · have h3 : 0 ≤ room := by omega
    have h2 : 1048576 < room := by omega
    go_wp2_with fail
    refine bodyPost_ret (v := .tuple #[.pointer none, .int .i64 6, .string ⟨#[]⟩]) (by simp [results, Tryz.results25, go_sem]) rfl ⟨rfl, HB.out⟩
set_option maxHeartbeats 400000 in
theorem rrecover_up (r : Nat) (T N : Value) (room c : Int) (w : World) (h : RMb w r T room false N) :
    Calls Tryz.prog 17 #[.pointer (some ⟨r, 0, none⟩), .int .i64 c] w fun e w' => e = .returned (.int .i64 8) ∧ w' = w := by
  have c2 : w.cell? ⟨r, 2, none⟩ = some (.bool false) := cell_row h rfl
  go_enter Tryz.func17, Tryz.ntmps17
  go_wp2_with fail
  go_ret
  exact ⟨rfl, rfl⟩
set_option maxHeartbeats 400000 in
theorem rrecover_one (r : Nat) (T N : Value) (room : Int) (w : World) (h : RMb w r T room true N) :
    Calls Tryz.prog 17 #[.pointer (some ⟨r, 0, none⟩), .int .i64 1] w fun e w' => e = .returned (.int .i64 12) ∧ w' = w := by
  have c2 : w.cell? ⟨r, 2, none⟩ = some (.bool true) := cell_row h rfl
  go_enter Tryz.func17, Tryz.ntmps17
  go_wp2_with fail
  go_ret
  exact ⟨rfl, rfl⟩
set_option maxHeartbeats 400000 in
theorem rrecover_ok (r : Nat) (T : Value) (na : Option Addr) (nn nc : Nat) (room c : Int) (w : World) (hc : c ≠ 1) (h : RMb w r T room true (.slice na nn nc)) :
    Calls Tryz.prog 17 #[.pointer (some ⟨r, 0, none⟩), .int .i64 c] w fun e w' => e = .returned (.int .i64 0) ∧ RMb w' r (.slice na nn nc) room false (.slice na nn nc) ∧ w.grownBy w' (some r) := by
  have c0 : w.cell? ⟨r, 0, none⟩ = some T := cell_row h rfl
  have c2 : w.cell? ⟨r, 2, none⟩ = some (.bool true) := cell_row h rfl
  have c3 : w.cell? ⟨r, 3, none⟩ = some (.slice na nn nc) := cell_row h rfl
  have f2 : ∀ j, w.frozen? ⟨r, j, none⟩ = false := fun j => frozen_of_row _ _ _ _ _ h
  have HH := hide h
  clear h
  go_enter Tryz.func17, Tryz.ntmps17
  go_wp2_with fail
  go_ret
  refine ⟨rfl, ?_, (setCell_grown _).trans (setCell_grown _)⟩
  have h1 := heap_setCell_same _ _ 2 _ _ (.bool false) HH.out
  exact heap_setCell_same _ _ 0 _ _ (.slice na nn nc) h1
set_option maxHeartbeats 400000 in
theorem rreplay_down (r : Nat) (T N : Value) (room c : Int) (s : ByteArray) (w : World) (h : RMb w r T room true N) :
    Calls Tryz.prog 30 #[.pointer (some ⟨r, 0, none⟩), .string s, .int .i64 c] w fun e w' => e = .returned (.tuple #[.int .i64 7, .string ⟨#[]⟩]) ∧ w' = w := by
  have c2 : w.cell? ⟨r, 2, none⟩ = some (.bool true) := cell_row h rfl
  go_enter Tryz.func30, Tryz.ntmps30
  go_wp2_with fail
  go_ret2
  exact ⟨rfl, rfl⟩
end Go.Proofs.YtbhccdedcoajmaaGreatDoor
namespace Go.Proofs.YtbhccdedcoajmaaGreatDoor
open Go.RowKit

theorem digest_nil (vo : Option Addr) (cap : Nat) (w : World) :
    Calls Tryz.prog 124 #[.slice vo 0 cap] w fun e w' => e = .returned (.int .u64 (digestOf [])) ∧ w' = w := by
  go_enter Tryz.func124, Tryz.ntmps124
  go_wp2
  go_loop [3, 8] (fun v i => i = .int .i64 0 ∧ v = .int .u64 (digestOf [])) (fun _ _ => 0)
  case atStart => exact ⟨rfl, rfl⟩
  case round =>
    obtain ⟨rfl, rfl⟩ := hrel
    go_wp2
    go_ret
    exact ⟨rfl, rfl⟩
theorem digest_opt (vo : Option Addr) (b cap : Nat) (zs : List Int) (w : World) (hm : zs.length ≤ 70000) (hz : Bytes zs) (hD : DataAt w vo b cap zs) :
    Calls Tryz.prog 124 #[.slice vo zs.length cap] w fun e w' => e = .returned (.int .u64 (digestOf zs)) ∧ w' = w := by
  cases zs with
  | nil => exact digest_nil vo cap w
  | cons z r =>
    rw [hD.1 (by simp)]
    exact digest_any b 0 cap (z :: r) w hm hz hD.2.2

theorem Tryz.nilBytesF (w : World) : (binOp BinOp.eql 38 (.slice none 0 0) (.slice none 0 0)).run Tryz.prog w = .ok (.bool true) w := by kernel_rfl
set_option maxHeartbeats 400000 in
theorem clone_nilF (w : World) :
    Calls Tryz.prog 85 #[.slice none 0 0] w fun e w' => e = .returned (.slice none 0 0) ∧ w' = w := by
  have hnil := Tryz.nilBytesF
  go_enter Tryz.func85, Tryz.ntmps85
  go_wp2_with fail
  go_ret
  exact ⟨rfl, rfl⟩

/-- a list of files in memory, to be read: no data may be nil -/
def Ag (w : World) (v : Value) (fs : List (ByteArray × ByteArray)) : Prop :=
  ∃ va cap, v = .slice va fs.length cap ∧ fs.length ≤ cap ∧ ∀ i (hi : i < fs.length), ∃ g vo b cp, va = some ⟨g, 0, none⟩ ∧ g < w.heap.size ∧ w.cell? ⟨g, i * 2, none⟩ = some (.string fs[i].1) ∧ w.cell? ⟨g, i * 2 + 1, none⟩ = some (.slice vo (nums fs[i].2).length cp) ∧
    (vo = none ∧ cp = 0 ∨ vo = some ⟨b, 0, none⟩) ∧ DataAt w vo b cp (nums fs[i].2)
theorem Ag.below {w w' : World} {v : Value} {fs : List (ByteArray × ByteArray)} (h : Ag w v fs) (hb : Below w.heap.size w w') : Ag w' v fs := by
  obtain ⟨va, cap, h1, h2, h3⟩ := h
  refine ⟨va, cap, h1, h2, fun i hi => ?_⟩
  obtain ⟨g, vo, b, cp, e, hg, c0, c1, ho, hD⟩ := h3 i hi
  exact ⟨g, vo, b, cp, e, Nat.lt_of_lt_of_le hg hb.size, (hb.cell (p := ⟨g, _, none⟩) hg).trans c0, (hb.cell (p := ⟨g, _, none⟩) hg).trans c1, ho, hD.below hb⟩
theorem Af.ag {w : World} {v : Value} {fs : List (ByteArray × ByteArray)} (h : Af w v fs) : Ag w v fs := by
  obtain ⟨va, cap, h1, h2, h3⟩ := h
  refine ⟨va, cap, h1, h2, fun i hi => ?_⟩
  obtain ⟨g, b, cp, e, hg, c0, c1, hb1, hcp, hc⟩ := h3 i hi
  exact ⟨g, _, b, cp, e, hg, c0, by rw [nums_length]; exact c1, .inr rfl, fun _ => rfl, by rw [nums_length]; exact hcp, hc⟩

/-- files in memory that a call has built: name, bytes, where these lie -/
def fcells (ps : List (ByteArray × ByteArray × Value)) : List Value := ps.flatMap fun p => [.string p.1, p.2.2]
theorem fcells_snoc (l : List (ByteArray × ByteArray × Value)) (p : ByteArray × ByteArray × Value) : fcells (l ++ [p]) = fcells l ++ [.string p.1, p.2.2] := by simp [fcells]
theorem fcells_at : ∀ (l : List (ByteArray × ByteArray × Value)) (i : Nat) (h : i < l.length), (fcells l)[i * 2]? = some (.string l[i].1) ∧ (fcells l)[i * 2 + 1]? = some l[i].2.2
  | p :: l, 0, _ => by simp [fcells]
  | p :: l, i + 1, h => by
    have := fcells_at l i (by simpa using h)
    have e : fcells (p :: l) = .string p.1 :: p.2.2 :: fcells l := by simp [fcells]
    rw [e, show (i + 1) * 2 = i * 2 + 1 + 1 by omega]
    simpa using this
structure FileRow (w : World) (base : Nat) (v : Value) (ps : List (ByteArray × ByteArray × Value)) : Prop where
  row : w.ownsRow base 69 2 v ps.length (fcells ps)
  data : ∀ p ∈ ps, w.ownsRow base 5 1 p.2.2 (nums p.2.1).length (u8s (nums p.2.1))
  apart : ps.Pairwise fun p q => ∀ g g', p.2.2.ownBlock = some g → q.2.2.ownBlock = some g' → g < g'
  off : ∀ p ∈ ps, ∀ g, p.2.2.ownBlock = some g → v.ownBlock ≠ some g
/-- the file of such an entry -/
def frF (p : ByteArray × ByteArray × Value) : ByteArray × ByteArray := (p.1, p.2.1)
theorem FileRow.nil (w : World) (base : Nat) : FileRow w base (.slice none 0 0) [] := ⟨World.ownsRow_nil _ _ _ _, by simp, List.Pairwise.nil, by simp⟩
theorem FileRow.below {w w' : World} {base : Nat} {v : Value} {ps : List (ByteArray × ByteArray × Value)} (h : FileRow w base v ps) (hb : Below w.heap.size w w') : FileRow w' base v ps :=
  ⟨ownsRow_below h.row hb, fun p hp => ownsRow_below (h.data p hp) hb, h.apart, h.off⟩
theorem FileRow.base {w : World} {base base' : Nat} {v : Value} {ps : List (ByteArray × ByteArray × Value)} (h : FileRow w base v ps) (hb : base' ≤ base) : FileRow w base' v ps :=
  ⟨ownsRow_base h.row hb, fun p hp => ownsRow_base (h.data p hp) hb, h.apart, h.off⟩
theorem FileRow.push {w w' : World} {base : Nat} {v v' : Value} {ps : List (ByteArray × ByteArray × Value)} (h : FileRow w base v ps) (nm d : ByteArray) (u : Value)
    (hu : w.ownsRow base 5 1 u (nums d).length (u8s (nums d))) (hnew : ∀ p ∈ ps, ∀ g g', p.2.2.ownBlock = some g → u.ownBlock = some g' → g < g') (hoff : ∀ g, u.ownBlock = some g → v.ownBlock ≠ some g)
    (hown : w'.ownsRow base 69 2 v' (ps.length + 1) (fcells ps ++ [.string nm, u])) (hg : w.grownBy w' v.ownBlock) (hloc : v'.ownBlock = v.ownBlock ∨ ∃ k, w.heap.size ≤ k ∧ v'.ownBlock = some k) : FileRow w' base v' (ps ++ [(nm, d, u)]) := by
  have hne : ∀ (u : Value) (n : Nat) (xs : List Value), w.ownsRow base 5 1 u n xs → (∀ g, u.ownBlock = some g → v.ownBlock ≠ some g) → ∀ g, u.ownBlock = some g → v'.ownBlock ≠ some g := by
    intro u n xs hu hoff g hgu
    rcases hloc with e | ⟨k, hk, e⟩
    · rw [e]; exact hoff g hgu
    · rw [e]; intro e'; have := (hu.lt g hgu).2; simp at e'; omega
  have hkeep : ∀ (u : Value) (n : Nat) (xs : List Value), w.ownsRow base 5 1 u n xs → (∀ g, u.ownBlock = some g → v.ownBlock ≠ some g) → w'.ownsRow base 5 1 u n xs := by
    intro u n xs hu hoff
    refine hu.kept hg ?_
    cases hv : u.ownBlock with
    | none => exact .inl rfl
    | some k => exact .inr (fun e => hoff k hv e.symm)
  refine ⟨?_, ?_, ?_, ?_⟩
  · rw [fcells_snoc, List.length_append]; exact hown
  · intro p hp
    rw [List.mem_append] at hp
    rcases hp with hp | hp
    · exact hkeep _ _ _ (h.data p hp) (h.off p hp)
    · simp at hp; subst hp; exact hkeep _ _ _ hu hoff
  · rw [List.pairwise_append]
    exact ⟨h.apart, by simp, fun p hp q hq => by simp at hq; subst hq; exact hnew p hp⟩
  · intro p hp
    rw [List.mem_append] at hp
    rcases hp with hp | hp
    · exact hne _ _ _ (h.data p hp) (h.off p hp)
    · simp at hp; subst hp; exact hne _ _ _ hu hoff
theorem own_dataAt {w : World} {base : Nat} {u : Value} {zs : List Int} (h : w.ownsRow base 5 1 u zs.length (u8s zs)) : ∃ vo b cp, u = .slice vo zs.length cp ∧ (vo = none ∧ cp = 0 ∨ vo = some ⟨b, 0, none⟩ ∧ base ≤ b ∧ b < w.heap.size) ∧ DataAt w vo b cp zs := by
  rcases own_shape h with ⟨hv, hz⟩ | ⟨g, cp, hv, hb, hlt, hcp, _⟩
  · refine ⟨none, 0, 0, by rw [hv, hz]; rfl, .inl ⟨rfl, rfl⟩, ?_⟩
    rw [hz]
    exact ⟨fun h => by simp at h, by simp, fun k h => by simp at h⟩
  · refine ⟨_, g, cp, hv, .inr ⟨rfl, hb, hlt⟩, fun _ => rfl, hcp, fun k hk => ?_⟩
    rw [hv] at h
    rw [Nat.zero_add]
    exact own_cells h k hk
theorem FileRow.ag {w : World} {base : Nat} {v : Value} {ps : List (ByteArray × ByteArray × Value)} (h : FileRow w base v ps) : Ag w v (ps.map frF) := by
  rcases h.row.2 with ⟨hv, h0⟩ | ⟨g, cap, cur, hv, hb, hg, h1, _⟩
  · exact ⟨none, 0, by rw [hv, List.length_map, h0], by rw [List.length_map]; omega, fun i hi => by rw [List.length_map] at hi; omega⟩
  · have hlt : g < w.heap.size := (Array.getElem?_eq_some_iff.1 hg).1
    refine ⟨some ⟨g, 0, none⟩, cap, by rw [List.length_map]; exact hv, by rw [List.length_map]; exact h1, fun i hi => ?_⟩
    rw [List.length_map] at hi
    rw [List.getElem_map]
    obtain ⟨vo, b, cp, hu, ho, hD⟩ := own_dataAt (h.data _ (List.getElem_mem hi))
    refine ⟨g, vo, b, cp, rfl, hlt, ?_, ?_, ho.imp id (fun h => h.1), hD⟩
    · have := h.row.cells (g := g) (by rw [hv]; rfl) (i * 2) _ (fcells_at ps i hi).1
      rw [add_at] at this; exact this
    · have := h.row.cells (g := g) (by rw [hv]; rfl) (i * 2 + 1) _ (fcells_at ps i hi).2
      rw [add_at] at this; rw [this, hu]; rfl

/-- the stretch of memory in which a list of files lies, and that it reads so in any world that is alike there -/
def Tr (w : World) (lo hi : Nat) (v : Value) (fs : List (ByteArray × ByteArray)) : Prop :=
  hi ≤ w.heap.size ∧ ∀ W : World, hi ≤ W.heap.size → (∀ k, lo ≤ k → k < hi → W.heap[k]? = w.heap[k]?) → Ag W v fs
theorem Tr.same {w w' : World} {lo hi : Nat} {v : Value} {fs : List (ByteArray × ByteArray)} (h : Tr w lo hi v fs) (hs : hi ≤ w'.heap.size) (he : ∀ k, lo ≤ k → k < hi → w'.heap[k]? = w.heap[k]?) : Tr w' lo hi v fs :=
  ⟨hs, fun W hW hk => h.2 W hW fun k h1 h2 => (hk k h1 h2).trans (he k h1 h2)⟩
theorem Tr.below {w w' : World} {lo hi : Nat} {v : Value} {fs : List (ByteArray × ByteArray)} (h : Tr w lo hi v fs) (hb : Below w.heap.size w w') : Tr w' lo hi v fs :=
  h.same (Nat.le_trans h.1 hb.size) fun k _ h2 => hb.block k (Nat.lt_of_lt_of_le h2 h.1)
theorem Tr.grown {w w' : World} {lo hi : Nat} {v : Value} {fs : List (ByteArray × ByteArray)} {row : Option Nat} (h : Tr w lo hi v fs) (hg : w.grownBy w' row) (hr : ∀ k, row = some k → k < lo ∨ hi ≤ k) : Tr w' lo hi v fs :=
  h.same (Nat.le_trans h.1 hg.size) fun k h1 h2 => hg.block k (Nat.lt_of_lt_of_le h2 h.1) (fun e => by have := hr k e.symm; omega)
theorem Tr.ag {w : World} {lo hi : Nat} {v : Value} {fs : List (ByteArray × ByteArray)} (h : Tr w lo hi v fs) : Ag w v fs := h.2 w h.1 fun _ _ _ => rfl
theorem Tr.wide {w : World} {lo hi lo' hi' : Nat} {v : Value} {fs : List (ByteArray × ByteArray)} (h : Tr w lo hi v fs) (h1 : lo' ≤ lo) (h2 : hi ≤ hi') (h3 : hi' ≤ w.heap.size) : Tr w lo' hi' v fs :=
  ⟨h3, fun W hW hk => h.2 W (by omega) fun k a b => hk k (by omega) (by omega)⟩
theorem own_same {w W : World} {base : Nat} {e : TypeId} {size : Nat} {v : Value} {n : Nat} {xs : List Value} (h : w.ownsRow base e size v n xs) (hs : ∀ g, v.ownBlock = some g → W.heap[g]? = w.heap[g]?) : W.ownsRow base e size v n xs := by
  refine ⟨h.1, ?_⟩
  rcases h.2 with h | ⟨g, cap, cur, h1, h2, h3, h4⟩
  · exact .inl h
  · exact .inr ⟨g, cap, cur, h1, h2, (hs g (by rw [h1]; rfl)).trans h3, h4⟩
theorem FileRow.tr {w : World} {base hi : Nat} {v : Value} {ps : List (ByteArray × ByteArray × Value)} (h : FileRow w base v ps) (hh : hi ≤ w.heap.size) (h1 : ∀ g, v.ownBlock = some g → g < hi) (h2 : ∀ p ∈ ps, ∀ g, p.2.2.ownBlock = some g → g < hi) : Tr w base hi v (ps.map frF) := by
  refine ⟨hh, fun W hW hk => ?_⟩
  have : FileRow W base v ps := ⟨own_same h.row fun g hg => hk g (h.row.lt g hg).1 (h1 g hg), fun p hp => own_same (h.data p hp) fun g hg => hk g ((h.data p hp).lt g hg).1 (h2 p hp g hg), h.apart, h.off⟩
  exact this.ag
theorem FileRow.tr' {w : World} {base : Nat} {v : Value} {ps : List (ByteArray × ByteArray × Value)} (h : FileRow w base v ps) : Tr w base w.heap.size v (ps.map frF) :=
  h.tr (Nat.le_refl _) (fun g hg => (h.row.lt g hg).2) (fun p hp g hg => ((h.data p hp).lt g hg).2)
end Go.Proofs.YtbhccdedcoajmaaGreatDoor
namespace Go.Proofs.YtbhccdedcoajmaaGreatDoor
open Go.RowKit

theorem clone_gen (vo : Option Addr) (b cp : Nat) (zs : List Int) (w : World) (hm : zs.length ≤ 70000) (ho : vo = none ∧ cp = 0 ∨ vo = some ⟨b, 0, none⟩) (hD : DataAt w vo b cp zs) :
    Calls Tryz.prog 85 #[.slice vo zs.length cp] w fun e w' => ∃ ua un uc, e = .returned (.slice ua un uc) ∧ w'.ownsRow w.heap.size 5 1 (.slice ua un uc) zs.length (u8s zs) ∧ Below w.heap.size w w' := by
  rcases ho with ⟨rfl, rfl⟩ | rfl
  · have hz : zs = [] := by
      cases zs with
      | nil => rfl
      | cons z r => have := hD.1 (by simp); cases this
    subst hz
    refine (clone_nilF w).mono ?_
    rintro e w' ⟨rfl, rfl⟩
    exact ⟨none, 0, 0, rfl, World.ownsRow_nil _ _ _ _, Below.refl _ _⟩
  · refine (clone_any b 0 cp zs w hm hD.2.2).mono ?_
    rintro e w' ⟨v, rfl, h1, h2⟩
    obtain ⟨ua, un, uc, rfl⟩ : ∃ a n c, v = .slice a n c := by
      rcases h1.2 with ⟨h, _⟩ | ⟨g, c, cur, h, _⟩
      · exact ⟨_, _, _, h⟩
      · exact ⟨_, _, _, h⟩
    exact ⟨ua, un, uc, rfl, h1, h2⟩

set_option maxRecDepth 10000 in
set_option maxHeartbeats 2000000 in
/-- the same files in new memory -/
theorem tclone_any (v : Value) (fs : List (ByteArray × ByteArray)) (w : World) (hl : fs.length ≤ 70000) (hz : ∀ p ∈ fs, p.2.size ≤ 70000) (hF : Ag w v fs) :
    Calls Tryz.prog 60 #[v] w fun e w' => ∃ u ps, e = .returned u ∧ FileRow w' w.heap.size u ps ∧ ps.map frF = fs ∧ Below w.heap.size w w' := by
  obtain ⟨i0, hi, z0, z1, z2⟩ := info_parts Tryz.info69
  obtain ⟨va, cap, rfl, hcap, hcell⟩ := hF
  have HC : Hid (∀ k, k < fs.length → ∃ (g : Nat) (vo : Option Addr) (b cp : Nat) (a d : ByteArray), va = some ⟨g, 0, none⟩ ∧ g < w.heap.size ∧ w.cell? ⟨g, k * 2, none⟩ = some (.string a) ∧ w.cell? ⟨g, k * 2 + 1, none⟩ = some (.slice vo (nums d).length cp) ∧ (vo = none ∧ cp = 0 ∨ vo = some ⟨b, 0, none⟩) ∧ DataAt w vo b cp (nums d) ∧ (nums d).length ≤ 70000 ∧ fs.take (k + 1) = fs.take k ++ [(a, d)]) := by
    intro k hk
    obtain ⟨g, vo, b, cp, e, hg, c0, c1, ho, hD⟩ := hcell k hk
    exact ⟨g, vo, b, cp, _, _, e, hg, c0, c1, ho, hD, by rw [nums_length]; exact hz _ (List.getElem_mem hk), List.take_succ_eq_append_getElem hk⟩
  clear hcell hz
  have HTK : Hid (fs.take fs.length = fs) := List.take_of_length_le (Nat.le_refl _)
  generalize hN : fs.length = n at *
  clear hN
  go_enter Tryz.func60, Tryz.ntmps60
  go_wp2_with fail
  go_loopw [3, 8] (fun v3 v8 wr => ∃ (k : Nat) (ps : List (ByteArray × ByteArray × Value)), k ≤ n ∧ v8 = .int .i64 k ∧ Hid (ps.length = k ∧ ps.map frF = fs.take k) ∧ Hid (FileRow wr w.heap.size v3 ps) ∧ Hid (Below w.heap.size w wr)) (fun _ v8 _ => n - (intOf v8).toNat)
  case atStart => exact ⟨0, [], Nat.zero_le _, rfl, ⟨rfl, by simp⟩, FileRow.nil _ _, Below.refl _ _⟩
  case round =>
    obtain ⟨k, ps, hk, rfl, HPS, HFR, HBr⟩ := hrel
    by_cases hlt : k < n
    · obtain ⟨g, vo, b, cp, a, d, rfl, hg, c0, c1, ho, hD, hdl, hst⟩ := HC.out k hlt
      have d0 := (HBr.out.cell (p := ⟨g, k * 2, none⟩) hg).trans c0
      have d1 := (HBr.out.cell (p := ⟨g, k * 2 + 1, none⟩) hg).trans c1
      have HST := hide hst
      have hbs : w.heap.size ≤ wr.heap.size := HBr.out.size
      obtain ⟨o, hoo⟩ : ∃ o, o = Obj.cells #[.string a, .slice vo (nums d).length cp] 69 := ⟨_, rfl⟩
      have x0 : (wr.alloc o).cell? ⟨wr.heap.size, 0, none⟩ = some (.string a) := by rw [hoo]; exact cell_new rfl rfl
      have x1 : (wr.alloc o).cell? ⟨wr.heap.size, 1, none⟩ = some (.slice vo (nums d).length cp) := by rw [hoo]; exact cell_new rfl rfl
      have hba : Below wr.heap.size wr (wr.alloc o) := (Below.refl _ _).alloc (Nat.le_refl _) _
      have HBA : Hid (Below w.heap.size w (wr.alloc o)) := below_all HBr.out hba
      have HFA := hide (HFR.out.below hba)
      have HCL : Hid (Calls Tryz.prog 85 #[.slice vo (nums d).length cp] (wr.alloc o).drew fun e w' => ∃ ua un uc, e = .returned (.slice ua un uc) ∧ w'.ownsRow (wr.alloc o).heap.size 5 1 (.slice ua un uc) (nums d).length (u8s (nums d)) ∧ Below (wr.alloc o).heap.size (wr.alloc o) w') := by
        have hb2 : Below (wr.alloc o).heap.size (wr.alloc o) (wr.alloc o).drew := (Below.refl _ _).drew
        refine (clone_gen vo b cp (nums d) (wr.alloc o).drew hdl ho ((hD.below HBA.out).below hb2)).mono ?_
        rintro e w' ⟨ua, un, uc, rfl, h1, h2⟩
        exact ⟨ua, un, uc, rfl, h1, hb2.trans h2⟩
      rw [hoo] at x0 x1 HBA HFA HCL
      clear c0 c1 hst hoo hba hD ho
      generalize hdn : (nums d).length = dn at *
      have HDN := hide hdn
      clear hdn
      go_wp2_with fail
      generalize hWA : wr.alloc (.cells #[.string a, .slice vo dn cp] 69) = wa at *
      clear hWA
      have hwa : wr.heap.size < wa.heap.size := World.block_lt_of_cell? wa _ x0
      clear d0 d1
      go_region_held_law (fun w' => w'.cell? ⟨wr.heap.size, 0, none⟩ = some (.string a) ∧ w'.cell? ⟨wr.heap.size, 1, none⟩ = some (.slice vo dn cp))
        (first | exact ⟨x0, x1⟩ | exact ⟨e0, e1⟩ | exact ⟨by go_keep, by go_keep⟩ | (refine ⟨(hgrow.cell_far ⟨wr.heap.size, 0, none⟩ (by simp; omega) (fun e => by have := (HFR.out.row.lt _ e.symm).2; simp at this)).trans (by go_keep), (hgrow.cell_far ⟨wr.heap.size, 1, none⟩ (by simp; omega) (fun e => by have := (HFR.out.row.lt _ e.symm).2; simp at this)).trans (by go_keep)⟩))
        ((first | (go_at_call 85; refine HCL.out.mono ?_; rintro e w2 ⟨ua, un, uc, rfl, hnew, hb2⟩; have e0 := (hb2.cell (p := ⟨wr.heap.size, 0, none⟩) hwa).trans x0; have e1 := (hb2.cell (p := ⟨wr.heap.size, 1, none⟩) hwa).trans x1; have hs2 := hb2.size) | (refine step_append_lies _ (by rfl) _ _ _ (by rfl) w.heap.size 69 i0 _ 2 40 Tryz.underlying60 hi z0 z1 z2 rfl (by omega) u3 ps.length (fcells ps) (by rfl) ((ownsRow_below HFA.out.row hb2).alloc _) ⟨w2.heap.size, 0, none⟩ 1 1 [.string a, .slice ua un uc] (by rfl) (by rfl) (World.news_of_block (cs := #[.string a, .slice ua un uc]) (t := 69) (fr := (0, 0)) (heap_alloc_new w2 _)) (by simp [Value.oneCell']) (by omega) (by have := HPS.out.1; unfold maxLen; omega) (by have := HPS.out.1; omega) (by simp; omega) (w2.heap.size + 1) (by simp) ?_; intro g3 c3 w3 hown3 hgrow hat hlt3)))
      have hgg : w2.grownBy w3 u3.ownBlock := (World.grownBy_alloc w2 _ _).trans hgrow
      have HFR2 := HFA.out.below hb2
      have HB3 : Hid (Below w.heap.size w w3) := (below_all HBA.out hb2).grown hgg (by omega) (fun j hj => (HFR.out.row.lt j hj).1)
      have HFR3 : Hid (FileRow w3 w.heap.size (.slice (some ⟨g3, 0, none⟩) (ps.length + 1) c3) (ps ++ [(a, d, Value.slice ua un uc)])) := by
        refine HFR2.push a d (.slice ua un uc) (ownsRow_base (by rw [HDN.out]; exact hnew) (by omega)) (fun p hp q q' hq hq' => ?_) (fun q hq e => ?_) hown3 hgg ?_
        · have h1 := ((HFR.out.data p hp).lt q hq).2
          have h2 := (hnew.lt q' hq').1
          omega
        · have h1 := (hnew.lt q hq).1
          have h2 := (HFR.out.row.lt q e).2
          omega
        · rcases hat with h | h
          · exact .inl h.symm
          · exact .inr ⟨g3, by omega, rfl⟩
      have HPS3 : Hid ((ps ++ [(a, d, Value.slice ua un uc)]).length = k + 1 ∧ (ps ++ [(a, d, Value.slice ua un uc)]).map frF = fs.take (k + 1)) := by
        refine ⟨by simp [HPS.out.1], ?_⟩
        rw [HST.out, List.map_append, HPS.out.2]; rfl
      clear hown3 hgrow hat hlt3 hnew hb2 e0 e1 hs2 hgg HFR2 x0 x1
      go_wp2_with fail
      go_roundw
      case rel => exact ⟨k + 1, _, by omega, by go_num, HPS3.out, HFR3.out, HB3.out⟩
      case measure => simp [intOf]; omega
    · have hkn : k = n := by omega
      subst hkn
      go_wp2_with fail
      go_ret
      exact ⟨_, ps, rfl, HFR.out, by rw [HPS.out.2, HTK.out], HBr.out⟩
end Go.Proofs.YtbhccdedcoajmaaGreatDoor
namespace Go.Proofs.YtbhccdedcoajmaaGreatDoor
/-- the numbers of the lock's functions and types in this program -/
abbrev Tryz.muLink : Go.Conc.Locks.MuLink := { lock := 50, unlock := 51, ilock := 79, iunlock := 80, lockSlow := 115, unlockSlow := 117, disable := 88, enable := 89, acquire := 100, relMerge := 87, cas32 := 114, add32 := 116, tMutex := 135, tIMutex := 133, tPMutex := 181, tPIMutex := 222, tPI32 := 224, tUP := 168, tNoCopy := 130, tU32 := 131 }
theorem Tryz.muLib : Go.Conc.Locks.MuLib Tryz.prog Tryz.muLink :=
  ⟨Tryz.func50, Tryz.func51, Tryz.func79, Tryz.func80, Tryz.func88, Tryz.func89, Tryz.func100, Tryz.func87, Tryz.func114, Tryz.func116, Tryz.underlying133, Tryz.runUnderlying133, Tryz.sizeOf133, Tryz.isAgg133, Tryz.zeroValue133, Tryz.underlying135, Tryz.runUnderlying135, Tryz.sizeOf135, Tryz.isAgg135, Tryz.zeroValue135, Tryz.underlying181, Tryz.runUnderlying181, Tryz.sizeOf181, Tryz.isAgg181, Tryz.zeroValue181, Tryz.underlying222, Tryz.runUnderlying222, Tryz.sizeOf222, Tryz.isAgg222, Tryz.zeroValue222, Tryz.underlying224, Tryz.runUnderlying224, Tryz.sizeOf224, Tryz.isAgg224, Tryz.zeroValue224, Tryz.underlying168, Tryz.runUnderlying168, Tryz.sizeOf168, Tryz.isAgg168, Tryz.zeroValue168, Tryz.underlying130, Tryz.runUnderlying130, Tryz.sizeOf130, Tryz.isAgg130, Tryz.zeroValue130, Tryz.underlying21, Tryz.runUnderlying21, Tryz.sizeOf21, Tryz.isAgg21, Tryz.zeroValue21, (by kernel_rfl)⟩
end Go.Proofs.YtbhccdedcoajmaaGreatDoor
