import Derived.Test.YtbhccdedcoajmaaGreatDoorPStepM
import Derived.Deep.RegionWith
import Derived.Deep.DeepCutAuto
import Derived.Deep.CutBlock
namespace Go.Proofs.YtbhccdedcoajmaaGreatDoor
open Go.RowKit Go.MuLone

theorem ErrT.grown {w w' : World} {m : Nat} (h : ErrT w) (hg : w.grownBy w' (some m)) (hm : m ≠ 0) : ErrT w' := by
  unfold ErrT
  exact hg.cell h (by simp; exact Ne.symm hm)
theorem Mir.ne_err {w : World} {m : Nat} {room : Int} {lo hi : Nat} {v v2 : Value} {fs : List (ByteArray × ByteArray)} {down : Bool} (h : Mir w m room lo hi v v2 fs down) (he : ErrT w) : m ≠ 0 := by
  intro e
  subst e
  have h1 : w.cell? ⟨0, 0, none⟩ = some (.int .i32 0) := cell_row h.blk rfl
  unfold ErrT at he
  rw [h1] at he
  cases he
theorem filesP_le {l : List Int} {q : Nat × List Int} (h : filesP l = some q) : q.1 ≤ 8 := by
  unfold filesP at h
  simp only [Option.bind_eq_some_iff] at h
  obtain ⟨u, _, h⟩ := h
  split at h
  · cases h
    simp only
    omega
  · cases h
theorem targetsP_len (bas : List EntL) (B : Nat) : ∀ (n : Nat) (last l l' : List Int) (ts : List (EntL × List Tok)), targetsP bas B n false last l = some (ts, l') → ts.length = n
  | 0, last, l, l', ts, h => by
    simp only [targetsP, Option.some.injEq, Prod.mk.injEq] at h
    rw [← h.1]; rfl
  | n + 1, last, l, l', ts, h => by
    rw [targets_step] at h
    simp only [Option.bind_eq_some_iff, Option.map_eq_some_iff] at h
    obtain ⟨q, hq, q2, hq2, q3, hq3, h⟩ := h
    simp only [Prod.mk.injEq] at h
    rw [← h.1, List.length_cons, targetsP_len bas B n _ _ _ _ hq3]
theorem makeGo_len (fs : List (ByteArray × ByteArray)) (B : Nat) : ∀ (ts : List (EntL × List Tok)) (l : List (List Int × List Int)), makeGo fs B ts = .ok l → l.length = ts.length
  | [], l, h => by
    simp only [makeGo, Except.ok.injEq] at h
    rw [← h]; rfl
  | x :: ts, l, h => by
    rw [makeGo_cons] at h
    split at h
    · cases h
    · split at h
      · cases hg : makeGo fs B ts with
        | error n => rw [hg] at h; cases h
        | ok l2 =>
          rw [hg] at h
          simp only [Except.map, Except.ok.injEq] at h
          rw [← h, List.length_cons, makeGo_len fs B ts l2 hg, List.length_cons]
      · cases h
theorem replay_len {fs : List (ByteArray × ByteArray)} {s : ByteArray} {room : Int} {l : List (List Int × List Int)} (h : replayS fs (nums s) room = .ok l) : l.length ≤ 60000 := by
  unfold replayS at h
  cases hr : readL (nums s) with
  | none => rw [hr] at h; cases h
  | some b =>
    rw [hr] at h
    obtain ⟨bl, bs, ts⟩ := b
    simp only at h
    unfold replayL at h
    split at h
    · cases h
    · split at h
      · cases h
      · split at h
        · cases h
        · rename_i l2 hm
          simp only [Except.ok.injEq] at h
          subst h
          rw [makeGo_len _ _ _ _ hm]
          obtain ⟨_, _, _, _, _, l1, l3, _, h2, _⟩ := read_parts hr
          simp only [Option.bind_eq_some_iff] at h2
          obtain ⟨q, hq, h2⟩ := h2
          have h3 := targetsP_len _ _ _ _ _ _ _ h2
          have h4 := filesP_le hq
          simp only
          omega
/-- what Replay of any bytes comes to, for a mirror that is up -/
def RplQ (w : World) (m : Nat) (room : Int) (lo hi : Nat) (v : Value) (fs : List (ByteArray × ByteArray)) (s : ByteArray) (c : Int) (e0 : Value) (w' : World) : Prop :=
  match replayS fs (nums s) room with
  | .error q => ErrIs w' e0 q.1 q.2 ∧ Below w.heap.size w w'
  | .ok l => w.grownBy w' (some m) ∧ ((1 ≤ c ∧ c ≤ l.length + 2 ∧ e0 = crash12 ∧ ∃ bv', Mir w' m room lo hi v bv' fs true) ∨
      ∃ (gs : List (ByteArray × ByteArray)) (lo' hi' : Nat) (tv' bv' : Value), gs.map (fun p => (nums p.1, nums p.2)) = l ∧ w.heap.size ≤ lo' ∧ ((c = l.length + 3 ∧ e0 = crash12 ∧ Mir w' m room lo' hi' tv' bv' gs true) ∨ ((c < 1 ∨ l.length + 3 < c) ∧ e0 = .nilIface ∧ Mir w' m room lo' hi' tv' bv' gs false)))

theorem MkQ.sl {fs : List (ByteArray × ByteArray)} {s : ByteArray} {room : Int} {base : Nat} {r e0 : Value} {w' : World} (h : MkQ fs s room base r e0 w') : ∃ a n c, r = .slice a n c := by
  unfold MkQ at h
  split at h
  · exact ⟨_, _, _, h.1⟩
  · obtain ⟨_, ps, h1, _⟩ := h
    exact row_slice h1.row
theorem MkQ.below {fs : List (ByteArray × ByteArray)} {s : ByteArray} {room : Int} {base : Nat} {r e0 : Value} {w w' : World} (h : MkQ fs s room base r e0 w) (hb : Below w.heap.size w w') : MkQ fs s room base r e0 w' := by
  unfold MkQ at h ⊢
  split at h
  · exact ⟨h.1, h.2.below hb⟩
  · obtain ⟨h0, ps, h1, h2⟩ := h
    exact ⟨h0, ps, h1.below hb, h2⟩
theorem MkQ.set {fs : List (ByteArray × ByteArray)} {s : ByteArray} {room : Int} {base t : Nat} {r e0 : Value} {w : World} (h : MkQ fs s room base r e0 w) (ht : t < base) {a : Option Addr} {n c : Nat} (hc : w.cell? ⟨t, 0, none⟩ = some (.slice a n c)) (u : Value) : MkQ fs s room base r e0 (w.setCell ⟨t, 0, none⟩ u) := by
  unfold MkQ at h ⊢
  split at h
  · refine ⟨h.1, ?_⟩
    rcases h.2 with h | ⟨b, nm, h1, h2, c0, c1⟩
    · exact .inl h
    · have hne : b ≠ t := by
        intro e
        rw [e, hc] at c0
        cases c0
      exact .inr ⟨b, nm, h1, h2, (setCell_grown (w := w) (g := t) (j := 0) u).cell c0 (by simp; exact hne), (setCell_grown (w := w) (g := t) (j := 0) u).cell c1 (by simp; exact hne)⟩
  · obtain ⟨h0, ps, h1, h2⟩ := h
    exact ⟨h0, ps, h1.keepR (setCell_grown _) ht, h2⟩
theorem ErrIs.set {w : World} {e0 : Value} {k : Int} {n : List Int} {m : Nat} {kk : IntKind} {x : Int} (h : ErrIs w e0 k n) (hc : w.cell? ⟨m, 0, none⟩ = some (.int kk x)) (u : Value) : ErrIs (w.setCell ⟨m, 0, none⟩ u) e0 k n := by
  rcases h with h | ⟨b, nm, h1, h2, c0, c1⟩
  · exact .inl h
  · have hne : b ≠ m := by
      intro e
      rw [e, hc] at c0
      cases c0
    exact .inr ⟨b, nm, h1, h2, (setCell_grown (w := w) (g := m) (j := 0) u).cell c0 (by simp; exact hne), (setCell_grown (w := w) (g := m) (j := 0) u).cell c1 (by simp; exact hne)⟩
/-- the mirror's block, when run and Replay have left it -/
theorem fin_blk {w : World} {m E : Nat} {s0 : Value} {room : Int} {tv bv : Value} {d : Bool} {x : Value} (h : w.heap[m]? = some (.cells #[.int .i32 1, s0, .int .i64 room, tv, bv, .bool false] 139 (0, 0))) (hE : E ≠ m) : ((w.setCell ⟨m, 5, none⟩ (.bool d)).setCell ⟨E, 0, none⟩ x).heap[m]? = some (.cells #[.int .i32 1, s0, .int .i64 room, tv, bv, .bool d] 139 (0, 0)) := by
  rw [Below.heap_setCell _ _ _ _ (by simp; exact Ne.symm hE), heap_setCell_same _ _ _ _ _ _ h]; rfl
theorem Tryz.enter34 (a : Array Value) (W : World) : (callFunc 73 a).run Tryz.prog W = .ok (.enter 73 a) W := by
  simp [go_sem]

set_option maxRecDepth 10000 in
set_option maxHeartbeats 1000000 in
theorem mreplay_any (m : Nat) (room : Int) (lo hi : Nat) (v v2 : Value) (fs : List (ByteArray × ByteArray)) (g cap : Nat) (s : ByteArray) (c : Int) (w : World) (he : ErrT w) (hM : Mir w m room lo hi v v2 fs false) (hs : s.size ≤ 70000) (hcap : s.size ≤ cap) (h0 : 0 < cap) (hg : g < w.heap.size) (hgm : g ≠ m) (hc : ∀ k (h : k < (nums s).length), w.cell? ⟨g, 0 + k, none⟩ = some (.int .u8 (nums s)[k])) (hl : fs.length ≤ 60000) (hz : ∀ p ∈ fs, p.2.size ≤ 300) :
    Calls Tryz.prog 48 #[.pointer (some ⟨m, 0, none⟩), .slice (some ⟨g, 0, none⟩) s.size cap, .int .i64 c] w fun e w' => ∃ e0, e = .returned e0 ∧ RplQ w m room lo hi v fs s c e0 w' := by
  obtain ⟨va, vn, vc, rfl⟩ := hM.vsl
  have hme := hM.ne_err he
  have hmw := hM.lt
  obtain ⟨o1, ho1⟩ : ∃ o, o = Obj.cells #[.pointer (some ⟨m, 0, none⟩)] 44 := ⟨_, rfl⟩
  obtain ⟨o2, ho2⟩ : ∃ o, o = Obj.cells #[.int .i64 c] 3 := ⟨_, rfl⟩
  obtain ⟨W0, hW0⟩ : ∃ W0, W0 = (w.alloc o1).alloc o2 := ⟨_, rfl⟩
  have hb0 : Below w.heap.size w W0 := by rw [hW0]; exact ((Below.refl _ _).alloc (Nat.le_refl _) _).alloc (by simp) _
  have hsz0 : W0.heap.size = w.heap.size + 2 := by rw [hW0]; simp
  have a1 : W0.cell? ⟨w.heap.size, 0, none⟩ = some (.pointer (some ⟨m, 0, none⟩)) := by
    rw [hW0, World.cell?_alloc_lt _ _ _ (by simp), ho1]; exact cell_new rfl rfl
  have a2 : W0.cell? ⟨w.heap.size + 1, 0, none⟩ = some (.int .i64 c) := by
    rw [hW0, ho2]; exact cell_new (by simp) rfl
  have hM0 := hM.below hb0
  have c0 : W0.cell? ⟨m, 0, none⟩ = some (.int .i32 0) := cell_row hM0.blk rfl
  have f0 : W0.frozen? ⟨m, 0, none⟩ = false := frozen_of_row _ _ _ _ _ hM0.blk
  obtain ⟨W1, hW1⟩ : ∃ W1, W1 = W0.setCell ⟨m, 0, none⟩ (.int .i32 1) := ⟨_, rfl⟩
  have hb1 : W1.heap[m]? = some (.cells #[.int .i32 1, .int .u32 0, .int .i64 room, .slice va vn vc, v2, .bool false] 139 (0, 0)) := by
    rw [hW1, heap_setCell_same _ _ _ _ _ _ hM0.blk]; rfl
  have hg1 : W0.grownBy W1 (some m) := by rw [hW1]; exact setCell_grown _
  have hs1 : W1.heap.size = w.heap.size + 2 := by rw [hW1]; simp [hsz0]
  have htr1 : Tr W1 lo hi (.slice va vn vc) fs := hM0.tr.grown hg1 (fun k hk => by simp at hk; have := hM.off; omega)
  have b1 : W1.cell? ⟨w.heap.size, 0, none⟩ = some (.pointer (some ⟨m, 0, none⟩)) := hg1.cell a1 (by simp; omega)
  have b2 : W1.cell? ⟨w.heap.size + 1, 0, none⟩ = some (.int .i64 c) := hg1.cell a2 (by simp; omega)
  have b3 : W1.cell? ⟨m, 3, none⟩ = some (.slice va vn vc) := cell_row hb1 rfl
  have b5 : W1.cell? ⟨m, 5, none⟩ = some (.bool false) := cell_row hb1 rfl
  have b6 : W1.cell? ⟨m, 2, none⟩ = some (.int .i64 room) := cell_row hb1 rfl
  have HLK := hide (lock_free Tryz.muLib ⟨m, 0, none⟩ W0 c0 f0)
  rw [← hW1] at HLK
  have HE1 : Hid (ErrT W1) := (he.keep hb0).grown hg1 hme
  have hcW : ∀ k (h : k < (nums s).length), W1.cell? ⟨g, 0 + k, none⟩ = some (.int .u8 (nums s)[k]) := fun k h => hg1.cell ((hb0.cell (p := ⟨g, 0 + k, none⟩) hg).trans (hc k h)) (by simp; exact hgm)
  have HMK : Hid (∀ W : World, Below W1.heap.size W1 W → Calls Tryz.prog 72 #[.slice va vn vc, .slice (some ⟨g, 0, none⟩) s.size cap, .int .i64 room] W fun e w' => ∃ ra rn rc e0, e = .returned (.tuple #[.slice ra rn rc, e0]) ∧ MkQ fs s room W.heap.size (.slice ra rn rc) e0 w' ∧ Below W.heap.size W w') := by
    intro W hb
    refine (make_any (.slice va vn vc) fs g cap s room W (HE1.out.keep hb) hs hcap h0 (by have := hb.size; omega) (cells_below hcW hb) (by omega) hz (htr1.ag.below hb)).mono ?_
    rintro e w' ⟨r, e0, rfl, h1, h2⟩
    obtain ⟨ra, rn, rc, rfl⟩ := h1.sl
    exact ⟨ra, rn, rc, e0, rfl, h1, h2⟩
  have HTR : Hid (∀ W : World, Below W1.heap.size W1 W → Calls Tryz.prog 71 #[.pointer (some ⟨m, 3, none⟩)] W fun e w' => e = .returned (.slice va vn vc) ∧ w' = W) := fun W hb => dtree_any m 3 (.slice va vn vc) W ((hb.cell (p := ⟨m, 3, none⟩) (by show m < W1.heap.size; omega)).trans b3)
  have hA1 : w.heap.size < W1.heap.size := by omega
  have hm1 : m < W1.heap.size := by omega
  have HDD : Hid (∀ w3, Below (W1.alloc (.cells #[.slice none 0 0] 60)).drew.heap.size (W1.alloc (.cells #[.slice none 0 0] 60)).drew w3 → w3.cell? ⟨w.heap.size, 0, none⟩ = some (.pointer (some ⟨m, 0, none⟩)) ∧ w3.cell? ⟨m, 2, none⟩ = some (.int .i64 room) ∧ w3.cell? ⟨w.heap.size + 2, 0, none⟩ = some (.slice none 0 0) ∧ w3.frozen? ⟨w.heap.size + 2, 0, none⟩ = false) := by
    intro w3 h3
    have hz : (W1.alloc (.cells #[.slice none 0 0] 60)).drew.heap.size = w.heap.size + 3 := by show (W1.alloc _).heap.size = _; simp [hs1]
    have hbA : Below W1.heap.size W1 (W1.alloc (.cells #[.slice none 0 0] 60)).drew := ((Below.refl _ _).alloc (Nat.le_refl _) _).drew
    have htA : (W1.alloc (.cells #[.slice none 0 0] 60)).drew.heap[w.heap.size + 2]? = some (.cells #[.slice none 0 0] 60 (0, 0)) := by
      have := heap_alloc_new W1 (.cells #[.slice none 0 0] 60)
      rw [hs1] at this
      exact this
    have h4 := (h3.block (w.heap.size + 2) (by omega)).trans htA
    exact ⟨((h3.cell (p := ⟨w.heap.size, 0, none⟩) (by show w.heap.size < _; omega)).trans (hbA.cell (p := ⟨w.heap.size, 0, none⟩) hA1)).trans b1, ((h3.cell (p := ⟨m, 2, none⟩) (by show m < _; omega)).trans (hbA.cell (p := ⟨m, 2, none⟩) hm1)).trans b6, cell_row h4 rfl, frozen_of_row _ _ _ _ _ h4⟩
  have HEARLY : Hid (∀ (w3 : World) (ra : Option Addr) (rn rc : Nat) (e0 : Value), MkQ fs s room (W1.alloc (.cells #[.slice none 0 0] 60)).drew.heap.size (.slice ra rn rc) e0 w3 → Below (W1.alloc (.cells #[.slice none 0 0] 60)).drew.heap.size (W1.alloc (.cells #[.slice none 0 0] 60)).drew w3 → w.heap.size + 2 < (w3.setCell ⟨w.heap.size + 2, 0, none⟩ (.slice ra rn rc)).heap.size ∧ w.heap.size + 3 ≤ (w3.setCell ⟨w.heap.size + 2, 0, none⟩ (.slice ra rn rc)).heap.size ∧ (w3.setCell ⟨w.heap.size + 2, 0, none⟩ (.slice ra rn rc)).heap[w.heap.size + 2]? = some (.cells #[.slice ra rn rc] 60 (0, 0)) ∧ MkQ fs s room (w.heap.size + 3) (.slice ra rn rc) e0 (w3.setCell ⟨w.heap.size + 2, 0, none⟩ (.slice ra rn rc)) ∧ Below (w.heap.size + 2) W1 (w3.setCell ⟨w.heap.size + 2, 0, none⟩ (.slice ra rn rc))) := by
    intro w3 ra rn rc e0 hq h3
    have hz : (W1.alloc (.cells #[.slice none 0 0] 60)).drew.heap.size = w.heap.size + 3 := by show (W1.alloc _).heap.size = _; simp [hs1]
    have hbA : Below W1.heap.size W1 (W1.alloc (.cells #[.slice none 0 0] 60)).drew := ((Below.refl _ _).alloc (Nat.le_refl _) _).drew
    have htA : (W1.alloc (.cells #[.slice none 0 0] 60)).drew.heap[w.heap.size + 2]? = some (.cells #[.slice none 0 0] 60 (0, 0)) := by
      have := heap_alloc_new W1 (.cells #[.slice none 0 0] 60)
      rw [hs1] at this
      exact this
    rw [hz] at hq h3
    have h4 := (h3.block (w.heap.size + 2) (by omega)).trans htA
    have hsz := h3.size
    rw [hz] at hsz
    have hss := (setCell_grown (w := w3) (g := w.heap.size + 2) (j := 0) (.slice ra rn rc)).size
    refine ⟨by omega, by omega, ?_, hq.set (by omega) (cell_row h4 rfl) _, ?_⟩
    · rw [heap_setCell_same _ _ _ _ _ _ h4]; rfl
    · rw [hs1] at hbA
      exact (hbA.trans (h3.mono (by omega))).setCell (p := ⟨w.heap.size + 2, 0, none⟩) (by simp) _
  have HB1 := hide hb1
  have HG1 := hide hg1
  have HT1 := hide htr1
  have HW0 := hide hW0
  have HB0 := hide hb0
  have HM := hide hM
  rw [ho1, ho2] at HW0
  clear hb0 hM0 c0 f0 hb1 hg1 htr1 hcW hc hM hz he hW0 ho1 ho2 hW1 a1 a2
  have hmf : ∀ (fn : Fn) (first cap : Array Value) (w : World), (Instr.makeFunc fn first cap).run Tryz.prog w = .ok (.func fn first cap) w := fun _ _ _ _ => rfl
  go_enter_defers Tryz.func48, Tryz.ntmps48
  go_wp2_with fail
  rw [← HW0.out]
  refine HLK.out.mono ?_
  rintro e w1 ⟨rfl, hw1⟩
  obtain rfl := hw1.symm
  go_upto_region 7 with fail
  go_cut [7, 8] from 24 to 36 (fun v7 v8 wc => ∃ (t B : Nat) (ra : Option Addr) (rn rc : Nat), v7 = .pointer (some ⟨t, 0, none⟩) ∧ w.heap.size + 2 ≤ t ∧ t < wc.heap.size ∧ w.heap.size + 2 ≤ B ∧ B ≤ wc.heap.size ∧ Hid (wc.heap[t]? = some (.cells #[.slice ra rn rc] 60 (0, 0))) ∧ Hid (MkQ fs s room B (.slice ra rn rc) v8 wc) ∧ Hid (Below (w.heap.size + 2) W1 wc))
  case first =>
    go_wp2_with fail
    go_region_held3 (fun w' => w'.cell? ⟨w.heap.size, 0, none⟩ = some (.pointer (some ⟨m, 0, none⟩)) ∧ w'.cell? ⟨m, 2, none⟩ = some (.int .i64 room))
      (first | exact ⟨b1, b6⟩ | exact ⟨d1, d6⟩ | exact ⟨by go_keep, by go_keep⟩ | exact ⟨(World.cell?_setCell_other w3 ⟨w.heap.size + 2, 0, none⟩ ⟨w.heap.size, 0, none⟩ _ (by simp)).trans d1, (World.cell?_setCell_other w3 ⟨w.heap.size + 2, 0, none⟩ ⟨m, 2, none⟩ _ (by simp)).trans d6⟩)
      ((first | (go_at_call 71; refine (HTR.out _ ?_).mono ?_; (first | exact (Below.refl _ _).drew | exact ((Below.refl _ _).alloc (Nat.le_refl _) _).drew); rintro e w2 ⟨rfl, hw2⟩; obtain rfl := hw2.symm) | (go_at_call 72; refine (HMK.out W1.drew (Below.refl _ _).drew).mono ?_; rintro e w3 ⟨ra, rn, rc, e0, rfl, hmk, hb3⟩; have d1 := (hb3.cell (p := ⟨w.heap.size, 0, none⟩) hA1).trans b1; have d6 := (hb3.cell (p := ⟨m, 2, none⟩) hm1).trans b6) | (go_at_call 72; refine (HMK.out (W1.alloc (.cells #[.slice none 0 0] 60)).drew ((Below.refl _ _).alloc (Nat.le_refl _) _).drew).mono ?_; rintro e w3 ⟨ra, rn, rc, e0, rfl, hmk, hb3⟩; obtain ⟨d1, d6, dt, df⟩ := HDD.out w3 hb3)))
    all_goals go_wp2_with fail
    all_goals go_meet
    all_goals first
      | (refine ⟨w3.heap.size, W1.heap.size, ra, rn, rc, rfl, ?_, ?_, ?_, ?_, ?_, hmk.below ((Below.refl _ _).alloc (Nat.le_refl _) _), ?_⟩
         · have := hb3.size; have : W1.drew.heap.size = W1.heap.size := rfl; omega
         · simp
         · omega
         · have := hb3.size; have : W1.drew.heap.size = W1.heap.size := rfl; simp; omega
         · exact heap_alloc_new _ _
         · have := hb3.size; have h9 : W1.drew.heap.size = W1.heap.size := rfl; rw [h9] at hb3; rw [← hs1]; exact below_all ((Below.refl _ _).drew) (below_all hb3 ((Below.refl _ _).alloc (Nat.le_refl _) _)))
      | (obtain ⟨e1, e2, e3, e4, e5⟩ := HEARLY.out w3 ra rn rc e0 hmk hb3
         exact ⟨w.heap.size + 2, w.heap.size + 3, ra, rn, rc, rfl, Nat.le_refl _, e1, by omega, e2, e3, e4, e5⟩)
  case rest =>
    clear HMK HTR HDD HEARLY HLK
    obtain ⟨t, B, ra, rn, rc, rfl, ht1, ht2, hB1, hB2, HTB, HMK, HBC⟩ := hcut
    have HGC : Hid (w.grownBy wc (some m)) := ((grown_of_below HB0.out).trans HG1.out).trans ⟨HBC.out.os, HBC.out.tape, HBC.out.output, HBC.out.size, fun k hk _ => HBC.out.block k (by omega)⟩
    have hmk := HMK.out
    unfold MkQ at hmk
    cases hrs : replayS fs (nums s) room with
    | error q =>
      rw [hrs] at hmk
      obtain ⟨hr, herr⟩ := hmk
      obtain ⟨et, eu, rfl⟩ := herr.shape
      have hbk : wc.heap[m]? = some (.cells #[.int .i32 1, .int .u32 0, .int .i64 room, .slice va vn vc, v2, .bool false] 139 (0, 0)) := (HBC.out.block m (by omega)).trans HB1.out
      have HBK := hide hbk
      have HER := hide herr
      have HRS := hide hrs
      clear hr herr hrs hbk HMK
      go_wp2_with fail
      refine leaves_cons (f := 51) (args := #[.pointer (some ⟨m, 0, none⟩)]) (by simp) (by simp [go_sem]) ?_
      refine (unlock_deferred Tryz.muLib ⟨m, 0, none⟩ .returning _ (cell_row HBK.out rfl) (frozen_of_row _ _ _ _ _ HBK.out)).mono ?_
      rintro e u' w'' ⟨rfl, rfl, rfl⟩
      have hbe : (wc.setCell ⟨m, 0, none⟩ (.int .i32 0)).heap[m]? = w.heap[m]? := by
        rw [heap_setCell_same _ _ _ _ _ _ HBK.out, HM.out.blk]; rfl
      refine ⟨_, results_tmp rfl _ _ _, _, rfl, ?_⟩
      unfold RplQ
      rw [HRS.out]
      exact ⟨HER.out.set (cell_row HBK.out rfl) _, below_of_grown (HGC.out.trans (setCell_grown _)) hbe⟩
    | ok l =>
      rw [hrs] at hmk
      obtain ⟨rfl, ps, hfr, hps⟩ := hmk
      have hbk : wc.heap[m]? = some (.cells #[.int .i32 1, .int .u32 0, .int .i64 room, .slice va vn vc, v2, .bool false] 139 (0, 0)) := (HBC.out.block m (by omega)).trans HB1.out
      have q1 : wc.cell? ⟨w.heap.size, 0, none⟩ = some (.pointer (some ⟨m, 0, none⟩)) := (HBC.out.cell (p := ⟨w.heap.size, 0, none⟩) (by simp)).trans b1
      have q2 : wc.cell? ⟨w.heap.size + 1, 0, none⟩ = some (.int .i64 c) := (HBC.out.cell (p := ⟨w.heap.size + 1, 0, none⟩) (by simp)).trans b2
      have q3 : wc.cell? ⟨t, 0, none⟩ = some (.slice ra rn rc) := cell_row HTB.out rfl
      have hrb := runW_below wc m
      have hpl : ps.length = l.length := by rw [← hps]; simp
      have HLL : Hid (l.length ≤ 60000) := replay_len hrs
      have hlw : w.heap.size < wc.heap.size := by omega
      have HST : Hid (Calls Tryz.prog 73 #[.pointer (some ⟨w.heap.size, 0, none⟩), .pointer (some ⟨t, 0, none⟩), .pointer (some ⟨w.heap.size + 1, 0, none⟩)] (runW wc m) fun e w' => RepQ (runW wc m) m (.int .i32 1) (.int .u32 0) room (.slice va vn vc) (.bool false) c B ps e w') :=
        steps_replay w.heap.size t (w.heap.size + 1) m (.int .i32 1) (.int .u32 0) room (.slice va vn vc) v2 (.bool false) c B (.slice ra rn rc) ps (runW wc m) ((hrb.cell (p := ⟨w.heap.size, 0, none⟩) hlw).trans q1) ((hrb.cell (p := ⟨t, 0, none⟩) ht2).trans q3) ((hrb.cell (p := ⟨w.heap.size + 1, 0, none⟩) (by show w.heap.size + 1 < _; omega)).trans q2) (by omega) (by omega) (by omega) ((hrb.block m (by omega)).trans hbk) (by omega) (by rw [runW_size]; omega) ⟨_, _, _, rfl⟩ HM.out.sl (hfr.below hrb) (by have := HLL.out; omega)
      have HKP : Hid (∀ e w', RepQ (runW wc m) m (.int .i32 1) (.int .u32 0) room (.slice va vn vc) (.bool false) c B ps e w' → Kept wc m w') := by
        rintro e w' ⟨tv', bv', r1, r2, r3, _⟩
        exact ⟨r3.cell (runW_c1 wc m) (by simp; omega), ⟨_, cell_row r1 rfl⟩, frozen_of_row _ _ _ _ _ r1, (r3.block _ (by rw [runW_size]; omega) (by simp; omega)).trans (runW_blk wc m)⟩
      have HFIN : Hid (∀ (w1 : World) (tv' bv' : Value) (d : Bool) (x : Value), w1.heap[m]? = some (.cells #[.int .i32 1, .int .u32 0, .int .i64 room, tv', bv', .bool false] 139 (0, 0)) → (runW wc m).grownBy w1 (some m) → w.grownBy (((w1.setCell ⟨m, 5, none⟩ (.bool d)).setCell ⟨wc.heap.size + 1, 0, none⟩ x).setCell ⟨m, 0, none⟩ (.int .i32 0)) (some m) ∧ (((w1.setCell ⟨m, 5, none⟩ (.bool d)).setCell ⟨wc.heap.size + 1, 0, none⟩ x).setCell ⟨m, 0, none⟩ (.int .i32 0)).heap[m]? = some (.cells #[.int .i32 0, .int .u32 0, .int .i64 room, tv', bv', .bool d] 139 (0, 0))) := by
        intro w1 tv' bv' d x h1 h2
        refine ⟨((grown_comp ((HGC.out.trans (grown_of_below hrb)).trans h2 |>.trans (setCell_grown _)) (setCell_grown (g := wc.heap.size + 1) (j := 0) x) (fun k hk => by simp at hk; omega))).trans (setCell_grown _), ?_⟩
        rw [heap_setCell_same _ _ _ _ _ _ (fin_blk h1 (by omega))]; rfl
      have HROW : Hid (∀ (w1 : World) (tv' : Value) (d : Bool) (x : Value), FileRow w1 B tv' ps → (∀ g, tv'.ownBlock = some g → (runW wc m).heap.size < g) → FileRow (((w1.setCell ⟨m, 5, none⟩ (.bool d)).setCell ⟨wc.heap.size + 1, 0, none⟩ x).setCell ⟨m, 0, none⟩ (.int .i32 0)) B tv' ps) := by
        intro w1 tv' d x h1 h2
        refine (((h1.keepR (setCell_grown _) (by omega)).off1 (P := wc.heap.size + 1) (fun g hg => ?_) (fun p hp g hg => ?_) (setCell_grown _))).keepR (setCell_grown _) (by omega)
        · have := h2 g hg
          rw [runW_size] at this
          omega
        · have := ((hfr.data p hp).lt g hg).2
          omega
      have HTRO : Hid (∀ (W : World) (bv' : Value), (∃ a n c, bv' = .slice a n c) → W.heap[m]? = some (.cells #[.int .i32 0, .int .u32 0, .int .i64 room, .slice va vn vc, bv', .bool true] 139 (0, 0)) → w.grownBy W (some m) → Mir W m room lo hi (.slice va vn vc) bv' fs true) := fun W bv' h1 h2 h3 => ⟨h2, HM.out.tr.grown h3 (fun k hk => by simp at hk; have := HM.out.off; omega), HM.out.off, h1⟩
      have HGS : Hid ((ps.map frF).map (fun p => (nums p.1, nums p.2)) = l) := by
        show _ = _
        rw [List.map_map, ← hps]; rfl
      have hen := Tryz.enter34 #[.pointer (some ⟨w.heap.size, 0, none⟩), .pointer (some ⟨t, 0, none⟩), .pointer (some ⟨w.heap.size + 1, 0, none⟩)]
      have HEN := hide hen
      have HRS := hide hrs
      clear hrs hfr hps hbk hrb hen HMK HTB q2 q3
      have hmwc : m < wc.heap.size := by omega
      by_cases hcc : c < 1 ∨ l.length + 3 < c
      · have HRUN := hide (run_well m 73 #[.pointer (some ⟨w.heap.size, 0, none⟩), .pointer (some ⟨t, 0, none⟩), .pointer (some ⟨w.heap.size + 1, 0, none⟩)] wc (fun w' => RepQ (runW wc m) m (.int .i32 1) (.int .u32 0) room (.slice va vn vc) (.bool false) c B ps (.returned (.tuple #[])) w') hmwc HEN.out (HST.out.mono (by
          rintro e w' hq
          have hq' := hq
          obtain ⟨tv', bv', r1, r2, r3, r4⟩ := hq
          rcases r4 with ⟨_, p1, p2, _⟩ | ⟨_, p1, _⟩ | ⟨rfl, _, _⟩
          · omega
          · omega
          · exact ⟨rfl, HKP.out _ _ hq', hq'⟩)))
        go_wp2_with fail
        refine HRUN.out.mono ?_
        rintro e w5 ⟨rfl, w1, ⟨tv', bv', r1, r2, r3, r4⟩, rfl⟩
        obtain ⟨hfr, hnew⟩ : FileRow w1 B tv' ps ∧ ∀ g, tv'.ownBlock = some g → (runW wc m).heap.size < g := by
          rcases r4 with ⟨h, _⟩ | ⟨h, _⟩ | ⟨_, _, h1, h2⟩
          · cases h
          · cases h
          · exact ⟨h1, h2⟩
        have hb5 := fin_blk (d := false) (x := .nilIface) r1 (show wc.heap.size + 1 ≠ m by omega)
        go_wp2_with fail
        refine leaves_cons (f := 51) (args := #[.pointer (some ⟨m, 0, none⟩)]) (by simp) (by simp [go_sem]) ?_
        refine (unlock_deferred Tryz.muLib ⟨m, 0, none⟩ .returning _ (cell_row hb5 rfl) (frozen_of_row _ _ _ _ _ hb5)).mono ?_
        rintro e u' w'' ⟨rfl, rfl, rfl⟩
        obtain ⟨g1, g2⟩ := HFIN.out w1 tv' bv' false .nilIface r1 r3
        refine ⟨_, results_tmp rfl _ _ _, _, rfl, ?_⟩
        unfold RplQ
        rw [HRS.out]
        exact ⟨g1, .inr ⟨ps.map frF, B, _, tv', bv', HGS.out, by omega, .inr ⟨hcc, rfl, ⟨g2, (HROW.out w1 tv' false .nilIface hfr hnew).tr', .inl (by omega), r2⟩⟩⟩⟩
      · have HRUN := hide (run_pan m 73 #[.pointer (some ⟨w.heap.size, 0, none⟩), .pointer (some ⟨t, 0, none⟩), .pointer (some ⟨w.heap.size + 1, 0, none⟩)] wc (fun w' => RepQ (runW wc m) m (.int .i32 1) (.int .u32 0) room (.slice va vn vc) (.bool false) c B ps (.panicked [{ v := crash12, recovered := false }]) w') hmwc HEN.out (HST.out.mono (by
          rintro e w' hq
          have hq' := hq
          obtain ⟨tv', bv', r1, r2, r3, r4⟩ := hq
          rcases r4 with ⟨rfl, _⟩ | ⟨rfl, _⟩ | ⟨rfl, p1, _⟩
          · exact ⟨rfl, HKP.out _ _ hq', hq'⟩
          · exact ⟨rfl, HKP.out _ _ hq', hq'⟩
          · omega)))
        go_wp2_with fail
        refine HRUN.out.mono ?_
        rintro e w5 ⟨rfl, w1, ⟨tv', bv', r1, r2, r3, r4⟩, rfl⟩
        have hb5 := fin_blk (d := true) (x := crash12) r1 (show wc.heap.size + 1 ≠ m by omega)
        go_wp2_with fail
        refine leaves_cons (f := 51) (args := #[.pointer (some ⟨m, 0, none⟩)]) (by simp) (by simp [go_sem]) ?_
        refine (unlock_deferred Tryz.muLib ⟨m, 0, none⟩ .returning _ (cell_row hb5 rfl) (frozen_of_row _ _ _ _ _ hb5)).mono ?_
        rintro e u' w'' ⟨rfl, rfl, rfl⟩
        obtain ⟨g1, g2⟩ := HFIN.out w1 tv' bv' true crash12 r1 r3
        refine ⟨_, results_tmp rfl _ _ _, _, rfl, ?_⟩
        unfold RplQ
        rw [HRS.out]
        refine ⟨g1, ?_⟩
        rcases r4 with ⟨_, p1, p2, rfl⟩ | ⟨_, p1, p2, p3⟩ | ⟨h, _⟩
        · exact .inl ⟨p1, by omega, rfl, bv', HTRO.out _ bv' r2 g2 g1⟩
        · exact .inr ⟨ps.map frF, B, _, tv', bv', HGS.out, by omega, .inl ⟨by omega, rfl, ⟨g2, (HROW.out w1 tv' true crash12 p2 p3).tr', .inl (by omega), r2⟩⟩⟩
        · cases h
end Go.Proofs.YtbhccdedcoajmaaGreatDoor
