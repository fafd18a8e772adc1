import Derived.Test.YtbhccdedcoajmaaGreatDoorPRepl
import Derived.RegionDies
namespace Go.Proofs.YtbhccdedcoajmaaGreatDoor
open Go.RowKit Go.MuLone

/-- what plain.Replay tells of a mirror that is up -/
def PRplQ (w : World) (m : Nat) (room : Int) (lo hi : Nat) (v : Value) (fs : List (ByteArray × ByteArray)) (s : ByteArray) (c : Int) (k : Int) (nm : ByteArray) (w' : World) : Prop :=
  match replayS fs (nums s) room with
  | .error q => k = q.1 ∧ nums nm = q.2 ∧ Below w.heap.size w w'
  | .ok l => nm = ⟨#[]⟩ ∧ w.grownBy w' (some m) ∧ ((1 ≤ c ∧ c ≤ l.length + 2 ∧ k = 12 ∧ ∃ bv', Mir w' m room lo hi v bv' fs true) ∨
      ∃ (gs : List (ByteArray × ByteArray)) (lo' hi' : Nat) (tv' bv' : Value), gs.map (fun p => (nums p.1, nums p.2)) = l ∧ w.heap.size ≤ lo' ∧ ((c = l.length + 3 ∧ k = 12 ∧ Mir w' m room lo' hi' tv' bv' gs true) ∨ ((c < 1 ∨ l.length + 3 < c) ∧ k = 0 ∧ Mir w' m room lo' hi' tv' bv' gs false)))
theorem plainReplay_any (pv bv cv : Value) (w : World) (Q : Int → ByteArray → World → Prop)
    (hc : Calls Tryz.prog 48 #[pv, bv, cv] w fun e w' => ∃ e0, e = .returned e0 ∧ Calls Tryz.prog 33 #[e0] w' fun e w2 => ∃ k n, e = .returned (.tuple #[.int .i64 k, .string n]) ∧ Q k n w2) :
    Calls Tryz.prog 32 #[pv, bv, cv] w fun e w' => ∃ k n, e = .returned (.tuple #[.int .i64 k, .string n]) ∧ Q k n w' := by
  have HC := hide hc
  clear hc
  go_enter Tryz.func32, Tryz.ntmps32
  go_wp2_with fail
  refine HC.out.mono ?_
  rintro e w1 ⟨e0, rfl, ht⟩
  have HT := hide ht
  clear ht HC
  go_wp2_with fail
  refine HT.out.mono ?_
  rintro e w2 ⟨k, n, rfl, hq⟩
  have HQ := hide hq
  clear hq HT
  go_wp2_with fail
  go_ret2
  exact ⟨_, _, rfl, HQ.out⟩
theorem pReplay_any (m : Nat) (room : Int) (lo hi : Nat) (v v2 : Value) (fs : List (ByteArray × ByteArray)) (g cap : Nat) (s : ByteArray) (c : Int) (w : World) (he : ErrT w) (hM : Mir w m room lo hi v v2 fs false) (hs : s.size ≤ 70000) (hcap : s.size ≤ cap) (h0 : 0 < cap) (hg : g < w.heap.size) (hgm : g ≠ m) (hc : ∀ k (h : k < (nums s).length), w.cell? ⟨g, 0 + k, none⟩ = some (.int .u8 (nums s)[k])) (hl : fs.length ≤ 60000) (hz : ∀ p ∈ fs, p.2.size ≤ 300) :
    Calls Tryz.prog 32 #[.pointer (some ⟨m, 0, none⟩), .slice (some ⟨g, 0, none⟩) s.size cap, .int .i64 c] w fun e w' => ∃ k n, e = .returned (.tuple #[.int .i64 k, .string n]) ∧ PRplQ w m room lo hi v fs s c k n w' := by
  have hme := hM.ne_err he
  refine plainReplay_any _ _ _ w (fun k n w' => PRplQ w m room lo hi v fs s c k n w') ((mreplay_any m room lo hi v v2 fs g cap s c w he hM hs hcap h0 hg hgm hc hl hz).mono ?_)
  rintro e w' ⟨e0, rfl, hq⟩
  refine ⟨e0, rfl, ?_⟩
  unfold RplQ at hq
  cases hr : replayS fs (nums s) room with
  | error q =>
    rw [hr] at hq
    refine (told_err hq.1 (he.keep hq.2)).mono ?_
    rintro e w2 ⟨nm, rfl, hn, hb⟩
    refine ⟨_, _, rfl, ?_⟩
    unfold PRplQ
    rw [hr]
    exact ⟨rfl, hn, below_all hq.2 hb⟩
  | ok l =>
    rw [hr] at hq
    obtain ⟨hg1, hq⟩ := hq
    have he1 := he.grown hg1 hme
    rcases hq with ⟨c1, c2, rfl, bv', hM'⟩ | ⟨gs, lo', hi', tv', bv', hgs, hlo, hq⟩
    · refine (told_kind 12 w' he1).mono ?_
      rintro e w2 ⟨rfl, hb⟩
      refine ⟨_, _, rfl, ?_⟩
      unfold PRplQ
      rw [hr]
      exact ⟨rfl, hg1.trans (grown_of_below hb), .inl ⟨c1, c2, rfl, bv', hM'.below hb⟩⟩
    · rcases hq with ⟨c1, rfl, hM'⟩ | ⟨c1, rfl, hM'⟩
      · refine (told_kind 12 w' he1).mono ?_
        rintro e w2 ⟨rfl, hb⟩
        refine ⟨_, _, rfl, ?_⟩
        unfold PRplQ
        rw [hr]
        exact ⟨rfl, hg1.trans (grown_of_below hb), .inr ⟨gs, lo', hi', tv', bv', hgs, hlo, .inl ⟨c1, rfl, hM'.below hb⟩⟩⟩
      · refine (told_nil w').mono ?_
        rintro e w2 ⟨rfl, hb⟩
        refine ⟨_, _, rfl, ?_⟩
        unfold PRplQ
        rw [hr]
        exact ⟨rfl, hg1.trans (grown_of_below hb), .inr ⟨gs, lo', hi', tv', bv', hgs, hlo, .inr ⟨c1, rfl, hM'.below hb⟩⟩⟩
end Go.Proofs.YtbhccdedcoajmaaGreatDoor
namespace Go.Proofs.YtbhccdedcoajmaaGreatDoor
open Go.RowKit Go.MuLone

/-- what the disk's Clean leaves of a mirror -/
def ClnQ (w : World) (m : Nat) (l0 s0 : Value) (room : Int) (tv dn : Value) (c : Int) (e : Ending) (w' : World) : Prop :=
  ∃ bv', w'.heap[m]? = some (.cells #[l0, s0, .int .i64 room, tv, bv', dn] 139 (0, 0)) ∧ (∃ a n c, bv' = .slice a n c) ∧ w.grownBy w' (some m) ∧ ((e = .panicked [{ v := crash12, recovered := false }] ∧ c = 1) ∨ (e = .returned (.tuple #[]) ∧ c ≠ 1))
set_option maxRecDepth 10000 in
set_option maxHeartbeats 1000000 in
theorem clean_any (m : Nat) (l0 s0 : Value) (room : Int) (tv bv dn : Value) (c : Int) (w : World) (hm : w.heap[m]? = some (.cells #[l0, s0, .int .i64 room, tv, bv, dn] 139 (0, 0))) (hbv : ∃ a n c, bv = .slice a n c) :
    Calls Tryz.prog 54 #[.pointer (some ⟨m, 3, none⟩), .int .i64 c] w fun e w' => ClnQ w m l0 s0 room tv dn c e w' := by
  have hmw : m < w.heap.size := (Array.getElem?_eq_some_iff.1 hm).1
  obtain ⟨ba, bn, bc, rfl⟩ := hbv
  obtain ⟨o, ho⟩ : ∃ o, o = Obj.cells #[.int .i64 0, .int .i64 c] 184 := ⟨_, rfl⟩
  have hp0 : (w.alloc o).heap[w.heap.size]? = some (.cells #[.int .i64 0, .int .i64 c] 184 (0, 0)) := by rw [heap_alloc_new, ho]
  have HB0 : Hid (Below w.heap.size w (w.alloc o)) := (Below.refl _ _).alloc (Nat.le_refl _) _
  have HP0 := hide hp0
  have HM := hide hm
  rw [ho] at HB0 HP0
  clear hp0 ho hm
  by_cases hc : c = 1
  · subst hc
    go_enter Tryz.func54, Tryz.ntmps54
    go_wp2_with fail
    generalize hWA : w.alloc (.cells #[.int .i64 0, .int .i64 1] 184) = wa at *
    clear hWA
    refine (step_fail w.heap.size 0 wa HP0.out (by omega) (by omega)).mono ?_
    rintro e w2 ⟨rfl, hg2⟩
    have HR : Hid (ClnQ w m l0 s0 room tv dn 1 (.panicked [{ v := crash12, recovered := false }]) w2) := ⟨_, (hg2.block m (by have := HB0.out.size; omega) (by simp; omega)).trans ((HB0.out.block m hmw).trans HM.out), ⟨_, _, _, rfl⟩, grown_comp (grown_of_below HB0.out) hg2 (fun j hj => by simp at hj; omega), .inl ⟨rfl, rfl⟩⟩
    clear hg2
    go_wp2_with fail
    exact ⟨rfl, HR.out⟩
  · go_enter Tryz.func54, Tryz.ntmps54
    go_wp2_with fail
    generalize hWA : w.alloc (.cells #[.int .i64 0, .int .i64 c] 184) = wa at *
    clear hWA
    refine (step_go w.heap.size 0 c wa HP0.out (by omega) (by omega) (by omega)).mono ?_
    rintro e w2 ⟨rfl, _, hg2⟩
    have hm2 := (hg2.block m (by have := HB0.out.size; omega) (by simp; omega)).trans ((HB0.out.block m hmw).trans HM.out)
    have q4 : w2.cell? ⟨m, 4, none⟩ = some (.slice ba bn bc) := cell_row hm2 rfl
    have qf : w2.frozen? ⟨m, 4, none⟩ = false := frozen_of_row _ _ _ _ _ hm2
    have HR : Hid (ClnQ w m l0 s0 room tv dn c (.returned (.tuple #[])) (w2.setCell ⟨m, 4, none⟩ (.slice none 0 0))) := by
      refine ⟨.slice none 0 0, ?_, ⟨_, _, _, rfl⟩, (grown_comp (grown_of_below HB0.out) hg2 (fun j hj => by simp at hj; omega)).trans (setCell_grown _), .inr ⟨rfl, hc⟩⟩
      rw [heap_setCell_same _ _ _ _ _ _ hm2]; rfl
    clear hg2 hm2
    go_wp2_with fail
    go_end0
    exact HR.out

set_option maxRecDepth 10000 in
set_option maxHeartbeats 1000000 in
theorem steps_recover (pm pc m : Nat) (l0 s0 : Value) (room : Int) (tv bv dn : Value) (c : Int) (w : World) (h1 : w.cell? ⟨pm, 0, none⟩ = some (.pointer (some ⟨m, 0, none⟩))) (h3 : w.cell? ⟨pc, 0, none⟩ = some (.int .i64 c)) (hpm : pm ≠ m) (hpc : pc ≠ m) (hm : w.heap[m]? = some (.cells #[l0, s0, .int .i64 room, tv, bv, dn] 139 (0, 0))) (hbv : ∃ a n c, bv = .slice a n c) :
    Calls Tryz.prog 53 #[.pointer (some ⟨pm, 0, none⟩), .pointer (some ⟨pc, 0, none⟩)] w fun e w' => ClnQ w m l0 s0 room tv dn c e w' := by
  have HR : Hid (Calls Tryz.prog 54 #[.pointer (some ⟨m, 3, none⟩), .int .i64 c] w.drew fun e w' => ClnQ w.drew m l0 s0 room tv dn c e w') := clean_any m l0 s0 room tv bv dn c w.drew hm hbv
  clear hm hbv
  by_cases hc : c = 1
  · subst hc
    have HR2 : Hid (Calls Tryz.prog 54 #[.pointer (some ⟨m, 3, none⟩), .int .i64 1] w.drew fun e w' => e = .panicked [{ v := crash12, recovered := false }] ∧ ClnQ w m l0 s0 room tv dn 1 (.panicked [{ v := crash12, recovered := false }]) w') := by
      refine HR.out.mono ?_
      rintro e w' ⟨bv', a1, a2, a3, a4⟩
      have a3' : w.grownBy w' (some m) := (grown_of_below (Below.refl w.heap.size w).drew).trans a3
      rcases a4 with ⟨rfl, b1⟩ | ⟨_, b1⟩
      · exact ⟨rfl, bv', a1, a2, a3', .inl ⟨rfl, b1⟩⟩
      · exact absurd rfl b1
    clear HR
    go_enter Tryz.func53, Tryz.ntmps53
    go_wp2_with fail
    go_region_dies
    all_goals
      refine HR2.out.mono ?_
      rintro e w2 ⟨rfl, hq⟩
      exact ⟨rfl, hq⟩
  · have HR2 : Hid (Calls Tryz.prog 54 #[.pointer (some ⟨m, 3, none⟩), .int .i64 c] w.drew fun e w' => e = .returned (.tuple #[]) ∧ ClnQ w m l0 s0 room tv dn c (.returned (.tuple #[])) w') := by
      refine HR.out.mono ?_
      rintro e w' ⟨bv', a1, a2, a3, a4⟩
      have a3' : w.grownBy w' (some m) := (grown_of_below (Below.refl w.heap.size w).drew).trans a3
      rcases a4 with ⟨_, b1⟩ | ⟨rfl, b1⟩
      · exact absurd b1 hc
      · exact ⟨rfl, bv', a1, a2, a3', .inr ⟨rfl, b1⟩⟩
    have HCE : Hid (∀ w', ClnQ w m l0 s0 room tv dn c (.returned (.tuple #[])) w' → w'.cell? ⟨pm, 0, none⟩ = some (.pointer (some ⟨m, 0, none⟩)) ∧ w'.cell? ⟨pc, 0, none⟩ = some (.int .i64 c)) := by
      rintro w' ⟨_, _, _, a3, _⟩
      exact ⟨a3.cell h1 (by simp; exact hpm), a3.cell h3 (by simp; exact hpc)⟩
    clear HR
    go_enter Tryz.func53, Tryz.ntmps53
    go_wp2_with fail
    go_region_held3 (fun w' => w'.cell? ⟨pm, 0, none⟩ = some (.pointer (some ⟨m, 0, none⟩)) ∧ w'.cell? ⟨pc, 0, none⟩ = some (.int .i64 c))
      (first | exact ⟨h1, h3⟩ | exact ⟨k1, k3⟩)
      ((go_at_call 54; refine HR2.out.mono ?_; rintro e w2 ⟨rfl, hq⟩; obtain ⟨k1, k3⟩ := HCE.out w2 hq))
    go_wp2_with fail
    go_end0
    exact hq
theorem Tryz.enter39 (a : Array Value) (W : World) : (callFunc 53 a).run Tryz.prog W = .ok (.enter 53 a) W := by
  simp [go_sem]
theorem fin_blk2 {w : World} {m E : Nat} {s0 : Value} {room : Int} {tv bv : Value} {d0 d : Bool} {x : Value} (h : w.heap[m]? = some (.cells #[.int .i32 1, s0, .int .i64 room, tv, bv, .bool d0] 139 (0, 0))) (hE : E ≠ m) : ((w.setCell ⟨m, 5, none⟩ (.bool d)).setCell ⟨E, 0, none⟩ x).heap[m]? = some (.cells #[.int .i32 1, s0, .int .i64 room, tv, bv, .bool d] 139 (0, 0)) := by
  rw [Below.heap_setCell _ _ _ _ (by simp; exact Ne.symm hE), heap_setCell_same _ _ _ _ _ _ h]; rfl

/-- what Recover leaves of a mirror that is down -/
def RecQ (w : World) (m : Nat) (room : Int) (lo hi : Nat) (v : Value) (fs : List (ByteArray × ByteArray)) (c : Int) (k : Int) (w' : World) : Prop :=
  w.grownBy w' (some m) ∧ ∃ bv', (c = 1 ∧ k = 12 ∧ Mir w' m room lo hi v bv' fs true) ∨ (c ≠ 1 ∧ k = 0 ∧ Mir w' m room lo hi v bv' fs false)
set_option maxRecDepth 10000 in
set_option maxHeartbeats 1000000 in
theorem mrecover_down (m : Nat) (room : Int) (lo hi : Nat) (v v2 : Value) (fs : List (ByteArray × ByteArray)) (c : Int) (w : World) (hM : Mir w m room lo hi v v2 fs true) :
    Calls Tryz.prog 34 #[.pointer (some ⟨m, 0, none⟩), .int .i64 c] w fun e w' => ∃ e0, e = .returned e0 ∧ ((e0 = crash12 ∧ RecQ w m room lo hi v fs c 12 w') ∨ (e0 = .nilIface ∧ RecQ w m room lo hi v fs c 0 w')) := by
  obtain ⟨va, vn, vc, rfl⟩ := hM.vsl
  have hmw := hM.lt
  obtain ⟨o1, ho1⟩ : ∃ o, o = Obj.cells #[.pointer (some ⟨m, 0, none⟩)] 44 := ⟨_, rfl⟩
  obtain ⟨o2, ho2⟩ : ∃ o, o = Obj.cells #[.int .i64 c] 3 := ⟨_, rfl⟩
  obtain ⟨W0, hW0⟩ : ∃ W0, W0 = (w.alloc o1).alloc o2 := ⟨_, rfl⟩
  have hb0 : Below w.heap.size w W0 := by rw [hW0]; exact ((Below.refl _ _).alloc (Nat.le_refl _) _).alloc (by simp) _
  have hsz0 : W0.heap.size = w.heap.size + 2 := by rw [hW0]; simp
  have a1 : W0.cell? ⟨w.heap.size, 0, none⟩ = some (.pointer (some ⟨m, 0, none⟩)) := by
    rw [hW0, World.cell?_alloc_lt _ _ _ (by simp), ho1]; exact cell_new rfl rfl
  have a2 : W0.cell? ⟨w.heap.size + 1, 0, none⟩ = some (.int .i64 c) := by
    rw [hW0, ho2]; exact cell_new (by simp) rfl
  have hM0 := hM.below hb0
  have c0 : W0.cell? ⟨m, 0, none⟩ = some (.int .i32 0) := cell_row hM0.blk rfl
  have f0 : W0.frozen? ⟨m, 0, none⟩ = false := frozen_of_row _ _ _ _ _ hM0.blk
  obtain ⟨W1, hW1⟩ : ∃ W1, W1 = W0.setCell ⟨m, 0, none⟩ (.int .i32 1) := ⟨_, rfl⟩
  have hb1 : W1.heap[m]? = some (.cells #[.int .i32 1, .int .u32 0, .int .i64 room, .slice va vn vc, v2, .bool true] 139 (0, 0)) := by
    rw [hW1, heap_setCell_same _ _ _ _ _ _ hM0.blk]; rfl
  have hg1 : W0.grownBy W1 (some m) := by rw [hW1]; exact setCell_grown _
  have hs1 : W1.heap.size = w.heap.size + 2 := by rw [hW1]; simp [hsz0]
  have b1 : W1.cell? ⟨w.heap.size, 0, none⟩ = some (.pointer (some ⟨m, 0, none⟩)) := hg1.cell a1 (by simp; omega)
  have b2 : W1.cell? ⟨w.heap.size + 1, 0, none⟩ = some (.int .i64 c) := hg1.cell a2 (by simp; omega)
  have b5 : W1.cell? ⟨m, 5, none⟩ = some (.bool true) := cell_row hb1 rfl
  have HLK := hide (lock_free Tryz.muLib ⟨m, 0, none⟩ W0 c0 f0)
  rw [← hW1] at HLK
  have hrb := runW_below W1 m
  have HGC : Hid (w.grownBy W1 (some m)) := (grown_of_below hb0).trans hg1
  have HST : Hid (Calls Tryz.prog 53 #[.pointer (some ⟨w.heap.size, 0, none⟩), .pointer (some ⟨w.heap.size + 1, 0, none⟩)] (runW W1 m) fun e w' => ClnQ (runW W1 m) m (.int .i32 1) (.int .u32 0) room (.slice va vn vc) (.bool true) c e w') :=
    steps_recover w.heap.size (w.heap.size + 1) m (.int .i32 1) (.int .u32 0) room (.slice va vn vc) v2 (.bool true) c (runW W1 m) ((hrb.cell (p := ⟨w.heap.size, 0, none⟩) (by show w.heap.size < _; omega)).trans b1) ((hrb.cell (p := ⟨w.heap.size + 1, 0, none⟩) (by show w.heap.size + 1 < _; omega)).trans b2) (by omega) (by omega) ((hrb.block m (by omega)).trans hb1) hM.sl
  have HKP : Hid (∀ e w', ClnQ (runW W1 m) m (.int .i32 1) (.int .u32 0) room (.slice va vn vc) (.bool true) c e w' → Kept W1 m w') := by
    rintro e w' ⟨bv', r1, r2, r3, _⟩
    exact ⟨r3.cell (runW_c1 W1 m) (by simp; omega), ⟨_, cell_row r1 rfl⟩, frozen_of_row _ _ _ _ _ r1, (r3.block _ (by rw [runW_size]; omega) (by simp; omega)).trans (runW_blk W1 m)⟩
  have HFIN : Hid (∀ (w1 : World) (bv' : Value) (d : Bool) (x : Value), (∃ a n c, bv' = .slice a n c) → w1.heap[m]? = some (.cells #[.int .i32 1, .int .u32 0, .int .i64 room, .slice va vn vc, bv', .bool true] 139 (0, 0)) → (runW W1 m).grownBy w1 (some m) → w.grownBy (((w1.setCell ⟨m, 5, none⟩ (.bool d)).setCell ⟨W1.heap.size + 1, 0, none⟩ x).setCell ⟨m, 0, none⟩ (.int .i32 0)) (some m) ∧ Mir (((w1.setCell ⟨m, 5, none⟩ (.bool d)).setCell ⟨W1.heap.size + 1, 0, none⟩ x).setCell ⟨m, 0, none⟩ (.int .i32 0)) m room lo hi (.slice va vn vc) bv' fs d) := by
    intro w1 bv' d x hsl h1 h2
    have hgg : w.grownBy (((w1.setCell ⟨m, 5, none⟩ (.bool d)).setCell ⟨W1.heap.size + 1, 0, none⟩ x).setCell ⟨m, 0, none⟩ (.int .i32 0)) (some m) := ((grown_comp ((HGC.out.trans (grown_of_below hrb)).trans h2 |>.trans (setCell_grown _)) (setCell_grown (g := W1.heap.size + 1) (j := 0) x) (fun k hk => by simp at hk; omega))).trans (setCell_grown _)
    refine ⟨hgg, ?_, hM.tr.grown hgg (fun k hk => by simp at hk; have := hM.off; omega), hM.off, hsl⟩
    rw [heap_setCell_same _ _ _ _ _ _ (fin_blk2 h1 (by omega))]; rfl
  have HB1 := hide hb1
  have HW0 := hide hW0
  rw [ho1, ho2] at HW0
  have hmW1 : m < W1.heap.size := by omega
  clear hb0 hM0 c0 f0 hb1 hg1 hM hW0 ho1 ho2 hW1 a1 a2 hrb hs1 hsz0
  have hmf : ∀ (fn : Fn) (first cap : Array Value) (w : World), (Instr.makeFunc fn first cap).run Tryz.prog w = .ok (.func fn first cap) w := fun _ _ _ _ => rfl
  have HEN := hide (Tryz.enter39 #[.pointer (some ⟨w.heap.size, 0, none⟩), .pointer (some ⟨w.heap.size + 1, 0, none⟩)])
  by_cases hcc : c = 1
  · subst hcc
    have HRUN := hide (run_pan m 53 #[.pointer (some ⟨w.heap.size, 0, none⟩), .pointer (some ⟨w.heap.size + 1, 0, none⟩)] W1 (fun w' => ClnQ (runW W1 m) m (.int .i32 1) (.int .u32 0) room (.slice va vn vc) (.bool true) 1 (.panicked [{ v := crash12, recovered := false }]) w') hmW1 HEN.out (HST.out.mono (by
      rintro e w' hq
      have hq' := hq
      obtain ⟨bv', r1, r2, r3, r4⟩ := hq
      rcases r4 with ⟨rfl, _⟩ | ⟨rfl, p1⟩
      · exact ⟨rfl, HKP.out _ _ hq', hq'⟩
      · exact absurd rfl p1)))
    go_enter_defers Tryz.func34, Tryz.ntmps34
    go_wp2_with fail
    rw [← HW0.out]
    refine HLK.out.mono ?_
    rintro e w1 ⟨rfl, hw1⟩
    obtain rfl := hw1.symm
    go_wp2_with fail
    refine HRUN.out.mono ?_
    rintro e w5 ⟨rfl, w1, ⟨bv', r1, r2, r3, r4⟩, rfl⟩
    have hb5 := fin_blk2 (d := true) (x := crash12) r1 (show W1.heap.size + 1 ≠ m by omega)
    go_wp2_with fail
    refine leaves_cons (f := 51) (args := #[.pointer (some ⟨m, 0, none⟩)]) (by simp) (by simp [go_sem]) ?_
    refine (unlock_deferred Tryz.muLib ⟨m, 0, none⟩ .returning _ (cell_row hb5 rfl) (frozen_of_row _ _ _ _ _ hb5)).mono ?_
    rintro e u' w'' ⟨rfl, rfl, rfl⟩
    obtain ⟨g1, g2⟩ := HFIN.out w1 bv' true crash12 r2 r1 r3
    exact ⟨_, results_tmp rfl _ _ _, _, rfl, .inl ⟨rfl, g1, bv', .inl ⟨rfl, rfl, g2⟩⟩⟩
  · have HRUN := hide (run_well m 53 #[.pointer (some ⟨w.heap.size, 0, none⟩), .pointer (some ⟨w.heap.size + 1, 0, none⟩)] W1 (fun w' => ClnQ (runW W1 m) m (.int .i32 1) (.int .u32 0) room (.slice va vn vc) (.bool true) c (.returned (.tuple #[])) w') hmW1 HEN.out (HST.out.mono (by
      rintro e w' hq
      have hq' := hq
      obtain ⟨bv', r1, r2, r3, r4⟩ := hq
      rcases r4 with ⟨rfl, p1⟩ | ⟨rfl, _⟩
      · exact absurd p1 hcc
      · exact ⟨rfl, HKP.out _ _ hq', hq'⟩)))
    go_enter_defers Tryz.func34, Tryz.ntmps34
    go_wp2_with fail
    rw [← HW0.out]
    refine HLK.out.mono ?_
    rintro e w1 ⟨rfl, hw1⟩
    obtain rfl := hw1.symm
    go_wp2_with fail
    refine HRUN.out.mono ?_
    rintro e w5 ⟨rfl, w1, ⟨bv', r1, r2, r3, r4⟩, rfl⟩
    have hb5 := fin_blk2 (d := false) (x := .nilIface) r1 (show W1.heap.size + 1 ≠ m by omega)
    go_wp2_with fail
    refine leaves_cons (f := 51) (args := #[.pointer (some ⟨m, 0, none⟩)]) (by simp) (by simp [go_sem]) ?_
    refine (unlock_deferred Tryz.muLib ⟨m, 0, none⟩ .returning _ (cell_row hb5 rfl) (frozen_of_row _ _ _ _ _ hb5)).mono ?_
    rintro e u' w'' ⟨rfl, rfl, rfl⟩
    obtain ⟨g1, g2⟩ := HFIN.out w1 bv' false .nilIface r2 r1 r3
    exact ⟨_, results_tmp rfl _ _ _, _, rfl, .inr ⟨rfl, g1, bv', .inr ⟨hcc, rfl, g2⟩⟩⟩

set_option maxRecDepth 10000 in
set_option maxHeartbeats 1000000 in
theorem mrecover_up (m : Nat) (room : Int) (lo hi : Nat) (v v2 : Value) (fs : List (ByteArray × ByteArray)) (c : Int) (w : World) (hM : Mir w m room lo hi v v2 fs false) :
    Calls Tryz.prog 34 #[.pointer (some ⟨m, 0, none⟩), .int .i64 c] w fun e w' => e = .returned (.iface 50 (.int .i64 8)) ∧ Below w.heap.size w w' := by
  have hmw := hM.lt
  obtain ⟨o1, ho1⟩ : ∃ o, o = Obj.cells #[.pointer (some ⟨m, 0, none⟩)] 44 := ⟨_, rfl⟩
  obtain ⟨o2, ho2⟩ : ∃ o, o = Obj.cells #[.int .i64 c] 3 := ⟨_, rfl⟩
  obtain ⟨W0, hW0⟩ : ∃ W0, W0 = (w.alloc o1).alloc o2 := ⟨_, rfl⟩
  have hb0 : Below w.heap.size w W0 := by rw [hW0]; exact ((Below.refl _ _).alloc (Nat.le_refl _) _).alloc (by simp) _
  have a1 : W0.cell? ⟨w.heap.size, 0, none⟩ = some (.pointer (some ⟨m, 0, none⟩)) := by
    rw [hW0, World.cell?_alloc_lt _ _ _ (by simp), ho1]; exact cell_new rfl rfl
  have hM0 := hM.below hb0
  have c0 : W0.cell? ⟨m, 0, none⟩ = some (.int .i32 0) := cell_row hM0.blk rfl
  have f0 : W0.frozen? ⟨m, 0, none⟩ = false := frozen_of_row _ _ _ _ _ hM0.blk
  obtain ⟨W1, hW1⟩ : ∃ W1, W1 = W0.setCell ⟨m, 0, none⟩ (.int .i32 1) := ⟨_, rfl⟩
  have hb1 : W1.heap[m]? = some (.cells #[.int .i32 1, .int .u32 0, .int .i64 room, v, v2, .bool false] 139 (0, 0)) := by
    rw [hW1, heap_setCell_same _ _ _ _ _ _ hM0.blk]; rfl
  have hg1 : W0.grownBy W1 (some m) := by rw [hW1]; exact setCell_grown _
  have b1 : W1.cell? ⟨w.heap.size, 0, none⟩ = some (.pointer (some ⟨m, 0, none⟩)) := hg1.cell a1 (by simp; omega)
  have b5 : W1.cell? ⟨m, 5, none⟩ = some (.bool false) := cell_row hb1 rfl
  have HLK := hide (lock_free Tryz.muLib ⟨m, 0, none⟩ W0 c0 f0)
  rw [← hW1] at HLK
  have HGC : Hid (w.grownBy W1 (some m)) := (grown_of_below hb0).trans hg1
  have HB1 := hide hb1
  have HW0 := hide hW0
  have HM := hide hM
  rw [ho1, ho2] at HW0
  clear hb0 hM0 c0 f0 hb1 hg1 hM hW0 ho1 ho2 hW1 a1
  go_enter_defers Tryz.func34, Tryz.ntmps34
  go_wp2_with fail
  rw [← HW0.out]
  refine HLK.out.mono ?_
  rintro e w1 ⟨rfl, hw1⟩
  obtain rfl := hw1.symm
  go_wp2_with fail
  refine leaves_cons (f := 51) (args := #[.pointer (some ⟨m, 0, none⟩)]) (by simp) (by simp [go_sem]) ?_
  refine (unlock_deferred Tryz.muLib ⟨m, 0, none⟩ .returning _ (cell_row HB1.out rfl) (frozen_of_row _ _ _ _ _ HB1.out)).mono ?_
  rintro e u' w'' ⟨rfl, rfl, rfl⟩
  have hbe : (W1.setCell ⟨m, 0, none⟩ (.int .i32 0)).heap[m]? = w.heap[m]? := by
    rw [heap_setCell_same _ _ _ _ _ _ HB1.out, HM.out.blk]; rfl
  exact ⟨_, results_tmp rfl _ _ _, rfl, below_of_grown (HGC.out.trans (setCell_grown _)) hbe⟩

set_option maxRecDepth 10000 in
set_option maxHeartbeats 1000000 in
theorem mreplay_down (m : Nat) (room : Int) (lo hi : Nat) (v v2 bv : Value) (fs : List (ByteArray × ByteArray)) (c : Int) (w : World) (hM : Mir w m room lo hi v v2 fs true) :
    Calls Tryz.prog 48 #[.pointer (some ⟨m, 0, none⟩), bv, .int .i64 c] w fun e w' => e = .returned (.iface 50 (.int .i64 7)) ∧ Below w.heap.size w w' := by
  have hmw := hM.lt
  obtain ⟨o1, ho1⟩ : ∃ o, o = Obj.cells #[.pointer (some ⟨m, 0, none⟩)] 44 := ⟨_, rfl⟩
  obtain ⟨o2, ho2⟩ : ∃ o, o = Obj.cells #[.int .i64 c] 3 := ⟨_, rfl⟩
  obtain ⟨W0, hW0⟩ : ∃ W0, W0 = (w.alloc o1).alloc o2 := ⟨_, rfl⟩
  have hb0 : Below w.heap.size w W0 := by rw [hW0]; exact ((Below.refl _ _).alloc (Nat.le_refl _) _).alloc (by simp) _
  have a1 : W0.cell? ⟨w.heap.size, 0, none⟩ = some (.pointer (some ⟨m, 0, none⟩)) := by
    rw [hW0, World.cell?_alloc_lt _ _ _ (by simp), ho1]; exact cell_new rfl rfl
  have hM0 := hM.below hb0
  have c0 : W0.cell? ⟨m, 0, none⟩ = some (.int .i32 0) := cell_row hM0.blk rfl
  have f0 : W0.frozen? ⟨m, 0, none⟩ = false := frozen_of_row _ _ _ _ _ hM0.blk
  obtain ⟨W1, hW1⟩ : ∃ W1, W1 = W0.setCell ⟨m, 0, none⟩ (.int .i32 1) := ⟨_, rfl⟩
  have hb1 : W1.heap[m]? = some (.cells #[.int .i32 1, .int .u32 0, .int .i64 room, v, v2, .bool true] 139 (0, 0)) := by
    rw [hW1, heap_setCell_same _ _ _ _ _ _ hM0.blk]; rfl
  have hg1 : W0.grownBy W1 (some m) := by rw [hW1]; exact setCell_grown _
  have b1 : W1.cell? ⟨w.heap.size, 0, none⟩ = some (.pointer (some ⟨m, 0, none⟩)) := hg1.cell a1 (by simp; omega)
  have b5 : W1.cell? ⟨m, 5, none⟩ = some (.bool true) := cell_row hb1 rfl
  have HLK := hide (lock_free Tryz.muLib ⟨m, 0, none⟩ W0 c0 f0)
  rw [← hW1] at HLK
  have HGC : Hid (w.grownBy W1 (some m)) := (grown_of_below hb0).trans hg1
  have HB1 := hide hb1
  have HW0 := hide hW0
  have HM := hide hM
  rw [ho1, ho2] at HW0
  clear hb0 hM0 c0 f0 hb1 hg1 hM hW0 ho1 ho2 hW1 a1
  go_enter_defers Tryz.func48, Tryz.ntmps48
  go_wp2_with fail
  rw [← HW0.out]
  refine HLK.out.mono ?_
  rintro e w1 ⟨rfl, hw1⟩
  obtain rfl := hw1.symm
  go_wp2_with fail
  refine leaves_cons (f := 51) (args := #[.pointer (some ⟨m, 0, none⟩)]) (by simp) (by simp [go_sem]) ?_
  refine (unlock_deferred Tryz.muLib ⟨m, 0, none⟩ .returning _ (cell_row HB1.out rfl) (frozen_of_row _ _ _ _ _ HB1.out)).mono ?_
  rintro e u' w'' ⟨rfl, rfl, rfl⟩
  have hbe : (W1.setCell ⟨m, 0, none⟩ (.int .i32 0)).heap[m]? = w.heap[m]? := by
    rw [heap_setCell_same _ _ _ _ _ _ HB1.out, HM.out.blk]; rfl
  exact ⟨_, results_tmp rfl _ _ _, rfl, below_of_grown (HGC.out.trans (setCell_grown _)) hbe⟩
theorem pReplay_down (m : Nat) (room : Int) (lo hi : Nat) (v v2 bv : Value) (fs : List (ByteArray × ByteArray)) (c : Int) (w : World) (he : ErrT w) (hM : Mir w m room lo hi v v2 fs true) :
    Calls Tryz.prog 32 #[.pointer (some ⟨m, 0, none⟩), bv, .int .i64 c] w fun e w' => ∃ k n, e = .returned (.tuple #[.int .i64 k, .string n]) ∧ k = 7 ∧ n = ⟨#[]⟩ ∧ Below w.heap.size w w' := by
  refine plainReplay_any _ _ _ w (fun k n w' => k = 7 ∧ n = ⟨#[]⟩ ∧ Below w.heap.size w w') ((mreplay_down m room lo hi v v2 bv fs c w hM).mono ?_)
  rintro e w' ⟨rfl, hb⟩
  exact ⟨_, rfl, (told_kind 7 w' (he.keep hb)).mono (by rintro e w2 ⟨rfl, hb2⟩; exact ⟨_, _, rfl, rfl, rfl, below_all hb hb2⟩)⟩

theorem plainRecover_any (pv cv : Value) (w : World) (Q : Int → World → Prop)
    (hc : Calls Tryz.prog 34 #[pv, cv] w fun e w' => ∃ e0, e = .returned e0 ∧ Calls Tryz.prog 33 #[e0] w' fun e w2 => ∃ k n, e = .returned (.tuple #[.int .i64 k, .string n]) ∧ Q k w2) :
    Calls Tryz.prog 16 #[pv, cv] w fun e w' => ∃ k, e = .returned (.int .i64 k) ∧ Q k w' := by
  have HC := hide hc
  clear hc
  go_enter Tryz.func16, Tryz.ntmps16
  go_wp2_with fail
  refine HC.out.mono ?_
  rintro e w1 ⟨e0, rfl, ht⟩
  have HT := hide ht
  clear ht HC
  go_wp2_with fail
  refine HT.out.mono ?_
  rintro e w2 ⟨k, n, rfl, hq⟩
  have HQ := hide hq
  clear hq HT
  go_wp2_with fail
  go_ret
  exact ⟨_, rfl, HQ.out⟩
theorem pRecover_up (m : Nat) (room : Int) (lo hi : Nat) (v v2 : Value) (fs : List (ByteArray × ByteArray)) (c : Int) (w : World) (he : ErrT w) (hM : Mir w m room lo hi v v2 fs false) :
    Calls Tryz.prog 16 #[.pointer (some ⟨m, 0, none⟩), .int .i64 c] w fun e w' => ∃ k, e = .returned (.int .i64 k) ∧ k = 8 ∧ Below w.heap.size w w' := by
  refine plainRecover_any _ _ w (fun k w' => k = 8 ∧ Below w.heap.size w w') ((mrecover_up m room lo hi v v2 fs c w hM).mono ?_)
  rintro e w' ⟨rfl, hb⟩
  exact ⟨_, rfl, (told_kind 8 w' (he.keep hb)).mono (by rintro e w2 ⟨rfl, hb2⟩; exact ⟨_, _, rfl, rfl, below_all hb hb2⟩)⟩
theorem pRecover_down (m : Nat) (room : Int) (lo hi : Nat) (v v2 : Value) (fs : List (ByteArray × ByteArray)) (c : Int) (w : World) (he : ErrT w) (hM : Mir w m room lo hi v v2 fs true) :
    Calls Tryz.prog 16 #[.pointer (some ⟨m, 0, none⟩), .int .i64 c] w fun e w' => ∃ k, e = .returned (.int .i64 k) ∧ RecQ w m room lo hi v fs c k w' := by
  have hme := hM.ne_err he
  refine plainRecover_any _ _ w (fun k w' => RecQ w m room lo hi v fs c k w') ((mrecover_down m room lo hi v v2 fs c w hM).mono ?_)
  rintro e w' ⟨e0, rfl, hq⟩
  refine ⟨_, rfl, ?_⟩
  have hk : ∀ k w2, RecQ w m room lo hi v fs c k w' → Below w'.heap.size w' w2 → RecQ w m room lo hi v fs c k w2 := by
    rintro k w2 ⟨h1, bv', h2⟩ hb
    exact ⟨h1.trans (grown_of_below hb), bv', h2.imp (fun h => ⟨h.1, h.2.1, h.2.2.below hb⟩) (fun h => ⟨h.1, h.2.1, h.2.2.below hb⟩)⟩
  rcases hq with ⟨rfl, hq⟩ | ⟨rfl, hq⟩
  · exact (told_kind 12 w' (he.grown hq.1 hme)).mono (by rintro e w2 ⟨rfl, hb2⟩; exact ⟨_, _, rfl, hk _ _ hq hb2⟩)
  · exact (told_nil w').mono (by rintro e w2 ⟨rfl, hb2⟩; exact ⟨_, _, rfl, hk _ _ hq hb2⟩)
end Go.Proofs.YtbhccdedcoajmaaGreatDoor
