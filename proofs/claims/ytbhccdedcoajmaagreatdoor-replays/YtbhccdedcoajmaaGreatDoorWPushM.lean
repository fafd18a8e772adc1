import Derived.Test.YtbhccdedcoajmaaGreatDoorWState
import Derived.Test.YtbhccdedcoajmaaGreatDoorMirM
import Derived.Test.YtbhccdedcoajmaaGreatDoorRMirWM
import Derived.Test.YtbhccdedcoajmaaGreatDoorMakeLM
import Derived.Deep.QuietTactic
import Derived.BigQuiet
import Derived.Deep.RegionHeld3
namespace Go.Proofs.YtbhccdedcoajmaaGreatDoor
open Go.RowKit

/-- the roles behind KTree: the register's block is read alone from now on -/
def rhoTree (ρ : Nat → Nat) (v : Value) (g : Nat) (k : Nat) : Nat := if v.ownBlock = some k then 0 else rhoAt ρ g 3 k
theorem Inv.pushTree {w w3 : World} {wz : World} {B0 W0 K O : Nat} {ρ : Nat → Nat} {s : St} (h : Inv wz w B0 W0 K O ρ s) {g c : Nat} (hown : w3.ownsRow B0 27 1 (.slice (some ⟨g, 0, none⟩) (s.trees.length + 1) c) (s.trees.length + 1) (s.trees.map Prod.fst ++ [s.vn])) (hg : w.grownBy w3 s.vt.ownBlock) (hat : s.vt.ownBlock = some g ∨ w.heap.size ≤ g) (hgw : g < w3.heap.size) :
    Inv wz ((w3.setCell ⟨W0, 1, none⟩ (.slice (some ⟨g, 0, none⟩) (s.trees.length + 1) c)).setCell ⟨W0, 0, none⟩ (.slice none 0 0)) B0 W0 (K + 1) O (rhoTree ρ s.vn g) { s with vt := .slice (some ⟨g, 0, none⟩) (s.trees.length + 1) c, trees := s.trees ++ [(s.vn, s.now)], vn := .slice none 0 0, now := [] } := by
  have hat' : ρ g = 3 ∨ w.heap.size ≤ g := hat.imp (fun e => h.rt.2 g e) id
  have hk1 := h.push_keeps (j := 1) (u := .slice (some ⟨g, 0, none⟩) (s.trees.length + 1) c) hg h.rt.2
  have hk : Keeps (fun k => ρ k = 1 ∨ ρ k = 3 ∨ ρ k = 2) w ((w3.setCell ⟨W0, 1, none⟩ (.slice (some ⟨g, 0, none⟩) (s.trees.length + 1) c)).setCell ⟨W0, 0, none⟩ (.slice none 0 0)) := by
    refine (hk1.mono (fun k _ h' => h'.imp id .inl)).trans (set_keeps _ W0 0 _) ?_
    rintro k _ rfl
    exact .inl h.r0
  have hk3 : Keeps (fun k => ρ k = 1 ∨ ρ k = 3) w ((w3.setCell ⟨W0, 1, none⟩ (.slice (some ⟨g, 0, none⟩) (s.trees.length + 1) c)).setCell ⟨W0, 0, none⟩ (.slice none 0 0)) := by
    refine hk1.trans (set_keeps _ W0 0 _) ?_
    rintro k _ rfl
    exact .inl h.r0
  have hne := h.ne (by omega) hat'
  have hv : ∀ k, s.vn.ownBlock = some k → ρ k = 2 := h.rn.2
  have hvg : s.vn.ownBlock ≠ some g := fun e => by
    have h1 := hv g e
    have h2 := (h.rn.1.lt g e).2
    omega
  have hr := h.rest (ρ' := rhoTree ρ s.vn g) (fun x => x = 1 ∨ x = 3 ∨ x = 2) (by omega) hk
    (by
      intro k h1 h2
      unfold rhoTree
      by_cases e : s.vn.ownBlock = some k
      · have := hv k e; omega
      · rw [if_neg e]; exact rhoAt_eq (by omega) hat' k h1 (by omega))
    (by
      intro k hk'
      unfold rhoTree at hk'
      by_cases e : s.vn.ownBlock = some k
      · rw [if_pos e] at hk'; exact absurd rfl hk'
      · rw [if_neg e] at hk'
        exact h.hotAt (by omega) (by simpa using hg.size) hat' (by simpa using hgw) k hk')
  have hfl : Fl w s.vn s.now := Fl_of_row h.rn.1
  refine ⟨?_, hr.b0, hr.fr, hr.r0, hr.hot, ⟨World.ownsRow_nil _ _ _ _, fun k hk => by simp [Value.ownBlock] at hk⟩, ⟨?_, ?_⟩, hr.rb (by omega), hr.rm (by omega), hr.ro (by omega), ?_, fun i hi => hr.ms i hi (by omega) (by omega), hr.mf, hr.out, Nat.zero_le _, fun q hq => (by simp at hq), ?_, Nat.le_succ_of_le h.kb, h.bz, Nat.le_succ_of_le h.km, h.ko⟩
  · exact world_set (world_set (h.blk3 (by omega) hg h.rt.2))
  · show World.ownsRow _ _ _ _ _ (s.trees ++ [(s.vn, s.now)]).length ((s.trees ++ [(s.vn, s.now)]).map Prod.fst)
    rw [List.map_append, List.length_append]
    exact row_set (row_set hown (by simpa [Value.ownBlock] using hne)) (by simpa [Value.ownBlock] using hne)
  · intro k hk'
    have e : g = k := by simpa [Value.ownBlock] using hk'
    subst e
    unfold rhoTree
    rw [if_neg hvg]
    simp [rhoAt]
  · intro p hp
    rcases List.mem_append.1 hp with hp | hp
    · exact (hr.trees p hp).keeps (Nat.le_succ K) (Keeps.refl (fun _ => False) _) (fun _ hk => hk.elim) (fun _ _ _ => rfl)
    · simp only [List.mem_singleton] at hp
      subst hp
      refine ⟨hfl.keeps hk3 (fun k hk' h' => by have := hv k hk'; omega), Nat.le_succ_of_le h.kn, h.nz, fun k hk' => ⟨Nat.lt_of_lt_of_le (h.rn.1.lt k hk').2 hk.size, ?_⟩⟩
      unfold rhoTree
      rw [if_pos hk']
  · show (s.trees ++ [(s.vn, s.now)]).length ≤ K + 1
    rw [List.length_append]; exact Nat.succ_le_succ h.kt

theorem msCells_snoc (l : List MS) (x : MS) : msCells (l ++ [x]) = msCells l ++ [.pointer (some ⟨x.m, 0, none⟩), .pointer (some ⟨x.r, 0, none⟩)] := by simp [msCells]
theorem msCells_at : ∀ (l : List MS) (i : Nat) (h : i < l.length), (msCells l)[i * 2]? = some (.pointer (some ⟨l[i].m, 0, none⟩)) ∧ (msCells l)[i * 2 + 1]? = some (.pointer (some ⟨l[i].r, 0, none⟩))
  | p :: l, 0, _ => by simp [msCells]
  | p :: l, i + 1, h => by
    have := msCells_at l i (by simpa using h)
    have e : msCells (p :: l) = .pointer (some ⟨p.m, 0, none⟩) :: .pointer (some ⟨p.r, 0, none⟩) :: msCells l := by simp [msCells]
    rw [e, show (i + 1) * 2 = i * 2 + 1 + 1 by omega]
    simpa using this
theorem msCells_set : ∀ (l : List MS) (i : Nat) (h : i < l.length) (x : MS), x.m = l[i].m → x.r = l[i].r → msCells (l.set i x) = msCells l
  | p :: l, 0, _, x, h1, h2 => by simp at h1 h2; simp [msCells, h1, h2]
  | p :: l, i + 1, h, x, h1, h2 => by
    have := msCells_set l i (by simpa using h) x (by simpa using h1) (by simpa using h2)
    simp only [List.set_cons_succ]
    have e : ∀ l, msCells (p :: l) = .pointer (some ⟨p.m, 0, none⟩) :: .pointer (some ⟨p.r, 0, none⟩) :: msCells l := fun l => by simp [msCells]
    rw [e, e, this]
/-- a mirror more: w: the world ahead of it; w1: it is made, both sides -/
def rhoMs (ρ : Nat → Nat) (n g m r : Nat) (k : Nat) : Nat := if k = m then 2 * n + 7 else if k = r then 2 * n + 8 else rhoAt ρ g 5 k
theorem Inv.pushMs {w w3 : World} {wz : World} {B0 W0 K O : Nat} {ρ : Nat → Nat} {s : St} (h : Inv wz w B0 W0 K O ρ s) {g c : Nat} (x : MS) (hown : w3.ownsRow B0 47 2 (.slice (some ⟨g, 0, none⟩) (s.ms.length + 1) c) (s.ms.length + 1) (msCells s.ms ++ [.pointer (some ⟨x.m, 0, none⟩), .pointer (some ⟨x.r, 0, none⟩)])) (hg : w.grownBy w3 s.vm.ownBlock) (hat : s.vm.ownBlock = some g ∨ w.heap.size ≤ g) (hgw : g < w3.heap.size)
    (hm : Mir w3 x.m x.room x.lo x.hi x.v x.v2 x.fs x.down) (hr : RMb w3 x.r x.T x.room x.down x.N) (hT : ∃ a n c, x.T = .slice a n c) (hN : ∃ a n c, x.N = .slice a n c) (hfl : Fl w3 x.cur x.fs) (htr : TreeOk x.fs) (h0 : 0 ≤ x.room) (h1 : x.room ≤ 1048576)
    (hmw : w.heap.size ≤ x.m) (hrw : w.heap.size ≤ x.r) (hmr : x.m ≠ x.r) (hgm : g ≠ x.m) (hgr : g ≠ x.r) (hlo : w.heap.size ≤ x.lo) (hoff : ∀ k, x.lo ≤ k → k < x.hi → k ≠ g ∧ k ≠ x.m ∧ k ≠ x.r) (hcf : ∀ k, x.cur.ownBlock = some k → k < w.heap.size ∧ ρ k = 0) :
    Inv wz (w3.setCell ⟨W0, 3, none⟩ (.slice (some ⟨g, 0, none⟩) (s.ms.length + 1) c)) B0 W0 (K + 1) O (rhoMs ρ s.ms.length g x.m x.r) { s with vm := .slice (some ⟨g, 0, none⟩) (s.ms.length + 1) c, ms := s.ms ++ [x] } := by
  have hat' : ρ g = 5 ∨ w.heap.size ≤ g := hat.imp (fun e => h.rm.2 g e) id
  have hkp := h.push_keeps (j := 3) (u := .slice (some ⟨g, 0, none⟩) (s.ms.length + 1) c) hg h.rm.2
  have hne := h.ne (by omega) hat'
  have hlt := h.lt
  have hmz : ∀ k, w.heap.size ≤ k → ρ k = 0 := h.zero
  have heq : ∀ k, k < w.heap.size → ρ k = 1 ∨ ¬ (ρ k = 1 ∨ ρ k = 5) → rhoMs ρ s.ms.length g x.m x.r k = ρ k := by
    intro k h1 h2
    unfold rhoMs
    rw [if_neg (by omega), if_neg (by omega)]
    exact rhoAt_eq (by omega) hat' k h1 h2
  have hrest := h.rest (ρ' := rhoMs ρ s.ms.length g x.m x.r) (fun x => x = 1 ∨ x = 5) (by omega) hkp heq
    (by
      intro k hk'
      unfold rhoMs at hk'
      have hb := h.b0
      by_cases e : k = x.m
      · subst e; exact ⟨by omega, by simpa using hm.lt⟩
      · rw [if_neg e] at hk'
        by_cases e2 : k = x.r
        · subst e2; exact ⟨by omega, by simpa using hr.lt⟩
        · rw [if_neg e2] at hk'
          exact h.hotAt (by omega) (by simpa using hg.size) hat' (by simpa using hgw) k hk')
  have hset : Keeps (fun k => k = W0) w3 (w3.setCell ⟨W0, 3, none⟩ (.slice (some ⟨g, 0, none⟩) (s.ms.length + 1) c)) := set_keeps _ _ _ _
  refine ⟨world_set (h.blk3 (by omega) hg h.rm.2), hrest.b0, hrest.fr, hrest.r0, hrest.hot, hrest.rn (by omega), hrest.rt (by omega), hrest.rb (by omega), ⟨?_, ?_⟩, hrest.ro (by omega), fun q hq => (hrest.trees q hq).keeps (Nat.le_succ K) (Keeps.refl (fun _ => False) _) (fun _ hk => hk.elim) (fun _ _ _ => rfl), ?_, ?_, hrest.out, Nat.le_succ_of_le h.kn, h.nz, Nat.le_succ_of_le h.kt, Nat.le_succ_of_le h.kb, h.bz, ?_, h.ko⟩
  · show World.ownsRow _ _ _ _ _ (s.ms ++ [x]).length (msCells (s.ms ++ [x]))
    rw [msCells_snoc, List.length_append]
    exact row_set hown (by simpa [Value.ownBlock] using hne)
  · intro k hk
    have e : g = k := by simpa [Value.ownBlock] using hk
    subst e
    unfold rhoMs
    rw [if_neg hgm, if_neg hgr]
    simp [rhoAt]
  · intro i hi
    have hi' : i < s.ms.length + 1 := by simpa using hi
    by_cases e : i < s.ms.length
    · have := hrest.ms i e (by omega) (by omega)
      have e2 : (s.ms ++ [x])[i]'(by simpa using hi') = s.ms[i] := List.getElem_append_left e
      exact e2 ▸ this
    · have e1 : i = s.ms.length := by omega
      subst e1
      have e2 : (s.ms ++ [x])[s.ms.length]'(by simp) = x := by simp
      show MsOk _ _ _ ((s.ms ++ [x])[s.ms.length]'(by simp))
      rw [e2]
      refine ⟨hm.keeps hset (by omega) (fun k a b => by omega), hr.keeps hset (by omega), hT, hN, hfl.keeps hset (fun k hk e => by subst e; have := (hcf k hk).2; have := h.r0; omega), htr, h0, h1, ?_, ?_, ?_, ?_⟩
      · simp [rhoMs]
      · simp [rhoMs, Ne.symm hmr]
      · intro k a b
        obtain ⟨p1, p2, p3⟩ := hoff k a b
        simp [rhoMs, p2, p3, rhoAt, p1, hmz k (by omega)]
      · intro k hk
        obtain ⟨p1, p2⟩ := hcf k hk
        rw [heq k p1 (by omega), p2]
  · intro y hy k hk
    rcases List.mem_append.1 hy with hy | hy
    · exact hrest.mf y hy k hk
    · simp at hy; subst hy
      exact Nat.lt_of_lt_of_le (hcf k hk).1 (by simpa using hg.size)
  · show (s.ms ++ [x]).length ≤ K + 1
    rw [List.length_append]; exact Nat.succ_le_succ h.km

/-- a mirror that has changed, on both sides -/
theorem Inv.setMs {w w' : World} {wz : World} {B0 W0 K O : Nat} {ρ : Nat → Nat} {s : St} (h : Inv wz w B0 W0 K O ρ s) (i : Nat) (hi : i < s.ms.length) (x : MS) (hxm : x.m = s.ms[i].m) (hxr : x.r = s.ms[i].r) (hk : Keeps (fun k => ρ k = 2 * i + 7 ∨ ρ k = 2 * i + 8) w w') (hx : MsOk w' ρ i x) (hcf : ∀ k, x.cur.ownBlock = some k → k < w'.heap.size) :
    Inv wz w' B0 W0 (K + 1) O ρ { s with ms := s.ms.set i x } := by
  have hr := h.rest (ρ' := ρ) (fun x => x = 2 * i + 7 ∨ x = 2 * i + 8) (by omega) hk (fun _ _ _ => rfl) (fun k hk' => ⟨(h.hot k hk').1, Nat.lt_of_lt_of_le (h.hot k hk').2 hk.size⟩)
  refine ⟨(hk.block W0 h.lt (by have := h.r0; omega)).trans h.blk, hr.b0, hr.fr, hr.r0, hr.hot, hr.rn (by omega), hr.rt (by omega), hr.rb (by omega), ?_, hr.ro (by omega), fun q hq => (hr.trees q hq).keeps (Nat.le_succ K) (Keeps.refl (fun _ => False) _) (fun _ hk => hk.elim) (fun _ _ _ => rfl), ?_, ?_, hr.out, Nat.le_succ_of_le h.kn, h.nz, Nat.le_succ_of_le h.kt, Nat.le_succ_of_le h.kb, h.bz, ?_, h.ko⟩
  · show RowAt _ _ _ _ _ _ _ (s.ms.set i x).length (msCells (s.ms.set i x))
    rw [msCells_set s.ms i hi x hxm hxr, List.length_set]
    exact hr.rm (by omega)
  · intro j hj
    have hj' : j < s.ms.length := by simpa using hj
    show MsOk _ _ _ ((s.ms.set i x)[j]'(by simpa using hj'))
    by_cases e : i = j
    · subst e
      rw [List.getElem_set_self]
      exact hx
    · rw [List.getElem_set_ne e]
      exact hr.ms j hj' (by omega) (by omega)
  · intro y hy k hk'
    rcases List.mem_or_eq_of_mem_set hy with hy | rfl
    · exact hr.mf y hy k hk'
    · exact hcf k hk'
  · show (s.ms.set i x).length ≤ K + 1
    rw [List.length_set]; exact Nat.le_succ_of_le h.km
end Go.Proofs.YtbhccdedcoajmaaGreatDoor
namespace Go.Proofs.YtbhccdedcoajmaaGreatDoor
open Go.RowKit

set_option maxHeartbeats 400000 in
theorem mnew_bad (v : Value) (fs : List (ByteArray × ByteArray)) (room : Int) (w : World) (hl : fs.length ≤ 70000) (hz : ∀ p ∈ fs, p.1.size ≤ 70000 ∧ p.2.size ≤ 70000) (hF : Af w v fs) {i : Nat} (hT : BadAt fs i) :
    Calls Tryz.prog 42 #[v, .int .i64 room] w fun e w' => ∃ b, e = .returned (.tuple #[.pointer none, .iface 123 (.pointer (some ⟨b, 0, none⟩))]) ∧ w'.cell? ⟨b, 0, none⟩ = some (.string (fs[i]'hT.1).1) ∧ w'.cell? ⟨b, 1, none⟩ = some (.int .i64 4) ∧ Below w.heap.size w w' := by
  have HC : Hid (Calls Tryz.prog 58 #[v] w fun e w' => ∃ b, e = .returned (.iface 123 (.pointer (some ⟨b, 0, none⟩))) ∧ w'.cell? ⟨b, 0, none⟩ = some (.string (fs[i]'hT.1).1) ∧ w'.cell? ⟨b, 1, none⟩ = some (.int .i64 4) ∧ Below w.heap.size w w') := by
    refine (tcheck_any v fs w hl hz hF).mono ?_
    rintro e w' ⟨h | ⟨j, b, hj, rfl, h0, h1⟩, hb⟩
    · exact absurd h.2 hT.not
    · obtain rfl := hj.only hT
      exact ⟨b, rfl, h0, h1, hb⟩
  generalize (fs[i]'hT.1).1 = nm at *
  clear hz hT hF
  go_enter Tryz.func42, Tryz.ntmps42
  go_wp2_with fail
  refine HC.out.mono ?_
  rintro e w1 ⟨b, rfl, h0, h1, hb⟩
  have HX : Hid (w1.cell? ⟨b, 0, none⟩ = some (.string nm) ∧ w1.cell? ⟨b, 1, none⟩ = some (.int .i64 4) ∧ Below w.heap.size w w1) := ⟨h0, h1, hb⟩
  clear h0 h1 hb HC
  go_wp2_with fail
  go_ret2
  exact ⟨b, rfl, HX.out⟩
set_option maxHeartbeats 400000 in
theorem mnew_room (v : Value) (fs : List (ByteArray × ByteArray)) (room : Int) (w : World) (hF : Af w v fs) (hT : TreeOk fs) (h0 : room < 0 ∨ 1048576 < room) :
    Calls Tryz.prog 42 #[v, .int .i64 room] w fun e w' => e = .returned (.tuple #[.pointer none, .iface 50 (.int .i64 6)]) ∧ Below w.heap.size w w' := by
  have hl := hT.len
  have hz : ∀ p ∈ fs, p.1.size ≤ 70000 ∧ p.2.size ≤ 70000 := fun p hp => by have := hT.sizes p hp; omega
  have HC : Hid (Calls Tryz.prog 58 #[v] w fun e w' => e = .returned .nilIface ∧ Below w.heap.size w w') := by
    refine (tcheck_any v fs w (by omega) hz hF).mono ?_
    rintro e w' ⟨h | ⟨j, b, hj, rfl, h0, h1⟩, hb⟩
    · exact ⟨h.1, hb⟩
    · exact absurd hT hj.not
  clear hz hT hF hl
  go_enter Tryz.func42, Tryz.ntmps42
  go_wp2_with fail
  refine HC.out.mono ?_
  rintro e w1 ⟨rfl, hb⟩
  have HB := hide hb
  clear hb HC
  by_cases h : room < 0
  · go_wp2_with fail
    go_ret2
    exact ⟨rfl, HB.out⟩
  · have h3 : 0 ≤ room := by omega
    have h2 : 1048576 < room := by omega
    go_wp2_with fail
    go_ret2
    exact ⟨rfl, HB.out⟩
theorem plainNew_any (fv cv : Value) (w : World) (Q : Value → Int → ByteArray → World → Prop)
    (hc : Calls Tryz.prog 42 #[fv, cv] w fun e w' => ∃ p e0, e = .returned (.tuple #[p, e0]) ∧ Calls Tryz.prog 33 #[e0] w' fun e w2 => ∃ k n, e = .returned (.tuple #[.int .i64 k, .string n]) ∧ Q p k n w2) :
    Calls Tryz.prog 23 #[fv, cv] w fun e w' => ∃ p k n, e = .returned (.tuple #[p, .int .i64 k, .string n]) ∧ Q p k n w' := by
  have HC := hide hc
  clear hc
  go_enter Tryz.func23, Tryz.ntmps23
  go_wp2_with fail
  refine HC.out.mono ?_
  rintro e w1 ⟨p, e0, rfl, ht⟩
  have HT := hide ht
  clear ht HC
  go_wp2_with fail
  refine HT.out.mono ?_
  rintro e w2 ⟨k, n, rfl, hq⟩
  have HQ := hide hq
  clear hq HT
  go_wp2_with fail
  refine bodyPost_ret (v := .tuple #[p, .int .i64 k, .string n]) (by simp [results, Tryz.results23, go_sem]) rfl ⟨p, k, n, rfl, HQ.out⟩
theorem pNew_bad (v : Value) (fs : List (ByteArray × ByteArray)) (room : Int) (w : World) (he : ErrT w) (hl : fs.length ≤ 70000) (hz : ∀ p ∈ fs, p.1.size ≤ 70000 ∧ p.2.size ≤ 70000) (hF : Af w v fs) {i : Nat} (hT : BadAt fs i) :
    Calls Tryz.prog 23 #[v, .int .i64 room] w fun e w' => e = .returned (.tuple #[.pointer none, .int .i64 4, .string (fs[i]'hT.1).1]) ∧ Below w.heap.size w w' := by
  refine (plainNew_any v _ w (fun p k n w' => p = .pointer none ∧ k = 4 ∧ n = (fs[i]'hT.1).1 ∧ Below w.heap.size w w') ((mnew_bad v fs room w hl hz hF hT).mono ?_)).mono ?_
  · rintro e w' ⟨b, rfl, h0, h1, hb⟩
    exact ⟨_, _, rfl, (told_file b _ 4 w' (he.keep hb) h0 h1).mono (by rintro e w2 ⟨rfl, hb2⟩; exact ⟨_, _, rfl, rfl, rfl, rfl, below_all hb hb2⟩)⟩
  · rintro e w' ⟨p, k, n, rfl, rfl, rfl, rfl, hb⟩
    exact ⟨rfl, hb⟩
theorem pNew_room (v : Value) (fs : List (ByteArray × ByteArray)) (room : Int) (w : World) (he : ErrT w) (hF : Af w v fs) (hT : TreeOk fs) (h0 : room < 0 ∨ 1048576 < room) :
    Calls Tryz.prog 23 #[v, .int .i64 room] w fun e w' => e = .returned (.tuple #[.pointer none, .int .i64 6, .string ⟨#[]⟩]) ∧ Below w.heap.size w w' := by
  refine (plainNew_any v _ w (fun p k n w' => p = .pointer none ∧ k = 6 ∧ n = ⟨#[]⟩ ∧ Below w.heap.size w w') ((mnew_room v fs room w hF hT h0).mono ?_)).mono ?_
  · rintro e w' ⟨rfl, hb⟩
    exact ⟨_, _, rfl, (told_kind 6 w' (he.keep hb)).mono (by rintro e w2 ⟨rfl, hb2⟩; exact ⟨_, _, rfl, rfl, rfl, rfl, below_all hb hb2⟩)⟩
  · rintro e w' ⟨p, k, n, rfl, rfl, rfl, rfl, hb⟩
    exact ⟨rfl, hb⟩
end Go.Proofs.YtbhccdedcoajmaaGreatDoor
namespace Go.Proofs.YtbhccdedcoajmaaGreatDoor
open Go.RowKit

/-- the lesser of two names -/
def lesserB (x y : ByteArray) : ByteArray := if ltL (nums y) (nums x) = true then y else x
theorem lesserB_nums (x y : ByteArray) : nums (lesserB x y) = lesser (nums x) (nums y) := by
  unfold lesserB lesser
  split <;> rfl
theorem run_min_text (ts : Array TypeId) (t : TypeId) (x y : ByteArray) (w : World) : (Builtin.min_ ts t #[.string x, .string y]).run Tryz.prog w = .ok (.string (lesserB x y)) w := by
  have h := text_gtr x y
  unfold lesserB
  rw [← h]
  simp [Builtin.min_, Builtin.min2, Op.stringOp, asBool]
  cases Op.bytesLess x.toList y.toList <;> cases x.toList == y.toList <;> simp
theorem ent_neq (a a2 : ByteArray) (n z D d : Int) (w : World) : (binOp BinOp.neq 115 (.agg #[.string a, .int .i64 n, .int .u64 D]) (.agg #[.string a2, .int .i64 z, .int .u64 d])).run Tryz.prog w = .ok (.bool (!(decide (nums a = nums a2) && (decide (n = z) && decide (D = d))))) w := by
  rw [← text_eq, run_neq_struct]
  cases h1 : a.toList == a2.toList <;> cases h2 : decide (n = z) <;> cases h3 : decide (D = d)
  all_goals
    simp only [decide_eq_true_eq, decide_eq_false_iff_not] at h2 h3
    simp [go_sem, Op.eqFields, h1, h2, h3]
set_option maxHeartbeats 400000 in
theorem otherBasis_any (nm : ByteArray) (w : World) :
    Calls Tryz.prog 134 #[.string nm] w fun e w' => e = .returned (.iface 123 (.pointer (some ⟨w.heap.size, 0, none⟩))) ∧ w' = w.alloc (.cells #[.string nm, .int .i64 9] 127) := by
  go_enter Tryz.func134, Tryz.ntmps134
  go_wp2_with fail
  go_ret
  exact ⟨rfl, rfl⟩
set_option maxRecDepth 10000 in
set_option maxHeartbeats 1000000 in
theorem entryOf_any (a : ByteArray) (vo : Option Addr) (b cp : Nat) (zs : List Int) (w : World) (hm : zs.length ≤ 70000) (hz : Bytes zs) (hD : DataAt w vo b cp zs) :
    Calls Tryz.prog 133 #[.agg #[.string a, .slice vo zs.length cp]] w fun e w' => e = .returned (.agg #[.string a, .int .i64 zs.length, .int .u64 (digestOf zs)]) ∧ Below w.heap.size w w' := by
  obtain ⟨o1, ho1⟩ : ∃ o, o = Obj.cells #[.string a, .slice vo zs.length cp] 69 := ⟨_, rfl⟩
  obtain ⟨o2, ho2⟩ : ∃ o, o = Obj.cells #[.string ⟨#[]⟩, .int .i64 0, .int .u64 0] 115 := ⟨_, rfl⟩
  have hb : Below w.heap.size w ((w.alloc o1).alloc o2) := ((Below.refl _ _).alloc (Nat.le_refl _) _).alloc (by simp) _
  have HD : Hid (Calls Tryz.prog 124 #[.slice vo zs.length cp] ((w.alloc o1).alloc o2).drew fun e w' => e = .returned (.int .u64 (digestOf zs)) ∧ w' = ((w.alloc o1).alloc o2).drew) := digest_opt vo b cp zs _ hm hz ((hD.below hb).below (Below.refl _ _).drew)
  have hrow : ((w.alloc o1).alloc o2).heap[w.heap.size + 1]? = some (.cells #[.string ⟨#[]⟩, .int .i64 0, .int .u64 0] 115 (0, 0)) := by
    have := heap_alloc_new (w.alloc o1) o2
    rw [show (w.alloc o1).heap.size = w.heap.size + 1 by simp] at this
    rw [this, ho2]
  have x0 : ((w.alloc o1).alloc o2).cell? ⟨w.heap.size, 0, none⟩ = some (.string a) := by
    rw [World.cell?_alloc_lt _ _ _ (by simp), ho1]; exact cell_new rfl rfl
  have x1 : ((w.alloc o1).alloc o2).cell? ⟨w.heap.size, 1, none⟩ = some (.slice vo zs.length cp) := by
    rw [World.cell?_alloc_lt _ _ _ (by simp), ho1]; exact cell_new rfl rfl
  have HB := hide hb
  rw [ho1, ho2] at HD x0 x1 HB hrow
  clear hD hz hb ho1 ho2
  generalize hzn : zs.length = n at *
  generalize digestOf zs = D at *
  clear hzn
  go_enter Tryz.func133, Tryz.ntmps133
  go_wp2_with fail
  generalize hWA : (w.alloc (.cells #[.string a, .slice vo n cp] 69)).alloc (.cells #[.string ⟨#[]⟩, .int .i64 0, .int .u64 0] 115) = wa at *
  clear hWA
  have k0 : wa.cell? ⟨w.heap.size + 1, 0, none⟩ = some (.string ⟨#[]⟩) := cell_row hrow rfl
  have k1 : wa.cell? ⟨w.heap.size + 1, 1, none⟩ = some (.int .i64 0) := cell_row hrow rfl
  have k2 : wa.cell? ⟨w.heap.size + 1, 2, none⟩ = some (.int .u64 0) := cell_row hrow rfl
  have kf : ∀ j, wa.frozen? ⟨w.heap.size + 1, j, none⟩ = false := fun j => frozen_of_row _ _ _ _ _ hrow
  clear hrow
  go_region_held3 (fun w' => w'.cell? ⟨w.heap.size, 0, none⟩ = some (.string a) ∧ w'.cell? ⟨w.heap.size, 1, none⟩ = some (.slice vo n cp))
    (first | exact ⟨x0, x1⟩ | exact ⟨by go_keep, by go_keep⟩)
    ((go_at_call 124; refine HD.out.mono ?_; rintro e w2 ⟨rfl, hw2⟩; obtain rfl := hw2.symm))
  go_wp2_with fail
  refine bodyPost_ret (v := .agg #[.string a, .int .i64 n, .int .u64 D]) (by simp [results, Tryz.results133, go_sem, k0, k1, k2]) rfl ⟨rfl, ?_⟩
  exact (((HB.out.setCell (p := ⟨w.heap.size + 1, 0, none⟩) (by simp) _).setCell (p := ⟨w.heap.size + 1, 1, none⟩) (by simp) _).setCell (p := ⟨w.heap.size + 1, 2, none⟩) (by simp) _).drew
end Go.Proofs.YtbhccdedcoajmaaGreatDoor
