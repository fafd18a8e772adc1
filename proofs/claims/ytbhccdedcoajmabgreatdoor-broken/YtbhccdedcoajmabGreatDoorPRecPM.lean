import Derived.Test.YtbhccdedcoajmabGreatDoorPRecord
import Derived.Test.YtbhccdedcoajmabGreatDoorToldM
import Derived.Test.YtbhccdedcoajmabGreatDoorLFilesM
import Derived.Test.YtbhccdedcoajmabGreatDoorClip
namespace Go.Proofs.YtbhccdedcoajmabGreatDoor
open Go.RowKit

set_option maxHeartbeats 1000000 in
theorem precord_err (vs vr : Value) (B : Int) (w : World) (Q : Value → World → Prop) (t : TypeId) (hck : Calls Tryz.prog 61 #[vs, vr, .int .i64 B] w fun e w' => ∃ u, e = .returned (.iface t u) ∧ Q (.iface t u) w') :
    Calls Tryz.prog 41 #[vs, vr, .int .i64 B] w fun e w' => ∃ u, e = .returned (.tuple #[.slice none 0 0, .iface t u]) ∧ Q (.iface t u) w' := by
  have HCK := hide hck
  clear hck
  go_enter Tryz.func41, Tryz.ntmps41
  go_wp2_with fail
  refine HCK.out.mono ?_
  rintro e w1 ⟨u, rfl, hq⟩
  have HQ := hide hq
  clear hq HCK
  go_wp2_with fail
  go_ret2
  exact ⟨_, rfl, HQ.out⟩

set_option maxHeartbeats 1000000 in
theorem mrecord_any (vs vr : Value) (B : Int) (w : World) (Q : Value → Value → World → Prop) (hc : Calls Tryz.prog 41 #[vs, vr, .int .i64 B] w fun e w' => ∃ r e0, e = .returned (.tuple #[r, e0]) ∧ Q r e0 w') :
    Calls Tryz.prog 26 #[vs, vr, .int .i64 B] w fun e w' => ∃ r e0, e = .returned (.tuple #[r, e0]) ∧ Q r e0 w' := by
  have HC := hide hc
  clear hc
  go_enter Tryz.func26, Tryz.ntmps26
  go_wp2_with fail
  refine HC.out.mono ?_
  rintro e w1 ⟨r, e0, rfl, hr⟩
  have HR := hide hr
  clear hr
  go_wp2_with fail
  go_ret2
  exact ⟨_, _, rfl, HR.out⟩

set_option maxHeartbeats 1000000 in
theorem plainRecord_any (vs vr : Value) (B : Int) (w : World) (Q : Value → Value → Value → World → Prop)
    (hc : Calls Tryz.prog 41 #[vs, vr, .int .i64 B] w fun e w' => ∃ r e0, e = .returned (.tuple #[r, e0]) ∧ Calls Tryz.prog 21 #[e0] w' fun e w2 => ∃ k n, e = .returned (.tuple #[k, n]) ∧ Q r k n w2) :
    Calls Tryz.prog 18 #[vs, vr, .int .i64 B] w fun e w' => ∃ r k n, e = .returned (.tuple #[r, k, n]) ∧ Q r k n w' := by
  have HC := hide (mrecord_any vs vr B w _ hc)
  clear hc
  go_enter Tryz.func18, Tryz.ntmps18
  go_wp2_with fail
  refine HC.out.mono ?_
  rintro e w1 ⟨r, e0, rfl, ht⟩
  have HT := hide ht
  clear ht HC
  go_wp2_with fail
  refine HT.out.mono ?_
  rintro e w2 ⟨k, n, rfl, hq⟩
  have HQ := hide hq
  clear hq HT
  go_wp2_with fail
  refine bodyPost_ret (v := .tuple #[r, k, n]) (by simp [results, Tryz.results18, go_sem]) rfl ⟨r, k, n, rfl, HQ.out⟩

theorem pRecord_block (vs vr : Value) (B : Int) (h : B < 1 ∨ 64 < B) (w : World) (he : ErrT w) :
    Calls Tryz.prog 18 #[vs, vr, .int .i64 B] w fun e w' => e = .returned (.tuple #[.slice none 0 0, .int .i64 1, .string ⟨#[]⟩]) ∧ Below w.heap.size w w' := by
  have h1 := precord_err vs vr B w (fun v w' => v = .iface 30 (.int .i64 1) ∧ w' = w) 30 ((pcheck_block vs vr B h w).mono (by rintro e w' ⟨rfl, rfl⟩; exact ⟨_, rfl, rfl, rfl⟩))
  refine (plainRecord_any vs vr B w (fun r k n w' => r = .slice none 0 0 ∧ k = .int .i64 1 ∧ n = .string ⟨#[]⟩ ∧ Below w.heap.size w w') (h1.mono ?_)).mono ?_
  · rintro e w' ⟨u, rfl, hu, rfl⟩
    refine ⟨_, _, rfl, ?_⟩
    rw [hu]
    exact (told_kind 1 _ he).mono (by rintro e w2 ⟨rfl, hb⟩; exact ⟨_, _, rfl, rfl, rfl, rfl, hb⟩)
  · rintro e w' ⟨r, k, n, rfl, rfl, rfl, rfl, hb⟩
    exact ⟨rfl, hb⟩

theorem pRecord_ok (vs vr : Value) (fs fr : List (ByteArray × ByteArray)) (B : Nat) (w : World) (hB1 : 1 ≤ B) (hB2 : B ≤ 64) (hls : fs.length ≤ 70000) (hlr : fr.length ≤ 70000) (hzs : ∀ p ∈ fs, p.1.size ≤ 70000 ∧ p.2.size ≤ 70000) (hzr : ∀ p ∈ fr, p.1.size ≤ 70000 ∧ p.2.size ≤ 70000) (hFs : Af w vs fs) (hFr : Af w vr fr) (hTs : TreeOk fs) (hTr : TreeOk fr) :
    Calls Tryz.prog 18 #[vs, vr, .int .i64 B] w fun e w' => ∃ v, e = .returned (.tuple #[v, .int .i64 0, .string ⟨#[]⟩]) ∧ w'.ownsRow w.heap.size 5 1 v (recordL (fs.map filOf) (fr.map filOf) B).length (u8s (recordL (fs.map filOf) (fr.map filOf) B)) ∧ Below w.heap.size w w' := by
  have hck : Calls Tryz.prog 61 #[vs, vr, .int .i64 B] w fun e w' => e = .returned .nilIface ∧ Below w.heap.size w w' := by
    refine (pcheck_any vs vr fs fr B (by omega) (by omega) w hls hlr hzs hzr hFs hFr).mono ?_
    rintro e w' ⟨⟨rfl, _, _⟩ | ⟨b, rfl, h⟩, hb⟩
    · exact ⟨rfl, hb⟩
    · exfalso
      rcases h with ⟨i, _, h, _⟩ | ⟨_, i, _, h, _⟩
      · exact h.not hTs
      · exact h.not hTr
  refine (plainRecord_any vs vr B w (fun r k n w' => k = .int .i64 0 ∧ n = .string ⟨#[]⟩ ∧ w'.ownsRow w.heap.size 5 1 r (recordL (fs.map filOf) (fr.map filOf) B).length (u8s (recordL (fs.map filOf) (fr.map filOf) B)) ∧ Below w.heap.size w w') ((precord_ok vs vr fs fr B w hB1 hB2 hTs hTr hFs hFr hck).mono ?_)).mono ?_
  · rintro e w' ⟨v, rfl, ho, hb⟩
    refine ⟨_, _, rfl, (told_nil w').mono ?_⟩
    rintro e w2 ⟨rfl, hb2⟩
    exact ⟨_, _, rfl, rfl, rfl, ownsRow_below ho hb2, below_all hb hb2⟩
  · rintro e w' ⟨r, k, n, rfl, rfl, rfl, ho, hb⟩
    exact ⟨_, rfl, ho, hb⟩

theorem pRecord_bad (vs vr : Value) (fs fr : List (ByteArray × ByteArray)) (B : Nat) (w : World) (he : ErrT w) (hB1 : 1 ≤ B) (hB2 : B ≤ 64) (hls : fs.length ≤ 70000) (hlr : fr.length ≤ 70000) (hzs : ∀ p ∈ fs, p.1.size ≤ 70000 ∧ p.2.size ≤ 70000) (hzr : ∀ p ∈ fr, p.1.size ≤ 70000 ∧ p.2.size ≤ 70000) (hFs : Af w vs fs) (hFr : Af w vr fr) (hno : ¬ (TreeOk fs ∧ TreeOk fr)) :
    Calls Tryz.prog 18 #[vs, vr, .int .i64 B] w fun e w' => ∃ nm, e = .returned (.tuple #[.slice none 0 0, .int .i64 4, .string nm]) ∧ ((∃ i, ∃ h : BadAt fs i, nm = (fs[i]'h.1).1) ∨ TreeOk fs ∧ ∃ i, ∃ h : BadAt fr i, nm = (fr[i]'h.1).1) ∧ Below w.heap.size w w' := by
  have hck := precord_err vs vr B w (fun v w' => (TreeErr w' fs v ∨ TreeOk fs ∧ TreeErr w' fr v) ∧ Below w.heap.size w w') 69 ((pcheck_any vs vr fs fr B (by omega) (by omega) w hls hlr hzs hzr hFs hFr).mono (by
    rintro e w' ⟨⟨rfl, h1, h2⟩ | ⟨b, rfl, h⟩, hb⟩
    · exact absurd ⟨h1, h2⟩ hno
    · exact ⟨_, rfl, h, hb⟩))
  refine (plainRecord_any vs vr B w (fun r k n w' => r = .slice none 0 0 ∧ k = .int .i64 4 ∧ (∃ nm, n = .string nm ∧ ((∃ i, ∃ h : BadAt fs i, nm = (fs[i]'h.1).1) ∨ TreeOk fs ∧ ∃ i, ∃ h : BadAt fr i, nm = (fr[i]'h.1).1)) ∧ Below w.heap.size w w') (hck.mono ?_)).mono ?_
  · rintro e w' ⟨u, rfl, h, hb⟩
    refine ⟨_, _, rfl, ?_⟩
    rcases h with ⟨i, b, h, hu, c0, c1⟩ | ⟨hok, i, b, h, hu, c0, c1⟩
    · rw [hu]
      refine (told_file b _ 4 w' (he.keep hb) c0 c1).mono ?_
      rintro e w2 ⟨rfl, hb2⟩
      exact ⟨_, _, rfl, rfl, rfl, ⟨_, rfl, .inl ⟨i, h, rfl⟩⟩, below_all hb hb2⟩
    · rw [hu]
      refine (told_file b _ 4 w' (he.keep hb) c0 c1).mono ?_
      rintro e w2 ⟨rfl, hb2⟩
      exact ⟨_, _, rfl, rfl, rfl, ⟨_, rfl, .inr ⟨hok, i, h, rfl⟩⟩, below_all hb hb2⟩
  · rintro e w' ⟨r, k, n, rfl, rfl, rfl, ⟨nm, rfl, h⟩, hb⟩
    exact ⟨nm, rfl, h, hb⟩
end Go.Proofs.YtbhccdedcoajmabGreatDoor
namespace Go.Proofs.YtbhccdedcoajmabGreatDoor
open Go.RowKit

/-- a file that mirrorkeep.tree makes -/
structure Kq where
  j : Nat
  nm : ByteArray
  dt : ByteArray
  b : Nat
  cap : Nat
def kqCells (qs : List Kq) : List Value := qs.flatMap fun q => [.string q.nm, .slice (some ⟨q.b, 0, none⟩) q.dt.size q.cap]
theorem kqCells_snoc (qs : List Kq) (q : Kq) : kqCells (qs ++ [q]) = kqCells qs ++ [.string q.nm, .slice (some ⟨q.b, 0, none⟩) q.dt.size q.cap] := by simp [kqCells]
theorem kqCells_at : ∀ (qs : List Kq) (i : Nat) (hi : i < qs.length), (kqCells qs)[i * 2]? = some (.string qs[i].nm) ∧ (kqCells qs)[i * 2 + 1]? = some (.slice (some ⟨qs[i].b, 0, none⟩) qs[i].dt.size qs[i].cap)
  | q :: qs, 0, _ => by simp [kqCells]
  | q :: qs, i + 1, h => by
    have := kqCells_at qs i (by simpa using h)
    have e : kqCells (q :: qs) = .string q.nm :: .slice (some ⟨q.b, 0, none⟩) q.dt.size q.cap :: kqCells qs := by simp [kqCells]
    rw [e, show (i + 1) * 2 = i * 2 + 1 + 1 by omega]
    simpa using this
structure KqOk (w : World) (k : Nat) (q : Kq) : Prop where
  name : nums q.nm = [((97 + q.j : Nat) : Int)]
  lt : q.j < k
  size : q.dt.size ≤ 300
  blk : q.b < w.heap.size
  room : q.dt.size ≤ q.cap
  cells : ∀ i (h : i < (nums q.dt).length), w.cell? ⟨q.b, 0 + i, none⟩ = some (.int .u8 (nums q.dt)[i])
def kqF (q : Kq) : ByteArray × ByteArray := (q.nm, q.dt)
theorem kq_af {w : World} {base k : Nat} {v : Value} {qs : List Kq} (h : w.ownsRow base 37 2 v qs.length (kqCells qs)) (hq : ∀ q ∈ qs, KqOk w k q) : Af w v (qs.map kqF) := by
  rcases h.2 with ⟨hv, h0⟩ | ⟨g, cap, cur, hv, _, hg, h1, _⟩
  · exact ⟨none, 0, by rw [hv, List.length_map, h0], by rw [List.length_map]; omega, fun i hi => by rw [List.length_map] at hi; omega⟩
  · have hlt : g < w.heap.size := (Array.getElem?_eq_some_iff.1 hg).1
    refine ⟨some ⟨g, 0, none⟩, cap, by rw [List.length_map]; exact hv, by rw [List.length_map]; exact h1, fun i hi => ?_⟩
    rw [List.length_map] at hi
    rw [List.getElem_map]
    have hk := hq _ (List.getElem_mem hi)
    refine ⟨g, qs[i].b, qs[i].cap, rfl, hlt, ?_, ?_, hk.blk, hk.room, hk.cells⟩
    · have := h.cells (g := g) (by rw [hv]; rfl) (i * 2) _ (kqCells_at qs i hi).1
      rw [add_at] at this; exact this
    · have := h.cells (g := g) (by rw [hv]; rfl) (i * 2 + 1) _ (kqCells_at qs i hi).2
      rw [add_at] at this; exact this
theorem kq_tree {w : World} {k : Nat} {qs : List Kq} (hk : k ≤ 8) (hl : qs.length ≤ k) (hq : ∀ q ∈ qs, KqOk w k q) (hp : qs.Pairwise fun a b => a.j < b.j) : TreeOk (qs.map kqF) := by
  intro i hi
  rw [List.length_map] at hi
  have h1 := hq _ (List.getElem_mem hi)
  have hj := h1.lt
  refine ⟨by rw [List.length_map]; exact hi, ?_, fun h0 => ?_, ?_, by omega⟩
  · rw [List.getElem_map]
    show nameB (nums qs[i].nm) = true
    rw [h1.name]
    simp [nameB]
    omega
  · rw [List.getElem_map, List.getElem_map]
    have h2 := hq _ (List.getElem_mem (show i - 1 < qs.length by omega))
    have := List.pairwise_iff_getElem.1 hp (i - 1) i (by omega) hi (by omega)
    show ltL (nums qs[i - 1].nm) (nums qs[i].nm) = true
    rw [h1.name, h2.name]
    simp [ltL]
    omega
  · rw [List.getElem_map]
    exact h1.size

set_option maxRecDepth 10000 in
set_option maxHeartbeats 600000 in
theorem ktree_any (v : Value) (ss : List ByteArray) (bits : Int) (w : World) (hS : Sl w v ss) (_hl : ss.length ≤ maxLen) (hz : ∀ s ∈ ss, s.size ≤ maxLen) (hb : (Lit.int .i64 bits).wf = true) :
    Calls Tryz.prog 8 #[v, .int .i64 bits] w fun e w' => ∃ u fs, e = .returned u ∧ Af w' u fs ∧ TreeOk fs ∧ Below w.heap.size w w' := by
  obtain ⟨i0, hi, z0, z1, z2⟩ := info_parts Tryz.info37
  have hbits : -9223372036854775808 ≤ bits ∧ bits ≤ 9223372036854775807 := by simpa [Lit.wf, IntKind.min, IntKind.max, IntKind.signed, IntKind.bits] using hb
  unfold maxLen at _hl
  obtain ⟨va, cap, rfl, hcap, hcell⟩ := hS
  have HC : Hid (∀ k, k < ss.length → ∃ (g o : Nat) (a : ByteArray), va = some ⟨g, o, none⟩ ∧ g < w.heap.size ∧ w.cell? ⟨g, o + k, none⟩ = some (.string a) ∧ a.size ≤ maxLen) := by
    intro k hk
    obtain ⟨g, o, e, hg, c⟩ := hcell k hk
    exact ⟨g, o, _, e, hg, c, hz _ (List.getElem_mem hk)⟩
  clear hcell hz hb
  generalize ss.length = n at *
  go_enter Tryz.func8, Tryz.ntmps8
  go_wp2_with fail
  go_loopw [5, 6] (fun v5 v6 wr => ∃ (k : Nat) (qs : List Kq), k ≤ 8 ∧ v6 = .int .i64 k ∧ qs.length ≤ k ∧ Hid (wr.ownsRow w.heap.size 37 2 v5 qs.length (kqCells qs)) ∧ Hid ((∀ q ∈ qs, KqOk wr k q) ∧ (qs.Pairwise fun a b => a.j < b.j) ∧ ∀ q ∈ qs, v5.ownBlock ≠ some q.b) ∧ Hid (Below w.heap.size w wr)) (fun _ v6 _ => 8 - (intOf v6).toNat)
  case atStart => exact ⟨0, [], by omega, rfl, by simp, World.ownsRow_nil _ _ _ _, ⟨fun q hq => by simp at hq, List.Pairwise.nil, fun q hq => by simp at hq⟩, Below.refl _ _⟩
  case round =>
    obtain ⟨k, qs, hk, rfl, hql, HOr, HQr, HBr⟩ := hrel
    by_cases h1 : k < n
    · by_cases h2 : k < 8
      · have h1' : (k : Int) < (n : Int) := by omega
        have h2' : (k : Int) < 8 := by omega
        obtain ⟨g, o, a, rfl, hg, c0, ha⟩ := HC.out k h1
        have d0 := (HBr.out.cell (p := ⟨g, o + k, none⟩) hg).trans c0
        clear c0
        have HSKIP : Hid ((∀ q ∈ qs, KqOk wr (k + 1) q)) := fun q hq => ⟨(HQr.out.1 q hq).name, by have := (HQr.out.1 q hq).lt; omega, (HQr.out.1 q hq).size, (HQr.out.1 q hq).blk, (HQr.out.1 q hq).room, (HQr.out.1 q hq).cells⟩
        obtain ⟨t, HCL, ht⟩ : ∃ t : ByteArray, Hid (∀ W, Calls Tryz.prog 20 #[.string a, .int .i64 300] W fun e w' => e = .returned (.string t) ∧ w' = W) ∧ t.size ≤ 300 := by
          by_cases hs : a.size ≤ 300
          · exact ⟨a, fun W => clip_short a 300 hs ha W, hs⟩
          · exact ⟨a.extract 0 300, fun W => clip_long a 300 (by omega) ha W, by simp [ByteArray.size_extract]; omega⟩
        obtain ⟨o1, ho1⟩ : ∃ o1, o1 = Obj.cells #[.int .u8 (97 + (k : Int))] 5 := ⟨_, rfl⟩
        have hcv1 : (convert 25 9 (.slice (some ⟨wr.heap.size, 0, none⟩) 1 1)).run Tryz.prog (wr.alloc o1) = .ok (.string (bytesOf [97 + (k : Int)])) (wr.alloc o1) := by
          have := conv_cells wr.heap.size 0 1 [97 + (k : Int)] (wr.alloc o1) (fun x hx => by simp at hx; omega) (fun i h => by
            have : i = 0 := by simpa using h
            subst this
            rw [ho1]
            exact cell_new rfl rfl)
          exact this
        obtain ⟨cap2, W1, hr, hcap2, hcells, _, hW1, hbW⟩ := conv_any t (wr.alloc o1)
        rw [show (wr.alloc o1).heap.size = wr.heap.size + 1 by simp] at hr hcells hW1 hbW
        have hbA : Below wr.heap.size wr W1 := ((Below.refl _ _).alloc (Nat.le_refl _) o1).trans (hbW.mono (by omega))
        rw [ho1] at hr hcv1
        have hmod : (97 + (k : Int)) % 256 = 97 + (k : Int) := by omega
        have HCE := hide hcells
        have HBA := hide hbA
        have HNM : Hid (nums (bytesOf [97 + (k : Int)]) = [((97 + k : Nat) : Int)]) := by
          show _ = _
          rw [nums_bytesOf (fun x hx => by simp at hx; omega)]
          simp
        have HO1 := hide (ownsRow_below HOr.out hbA)
        have HW1 := hide hW1
        clear hcells hbW hbA ho1 hW1
        generalize bytesOf [97 + (k : Int)] = nm at *
        go_wp2_with fail
        · refine (HCL.out _).mono ?_
          rintro e w1 ⟨rfl, hw1⟩
          obtain rfl := hw1.symm
          go_wp2_with (at_builtin; refine wpList_append_own_at _ rfl (.tmp 28) (.tmp 37) 23 rfl w.heap.size 37 i0 (.agg #[.string ⟨#[]⟩, .slice none 0 0]) 2 40 Tryz.underlying23 hi z0 z1 z2 rfl (by decide) _ qs.length (kqCells qs) rfl (HO1.out.alloc _) ⟨W1.heap.size, 0, none⟩ 1 1 [.string nm, .slice (some ⟨wr.heap.size + 1, 0, none⟩) t.size cap2] rfl rfl ?ka ?kb ?kc ?kd ?ke ?kf)
          case ka =>
            intro j y hy
            match j, hy with
            | 0, hy => simp at hy; subst hy; simp [Addr.add]
            | 1, hy => simp at hy; subst hy; simp [Addr.add]
          case kb => intro y hy; simp at hy; rcases hy with rfl | rfl <;> rfl
          case kc => unfold maxLen; omega
          case kd => omega
          case ke => have := HBr.out.size; have := HW1.out; simp; omega
          case kf =>
            intro v5 w5 hown5 hgrow5 _ hloc5
            have hW1 := HW1.out
            have hgg := (World.grownBy_alloc W1 (.cells #[.string nm, .slice (some ⟨wr.heap.size + 1, 0, none⟩) t.size cap2] 37) u5.ownBlock).trans hgrow5
            have hrow : ∀ j, u5.ownBlock = some j → j < wr.heap.size := fun j hj => (HOr.out.lt j hj).2
            have hlast : w.heap.size ≤ wr.heap.size := HBr.out.size
            have HB5 : Hid (Below w.heap.size w w5) := (HBr.out.trans (HBA.out.mono hlast)).grown hgg (by omega) (fun j hj => (HOr.out.lt j hj).1)
            have HO5 : Hid (w5.ownsRow w.heap.size 37 2 v5 (qs ++ [(⟨k, nm, t, wr.heap.size + 1, cap2⟩ : Kq)]).length (kqCells (qs ++ [(⟨k, nm, t, wr.heap.size + 1, cap2⟩ : Kq)]))) := by rw [kqCells_snoc, List.length_append]; exact hown5
            have hw5 : wr.heap.size + 1 < w5.heap.size := by have := hgg.size; omega
            have HQ5 : Hid ((∀ q ∈ qs ++ [(⟨k, nm, t, wr.heap.size + 1, cap2⟩ : Kq)], KqOk w5 (k + 1) q) ∧ ((qs ++ [(⟨k, nm, t, wr.heap.size + 1, cap2⟩ : Kq)]).Pairwise fun a b => a.j < b.j) ∧ ∀ q ∈ qs ++ [(⟨k, nm, t, wr.heap.size + 1, cap2⟩ : Kq)], v5.ownBlock ≠ some q.b) := by
              refine ⟨fun q hq => ?_, ?_, fun q hq e => ?_⟩
              · rcases List.mem_append.1 hq with h | h
                · have h1 := HQr.out.1 q h
                  refine ⟨h1.name, by have := h1.lt; omega, h1.size, by have := h1.blk; omega, h1.room, fun i hi => hgg.cell ((HBA.out.cell (p := ⟨q.b, 0 + i, none⟩) h1.blk).trans (h1.cells i hi)) (fun e => HQr.out.2.2 q h e.symm)⟩
                · simp at h; subst h
                  exact ⟨HNM.out, by show k < k + 1; omega, ht, hw5, hcap2, fun i hi => hgg.cell (HCE.out i hi) (fun e => by have := hrow _ e.symm; simp at this; omega)⟩
              · rw [List.pairwise_append]
                refine ⟨HQr.out.2.1, List.pairwise_singleton _ _, fun x hx y hy => ?_⟩
                simp at hy; subst hy
                exact (HQr.out.1 x hx).lt
              · have hat : v5.ownBlock = u5.ownBlock ∨ v5.ownBlock = some (W1.heap.size + 1) := by simpa using hloc5
                rcases List.mem_append.1 hq with h | h
                · rcases hat with h2 | h2
                  · exact HQr.out.2.2 q h (h2 ▸ e)
                  · have h1 := (HQr.out.1 q h).blk
                    rw [h2] at e
                    simp at e
                    omega
                · simp at h; subst h
                  rcases hat with h2 | h2
                  · have := hrow _ (h2 ▸ e)
                    simp at this
                    omega
                  · rw [h2] at e
                    simp at e
                    omega
            clear hown5 hgrow5 hloc5 hgg hrow hW1
            go_wp2_with fail
            go_roundw
            case rel => exact ⟨k + 1, _, by omega, by go_num, by simp; omega, HO5.out, HQ5.out, HB5.out⟩
            case measure => simp [intOf]; omega
        · go_roundw
          case rel => exact ⟨k + 1, qs, by omega, by go_num, by omega, HOr.out, ⟨HSKIP.out, HQr.out.2.1, HQr.out.2.2⟩, HBr.out⟩
          case measure => simp [intOf]; omega
      · have h2' : 8 ≤ (k : Int) := by omega
        have h1' : (k : Int) < (n : Int) := by omega
        go_wp2_with fail
        go_ret
        exact ⟨_, _, rfl, kq_af HOr.out HQr.out.1, kq_tree hk hql HQr.out.1 HQr.out.2.1, HBr.out⟩
    · have h1' : (n : Int) ≤ (k : Int) := by omega
      go_wp2_with fail
      go_ret
      exact ⟨_, _, rfl, kq_af HOr.out HQr.out.1, kq_tree hk hql HQr.out.1 HQr.out.2.1, HBr.out⟩
end Go.Proofs.YtbhccdedcoajmabGreatDoor
