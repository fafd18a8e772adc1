import Derived.Test.YtbhccdedcoajmaaGreatDoorPRecord
import Derived.Test.YtbhccdedcoajmaaGreatDoorAsFM
import Derived.Test.YtbhccdedcoajmaaGreatDoorLFilesM
import Derived.Test.YtbhccdedcoajmaaGreatDoorClipM
namespace Go.Proofs.YtbhccdedcoajmaaGreatDoor
open Go.RowKit

set_option maxHeartbeats 1000000 in
theorem precord_err (vs vr : Value) (B : Int) (w : World) (Q : Value → World → Prop) (t : TypeId) (hck : Calls Tryz.prog 118 #[vs, vr, .int .i64 B] w fun e w' => ∃ u, e = .returned (.iface t u) ∧ Q (.iface t u) w') :
    Calls Tryz.prog 83 #[vs, vr, .int .i64 B] w fun e w' => ∃ u, e = .returned (.tuple #[.slice none 0 0, .iface t u]) ∧ Q (.iface t u) w' := by
  have HCK := hide hck
  clear hck
  go_enter Tryz.func83, Tryz.ntmps83
  go_wp2_with fail
  refine HCK.out.mono ?_
  rintro e w1 ⟨u, rfl, hq⟩
  have HQ := hide hq
  clear hq HCK
  go_wp2_with fail
  go_ret2
  exact ⟨_, rfl, HQ.out⟩

set_option maxHeartbeats 1000000 in
theorem mrecord_any (vs vr : Value) (B : Int) (w : World) (Q : Value → Value → World → Prop) (hc : Calls Tryz.prog 83 #[vs, vr, .int .i64 B] w fun e w' => ∃ r e0, e = .returned (.tuple #[r, e0]) ∧ Q r e0 w') :
    Calls Tryz.prog 55 #[vs, vr, .int .i64 B] w fun e w' => ∃ r e0, e = .returned (.tuple #[r, e0]) ∧ Q r e0 w' := by
  have HC := hide hc
  clear hc
  go_enter Tryz.func55, Tryz.ntmps55
  go_wp2_with fail
  refine HC.out.mono ?_
  rintro e w1 ⟨r, e0, rfl, hr⟩
  have HR := hide hr
  clear hr
  go_wp2_with fail
  go_ret2
  exact ⟨_, _, rfl, HR.out⟩

set_option maxHeartbeats 1000000 in
theorem plainRecord_any (vs vr : Value) (B : Int) (w : World) (Q : Value → Value → Value → World → Prop)
    (hc : Calls Tryz.prog 83 #[vs, vr, .int .i64 B] w fun e w' => ∃ r e0, e = .returned (.tuple #[r, e0]) ∧ Calls Tryz.prog 33 #[e0] w' fun e w2 => ∃ k n, e = .returned (.tuple #[k, n]) ∧ Q r k n w2) :
    Calls Tryz.prog 36 #[vs, vr, .int .i64 B] w fun e w' => ∃ r k n, e = .returned (.tuple #[r, k, n]) ∧ Q r k n w' := by
  have HC := hide (mrecord_any vs vr B w _ hc)
  clear hc
  go_enter Tryz.func36, Tryz.ntmps36
  go_wp2_with fail
  refine HC.out.mono ?_
  rintro e w1 ⟨r, e0, rfl, ht⟩
  have HT := hide ht
  clear ht HC
  go_wp2_with fail
  refine HT.out.mono ?_
  rintro e w2 ⟨k, n, rfl, hq⟩
  have HQ := hide hq
  clear hq HT
  go_wp2_with fail
  refine bodyPost_ret (v := .tuple #[r, k, n]) (by simp [results, Tryz.results36, go_sem]) rfl ⟨r, k, n, rfl, HQ.out⟩

theorem pRecord_block (vs vr : Value) (B : Int) (h : B < 1 ∨ 64 < B) (w : World) (he : ErrT w) :
    Calls Tryz.prog 36 #[vs, vr, .int .i64 B] w fun e w' => e = .returned (.tuple #[.slice none 0 0, .int .i64 1, .string ⟨#[]⟩]) ∧ Below w.heap.size w w' := by
  have h1 := precord_err vs vr B w (fun v w' => v = .iface 50 (.int .i64 1) ∧ w' = w) 50 ((pcheck_block vs vr B h w).mono (by rintro e w' ⟨rfl, rfl⟩; exact ⟨_, rfl, rfl, rfl⟩))
  refine (plainRecord_any vs vr B w (fun r k n w' => r = .slice none 0 0 ∧ k = .int .i64 1 ∧ n = .string ⟨#[]⟩ ∧ Below w.heap.size w w') (h1.mono ?_)).mono ?_
  · rintro e w' ⟨u, rfl, hu, rfl⟩
    refine ⟨_, _, rfl, ?_⟩
    rw [hu]
    exact (told_kind 1 _ he).mono (by rintro e w2 ⟨rfl, hb⟩; exact ⟨_, _, rfl, rfl, rfl, rfl, hb⟩)
  · rintro e w' ⟨r, k, n, rfl, rfl, rfl, rfl, hb⟩
    exact ⟨rfl, hb⟩

theorem pRecord_ok (vs vr : Value) (fs fr : List (ByteArray × ByteArray)) (B : Nat) (w : World) (hB1 : 1 ≤ B) (hB2 : B ≤ 64) (hls : fs.length ≤ 70000) (hlr : fr.length ≤ 70000) (hzs : ∀ p ∈ fs, p.1.size ≤ 70000 ∧ p.2.size ≤ 70000) (hzr : ∀ p ∈ fr, p.1.size ≤ 70000 ∧ p.2.size ≤ 70000) (hFs : Af w vs fs) (hFr : Af w vr fr) (hTs : TreeOk fs) (hTr : TreeOk fr) :
    Calls Tryz.prog 36 #[vs, vr, .int .i64 B] w fun e w' => ∃ v, e = .returned (.tuple #[v, .int .i64 0, .string ⟨#[]⟩]) ∧ w'.ownsRow w.heap.size 5 1 v (recordL (fs.map filOf) (fr.map filOf) B).length (u8s (recordL (fs.map filOf) (fr.map filOf) B)) ∧ Below w.heap.size w w' := by
  have hck : Calls Tryz.prog 118 #[vs, vr, .int .i64 B] w fun e w' => e = .returned .nilIface ∧ Below w.heap.size w w' := by
    refine (pcheck_any vs vr fs fr B (by omega) (by omega) w hls hlr hzs hzr hFs hFr).mono ?_
    rintro e w' ⟨⟨rfl, _, _⟩ | ⟨b, rfl, h⟩, hb⟩
    · exact ⟨rfl, hb⟩
    · exfalso
      rcases h with ⟨i, _, h, _⟩ | ⟨_, i, _, h, _⟩
      · exact h.not hTs
      · exact h.not hTr
  refine (plainRecord_any vs vr B w (fun r k n w' => k = .int .i64 0 ∧ n = .string ⟨#[]⟩ ∧ w'.ownsRow w.heap.size 5 1 r (recordL (fs.map filOf) (fr.map filOf) B).length (u8s (recordL (fs.map filOf) (fr.map filOf) B)) ∧ Below w.heap.size w w') ((precord_ok vs vr fs fr B w hB1 hB2 hTs hTr hFs hFr hck).mono ?_)).mono ?_
  · rintro e w' ⟨v, rfl, ho, hb⟩
    refine ⟨_, _, rfl, (told_nil w').mono ?_⟩
    rintro e w2 ⟨rfl, hb2⟩
    exact ⟨_, _, rfl, rfl, rfl, ownsRow_below ho hb2, below_all hb hb2⟩
  · rintro e w' ⟨r, k, n, rfl, rfl, rfl, ho, hb⟩
    exact ⟨_, rfl, ho, hb⟩

theorem pRecord_bad (vs vr : Value) (fs fr : List (ByteArray × ByteArray)) (B : Nat) (w : World) (he : ErrT w) (hB1 : 1 ≤ B) (hB2 : B ≤ 64) (hls : fs.length ≤ 70000) (hlr : fr.length ≤ 70000) (hzs : ∀ p ∈ fs, p.1.size ≤ 70000 ∧ p.2.size ≤ 70000) (hzr : ∀ p ∈ fr, p.1.size ≤ 70000 ∧ p.2.size ≤ 70000) (hFs : Af w vs fs) (hFr : Af w vr fr) (hno : ¬ (TreeOk fs ∧ TreeOk fr)) :
    Calls Tryz.prog 36 #[vs, vr, .int .i64 B] w fun e w' => ∃ nm, e = .returned (.tuple #[.slice none 0 0, .int .i64 4, .string nm]) ∧ ((∃ i, ∃ h : BadAt fs i, nm = (fs[i]'h.1).1) ∨ TreeOk fs ∧ ∃ i, ∃ h : BadAt fr i, nm = (fr[i]'h.1).1) ∧ Below w.heap.size w w' := by
  have hck := precord_err vs vr B w (fun v w' => (TreeErr w' fs v ∨ TreeOk fs ∧ TreeErr w' fr v) ∧ Below w.heap.size w w') 123 ((pcheck_any vs vr fs fr B (by omega) (by omega) w hls hlr hzs hzr hFs hFr).mono (by
    rintro e w' ⟨⟨rfl, h1, h2⟩ | ⟨b, rfl, h⟩, hb⟩
    · exact absurd ⟨h1, h2⟩ hno
    · exact ⟨_, rfl, h, hb⟩))
  refine (plainRecord_any vs vr B w (fun r k n w' => r = .slice none 0 0 ∧ k = .int .i64 4 ∧ (∃ nm, n = .string nm ∧ ((∃ i, ∃ h : BadAt fs i, nm = (fs[i]'h.1).1) ∨ TreeOk fs ∧ ∃ i, ∃ h : BadAt fr i, nm = (fr[i]'h.1).1)) ∧ Below w.heap.size w w') (hck.mono ?_)).mono ?_
  · rintro e w' ⟨u, rfl, h, hb⟩
    refine ⟨_, _, rfl, ?_⟩
    rcases h with ⟨i, b, h, hu, c0, c1⟩ | ⟨hok, i, b, h, hu, c0, c1⟩
    · rw [hu]
      refine (told_file b _ 4 w' (he.keep hb) c0 c1).mono ?_
      rintro e w2 ⟨rfl, hb2⟩
      exact ⟨_, _, rfl, rfl, rfl, ⟨_, rfl, .inl ⟨i, h, rfl⟩⟩, below_all hb hb2⟩
    · rw [hu]
      refine (told_file b _ 4 w' (he.keep hb) c0 c1).mono ?_
      rintro e w2 ⟨rfl, hb2⟩
      exact ⟨_, _, rfl, rfl, rfl, ⟨_, rfl, .inr ⟨hok, i, h, rfl⟩⟩, below_all hb hb2⟩
  · rintro e w' ⟨r, k, n, rfl, rfl, rfl, ⟨nm, rfl, h⟩, hb⟩
    exact ⟨nm, rfl, h, hb⟩
end Go.Proofs.YtbhccdedcoajmaaGreatDoor
namespace Go.Proofs.YtbhccdedcoajmaaGreatDoor
open Go.RowKit

/-- a file that mirrorkeep.tree makes -/
structure Kq where
  j : Nat
  nm : ByteArray
  dt : ByteArray
  b : Nat
  cap : Nat
def kqCells (qs : List Kq) : List Value := qs.flatMap fun q => [.string q.nm, .slice (some ⟨q.b, 0, none⟩) q.dt.size q.cap]
theorem kqCells_snoc (qs : List Kq) (q : Kq) : kqCells (qs ++ [q]) = kqCells qs ++ [.string q.nm, .slice (some ⟨q.b, 0, none⟩) q.dt.size q.cap] := by simp [kqCells]
theorem kqCells_at : ∀ (qs : List Kq) (i : Nat) (hi : i < qs.length), (kqCells qs)[i * 2]? = some (.string qs[i].nm) ∧ (kqCells qs)[i * 2 + 1]? = some (.slice (some ⟨qs[i].b, 0, none⟩) qs[i].dt.size qs[i].cap)
  | q :: qs, 0, _ => by simp [kqCells]
  | q :: qs, i + 1, h => by
    have := kqCells_at qs i (by simpa using h)
    have e : kqCells (q :: qs) = .string q.nm :: .slice (some ⟨q.b, 0, none⟩) q.dt.size q.cap :: kqCells qs := by simp [kqCells]
    rw [e, show (i + 1) * 2 = i * 2 + 1 + 1 by omega]
    simpa using this
structure KqOk (w : World) (k : Nat) (q : Kq) : Prop where
  name : nums q.nm = [((97 + q.j : Nat) : Int)]
  lt : q.j < k
  size : q.dt.size ≤ 300
  blk : q.b < w.heap.size
  room : q.dt.size ≤ q.cap
  cells : ∀ i (h : i < (nums q.dt).length), w.cell? ⟨q.b, 0 + i, none⟩ = some (.int .u8 (nums q.dt)[i])
def kqF (q : Kq) : ByteArray × ByteArray := (q.nm, q.dt)
theorem kq_af {w : World} {base k : Nat} {v : Value} {qs : List Kq} (h : w.ownsRow base 69 2 v qs.length (kqCells qs)) (hq : ∀ q ∈ qs, KqOk w k q) : Af w v (qs.map kqF) := by
  rcases h.2 with ⟨hv, h0⟩ | ⟨g, cap, cur, hv, _, hg, h1, _⟩
  · exact ⟨none, 0, by rw [hv, List.length_map, h0], by rw [List.length_map]; omega, fun i hi => by rw [List.length_map] at hi; omega⟩
  · have hlt : g < w.heap.size := (Array.getElem?_eq_some_iff.1 hg).1
    refine ⟨some ⟨g, 0, none⟩, cap, by rw [List.length_map]; exact hv, by rw [List.length_map]; exact h1, fun i hi => ?_⟩
    rw [List.length_map] at hi
    rw [List.getElem_map]
    have hk := hq _ (List.getElem_mem hi)
    refine ⟨g, qs[i].b, qs[i].cap, rfl, hlt, ?_, ?_, hk.blk, hk.room, hk.cells⟩
    · have := h.cells (g := g) (by rw [hv]; rfl) (i * 2) _ (kqCells_at qs i hi).1
      rw [add_at] at this; exact this
    · have := h.cells (g := g) (by rw [hv]; rfl) (i * 2 + 1) _ (kqCells_at qs i hi).2
      rw [add_at] at this; exact this
theorem kq_tree {w : World} {k : Nat} {qs : List Kq} (hk : k ≤ 8) (hl : qs.length ≤ k) (hq : ∀ q ∈ qs, KqOk w k q) (hp : qs.Pairwise fun a b => a.j < b.j) : TreeOk (qs.map kqF) := by
  intro i hi
  rw [List.length_map] at hi
  have h1 := hq _ (List.getElem_mem hi)
  have hj := h1.lt
  refine ⟨by rw [List.length_map]; exact hi, ?_, fun h0 => ?_, ?_, by omega⟩
  · rw [List.getElem_map]
    show nameB (nums qs[i].nm) = true
    rw [h1.name]
    simp [nameB]
    omega
  · rw [List.getElem_map, List.getElem_map]
    have h2 := hq _ (List.getElem_mem (show i - 1 < qs.length by omega))
    have := List.pairwise_iff_getElem.1 hp (i - 1) i (by omega) hi (by omega)
    show ltL (nums qs[i - 1].nm) (nums qs[i].nm) = true
    rw [h1.name, h2.name]
    simp [ltL]
    omega
  · rw [List.getElem_map]
    exact h1.size

end Go.Proofs.YtbhccdedcoajmaaGreatDoor
