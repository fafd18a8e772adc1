import Derived.Test.YtbhccdedcoajmabGreatDoorPRepl
import Derived.Test.YtbhccdedcoajmabGreatDoorKHasM
namespace Go.Proofs.YtbhccdedcoajmabGreatDoor
open Go.RowKit Go.MuLone

/-- what plain.Replay tells of a mirror that is up -/
def PRplQ (w : World) (m : Nat) (room : Int) (lo hi : Nat) (v : Value) (fs : List (ByteArray × ByteArray)) (s : ByteArray) (c : Int) (k : Int) (nm : ByteArray) (w' : World) : Prop :=
  match replayS fs (nums s) room with
  | .error q => k = q.1 ∧ nums nm = q.2 ∧ Below w.heap.size w w'
  | .ok l => nm = ⟨#[]⟩ ∧ w.grownBy w' (some m) ∧ ((1 ≤ c ∧ c ≤ l.length + 2 ∧ k = 12 ∧ ∃ bv', Mir w' m room lo hi v bv' fs true) ∨
      ∃ (gs : List (ByteArray × ByteArray)) (lo' hi' : Nat) (tv' bv' : Value), gs.map (fun p => (nums p.1, nums p.2)) = l ∧ w.heap.size ≤ lo' ∧ ((c = l.length + 3 ∧ k = 12 ∧ Mir w' m room lo' hi' tv' bv' gs true) ∨ ((c < 1 ∨ l.length + 3 < c) ∧ k = 0 ∧ Mir w' m room lo' hi' tv' bv' gs false)))
theorem plainReplay_any (pv bv cv : Value) (w : World) (Q : Int → ByteArray → World → Prop)
    (hc : Calls Tryz.prog 22 #[pv, bv, cv] w fun e w' => ∃ e0, e = .returned e0 ∧ Calls Tryz.prog 21 #[e0] w' fun e w2 => ∃ k n, e = .returned (.tuple #[.int .i64 k, .string n]) ∧ Q k n w2) :
    Calls Tryz.prog 11 #[pv, bv, cv] w fun e w' => ∃ k n, e = .returned (.tuple #[.int .i64 k, .string n]) ∧ Q k n w' := by
  have HC := hide hc
  clear hc
  go_enter Tryz.func11, Tryz.ntmps11
  go_wp2_with fail
  refine HC.out.mono ?_
  rintro e w1 ⟨e0, rfl, ht⟩
  have HT := hide ht
  clear ht HC
  go_wp2_with fail
  refine HT.out.mono ?_
  rintro e w2 ⟨k, n, rfl, hq⟩
  have HQ := hide hq
  clear hq HT
  go_wp2_with fail
  go_ret2
  exact ⟨_, _, rfl, HQ.out⟩
theorem pReplay_any (m : Nat) (room : Int) (lo hi : Nat) (v v2 : Value) (fs : List (ByteArray × ByteArray)) (g cap : Nat) (s : ByteArray) (c : Int) (w : World) (he : ErrT w) (hM : Mir w m room lo hi v v2 fs false) (hs : s.size ≤ 70000) (hcap : s.size ≤ cap) (h0 : 0 < cap) (hg : g < w.heap.size) (hgm : g ≠ m) (hc : ∀ k (h : k < (nums s).length), w.cell? ⟨g, 0 + k, none⟩ = some (.int .u8 (nums s)[k])) (hl : fs.length ≤ 60000) (hz : ∀ p ∈ fs, p.2.size ≤ 300) :
    Calls Tryz.prog 11 #[.pointer (some ⟨m, 0, none⟩), .slice (some ⟨g, 0, none⟩) s.size cap, .int .i64 c] w fun e w' => ∃ k n, e = .returned (.tuple #[.int .i64 k, .string n]) ∧ PRplQ w m room lo hi v fs s c k n w' := by
  have hme := hM.ne_err he
  refine plainReplay_any _ _ _ w (fun k n w' => PRplQ w m room lo hi v fs s c k n w') ((mreplay_any m room lo hi v v2 fs g cap s c w he hM hs hcap h0 hg hgm hc hl hz).mono ?_)
  rintro e w' ⟨e0, rfl, hq⟩
  refine ⟨e0, rfl, ?_⟩
  unfold RplQ at hq
  cases hr : replayS fs (nums s) room with
  | error q =>
    rw [hr] at hq
    refine (told_err hq.1 (he.keep hq.2)).mono ?_
    rintro e w2 ⟨nm, rfl, hn, hb⟩
    refine ⟨_, _, rfl, ?_⟩
    unfold PRplQ
    rw [hr]
    exact ⟨rfl, hn, below_all hq.2 hb⟩
  | ok l =>
    rw [hr] at hq
    obtain ⟨hg1, hq⟩ := hq
    have he1 := he.grown hg1 hme
    rcases hq with ⟨c1, c2, rfl, bv', hM'⟩ | ⟨gs, lo', hi', tv', bv', hgs, hlo, hq⟩
    · refine (told_kind 12 w' he1).mono ?_
      rintro e w2 ⟨rfl, hb⟩
      refine ⟨_, _, rfl, ?_⟩
      unfold PRplQ
      rw [hr]
      exact ⟨rfl, hg1.trans (grown_of_below hb), .inl ⟨c1, c2, rfl, bv', hM'.below hb⟩⟩
    · rcases hq with ⟨c1, rfl, hM'⟩ | ⟨c1, rfl, hM'⟩
      · refine (told_kind 12 w' he1).mono ?_
        rintro e w2 ⟨rfl, hb⟩
        refine ⟨_, _, rfl, ?_⟩
        unfold PRplQ
        rw [hr]
        exact ⟨rfl, hg1.trans (grown_of_below hb), .inr ⟨gs, lo', hi', tv', bv', hgs, hlo, .inl ⟨c1, rfl, hM'.below hb⟩⟩⟩
      · refine (told_nil w').mono ?_
        rintro e w2 ⟨rfl, hb⟩
        refine ⟨_, _, rfl, ?_⟩
        unfold PRplQ
        rw [hr]
        exact ⟨rfl, hg1.trans (grown_of_below hb), .inr ⟨gs, lo', hi', tv', bv', hgs, hlo, .inr ⟨c1, rfl, hM'.below hb⟩⟩⟩
end Go.Proofs.YtbhccdedcoajmabGreatDoor
namespace Go.Proofs.YtbhccdedcoajmabGreatDoor
open Go.RowKit Go.MuLone

theorem own_cells0 {w : World} {base g cap : Nat} {s : ByteArray} (h : w.ownsRow base 5 1 (.slice (some ⟨g, 0, none⟩) s.size cap) s.size (u8s (nums s))) : ∀ k (h : k < (nums s).length), w.cell? ⟨g, 0 + k, none⟩ = some (.int .u8 (nums s)[k]) := by
  intro k hk
  rw [← nums_length s] at h
  rw [Nat.zero_add]
  exact own_cells h k hk
/-- what a recorded batch makes of the older tree -/
theorem replay_told {fs fr : List (ByteArray × ByteArray)} {B : Nat} {s : ByteArray} {room : Int} (hB1 : 1 ≤ B) (hB2 : B ≤ 64) (hs : TreeOk fs) (hr : TreeOk fr) (hsn : nums s = recordL (fs.map filOf) (fr.map filOf) B) :
    replayS fr (nums s) room = if room < (bytesIn fs : Int) then .error (10, []) else .ok (fs.map fun p => (nums p.1, nums p.2)) := by
  unfold replayS
  rw [hsn, read_told hB1 hB2 hs hr]
  simp only
  unfold replayL
  simp only
  rw [basisBad_self, sizes_diffs, Int.toNat_natCast, makeGo_diffs (by omega) fs (fun p hp => (hs.sizes p hp).2)]
  have e : (fs.map fun p => (p.2.size : Int)).sum = (bytesIn fs : Int) := by
    unfold bytesIn
    clear hs hsn
    induction fs with
    | nil => rfl
    | cons p fs ih => simp only [List.map_cons, List.sum_cons] at *; rw [ih]; omega
  rw [e]

set_option maxRecDepth 10000 in
set_option maxHeartbeats 1000000 in
/-- the batch of two trees, and a mirror of the older one -/
theorem brought_ok (v1 v2 : Value) (fs fr : List (ByteArray × ByteArray)) (blk room : Int) (w : World) (hblk : (Lit.int .i64 blk).wf = true) (h0 : 0 ≤ room) (h1 : room ≤ 1048576) (hA1 : Af w v1 fs) (hA2 : Af w v2 fr) (hTs : TreeOk fs) (hTr : TreeOk fr) :
    Calls Tryz.prog 9 #[v1, v2, .int .i64 blk, .int .i64 room] w fun e w' => ∃ (B g cap m lo hi : Nat) (u : Value) (s : ByteArray), e = .returned (.tuple #[.slice (some ⟨g, 0, none⟩) s.size cap, .pointer (some ⟨m, 0, none⟩), .bool true]) ∧ 1 ≤ B ∧ B ≤ 64 ∧ nums s = recordL (fs.map filOf) (fr.map filOf) B ∧ s.size ≤ 14000 ∧ 0 < s.size ∧ s.size ≤ cap ∧ w.heap.size ≤ g ∧ g < lo ∧ g < m ∧ w'.ownsRow w.heap.size 5 1 (.slice (some ⟨g, 0, none⟩) s.size cap) s.size (u8s (nums s)) ∧ Mir w' m room lo hi u (.slice none 0 0) fr false ∧ Below w.heap.size w w' := by
  obtain ⟨pk, hpk, hpick⟩ := pick_ex blk hblk
  have HPK := hide hpick
  obtain ⟨B, hB⟩ : ∃ B : Nat, (1 : Int) + (pk : Int) = (B : Int) := ⟨1 + pk, by omega⟩
  have hB1 : 1 ≤ B := by omega
  have hB2 : B ≤ 64 := by omega
  have h8 := hTs.len
  have g8 := hTr.len
  have HREC := hide (pRecord_ok v1 v2 fs fr B w hB1 hB2 (by omega) (by omega) (fun p hp => by have := hTs.sizes p hp; omega) (fun p hp => by have := hTr.sizes p hp; omega) hA1 hA2 hTs hTr)
  have HNEW : Hid (∀ W, Below w.heap.size w W → Calls Tryz.prog 13 #[v2, .int .i64 room] W fun e w' => ∃ m lo hi u, e = .returned (.tuple #[.pointer (some ⟨m, 0, none⟩), .int .i64 0, .string ⟨#[]⟩]) ∧ Mir w' m room lo hi u (.slice none 0 0) fr false ∧ W.heap.size ≤ lo ∧ hi ≤ m ∧ W.heap.size ≤ m ∧ Below W.heap.size W w') := fun W hb => pNew_ok v2 fr room W (hA2.below hb) hTr h0 h1
  have HRB := hide (record_bytes hB1 hB2 hTs hTr)
  clear hA1 hA2 hTs hTr hpick hblk
  go_enter Tryz.func9, Tryz.ntmps9
  go_wp2_with fail
  refine (HPK.out _).mono ?_
  rintro e w1 ⟨rfl, hw1⟩
  obtain rfl := hw1.symm
  go_wp2_with fail
  refine HREC.out.mono ?_
  rintro e w4 ⟨rv, rfl, ho4, hb4⟩
  obtain ⟨hrb, hrl, hr0⟩ := HRB.out
  obtain ⟨g, rc, rfl, hg1, hgl, hrc, _⟩ : ∃ g cap, rv = .slice (some ⟨g, 0, none⟩) (recordL (fs.map filOf) (fr.map filOf) B).length cap ∧ w.heap.size ≤ g ∧ g < w4.heap.size ∧ (recordL (fs.map filOf) (fr.map filOf) B).length ≤ cap ∧ cap ≤ maxLen := by
    rcases own_shape ho4 with ⟨_, h⟩ | h
    · rw [h] at hr0; simp at hr0
    · exact h
  obtain ⟨s, hsn, hss⟩ : ∃ s : ByteArray, nums s = recordL (fs.map filOf) (fr.map filOf) B ∧ s.size = (recordL (fs.map filOf) (fr.map filOf) B).length := ⟨bytesOf _, nums_bytesOf hrb, bytesOf_size _⟩
  rw [← hsn, nums_length] at ho4 hrc hrl hr0
  have HO4 := hide ho4
  have HB4 := hide hb4
  have HSN := hide hsn
  rw [← hss]
  clear ho4 hb4 hrb hsn hss HREC
  go_wp2_with fail
  refine (HNEW.out _ HB4.out).mono ?_
  rintro e w5 ⟨m, lo, hi, u, rfl, hM, hlo, hhi, hmn, hb5⟩
  have HM := hide hM
  have HO5 := hide (ownsRow_below HO4.out hb5)
  have HB5 : Hid (Below w.heap.size w w5) := below_all HB4.out hb5
  clear hM hb5 HNEW HO4
  go_wp2_with fail
  refine bodyPost_ret (v := .tuple #[.slice (some ⟨g, 0, none⟩) s.size rc, .pointer (some ⟨m, 0, none⟩), .bool true]) (by simp [results, Tryz.results9, go_sem]) rfl ⟨B, g, rc, m, lo, hi, u, s, rfl, hB1, hB2, HSN.out, hrl, hr0, hrc, hg1, by omega, by omega, HO5.out, HM.out, HB5.out⟩
end Go.Proofs.YtbhccdedcoajmabGreatDoor
