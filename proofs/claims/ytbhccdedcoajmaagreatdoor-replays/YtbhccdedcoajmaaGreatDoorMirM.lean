import Derived.Test.YtbhccdedcoajmaaGreatDoorRMirWM
import Derived.Test.YtbhccdedcoajmaaGreatDoorPReadBM
import Derived.Test.YtbhccdedcoajmaaGreatDoorAsFM
import Derived.Defers
import Derived.Recover
import Derived.Laws.Pointers
import Derived.Test.YtbhccdedcoajmaaGreatDoorSpoiltM
namespace Go.Proofs.YtbhccdedcoajmaaGreatDoor
open Go.RowKit Go.MuLone

/-- a mirror in memory: its room, its tree (where that lies), what lies beside it, is it down? -/
structure Mir (w : World) (m : Nat) (room : Int) (lo hi : Nat) (v v2 : Value) (fs : List (ByteArray × ByteArray)) (down : Bool) : Prop where
  blk : w.heap[m]? = some (.cells #[.int .i32 0, .int .u32 0, .int .i64 room, v, v2, .bool down] 139 (0, 0))
  tr : Tr w lo hi v fs
  off : m < lo ∨ hi ≤ m
  sl : ∃ a n c, v2 = .slice a n c
theorem Mir.lt {w : World} {m : Nat} {room : Int} {lo hi : Nat} {v v2 : Value} {fs : List (ByteArray × ByteArray)} {down : Bool} (h : Mir w m room lo hi v v2 fs down) : m < w.heap.size := (Array.getElem?_eq_some_iff.1 h.blk).1
theorem Mir.below {w w' : World} {m : Nat} {room : Int} {lo hi : Nat} {v v2 : Value} {fs : List (ByteArray × ByteArray)} {down : Bool} (h : Mir w m room lo hi v v2 fs down) (hb : Below w.heap.size w w') : Mir w' m room lo hi v v2 fs down := ⟨(hb.block m h.lt).trans h.blk, h.tr.below hb, h.off, h.sl⟩
theorem Mir.vsl {w : World} {m : Nat} {room : Int} {lo hi : Nat} {v v2 : Value} {fs : List (ByteArray × ByteArray)} {down : Bool} (h : Mir w m room lo hi v v2 fs down) : ∃ a n c, v = .slice a n c := by
  obtain ⟨va, cap, h1, _⟩ := h.tr.ag
  exact ⟨_, _, _, h1⟩
theorem FileRow.keepR {w w' : World} {base r : Nat} {v : Value} {ps : List (ByteArray × ByteArray × Value)} (h : FileRow w base v ps) (g : w.grownBy w' (some r)) (hr : r < base) : FileRow w' base v ps :=
  ⟨row_kept h.row g hr, fun p hp => row_kept (h.data p hp) g hr, h.apart, h.off⟩
theorem grown_of_below' {w W1 w3 : World} {m : Nat} (hb : Below w.heap.size W1 w3) (hs : W1.heap.size = w.heap.size) : W1.grownBy w3 (some m) := ⟨hb.os, hb.tape, hb.output, hb.size, fun k hk _ => hb.block k (by omega)⟩
theorem below_of_grown {w w' : World} {m : Nat} (hg : w.grownBy w' (some m)) (hm : w'.heap[m]? = w.heap[m]?) : Below w.heap.size w w' :=
  ⟨hg.os, hg.tape, hg.output, hg.size, fun k hk => by
    by_cases h : k = m
    · rw [h]; exact hm
    · exact hg.block k hk (by simp; exact h)⟩

set_option maxHeartbeats 400000 in
theorem dnew_any (a : Option Addr) (n c : Nat) (w : World) :
    Calls Tryz.prog 59 #[.slice a n c] w fun e w' => e = .returned (.agg #[.slice a n c, .slice none 0 0]) ∧ Below w.heap.size w w' := by
  go_enter Tryz.func59, Tryz.ntmps59
  go_wp2_with fail
  refine bodyPost_ret (v := .agg #[.slice a n c, .slice none 0 0]) (by simp [results, Tryz.results59, go_sem]) rfl ⟨rfl, ?_⟩
  exact (Below.refl _ _).alloc (Nat.le_refl _) _

set_option maxRecDepth 10000 in
set_option maxHeartbeats 1000000 in
theorem mnew_ok (v : Value) (fs : List (ByteArray × ByteArray)) (room : Int) (w : World) (hF : Af w v fs) (hT : TreeOk fs) (h0 : 0 ≤ room) (h1 : room ≤ 1048576) :
    Calls Tryz.prog 42 #[v, .int .i64 room] w fun e w' => ∃ m lo hi u, e = .returned (.tuple #[.pointer (some ⟨m, 0, none⟩), .nilIface]) ∧ Mir w' m room lo hi u (.slice none 0 0) fs false ∧ w.heap.size ≤ lo ∧ hi ≤ m ∧ w.heap.size ≤ m ∧ Below w.heap.size w w' := by
  have hl := hT.len
  have hz : ∀ p ∈ fs, p.1.size ≤ 70000 ∧ p.2.size ≤ 70000 := fun p hp => by have := hT.sizes p hp; omega
  have HCK := hide (tcheck_two v fs w (by omega) hz hF)
  have HCL : Hid (∀ W, Below w.heap.size w W → Calls Tryz.prog 60 #[v] W fun e w' => ∃ u ps, e = .returned u ∧ FileRow w' W.heap.size u ps ∧ ps.map frF = fs ∧ Below W.heap.size W w') := fun W hb => tclone_any v fs W (by omega) (fun p hp => (hz p hp).2) (hF.below hb).ag
  have HT := hide hT
  have hd1 : decide (room < 0) = false := decide_eq_false (by omega)
  have hd2 : decide (1048576 < room) = false := decide_eq_false (by omega)
  clear hF hT hz
  go_enter Tryz.func42, Tryz.ntmps42
  go_wp2_with fail
  refine HCK.out.mono ?_
  rintro e w1 ⟨h, hb1⟩
  obtain ⟨rfl, _⟩ : e = .returned .nilIface ∧ TreeOk fs := by
    rcases h with h | ⟨b, _, i, b', h, _⟩
    · exact h
    · exact absurd HT.out h.not
  have HB1 := hide hb1
  clear h hb1 HCK
  go_wp2_with fail
  refine (HCL.out _ HB1.out).mono ?_
  rintro e w2 ⟨u, ps, rfl, hfr, hps, hb2⟩
  obtain ⟨ua, un, uc, rfl⟩ := row_slice hfr.row
  have HFR := hide hfr
  have HPS := hide hps
  have HB2 : Hid (Below w.heap.size w w2) := below_all HB1.out hb2
  have hw1 : w.heap.size ≤ w1.heap.size := HB1.out.size
  clear hfr hps hb2 HCL
  go_wp2_with fail
  refine (dnew_any ua un uc w2).mono ?_
  rintro e w3 ⟨rfl, hb3⟩
  have HTR : Hid (Tr w3 w1.heap.size w2.heap.size (.slice ua un uc) fs) := by
    have := HFR.out.tr'
    rw [HPS.out] at this
    exact this.below hb3
  have HB3 : Hid (Below w.heap.size w w3) := below_all HB2.out hb3
  have hw3 : w2.heap.size ≤ w3.heap.size := hb3.size
  clear hb3
  go_wp2_with fail
  go_ret2
  refine ⟨w3.heap.size, w1.heap.size, w2.heap.size, _, rfl, ⟨heap_alloc_new _ _, HTR.out.below ((Below.refl _ _).alloc (Nat.le_refl _) _), .inr hw3, ⟨_, _, _, rfl⟩⟩, hw1, hw3, HB3.out.size, below_all HB3.out ((Below.refl _ _).alloc (Nat.le_refl _) _)⟩

set_option maxHeartbeats 1000000 in
theorem pNew_ok (v : Value) (fs : List (ByteArray × ByteArray)) (room : Int) (w : World) (hF : Af w v fs) (hT : TreeOk fs) (h0 : 0 ≤ room) (h1 : room ≤ 1048576) :
    Calls Tryz.prog 23 #[v, .int .i64 room] w fun e w' => ∃ m lo hi u, e = .returned (.tuple #[.pointer (some ⟨m, 0, none⟩), .int .i64 0, .string ⟨#[]⟩]) ∧ Mir w' m room lo hi u (.slice none 0 0) fs false ∧ w.heap.size ≤ lo ∧ hi ≤ m ∧ w.heap.size ≤ m ∧ Below w.heap.size w w' := by
  have HC := hide (mnew_ok v fs room w hF hT h0 h1)
  clear hF hT
  go_enter Tryz.func23, Tryz.ntmps23
  go_wp2_with fail
  refine HC.out.mono ?_
  rintro e w1 ⟨m, lo, hi, u, rfl, hM, hlo, hhi, hmn, hb⟩
  have HM := hide hM
  have HB := hide hb
  clear hM hb HC
  go_wp2_with fail
  refine (told_nil _).mono ?_
  rintro e w2 ⟨rfl, hb2⟩
  have HF : Hid (Mir w2 m room lo hi u (.slice none 0 0) fs false ∧ Below w.heap.size w w2) := ⟨HM.out.below hb2, below_all HB.out hb2⟩
  clear hb2
  go_wp2_with fail
  refine bodyPost_ret (v := .tuple #[.pointer (some ⟨m, 0, none⟩), .int .i64 0, .string ⟨#[]⟩]) (by simp [results, Tryz.results23, go_sem]) rfl ⟨m, lo, hi, u, rfl, HF.out.1, hlo, hhi, hmn, HF.out.2⟩

set_option maxHeartbeats 400000 in
theorem dtree_any (m j : Nat) (v : Value) (w : World) (hc : w.cell? ⟨m, j, none⟩ = some v) :
    Calls Tryz.prog 71 #[.pointer (some ⟨m, j, none⟩)] w fun e w' => e = .returned v ∧ w' = w := by
  go_enter Tryz.func71, Tryz.ntmps71
  go_wp2_with fail
  go_ret
  exact ⟨rfl, rfl⟩

set_option maxRecDepth 10000 in
set_option maxHeartbeats 1000000 in
/-- Files of a mirror that is up -/
theorem mfiles_ok (m : Nat) (room : Int) (lo hi : Nat) (v v2 : Value) (fs : List (ByteArray × ByteArray)) (w : World) (hM : Mir w m room lo hi v v2 fs false) (hl : fs.length ≤ 70000) (hz : ∀ p ∈ fs, p.2.size ≤ 70000) :
    Calls Tryz.prog 47 #[.pointer (some ⟨m, 0, none⟩)] w fun e w' => ∃ u ps, e = .returned (.tuple #[u, .nilIface]) ∧ FileRow w' w.heap.size u ps ∧ ps.map frF = fs ∧ Below w.heap.size w w' := by
  have c0 : w.cell? ⟨m, 0, none⟩ = some (.int .i32 0) := cell_row hM.blk rfl
  have f0 : w.frozen? ⟨m, 0, none⟩ = false := frozen_of_row _ _ _ _ _ hM.blk
  obtain ⟨W1, hW1⟩ : ∃ W1, W1 = w.setCell ⟨m, 0, none⟩ (.int .i32 1) := ⟨_, rfl⟩
  have hb1 : W1.heap[m]? = some (.cells #[.int .i32 1, .int .u32 0, .int .i64 room, v, v2, .bool false] 139 (0, 0)) := by
    rw [hW1, heap_setCell_same _ _ _ _ _ _ hM.blk]; rfl
  have hg1 : w.grownBy W1 (some m) := by rw [hW1]; exact setCell_grown _
  have htr1 : Tr W1 lo hi v fs := hM.tr.grown hg1 (fun k hk => by simp at hk; have := hM.off; omega)
  have hs1 : W1.heap.size = w.heap.size := by rw [hW1]; simp
  have c3 : W1.cell? ⟨m, 3, none⟩ = some v := cell_row hb1 rfl
  have c5 : W1.cell? ⟨m, 5, none⟩ = some (.bool false) := cell_row hb1 rfl
  have HLK := hide (lock_free Tryz.muLib ⟨m, 0, none⟩ w c0 f0)
  rw [← hW1] at HLK
  have HTC := hide (tclone_any v fs W1 hl hz htr1.ag)
  rw [hs1] at HTC
  have HM := hide hM
  have HBK := hide hb1
  have HG1 := hide hg1
  have hmlt : m < w.heap.size := hM.lt
  have HS1 := hide hs1
  clear hM hb1 hg1 htr1 hs1 hW1 c0 f0
  go_enter_defers Tryz.func47, Tryz.ntmps47
  go_wp2_with fail
  refine HLK.out.mono ?_
  rintro e w1 ⟨rfl, hw1⟩
  obtain rfl := hw1.symm
  go_wp2_with fail
  refine (dtree_any m 3 v W1 c3).mono ?_
  rintro e w2 ⟨rfl, hw2⟩
  obtain rfl := hw2.symm
  go_wp2_with fail
  refine HTC.out.mono ?_
  rintro e w3 ⟨u, ps, rfl, hfr, hps, hb3⟩
  have HFR := hide hfr
  have HPS := hide hps
  have HB3 := hide hb3
  clear hfr hps hb3 HTC
  go_wp2_with fail
  refine leaves_cons (f := 51) (args := #[.pointer (some ⟨m, 0, none⟩)]) (by simp) (by simp [go_sem]) ?_
  have hbk : w3.heap[m]? = some (.cells #[.int .i32 1, .int .u32 0, .int .i64 room, v, v2, .bool false] 139 (0, 0)) := (HB3.out.block m hmlt).trans HBK.out
  refine (unlock_deferred Tryz.muLib ⟨m, 0, none⟩ .returning _ (cell_row hbk rfl) (frozen_of_row _ _ _ _ _ hbk)).mono ?_
  rintro e u' w'' ⟨rfl, rfl, rfl⟩
  have hbe : (w3.setCell ⟨m, 0, none⟩ (.int .i32 0)).heap[m]? = w.heap[m]? := by
    rw [heap_setCell_same _ _ _ _ _ _ hbk, HM.out.blk]; rfl
  refine ⟨_, results_tmp2 rfl _ _ _, _, ps, rfl, HFR.out.keepR (setCell_grown _) hmlt, HPS.out, below_of_grown ((HG1.out.trans (grown_of_below' HB3.out HS1.out)).trans (setCell_grown _)) hbe⟩

set_option maxHeartbeats 400000 in
theorem mfiles_down (m : Nat) (room : Int) (lo hi : Nat) (v v2 : Value) (fs : List (ByteArray × ByteArray)) (w : World) (hM : Mir w m room lo hi v v2 fs true) :
    Calls Tryz.prog 47 #[.pointer (some ⟨m, 0, none⟩)] w fun e w' => e = .returned (.tuple #[.slice none 0 0, .iface 50 (.int .i64 7)]) ∧ Below w.heap.size w w' := by
  have c0 : w.cell? ⟨m, 0, none⟩ = some (.int .i32 0) := cell_row hM.blk rfl
  have f0 : w.frozen? ⟨m, 0, none⟩ = false := frozen_of_row _ _ _ _ _ hM.blk
  obtain ⟨W1, hW1⟩ : ∃ W1, W1 = w.setCell ⟨m, 0, none⟩ (.int .i32 1) := ⟨_, rfl⟩
  have hb1 : W1.heap[m]? = some (.cells #[.int .i32 1, .int .u32 0, .int .i64 room, v, v2, .bool true] 139 (0, 0)) := by
    rw [hW1, heap_setCell_same _ _ _ _ _ _ hM.blk]; rfl
  have hg1 : w.grownBy W1 (some m) := by rw [hW1]; exact setCell_grown _
  have c5 : W1.cell? ⟨m, 5, none⟩ = some (.bool true) := cell_row hb1 rfl
  have HLK := hide (lock_free Tryz.muLib ⟨m, 0, none⟩ w c0 f0)
  rw [← hW1] at HLK
  have HM := hide hM
  have HBK := hide hb1
  have HG1 := hide hg1
  clear hM hb1 hg1 hW1 c0 f0
  go_enter_defers Tryz.func47, Tryz.ntmps47
  go_wp2_with fail
  refine HLK.out.mono ?_
  rintro e w1 ⟨rfl, hw1⟩
  obtain rfl := hw1.symm
  go_wp2_with fail
  refine leaves_cons (f := 51) (args := #[.pointer (some ⟨m, 0, none⟩)]) (by simp) (by simp [go_sem]) ?_
  refine (unlock_deferred Tryz.muLib ⟨m, 0, none⟩ .returning _ (cell_row HBK.out rfl) (frozen_of_row _ _ _ _ _ HBK.out)).mono ?_
  rintro e u' w'' ⟨rfl, rfl, rfl⟩
  have hbe : (W1.setCell ⟨m, 0, none⟩ (.int .i32 0)).heap[m]? = w.heap[m]? := by
    rw [heap_setCell_same _ _ _ _ _ _ HBK.out, HM.out.blk]; rfl
  exact ⟨_, results_tmp2 rfl _ _ _, rfl, below_of_grown (HG1.out.trans (setCell_grown _)) hbe⟩

/-- plain.Files, whatever Files tells -/
theorem plainFiles_any (pv : Value) (w : World) (Q : Value → Value → World → Prop)
    (hc : Calls Tryz.prog 47 #[pv] w fun e w' => ∃ r e0, e = .returned (.tuple #[r, e0]) ∧ Calls Tryz.prog 33 #[e0] w' fun e w2 => ∃ k n, e = .returned (.tuple #[k, n]) ∧ Q r k w2) :
    Calls Tryz.prog 31 #[pv] w fun e w' => ∃ r k, e = .returned (.tuple #[r, k]) ∧ Q r k w' := by
  have HC := hide hc
  clear hc
  go_enter Tryz.func31, Tryz.ntmps31
  go_wp2_with fail
  refine HC.out.mono ?_
  rintro e w1 ⟨r, e0, rfl, ht⟩
  have HT := hide ht
  clear ht HC
  go_wp2_with fail
  refine HT.out.mono ?_
  rintro e w2 ⟨k, n, rfl, hq⟩
  have HQ := hide hq
  clear hq HT
  go_wp2_with fail
  go_ret2
  exact ⟨_, _, rfl, HQ.out⟩
theorem pFiles_ok (m : Nat) (room : Int) (lo hi : Nat) (v v2 : Value) (fs : List (ByteArray × ByteArray)) (w : World) (hM : Mir w m room lo hi v v2 fs false) (hl : fs.length ≤ 70000) (hz : ∀ p ∈ fs, p.2.size ≤ 70000) :
    Calls Tryz.prog 31 #[.pointer (some ⟨m, 0, none⟩)] w fun e w' => ∃ u ps, e = .returned (.tuple #[u, .int .i64 0]) ∧ FileRow w' w.heap.size u ps ∧ ps.map frF = fs ∧ Below w.heap.size w w' := by
  refine (plainFiles_any _ w (fun r k w' => k = .int .i64 0 ∧ ∃ ps, FileRow w' w.heap.size r ps ∧ ps.map frF = fs ∧ Below w.heap.size w w') ((mfiles_ok m room lo hi v v2 fs w hM hl hz).mono ?_)).mono ?_
  · rintro e w' ⟨u, ps, rfl, h1, h2, h3⟩
    exact ⟨_, _, rfl, (told_nil _).mono (by rintro e w2 ⟨rfl, hb⟩; exact ⟨_, _, rfl, rfl, ps, h1.below hb, h2, below_all h3 hb⟩)⟩
  · rintro e w' ⟨r, k, rfl, rfl, ps, h1, h2, h3⟩
    exact ⟨r, ps, rfl, h1, h2, h3⟩
theorem pFiles_down (m : Nat) (room : Int) (lo hi : Nat) (v v2 : Value) (fs : List (ByteArray × ByteArray)) (w : World) (he : ErrT w) (hM : Mir w m room lo hi v v2 fs true) :
    Calls Tryz.prog 31 #[.pointer (some ⟨m, 0, none⟩)] w fun e w' => e = .returned (.tuple #[.slice none 0 0, .int .i64 7]) ∧ Below w.heap.size w w' := by
  refine (plainFiles_any _ w (fun r k w' => r = .slice none 0 0 ∧ k = .int .i64 7 ∧ Below w.heap.size w w') ((mfiles_down m room lo hi v v2 fs w hM).mono ?_)).mono ?_
  · rintro e w' ⟨rfl, h1⟩
    exact ⟨_, _, rfl, (told_kind 7 _ (he.keep h1)).mono (by rintro e w2 ⟨rfl, hb⟩; exact ⟨_, _, rfl, rfl, rfl, below_all h1 hb⟩)⟩
  · rintro e w' ⟨r, k, rfl, rfl, rfl, h1⟩
    exact ⟨rfl, h1⟩
end Go.Proofs.YtbhccdedcoajmaaGreatDoor
namespace Go.Proofs.YtbhccdedcoajmaaGreatDoor
open Go.RowKit

/-- a block of bytes that the caller has written into -/
def All99 (w : World) (g c : Nat) : Prop := ∃ cs : Array Value, w.heap[g]? = some (.cells cs 5 (0, 0)) ∧ cs.size = c ∧ ∀ i, i < c → cs[i]? = some (.int .u8 99)

set_option maxRecDepth 10000 in
set_option maxHeartbeats 400000 in
theorem spoilt_all (g n c : Nat) (cur : Array Value) (w : World) (hg : w.heap[g]? = some (.cells cur 5 (0, 0))) (hs : cur.size = c) (hc : c ≤ 9223372036854775807) :
    Calls Tryz.prog 26 #[.slice (some ⟨g, 0, none⟩) n c] w fun e w' => e = .returned (.tuple #[]) ∧ w.grownBy w' (some g) ∧ All99 w' g c := by
  have HG := hide hg
  have HS := hide hs
  clear hg hs
  go_enter Tryz.func26, Tryz.ntmps26
  go_wp2_with fail
  go_loopw [3] (fun v wr => ∃ k : Nat, k ≤ c ∧ v = .int .i64 k ∧ Hid (w.grownBy wr (some g)) ∧ Hid (∃ cs : Array Value, wr.heap[g]? = some (.cells cs 5 (0, 0)) ∧ cs.size = c ∧ ∀ i, i < k → cs[i]? = some (.int .u8 99))) (fun v _ => c - (intOf v).toNat)
  case atStart => exact ⟨0, Nat.zero_le _, rfl, World.grownBy.refl _ _, ⟨cur, HG.out, HS.out, fun i hi => by omega⟩⟩
  case round =>
    obtain ⟨k, hk, rfl, HB, HCS⟩ := hrel
    by_cases hkc : k < c
    · obtain ⟨cs, hg, hsz, h99⟩ := HCS.out
      obtain ⟨x0, hcell⟩ : ∃ x0, wr.cell? ⟨g, k, none⟩ = some x0 := ⟨_, cell_row hg (Array.getElem?_eq_getElem (show k < cs.size by omega))⟩
      have hfz : wr.frozen? ⟨g, k, none⟩ = false := frozen_of_row _ _ _ _ _ hg
      have HGG := hide hg
      have HSZ := hide hsz
      have H99 := hide h99
      clear hg hsz HCS h99
      go_wp2_with fail
      go_roundw
      case rel =>
        refine ⟨k + 1, by omega, by go_num, HB.out.trans (setCell_grown _), ⟨_, heap_setCell_same _ _ _ _ _ _ HGG.out, by simpa using HSZ.out, fun i hi => ?_⟩⟩
        by_cases e : i = k
        · subst e
          simp [HSZ.out, hkc]
        · have := H99.out i (by omega)
          simp [Ne.symm e, this]
      case measure => simp [intOf]; omega
    · have hkc : k = c := by omega
      subst hkc
      go_wp2_with fail
      go_end0
      exact ⟨rfl, HB.out, HCS.out⟩

set_option maxRecDepth 10000 in
set_option maxHeartbeats 400000 in
theorem stays_nil (w : World) : Calls Tryz.prog 9 #[.slice none 0 0] w fun e w' => e = .returned (.bool true) ∧ w' = w := by
  go_enter Tryz.func9, Tryz.ntmps9
  go_wp2_with fail
  go_loop [4] (fun v => v = .int .i64 0) (fun _ => 0)
  case atStart => rfl
  case round =>
    subst hrel
    go_wp2_with fail
    go_ret
    exact ⟨rfl, rfl⟩
set_option maxRecDepth 10000 in
set_option maxHeartbeats 400000 in
theorem stays_ok (g n c : Nat) (w : World) (hg : All99 w g c) (hc : c ≤ 9223372036854775807) :
    Calls Tryz.prog 9 #[.slice (some ⟨g, 0, none⟩) n c] w fun e w' => e = .returned (.bool true) ∧ w' = w := by
  have HG := hide hg
  clear hg
  go_enter Tryz.func9, Tryz.ntmps9
  go_wp2_with fail
  go_loop [4] (fun v => ∃ k : Nat, k ≤ c ∧ v = .int .i64 k) (fun v => c - (intOf v).toNat)
  case atStart => exact ⟨0, Nat.zero_le _, rfl⟩
  case round =>
    obtain ⟨k, hk, rfl⟩ := hrel
    by_cases hkc : k < c
    · have hcell : w.cell? ⟨g, k, none⟩ = some (.int .u8 99) := by
        obtain ⟨cs, h1, h2, h3⟩ := HG.out
        exact cell_row h1 (h3 k hkc)
      go_wp2_with fail
      go_round
      case rel => exact ⟨k + 1, by omega, by go_num⟩
      case measure => simp [intOf]; omega
    · go_wp2_with fail
      go_ret
      exact ⟨rfl, rfl⟩
end Go.Proofs.YtbhccdedcoajmaaGreatDoor
