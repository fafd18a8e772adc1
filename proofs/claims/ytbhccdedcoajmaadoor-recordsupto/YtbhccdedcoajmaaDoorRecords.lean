import Derived.Test.YtbhccdedcoajmaaDoorLRecords
import Derived.Test.YtbhccdedcoajmaaDoorBulk
namespace Go.Proofs.YtbhccdedcoajmaaDoor
open Go.RowKit

theorem zip_mem {ns ds : List ByteArray} {p : ByteArray × ByteArray} (h : p ∈ ns.zip ds) : p.1 ∈ ns ∧ p.2 ∈ ds := List.of_mem_zip h
theorem bulk_small {fs : List (ByteArray × ByteArray)} (h : bulkOf fs ≤ 65536) : fs.length ≤ 70000 ∧ ∀ p ∈ fs, p.1.size ≤ 70000 ∧ p.2.size ≤ 70000 := by
  unfold bulkOf at h
  refine ⟨by omega, fun p hp => ?_⟩
  have := bulk_mem hp
  omega

set_option maxRecDepth 10000 in
set_option maxHeartbeats 2000000 in
theorem walk_records (v0 : Value) (s0 : List ByteArray) (v1 : Value) (s1 : List ByteArray) (v2 : Value) (s2 : List ByteArray) (v3 : Value) (s3 : List ByteArray) (B : Int) (w : World) (he : ErrT w)
    (h0 : Sl w v0 s0) (l0 : s0.length ≤ 1048576) (z0 : ∀ s ∈ s0, s.size ≤ 1048576) (h1 : Sl w v1 s1) (l1 : s1.length ≤ 1048576) (z1 : ∀ s ∈ s1, s.size ≤ 1048576)
    (h2 : Sl w v2 s2) (l2 : s2.length ≤ 1048576) (z2 : ∀ s ∈ s2, s.size ≤ 1048576) (h3 : Sl w v3 s3) (l3 : s3.length ≤ 1048576) (z3 : ∀ s ∈ s3, s.size ≤ 1048576) (hB : (Lit.int .i64 B).wf = true) :
    Calls Tryd.prog 7 #[v0, v1, v2, v3, .int .i64 B] w fun e w' => e = .returned (.bool true) ∧ Below w.heap.size w w' := by
  have hB' : -9223372036854775808 ≤ B ∧ B ≤ 9223372036854775807 := by simpa [Lit.wf, IntKind.min, IntKind.max, IntKind.signed, IntKind.bits] using hB
  have HT1 := hide (ltree_any v0 v1 s0 s1 w h0 h1 l0 l1)
  have HT2 : Hid (∀ W, Below w.heap.size w W → Calls Tryd.prog 26 #[v2, v3] W fun e w' => ∃ v, e = .returned v ∧ w'.ownsRow W.heap.size 90 2 v (s2.zip s3).length (flCells (s2.zip s3)) ∧ Below W.heap.size W w') := fun W hb => ltree_any v2 v3 s2 s3 W (h2.below hb) (h3.below hb) l2 l3
  have hzs : ∀ p ∈ s0.zip s1, p.1.size ≤ 140737488355328 ∧ p.2.size ≤ 140737488355328 := fun p hp => by
    have := zip_mem hp
    have := z0 _ this.1
    have := z1 p.2 (zip_mem hp).2
    omega
  have hzr : ∀ p ∈ s2.zip s3, p.1.size ≤ 140737488355328 ∧ p.2.size ≤ 140737488355328 := fun p hp => by
    have := zip_mem hp
    have := z2 _ this.1
    have := z3 p.2 (zip_mem hp).2
    omega
  have hls : (s0.zip s1).length ≤ 1048576 := by rw [List.length_zip]; omega
  have hlr : (s2.zip s3).length ≤ 1048576 := by rw [List.length_zip]; omega
  have HZS := hide hzs
  have HZR := hide hzr
  have HE := hide he
  clear h0 z0 h1 z1 h2 z2 h3 z3 he hzs hzr hB
  generalize s0.zip s1 = fs at *
  generalize s2.zip s3 = fr at *
  go_enter Tryd.func7, Tryd.ntmps7
  go_wp2_with fail
  refine HT1.out.mono ?_
  rintro e w1 ⟨u1, rfl, ho1, hb1⟩
  have HF1 := hide (Fl_of_row ho1)
  have HB1 := hide hb1
  clear ho1 hb1
  go_wp2_with fail
  refine (HT2.out _ HB1.out).mono ?_
  rintro e w2 ⟨u2, rfl, ho2, hb2⟩
  have HF2 := hide (HF1.out.below hb2)
  have HR2 := hide (Fl_of_row ho2)
  have HB2 : Hid (Below w.heap.size w w2) := below_all HB1.out hb2
  clear ho2 hb2 HF1 HB1
  go_wp2_with fail
  refine (lsize_any u1 fs w2 hls HZS.out HF2.out).mono ?_
  rintro e w3 ⟨n, rfl, hn, hb3⟩
  have HN := hide hn
  have HF3 := hide (HF2.out.below hb3)
  have HR3 := hide (HR2.out.below hb3)
  have HB3 : Hid (Below w.heap.size w w3) := below_all HB2.out hb3
  clear hn hb3 HF2 HR2 HB2
  go_wp2_with fail
  refine (lsize_any u2 fr w3 hlr HZR.out HR3.out).mono ?_
  rintro e w4 ⟨m, rfl, hm, hb4⟩
  have HM := hide hm
  have HF4 := hide (HF3.out.below hb4)
  have HR4 := hide (HR3.out.below hb4)
  have HB4 : Hid (Below w.heap.size w w4) := below_all HB3.out hb4
  clear hm hb4 HF3 HR3 HB3
  by_cases hn : n ≤ 65536
  · by_cases hm : m ≤ 65536
    · have hn1 : (n : Int) ≤ 65536 := by omega
      have hm1 : (m : Int) ≤ 65536 := by omega
      have hbn := bulk_small (HN.out hn)
      have hbm := bulk_small (HM.out hm)
      have HCALL := hide (recorded_any u1 u2 fs fr B hB'.1 hB'.2 w4 (HE.out.keep HB4.out) hbn.1 hbm.1 hbn.2 hbm.2 HF4.out HR4.out)
      clear hbn hbm
      go_wp2_with fail
      refine HCALL.out.mono ?_
      rintro e w5 ⟨rfl, hb5⟩
      have HB5 : Hid (Below w.heap.size w w5) := below_all HB4.out hb5
      clear hb5
      go_wp2_with fail
      go_ret
      exact ⟨rfl, HB5.out⟩
    · have hn1 : (n : Int) ≤ 65536 := by omega
      have hm1 : 65536 < (m : Int) := by omega
      go_wp2_with fail
      go_ret
      exact ⟨rfl, HB4.out⟩
  · have hn1 : 65536 < (n : Int) := by omega
    go_wp2_with fail
    go_ret
    exact ⟨rfl, HB4.out⟩
end Go.Proofs.YtbhccdedcoajmaaDoor
