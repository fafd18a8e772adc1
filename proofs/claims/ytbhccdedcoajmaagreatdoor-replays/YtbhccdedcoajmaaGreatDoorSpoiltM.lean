import Derived.Test.YtbhccdedcoajmaaGreatDoorTokRowM
import Derived.Deep.QuietTactic
import Derived.BigQuiet
import Derived.Test.YtbhccdedcoajmaaGreatDoorRDiffersM
import Derived.Test.YtbhccdedcoajmaaGreatDoorRRecord
import Derived.Test.YtbhccdedcoajmaaGreatDoorPRecPM
namespace Go.Proofs.YtbhccdedcoajmaaGreatDoor
open Go.RowKit

set_option maxRecDepth 10000 in
set_option maxHeartbeats 400000 in
theorem spoilt_nil (w : World) : Calls Tryz.prog 26 #[.slice none 0 0] w fun e w' => e = .returned (.tuple #[]) ∧ w' = w := by
  go_enter Tryz.func26, Tryz.ntmps26
  go_wp2_with fail
  go_loop [3] (fun v => v = .int .i64 0) (fun _ => 0)
  case atStart => rfl
  case round =>
    subst hrel
    go_wp2_with fail
    go_end0
    exact ⟨rfl, rfl⟩

set_option maxRecDepth 10000 in
set_option maxHeartbeats 400000 in
theorem spoilt_some (base g n c : Nat) (cur : Array Value) (w : World) (hg : w.heap[g]? = some (.cells cur 5 (0, 0))) (hb : base ≤ g) (hs : cur.size = c) (hc : c ≤ 9223372036854775807) :
    Calls Tryz.prog 26 #[.slice (some ⟨g, 0, none⟩) n c] w fun e w' => e = .returned (.tuple #[]) ∧ Below base w w' := by
  have HG := hide hg
  have HS := hide hs
  clear hg hs
  go_enter Tryz.func26, Tryz.ntmps26
  go_wp2_with fail
  go_loopw [3] (fun v wr => ∃ k : Nat, k ≤ c ∧ v = .int .i64 k ∧ Hid (Below base w wr) ∧ Hid (∃ cs : Array Value, wr.heap[g]? = some (.cells cs 5 (0, 0)) ∧ cs.size = c)) (fun v _ => c - (intOf v).toNat)
  case atStart => exact ⟨0, Nat.zero_le _, rfl, Below.refl _ _, ⟨cur, HG.out, HS.out⟩⟩
  case round =>
    obtain ⟨k, hk, rfl, HB, HCS⟩ := hrel
    by_cases hkc : k < c
    · obtain ⟨cs, hg, hsz⟩ := HCS.out
      obtain ⟨x0, hcell⟩ : ∃ x0, wr.cell? ⟨g, k, none⟩ = some x0 := ⟨_, cell_row hg (Array.getElem?_eq_getElem (show k < cs.size by omega))⟩
      have hfz : wr.frozen? ⟨g, k, none⟩ = false := frozen_of_row _ _ _ _ _ hg
      have HGG := hide hg
      have HSZ := hide hsz
      clear hg hsz HCS
      go_wp2_with fail
      go_roundw
      case rel => exact ⟨k + 1, by omega, by go_num, HB.out.setCell (p := ⟨g, k, none⟩) hb _, ⟨_, heap_setCell_same _ _ _ _ _ _ HGG.out, by simpa using HSZ.out⟩⟩
      case measure => simp [intOf]; omega
    · go_wp2_with fail
      go_end0
      exact ⟨rfl, HB.out⟩

theorem spoilt_ok (base : Nat) (v : Value) (zs : List Int) (w : World) (ho : w.ownsRow base 5 1 v zs.length (u8s zs)) :
    Calls Tryz.prog 26 #[v] w fun e w' => e = .returned (.tuple #[]) ∧ Below base w w' := by
  rcases ho.2 with ⟨rfl, _⟩ | ⟨g, c, cur, rfl, hb, hg, _, h2, h3, _⟩
  · exact (spoilt_nil w).mono (by rintro e w' ⟨rfl, rfl⟩; exact ⟨rfl, Below.refl _ _⟩)
  · exact spoilt_some base g zs.length c cur w hg hb (by rw [h3, Nat.mul_one]) (by simpa [maxLen] using h2)
end Go.Proofs.YtbhccdedcoajmaaGreatDoor
namespace Go.Proofs.YtbhccdedcoajmaaGreatDoor
open Go.RowKit

theorem rtree_ok (v : Value) (fs : List (ByteArray × ByteArray)) (w : World) (hl : fs.length ≤ 70000) (hsz : ∀ p ∈ fs, p.1.size ≤ 70000 ∧ p.2.size ≤ 70000) (hF : Fl w v fs) (hT : TreeOk fs) :
    Calls Tryz.prog 20 #[v] w fun e w' => e = .returned (.tuple #[.bool true, .string ⟨#[]⟩]) ∧ Below w.heap.size w w' := by
  refine (rtree_any v fs w hl hsz hF).mono ?_
  rintro e w' ⟨⟨rfl, _⟩ | ⟨i, hi, h1, h2, _⟩, hb⟩
  · exact ⟨rfl, hb⟩
  · exact absurd (hT i hi) h2
theorem rtree_bad (v : Value) (fs : List (ByteArray × ByteArray)) (w : World) (hl : fs.length ≤ 70000) (hsz : ∀ p ∈ fs, p.1.size ≤ 70000 ∧ p.2.size ≤ 70000) (hF : Fl w v fs) {i : Nat} (hT : BadAt fs i) :
    Calls Tryz.prog 20 #[v] w fun e w' => e = .returned (.tuple #[.bool false, .string (fs[i]'hT.1).1]) ∧ Below w.heap.size w w' := by
  refine (rtree_any v fs w hl hsz hF).mono ?_
  rintro e w' ⟨⟨rfl, h⟩ | ⟨j, hj, h1, h2, rfl⟩, hb⟩
  · exact absurd h hT.not
  · obtain rfl : i = j := hT.only ⟨hj, h1, h2⟩
    exact ⟨rfl, hb⟩
theorem Tryz.nilBytes (w : World) : (binOp BinOp.eql 38 (.slice none 0 0) (.slice none 0 0)).run Tryz.prog w = .ok (.bool true) w := by kernel_rfl

set_option maxRecDepth 10000 in
set_option maxHeartbeats 2000000 in
theorem recorded_block (vs vr : Value) (fs fr : List (ByteArray × ByteArray)) (B : Int) (h : B < 1 ∨ 64 < B) (hB0 : -9223372036854775808 ≤ B) (hB1 : B ≤ 9223372036854775807) (w : World) (he : ErrT w) (hls : fs.length ≤ 70000) (hlr : fr.length ≤ 70000) (hzs : ∀ p ∈ fs, p.1.size ≤ 70000 ∧ p.2.size ≤ 70000) (hzr : ∀ p ∈ fr, p.1.size ≤ 70000 ∧ p.2.size ≤ 70000) (hFs : Fl w vs fs) (hFr : Fl w vr fr) :
    Calls Tryz.prog 19 #[vs, vr, .int .i64 B] w fun e w' => e = .returned (.bool true) ∧ Below w.heap.size w w' := by
  have HFS := hide hFs
  have HFR := hide hFr
  have HE := hide he
  have HZS := hide hzs
  have HZR := hide hzr
  have HH := hide h
  clear hFs hFr he hzs hzr h
  have hnil := Tryz.nilBytes
  go_enter Tryz.func19, Tryz.ntmps19
  go_wp2_with fail
  refine (lfiles_any vs fs w hls HZS.out HFS.out).mono ?_
  rintro e w1 ⟨u1, rfl, hk1, hb1⟩
  have HK1 := hide hk1
  have HB1 := hide hb1
  clear hk1 hb1
  go_wp2_with fail
  refine (lfiles_any vr fr w1 hlr HZR.out (HFR.out.below HB1.out)).mono ?_
  rintro e w2 ⟨u2, rfl, hk2, hb2⟩
  have HK1b := hide (HK1.out.below hb2)
  have HB2 : Hid (Below w.heap.size w w2) := below_all HB1.out hb2
  have HK2 := hide hk2
  clear hk2 hb2 HK1 HB1
  go_wp2_with fail
  refine (pRecord_block u1 u2 B HH.out w2 (HE.out.keep HB2.out)).mono ?_
  rintro e w3 ⟨rfl, hb3⟩
  have HK13 := hide (HK1b.out.below hb3)
  have HK23 := hide (HK2.out.below hb3)
  have HB3 : Hid (Below w.heap.size w w3) := below_all HB2.out hb3
  clear hb3 HK1b HK2 HB2
  go_wp2_with fail
  refine (kept_any u1 vs fs w3 hls HZS.out HK13.out (HFS.out.below HB3.out)).mono ?_
  rintro e w4 ⟨rfl, hb4⟩
  have HK24 := hide (HK23.out.below hb4)
  have HB4 : Hid (Below w.heap.size w w4) := below_all HB3.out hb4
  clear hb4
  go_wp2_with fail
  refine (kept_any u2 vr fr w4 hlr HZR.out HK24.out (HFR.out.below HB4.out)).mono ?_
  rintro e w5 ⟨rfl, hb5⟩
  have HB5 : Hid (Below w.heap.size w w5) := below_all HB4.out hb5
  clear hb5
  rcases HH.out with h | h
  all_goals
    go_wp2_with fail
    go_ret
    exact ⟨rfl, HB5.out⟩

set_option maxRecDepth 10000 in
set_option maxHeartbeats 2000000 in
theorem recorded_bad (vs vr : Value) (fs fr : List (ByteArray × ByteArray)) (B : Nat) (hB1 : 1 ≤ B) (hB2 : B ≤ 64) (w : World) (he : ErrT w) (hls : fs.length ≤ 70000) (hlr : fr.length ≤ 70000) (hzs : ∀ p ∈ fs, p.1.size ≤ 70000 ∧ p.2.size ≤ 70000) (hzr : ∀ p ∈ fr, p.1.size ≤ 70000 ∧ p.2.size ≤ 70000) (hFs : Fl w vs fs) (hFr : Fl w vr fr) (hno : ¬ (TreeOk fs ∧ TreeOk fr)) :
    Calls Tryz.prog 19 #[vs, vr, .int .i64 B] w fun e w' => e = .returned (.bool true) ∧ Below w.heap.size w w' := by
  have HFS := hide hFs
  have HFR := hide hFr
  have HE := hide he
  have HZS := hide hzs
  have HZR := hide hzr
  have HNO := hide hno
  clear hFs hFr he hzs hzr hno
  have hnil := Tryz.nilBytes
  go_enter Tryz.func19, Tryz.ntmps19
  go_wp2_with fail
  refine (lfiles_any vs fs w hls HZS.out HFS.out).mono ?_
  rintro e w1 ⟨u1, rfl, hk1, hb1⟩
  have HK1 := hide hk1
  have HB1 := hide hb1
  clear hk1 hb1
  go_wp2_with fail
  refine (lfiles_any vr fr w1 hlr HZR.out (HFR.out.below HB1.out)).mono ?_
  rintro e w2 ⟨u2, rfl, hk2, hb2⟩
  have HK1b := hide (HK1.out.below hb2)
  have HB2 : Hid (Below w.heap.size w w2) := below_all HB1.out hb2
  have HK2 := hide hk2
  clear hk2 hb2 HK1 HB1
  go_wp2_with fail
  refine (pRecord_bad u1 u2 fs fr B w2 (HE.out.keep HB2.out) hB1 hB2 hls hlr HZS.out HZR.out HK1b.out.af HK2.out.af HNO.out).mono ?_
  rintro e w3 ⟨nm, rfl, hwhy, hb3⟩
  have HW := hide hwhy
  have HK13 := hide (HK1b.out.below hb3)
  have HK23 := hide (HK2.out.below hb3)
  have HB3 : Hid (Below w.heap.size w w3) := below_all HB2.out hb3
  clear hb3 hwhy HK1b HK2 HB2
  go_wp2_with fail
  refine (kept_any u1 vs fs w3 hls HZS.out HK13.out (HFS.out.below HB3.out)).mono ?_
  rintro e w4 ⟨rfl, hb4⟩
  have HK24 := hide (HK23.out.below hb4)
  have HB4 : Hid (Below w.heap.size w w4) := below_all HB3.out hb4
  clear hb4
  go_wp2_with fail
  refine (kept_any u2 vr fr w4 hlr HZR.out HK24.out (HFR.out.below HB4.out)).mono ?_
  rintro e w5 ⟨rfl, hb5⟩
  have HB5 : Hid (Below w.heap.size w w5) := below_all HB4.out hb5
  clear hb5
  have heq : (nm.toList == nm.toList) = true := by simp
  rcases HW.out with ⟨i, hbad, hnm⟩ | ⟨hok, i, hbad, hnm⟩
  · have HT := hide (rtree_bad vs fs w5 hls HZS.out (HFS.out.below HB5.out) hbad)
    rw [← hnm] at HT
    clear hnm hbad
    go_wp2_with fail
    refine HT.out.mono ?_
    rintro e w6 ⟨rfl, hb6⟩
    have HB6 : Hid (Below w.heap.size w w6) := below_all HB5.out hb6
    clear hb6
    go_wp2_with fail
    go_ret
    exact ⟨rfl, HB6.out⟩
  · have HT := hide (rtree_ok vs fs w5 hls HZS.out (HFS.out.below HB5.out) hok)
    have HR : Hid (∀ W, Below w.heap.size w W → Calls Tryz.prog 20 #[vr] W fun e w' => e = .returned (.tuple #[.bool false, .string nm]) ∧ Below W.heap.size W w') := by
      intro W hb
      have := rtree_bad vr fr W hlr HZR.out (HFR.out.below hb) hbad
      rw [← hnm] at this
      exact this
    clear hnm hbad hok
    go_wp2_with fail
    refine HT.out.mono ?_
    rintro e w6 ⟨rfl, hb6⟩
    have HB6 : Hid (Below w.heap.size w w6) := below_all HB5.out hb6
    clear hb6
    go_wp2_with fail
    refine (HR.out _ HB6.out).mono ?_
    rintro e w7 ⟨rfl, hb7⟩
    have HB7 : Hid (Below w.heap.size w w7) := below_all HB6.out hb7
    clear hb7
    go_wp2_with fail
    go_ret
    exact ⟨rfl, HB7.out⟩

theorem bytes_record {src ref : List (ByteArray × ByteArray)} {B : Nat} (hB1 : 1 ≤ B) (hB2 : B ≤ 64) (hs : TreeOk src) (hr : TreeOk ref) : Bytes (recordL (src.map filOf) (ref.map filOf) B) := by
  have h8 := hs.len
  have g8 := hr.len
  have hfs := hs.sizes
  have hfr := hr.sizes
  unfold recordL bodyL
  refine bytes_app (bytes_cons (by omega) (bytes_cons (by omega) (bytes_cons (by omega) (bytes_cons (by omega) (bytes_cons (by rw [List.length_map]; omega) (bytes_app (bytes_flat fun x hx => ?_) (bytes_cons (by rw [List.length_map]; omega) (bytes_flat fun x hx => ?_)))))))) (putN_bytes _ _)
  · obtain ⟨p, hp, rfl⟩ := List.mem_map.1 hx
    exact bytes_entry (by rw [show (filOf p).name = nums p.1 from rfl, nums_length]; exact (hfr p hp).1) (nums_bytes _)
  · obtain ⟨p, hp, rfl⟩ := List.mem_map.1 hx
    refine (targetL_ok hB1 (by rw [show (filOf p).name = nums p.1 from rfl, nums_length]; exact (hfs p hp).1) (nums_bytes _) (by rw [show (filOf p).data = nums p.2 from rfl, nums_length]; exact (hfs p hp).2) (nums_bytes _) ?_).2
    rw [show (filOf p).name = nums p.1 from rfl, found_findL, nums_length]
    unfold foundOf
    cases h : ref.find? fun q => decide (nums q.1 = nums p.1) with
    | none => exact Nat.zero_le _
    | some q => exact (hfr q (List.mem_of_find?_eq_some h)).2

set_option maxRecDepth 10000 in
set_option maxHeartbeats 2000000 in
theorem recorded_ok (vs vr : Value) (fs fr : List (ByteArray × ByteArray)) (B : Nat) (hB1 : 1 ≤ B) (hB2 : B ≤ 64) (w : World) (hls : fs.length ≤ 70000) (hlr : fr.length ≤ 70000) (hzs : ∀ p ∈ fs, p.1.size ≤ 70000 ∧ p.2.size ≤ 70000) (hzr : ∀ p ∈ fr, p.1.size ≤ 70000 ∧ p.2.size ≤ 70000) (hFs : Fl w vs fs) (hFr : Fl w vr fr) (hTs : TreeOk fs) (hTr : TreeOk fr) :
    Calls Tryz.prog 19 #[vs, vr, .int .i64 B] w fun e w' => e = .returned (.bool true) ∧ Below w.heap.size w w' := by
  have HFS := hide hFs
  have HFR := hide hFr
  have HZS := hide hzs
  have HZR := hide hzr
  have HTS := hide hTs
  have HTR := hide hTr
  have HBY := hide (bytes_record hB1 hB2 hTs hTr)
  clear hFs hFr hzs hzr hTs hTr
  go_enter Tryz.func19, Tryz.ntmps19
  go_wp2_with fail
  refine (lfiles_any vs fs w hls HZS.out HFS.out).mono ?_
  rintro e w1 ⟨u1, rfl, hk1, hb1⟩
  have HK1 := hide hk1
  have HB1 := hide hb1
  clear hk1 hb1
  go_wp2_with fail
  refine (lfiles_any vr fr w1 hlr HZR.out (HFR.out.below HB1.out)).mono ?_
  rintro e w2 ⟨u2, rfl, hk2, hb2⟩
  have HK1b := hide (HK1.out.below hb2)
  have HB2 : Hid (Below w.heap.size w w2) := below_all HB1.out hb2
  have HK2 := hide hk2
  clear hk2 hb2 HK1 HB1
  go_wp2_with fail
  refine (pRecord_ok u1 u2 fs fr B w2 hB1 hB2 hls hlr HZS.out HZR.out HK1b.out.af HK2.out.af HTS.out HTR.out).mono ?_
  rintro e w3 ⟨vb, rfl, ho3, hb3⟩
  have HO3 := hide ho3
  have HK13 := hide (HK1b.out.below hb3)
  have HK23 := hide (HK2.out.below hb3)
  have HB23 := hide hb3
  have HB3 : Hid (Below w.heap.size w w3) := below_all HB2.out hb3
  clear hb3 ho3
  go_wp2_with fail
  refine (kept_any u1 vs fs w3 hls HZS.out HK13.out (HFS.out.below HB3.out)).mono ?_
  rintro e w4 ⟨rfl, hb4⟩
  have HO4 := hide (ownsRow_below HO3.out hb4)
  have HK24 := hide (HK23.out.below hb4)
  have HB24 : Hid (Below w2.heap.size w2 w4) := below_all HB23.out hb4
  have HB4 : Hid (Below w.heap.size w w4) := below_all HB3.out hb4
  clear hb4 HO3 HK13 HK23 HB23 HB3
  go_wp2_with fail
  refine (kept_any u2 vr fr w4 hlr HZR.out HK24.out (HFR.out.below HB4.out)).mono ?_
  rintro e w5 ⟨rfl, hb5⟩
  have HO5 := hide (ownsRow_below HO4.out hb5)
  have HB25 : Hid (Below w2.heap.size w2 w5) := below_all HB24.out hb5
  have HB5 : Hid (Below w.heap.size w w5) := below_all HB4.out hb5
  clear hb5 HO4 HK24 HB24 HB4
  go_wp2_with fail
  refine (rtree_ok vs fs w5 hls HZS.out (HFS.out.below HB5.out) HTS.out).mono ?_
  rintro e w6 ⟨rfl, hb6⟩
  have HO6 := hide (ownsRow_below HO5.out hb6)
  have HB26 : Hid (Below w2.heap.size w2 w6) := below_all HB25.out hb6
  have HB6 : Hid (Below w.heap.size w w6) := below_all HB5.out hb6
  clear hb6 HO5 HB25 HB5
  go_wp2_with fail
  refine (rtree_ok vr fr w6 hlr HZR.out (HFR.out.below HB6.out) HTR.out).mono ?_
  rintro e w7 ⟨rfl, hb7⟩
  have HO7 := hide (ownsRow_below HO6.out hb7)
  have HB27 : Hid (Below w2.heap.size w2 w7) := below_all HB26.out hb7
  have HB7 : Hid (Below w.heap.size w w7) := below_all HB6.out hb7
  clear hb7 HO6 HB26 HB6
  go_wp2_with fail
  refine (rrecord_any vs vr fs fr B w7 hB1 hB2 HTS.out.len HTR.out.len HTS.out.sizes HTR.out.sizes (HFS.out.below HB7.out) (HFR.out.below HB7.out)).mono ?_
  rintro e w8 ⟨rfl, hb8⟩
  have HO8 := hide (ownsRow_below HO7.out hb8)
  have HB28 : Hid (Below w2.heap.size w2 w8) := below_all HB27.out hb8
  have HB8 : Hid (Below w.heap.size w w8) := below_all HB7.out hb8
  clear hb8 HO7 HB27 HB7
  have hcv := conv_own HBY.out HO8.out
  have heq : ((bytesOf (recordL (fs.map filOf) (fr.map filOf) B)).toList == (bytesOf (recordL (fs.map filOf) (fr.map filOf) B)).toList) = true := by simp
  have hne : ((bytesOf (recordL (fs.map filOf) (fr.map filOf) B)).toList != (bytesOf (recordL (fs.map filOf) (fr.map filOf) B)).toList) = false := by simp
  generalize hR : recordL (fs.map filOf) (fr.map filOf) B = rl at *
  clear hR
  generalize bytesOf rl = rb at *
  go_wp2_with fail
  refine (spoilt_ok w2.heap.size vb rl w8 HO8.out).mono ?_
  rintro e w9 ⟨rfl, hb9⟩
  have HB29 : Hid (Below w2.heap.size w2 w9) := HB28.out.trans hb9
  have HB9 : Hid (Below w.heap.size w w9) := below_all HB2.out HB29.out
  have HK19 := hide (HK1b.out.below HB29.out)
  have HK29 := hide (HK2.out.below HB29.out)
  clear hb9 hcv heq hne HO8
  go_wp2_with fail
  refine (kept_any u1 vs fs w9 hls HZS.out HK19.out (HFS.out.below HB9.out)).mono ?_
  rintro e w10 ⟨rfl, hb10⟩
  have HK210 := hide (HK29.out.below hb10)
  have HB10 : Hid (Below w.heap.size w w10) := below_all HB9.out hb10
  clear hb10
  go_wp2_with fail
  refine (kept_any u2 vr fr w10 hlr HZR.out HK210.out (HFR.out.below HB10.out)).mono ?_
  rintro e w11 ⟨rfl, hb11⟩
  have HB11 : Hid (Below w.heap.size w w11) := below_all HB10.out hb11
  clear hb11
  go_wp2_with fail
  go_ret
  exact ⟨rfl, HB11.out⟩

theorem recorded_any (vs vr : Value) (fs fr : List (ByteArray × ByteArray)) (B : Int) (hB0 : -9223372036854775808 ≤ B) (hB1 : B ≤ 9223372036854775807) (w : World) (he : ErrT w) (hls : fs.length ≤ 70000) (hlr : fr.length ≤ 70000) (hzs : ∀ p ∈ fs, p.1.size ≤ 70000 ∧ p.2.size ≤ 70000) (hzr : ∀ p ∈ fr, p.1.size ≤ 70000 ∧ p.2.size ≤ 70000) (hFs : Fl w vs fs) (hFr : Fl w vr fr) :
    Calls Tryz.prog 19 #[vs, vr, .int .i64 B] w fun e w' => e = .returned (.bool true) ∧ Below w.heap.size w w' := by
  by_cases h : B < 1 ∨ 64 < B
  · exact recorded_block vs vr fs fr B h hB0 hB1 w he hls hlr hzs hzr hFs hFr
  · obtain ⟨b, rfl⟩ : ∃ b : Nat, B = b := ⟨B.toNat, by omega⟩
    by_cases hT : TreeOk fs ∧ TreeOk fr
    · exact recorded_ok vs vr fs fr b (by omega) (by omega) w hls hlr hzs hzr hFs hFr hT.1 hT.2
    · exact recorded_bad vs vr fs fr b (by omega) (by omega) w he hls hlr hzs hzr hFs hFr hT
end Go.Proofs.YtbhccdedcoajmaaGreatDoor
