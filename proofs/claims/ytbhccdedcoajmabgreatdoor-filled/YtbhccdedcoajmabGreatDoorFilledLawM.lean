import Derived.Test.YtbhccdedcoajmabGreatDoorPRepPM
import Derived.Test.YtbhccdedcoajmabGreatDoorLTreeM
import Derived.Test.YtbhccdedcoajmabGreatDoorRows
import Derived.SevenTiedAt
namespace Go.Proofs.YtbhccdedcoajmabGreatDoor
open Go.RowKit Go.MuLone

set_option maxRecDepth 10000 in
set_option maxHeartbeats 1000000 in
theorem walk_filled (v0 : Value) (s0 : List ByteArray) (bits : Int) (v1 : Value) (s1 : List ByteArray) (older blk : Int) (w : World) (he : ErrT w)
    (h0 : Sl w v0 s0) (l0 : s0.length ≤ maxLen) (z0 : ∀ s ∈ s0, s.size ≤ maxLen) (hbits : (Lit.int .i64 bits).wf = true) (h1 : Sl w v1 s1) (l1 : s1.length ≤ maxLen) (z1 : ∀ s ∈ s1, s.size ≤ maxLen) (holder : (Lit.int .i64 older).wf = true) (hblk : (Lit.int .i64 blk).wf = true) :
    Calls Tryz.prog 6 #[v0, .int .i64 bits, v1, .int .i64 older, .int .i64 blk] w fun e w' => e = .returned (.bool true) ∧ Below w.heap.size w w' := by
  have HT1 := hide (ktree_any v0 s0 bits w h0 l0 z0 hbits)
  have HT2 : Hid (∀ W, Below w.heap.size w W → Calls Tryz.prog 8 #[v1, .int .i64 older] W fun e w' => ∃ u fs, e = .returned u ∧ Af w' u fs ∧ TreeOk fs ∧ Below W.heap.size W w') := fun W hb => ktree_any v1 s1 older W (h1.below hb) l1 z1 holder
  have HE := hide he
  have HBL := hide hblk
  clear h0 l0 z0 hbits h1 l1 z1 holder hblk he
  go_enter Tryz.func6, Tryz.ntmps6
  go_wp2_with fail
  refine HT1.out.mono ?_
  rintro e w1 ⟨u1, fs, rfl, hA1, hTs, hb1⟩
  have HA1 := hide hA1
  have HTS := hide hTs
  have HB1 := hide hb1
  clear hA1 hTs hb1 HT1
  go_wp2_with fail
  refine (HT2.out _ HB1.out).mono ?_
  rintro e w2 ⟨u2, fr, rfl, hA2, hTr, hb2⟩
  have HA1b := hide (HA1.out.below hb2)
  have HA2 := hide hA2
  have HTR := hide hTr
  have HB2 : Hid (Below w.heap.size w w2) := below_all HB1.out hb2
  clear hA2 hTr hb2 HT2 HA1 HB1
  have h8 := HTS.out.len
  have g8 := HTR.out.len
  go_wp2_with fail
  refine (all_any u1 fs w2 h8 (fun p hp => (HTS.out.sizes p hp).2) HA1b.out).mono ?_
  rintro e w3 ⟨rfl, hw3⟩
  obtain rfl := hw3.symm
  have hbn : bytesIn fs ≤ 2400 := by have := bytesIn_le (fs := fs) (fun p hp => (HTS.out.sizes p hp).2); omega
  by_cases hz : bytesIn fs = 0
  · rw [hz]
    go_wp2_with fail
    refine (pNew_ok u2 fr 0 w2 HA2.out HTR.out (by omega) (by omega)).mono ?_
    rintro e w4 ⟨m, lo, hi, u, rfl, hM, hlo, hhi, hmn, hb4⟩
    have HB4 : Hid (Below w.heap.size w w4) := below_all HB2.out hb4
    clear hM hb4
    go_wp2_with fail
    go_ret
    exact ⟨rfl, HB4.out⟩
  · have hwn : IntKind.i64.wrap ((bytesIn fs : Int) - 1) = (bytesIn fs : Int) - 1 := by rw [IntKind.wrap_i64]; omega
    obtain ⟨rm, hrm⟩ : ∃ rm : Int, rm = (bytesIn fs : Int) - 1 := ⟨_, rfl⟩
    have HBR := hide (brought_ok u1 u2 fs fr blk rm w2 HBL.out (by omega) (by omega) HA1b.out HA2.out HTS.out HTR.out)
    rw [hrm] at HBR
    go_wp2_with fail
    refine HBR.out.mono ?_
    rintro e w4 ⟨B, g, cap, m, lo, hi, u, s, rfl, hB1, hB2, hsn, hsl, hs0, hcap, hg1, hglo, hgm, hown, hM, hb4⟩
    have HRS : Hid (replayS fr (nums s) rm = .error (10, [])) := by
      show _ = _
      rw [replay_told hB1 hB2 HTS.out HTR.out hsn, if_pos (by omega)]
    rw [← hrm] at hM
    have hlt4 : m < w4.heap.size := hM.lt
    have hgl : g < w4.heap.size := (hown.lt g rfl).2
    have HRP := hide (pReplay_any m rm lo hi u (.slice none 0 0) fr g cap s 0 w4 (HE.out.keep (below_all HB2.out hb4)) hM (by omega) hcap (by omega) hgl (by omega) (own_cells0 hown) (by omega) (fun p hp => (HTR.out.sizes p hp).2))
    have HM4 := hide hM
    have HB4 : Hid (Below w2.heap.size w2 w4) := hb4
    clear hown hM hb4 HBR hsn
    go_wp2_with fail
    refine HRP.out.mono ?_
    rintro e w5 ⟨k, nm, rfl, hq⟩
    unfold PRplQ at hq
    rw [HRS.out] at hq
    obtain ⟨rfl, _, hb5⟩ := hq
    have HM5 := hide (HM4.out.below hb5)
    have HB5 : Hid (Below w2.heap.size w2 w5) := below_all HB4.out hb5
    clear hb5 HRP HM4
    have HHA := hide (has_any m rm lo hi u (.slice none 0 0) fr u2 fr w5 HM5.out (by omega) (fun p hp => by have := HTR.out.sizes p hp; omega) (HA2.out.below HB5.out).ag)
    go_wp2_with fail
    refine HHA.out.mono ?_
    rintro e w6 ⟨r, rfl, ⟨b, rfl, hb⟩, hb6⟩
    obtain rfl := hb.2 rfl
    have HB6 : Hid (Below w.heap.size w w6) := below_all HB2.out (below_all HB5.out hb6)
    clear hb hb6 HHA
    go_wp2_with fail
    go_ret
    exact ⟨rfl, HB6.out⟩
end Go.Proofs.YtbhccdedcoajmabGreatDoor
namespace Go.Proofs.YtbhccdedcoajmabGreatDoor
open Go

/-- a tied card without a companion, of a function whose road meets a 'go' -/
theorem holds_tied_goes (Lk : Looks) {p : Pinned} {s : OpenSpec} {c : OpenClaim} (al : List (List PathCond)) (kinds : List LaidKind) (tests : Bool) (har : Bool × String) (lk : Bool)
    (hc : c.holds p s) (hal : ∀ D ∈ al, (c.withDomain D).holds p s) (hw : c.wfByText s = true) (hwal : ∀ D ∈ al, (c.withDomain D).wfByText s = true)
    (htie : c.laidByTextAt Lk p kinds tests)
    (hst : c.start = .entering) (hnb : c.noBlocks = false ∧ c.again = false) (hm : p.checked.prog.mainIs = some (har.1, har.2.toList)) (hn : (!har.1 && har.2.isEmpty && !lk) = false)
    (hl : ∀ f fn, p.checked.prog.funcNamed c.func = some f → p.checked.prog.funcs[f]? = some fn → lk = p.checked.prog.looks [] ∧ ∀ (j : Nat) t, fn.params[j]? = some t → p.checked.prog.wantsStandIn t = false)
    (hg : true = c.goesBy p.checked.prog) :
    Claim7.holds p (.plain s) { stood := { row := c, standIns := [], harness := har, looks := lk }, kinds := [], alts := al, goes := true, laidByText := true, laidKinds := kinds, laidTests := tests, laidLooks := Lk } := by
  have h6 : ∀ r : OpenClaim, Claim7.isSixth { stood := { row := r, standIns := [], harness := har, looks := lk }, kinds := [] } = false := fun r => by simpa [Claim7.isSixth] using hn
  refine ⟨?_, fun D hD => ?_, htie, (fun h => by cases h), hg⟩
  · obtain ⟨_, rest⟩ := Claim7.new_of_sixth hc har lk hst hnb hm (h6 c) hl
    exact ⟨hw, rest⟩
  · obtain ⟨_, rest⟩ := Claim7.new_of_sixth (hal D hD) har lk hst hnb hm (h6 _) hl
    exact ⟨hwal D hD, rest⟩
end Go.Proofs.YtbhccdedcoajmabGreatDoor
