import Derived.Test.YtbhccdedcoajmabGreatDoorPRepPM
import Derived.Test.YtbhccdedcoajmabGreatDoorLTreeM
import Derived.Deep.DeepCutAuto
import Derived.Deep.CutBlock
import Derived.Test.YtbhccdedcoajmabGreatDoorRows
import Derived.SevenTiedAt
namespace Go.Proofs.YtbhccdedcoajmabGreatDoor
open Go.RowKit Go.MuLone

theorem files_inj2 {fs gs : List (ByteArray × ByteArray)} (h : gs.map (fun p => (nums p.1, nums p.2)) = fs.map fun p => (nums p.1, nums p.2)) : gs = fs := by
  have hl : gs.length = fs.length := by have := congrArg List.length h; simpa using this
  refine List.ext_getElem hl fun i h1 h2 => ?_
  have := congrArg (fun l => l[i]?) h
  simp [List.getElem?_map, List.getElem?_eq_getElem h1, List.getElem?_eq_getElem h2] at this
  exact Prod.ext (nums_inj this.1) (nums_inj this.2)
theorem apply_len {zs : List Int} {B : Nat} : ∀ (ts : List Tok) (m d : List Int), m.length ≤ 300 → applyGo zs B m ts = .ok d → d.length ≤ 300
  | [], m, d, hl, h => by
    simp only [applyGo, Except.ok.injEq] at h
    exact h ▸ hl
  | t :: ts, m, d, hl, h => by
    unfold applyGo at h
    split at h
    · split at h
      · cases h
      · exact apply_len ts _ d (by rw [List.length_append]; omega) h
    · cases h
theorem makeGo_small (fs : List (ByteArray × ByteArray)) (B : Nat) : ∀ (ts : List (EntL × List Tok)) (l : List (List Int × List Int)), makeGo fs B ts = .ok l → ∀ q ∈ l, q.2.length ≤ 300
  | [], l, h => by
    simp only [makeGo, Except.ok.injEq] at h
    rw [← h]; simp
  | x :: ts, l, h => by
    rw [makeGo_cons] at h
    split at h
    · cases h
    · rename_i d hd
      split at h
      · cases hg : makeGo fs B ts with
        | error n => rw [hg] at h; cases h
        | ok l2 =>
          rw [hg] at h
          simp only [Except.map, Except.ok.injEq] at h
          rw [← h]
          intro q hq
          rcases List.mem_cons.1 hq with rfl | hq
          · exact apply_len _ _ _ (by simp) hd
          · exact makeGo_small fs B ts l2 hg q hq
      · cases h
theorem replay_small {fs : List (ByteArray × ByteArray)} {s : List Int} {room : Int} {l : List (List Int × List Int)} (h : replayS fs s room = .ok l) : ∀ q ∈ l, q.2.length ≤ 300 := by
  unfold replayS at h
  cases hr : readL s with
  | none => rw [hr] at h; cases h
  | some b =>
    rw [hr] at h
    simp only at h
    unfold replayL at h
    split at h
    · cases h
    · split at h
      · cases h
      · split at h
        · cases h
        · rename_i l2 hm
          simp only [Except.ok.injEq] at h
          subst h
          exact makeGo_small _ _ _ _ hm
/-- is the i-th file of two trees, by name or by size, another? -/
def OtherAt (fs fr : List (ByteArray × ByteArray)) (i : Nat) : Prop := ∃ (h1 : i < fs.length) (h2 : i < fr.length), nums fs[i].1 ≠ nums fr[i].1 ∨ fs[i].2.size ≠ fr[i].2.size
theorem basis_other {fs fr : List (ByteArray × ByteArray)} (h : basisBad fs ((fr.map filOf).map entOf) = none) : fs.length = fr.length ∧ ∀ i, ¬ OtherAt fs fr i := by
  induction fs generalizing fr with
  | nil =>
    cases fr with
    | nil => exact ⟨rfl, fun i hi => by obtain ⟨h1, _⟩ := hi; simp at h1⟩
    | cons q fr => cases h
  | cons p fs ih =>
    cases fr with
    | nil => cases h
    | cons q fr =>
      have hh : (if Same p (entOf (filOf q)) then basisBad fs ((fr.map filOf).map entOf) else some (lesser (nums p.1) (entOf (filOf q)).name)) = none := h
      by_cases hs : Same p (entOf (filOf q))
      · rw [if_pos hs] at hh
        obtain ⟨h1, h2⟩ := ih hh
        refine ⟨by simp [h1], fun i hi => ?_⟩
        obtain ⟨a, b, c⟩ := hi
        cases i with
        | zero =>
          have e1 : nums p.1 = nums q.1 := hs.1
          have e2 : ((nums p.2).length : Int) = ((nums q.2).length : Int) := hs.2.1
          rw [nums_length, nums_length] at e2
          rcases c with c | c
          · exact c e1
          · exact c (by show p.2.size = q.2.size; omega)
        | succ i => exact h2 i ⟨by simpa using a, by simpa using b, by simpa using c⟩
      · rw [if_neg hs] at hh; cases hh
theorem replay_other {fs fr fx : List (ByteArray × ByteArray)} {B : Nat} {s : ByteArray} {room : Int} (hB1 : 1 ≤ B) (hB2 : B ≤ 64) (hs : TreeOk fs) (hr : TreeOk fr) (hsn : nums s = recordL (fs.map filOf) (fr.map filOf) B) (ho : fx.length ≠ fr.length ∨ ∃ i, OtherAt fx fr i) :
    ∃ n, replayS fx (nums s) room = .error (9, n) := by
  unfold replayS
  rw [hsn, read_told hB1 hB2 hs hr]
  simp only
  unfold replayL
  simp only
  cases hb : basisBad fx ((fr.map filOf).map entOf) with
  | some n => exact ⟨n, rfl⟩
  | none =>
    exfalso
    obtain ⟨h1, h2⟩ := basis_other hb
    rcases ho with h | ⟨i, h⟩
    · exact h h1
    · exact h2 i h

set_option maxRecDepth 10000 in
set_option maxHeartbeats 2000000 in
theorem walk_brought (v0 : Value) (s0 : List ByteArray) (bits : Int) (v1 : Value) (s1 : List ByteArray) (older blk : Int) (w : World) (he : ErrT w)
    (h0 : Sl w v0 s0) (l0 : s0.length ≤ maxLen) (z0 : ∀ s ∈ s0, s.size ≤ maxLen) (hbits : (Lit.int .i64 bits).wf = true) (h1 : Sl w v1 s1) (l1 : s1.length ≤ maxLen) (z1 : ∀ s ∈ s1, s.size ≤ maxLen) (holder : (Lit.int .i64 older).wf = true) (hblk : (Lit.int .i64 blk).wf = true) :
    Calls Tryz.prog 3 #[v0, .int .i64 bits, v1, .int .i64 older, .int .i64 blk] w fun e w' => e = .returned (.bool true) ∧ Below w.heap.size w w' := by
  have HT1 := hide (ktree_any v0 s0 bits w h0 l0 z0 hbits)
  have HT2 : Hid (∀ W, Below w.heap.size w W → Calls Tryz.prog 8 #[v1, .int .i64 older] W fun e w' => ∃ u fs, e = .returned u ∧ Af w' u fs ∧ TreeOk fs ∧ Below W.heap.size W w') := fun W hb => ktree_any v1 s1 older W (h1.below hb) l1 z1 holder
  have HE := hide he
  have HBL := hide hblk
  clear h0 l0 z0 hbits h1 l1 z1 holder hblk he
  go_enter Tryz.func3, Tryz.ntmps3
  go_wp2_with fail
  refine HT1.out.mono ?_
  rintro e w1 ⟨u1, fs, rfl, hA1, hTs, hb1⟩
  have HA1 := hide hA1
  have HTS := hide hTs
  have HB1 := hide hb1
  clear hA1 hTs hb1 HT1
  go_wp2_with fail
  refine (HT2.out _ HB1.out).mono ?_
  rintro e w2 ⟨u2, fr, rfl, hA2, hTr, hb2⟩
  have HA1b := hide (HA1.out.below hb2)
  have HA2 := hide hA2
  have HTR := hide hTr
  have HB2 : Hid (Below w.heap.size w w2) := below_all HB1.out hb2
  clear hA2 hTr hb2 HT2 HA1 HB1
  have h8 := HTS.out.len
  have g8 := HTR.out.len
  have hbn : bytesIn fs ≤ 2400 := by have := bytesIn_le (fs := fs) (fun p hp => (HTS.out.sizes p hp).2); omega
  obtain ⟨fa, fcp, hfu, hfc, hfcell⟩ := HA1b.out
  obtain ⟨ra, rcp, hru, hrc, hrcell⟩ := HA2.out
  subst hfu
  subst hru
  have HFC := hide hfcell
  have HRC := hide hrcell
  clear hfcell hrcell
  go_wp2_with fail
  refine (all_any (.slice fa fs.length fcp) fs w2 h8 (fun p hp => (HTS.out.sizes p hp).2) HA1b.out).mono ?_
  rintro e w3 ⟨rfl, hw3⟩
  obtain rfl := hw3.symm
  have HBR := hide (brought_ok (.slice fa fs.length fcp) (.slice ra fr.length rcp) fs fr blk (bytesIn fs : Int) w2 HBL.out (by omega) (by omega) HA1b.out HA2.out HTS.out HTR.out)
  go_wp2_with fail
  refine HBR.out.mono ?_
  rintro e w4 ⟨B, g, cap, m, lo, hi, u, s, rfl, hB1, hB2, hsn, hsl, hs0, hcap, hg1, hglo, hgm, hown, hM, hb4⟩
  have HRS : Hid (replayS fr (nums s) (bytesIn fs : Int) = .ok (fs.map fun p => (nums p.1, nums p.2))) := by
    show _ = _
    rw [replay_told hB1 hB2 HTS.out HTR.out hsn, if_neg (by omega)]
  have hgl : g < w4.heap.size := (hown.lt g rfl).2
  have HCE := hide (own_cells0 hown)
  have HE4 : Hid (ErrT w4) := HE.out.keep (below_all HB2.out hb4)
  have hm2 : w2.heap.size ≤ m := by omega
  have HM4 := hide hM
  have HB4 : Hid (Below w2.heap.size w2 w4) := hb4
  have HZS : Hid (∀ p ∈ fs, p.2.size ≤ 300) := fun p hp => (HTS.out.sizes p hp).2
  have HZR : Hid (∀ p ∈ fr, p.2.size ≤ 300) := fun p hp => (HTR.out.sizes p hp).2
  have HOTH : Hid ((fs.length ≠ fr.length ∨ ∃ i, OtherAt fs fr i) → ∃ n, replayS fs (nums s) 4000 = .error (9, n)) := fun h => replay_other hB1 hB2 HTS.out HTR.out hsn h
  have HSAM : Hid (fs = fr → replayS fs (nums s) 4000 = .ok (fs.map fun p => (nums p.1, nums p.2))) := by
    intro h
    subst h
    rw [replay_told hB1 hB2 HTS.out HTR.out hsn, if_neg (by omega)]
  clear hown hM hb4 HBR hsn
  have HRP := hide (pReplay_any m (bytesIn fs : Int) lo hi u (.slice none 0 0) fr g cap s 0 w4 HE4.out HM4.out (by omega) hcap (by omega) hgl (by omega) HCE.out (by omega) HZR.out)
  have HNE : Hid (m ≠ 0) := HM4.out.ne_err HE4.out
  go_wp2_with fail
  refine HRP.out.mono ?_
  rintro e w5 ⟨k, nm, rfl, hq⟩
  unfold PRplQ at hq
  rw [HRS.out] at hq
  obtain ⟨_, hg5, hq⟩ := hq
  obtain ⟨lo5, hi5, v5, bv5, rfl, hM5⟩ : ∃ (lo5 hi5 : Nat) (v5 bv5 : Value), k = 0 ∧ Mir w5 m (bytesIn fs : Int) lo5 hi5 v5 bv5 fs false := by
    rcases hq with ⟨c2, _⟩ | ⟨gs, lo', hi', tv', bv', hgs, _, hq⟩
    · omega
    · obtain rfl := files_inj2 hgs
      rcases hq with ⟨c1, _⟩ | ⟨_, hk, hM'⟩
      · simp at c1; omega
      · exact ⟨lo', hi', tv', bv', hk, hM'⟩
  have HB5 : Hid (Below w2.heap.size w2 w5) := HB4.out.grown hg5 HB4.out.size (fun j hj => by simp at hj; omega)
  have HE5 : Hid (ErrT w5) := HE4.out.grown hg5 HNE.out
  have HC5 : Hid (∀ k (h : k < (nums s).length), w5.cell? ⟨g, 0 + k, none⟩ = some (.int .u8 (nums s)[k])) := fun k h => hg5.cell (HCE.out k h) (by simp; omega)
  have hgl5 : g < w5.heap.size := by have := hg5.size; omega
  have HM5 := hide hM5
  clear hq hg5 hM5 HRP HM4 HRS HCE HB4
  go_wp2_with fail
  refine (has_any m (bytesIn fs : Int) lo5 hi5 v5 bv5 fs (.slice fa fs.length fcp) fs w5 HM5.out (by omega) (fun p hp => by have := HZS.out p hp; omega) (HA1b.out.below HB5.out).ag).mono ?_
  rintro e w6 ⟨r, rfl, ⟨b, rfl, hb⟩, hb6⟩
  obtain rfl := hb.2 rfl
  have HB6 : Hid (Below w2.heap.size w2 w6) := below_all HB5.out hb6
  have HE6 : Hid (ErrT w6) := HE5.out.keep hb6
  have HC6 : Hid (∀ k (h : k < (nums s).length), w6.cell? ⟨g, 0 + k, none⟩ = some (.int .u8 (nums s)[k])) := cells_below HC5.out hb6
  have hgl6 : g < w6.heap.size := by have := hb6.size; omega
  clear hb hb6 HM5 HC5 HB5 HE5 hgl5
  go_wp2_with fail
  refine (pNew_ok (.slice fa fs.length fcp) fs 4000 w6 (HA1b.out.below HB6.out) HTS.out (by omega) (by omega)).mono ?_
  rintro e w7 ⟨y, lo7, hi7, v7, rfl, hM7, hlo7, hhi7, hy7, hb7⟩
  have HB7 : Hid (Below w2.heap.size w2 w7) := below_all HB6.out hb7
  have HE7 : Hid (ErrT w7) := HE6.out.keep hb7
  have HC7 : Hid (∀ k (h : k < (nums s).length), w7.cell? ⟨g, 0 + k, none⟩ = some (.int .u8 (nums s)[k])) := cells_below HC6.out hb7
  have hgl7 : g < w7.heap.size := by have := hb7.size; omega
  have hgy : g ≠ y := by omega
  have hy2 : w2.heap.size ≤ y := by have := HB6.out.size; omega
  have HM7 := hide hM7
  clear hb7 hM7 HC6 HB6 HE6 hgl6
  obtain ⟨d0, hd0⟩ : ∃ d0 : Bool, d0 = decide (fs.length ≠ fr.length) := ⟨_, rfl⟩
  have hnei : ((fs.length : Int) != (fr.length : Int)) = d0 := by rw [hd0]; by_cases h : fs.length = fr.length <;> simp [h]; omega
  have HD0 : Hid (d0 = true ↔ fs.length ≠ fr.length) := by show _ ↔ _; rw [hd0]; simp
  clear hd0
  go_upto_region 11 with fail
  go_cut [22] (fun v22 wc => v22 = .bool d0 ∧ wc = w7)
  case first =>
    go_wp2_with fail
    go_meet
    exact ⟨rfl, rfl⟩
  case rest =>
    obtain ⟨rfl, hwc⟩ := hcut
    obtain rfl := hwc.symm
    clear hnei
    have HLO : Hid (∀ i, i < fs.length → ∃ (gf b cp : Nat), fa = some ⟨gf, 0, none⟩ ∧ gf < w2.heap.size ∧ (∃ (a : ByteArray) (z : Nat), w2.cell? ⟨gf, i * 2, none⟩ = some (.string a) ∧ w2.cell? ⟨gf, i * 2 + 1, none⟩ = some (.slice (some ⟨b, 0, none⟩) z cp) ∧ z ≤ cp ∧ fs[i]?.map (fun p => (p.1, p.2.size)) = some (a, z))) := by
      intro i h1
      obtain ⟨gf, b, cp, e1, hg1, c0, c1, _, hcp, _⟩ := HFC.out i h1
      exact ⟨gf, b, cp, e1, hg1, _, _, c0, c1, hcp, by rw [List.getElem?_eq_getElem h1]; rfl⟩
    have HRO : Hid (∀ i, i < fr.length → ∃ (gf b cp : Nat), ra = some ⟨gf, 0, none⟩ ∧ gf < w2.heap.size ∧ (∃ (a : ByteArray) (z : Nat), w2.cell? ⟨gf, i * 2, none⟩ = some (.string a) ∧ w2.cell? ⟨gf, i * 2 + 1, none⟩ = some (.slice (some ⟨b, 0, none⟩) z cp) ∧ z ≤ cp ∧ fr[i]?.map (fun p => (p.1, p.2.size)) = some (a, z))) := by
      intro i h1
      obtain ⟨gf, b, cp, e1, hg1, c0, c1, _, hcp, _⟩ := HRC.out i h1
      exact ⟨gf, b, cp, e1, hg1, _, _, c0, c1, hcp, by rw [List.getElem?_eq_getElem h1]; rfl⟩
    go_upto_block 0 with fail
    go_cut [22, 23] (fun v22 _ wc => ∃ d : Bool, v22 = .bool d ∧ Hid (d = true ↔ (fs.length ≠ fr.length ∨ ∃ i, OtherAt fs fr i)) ∧ Hid (Below w7.heap.size w7 wc))
    case first =>
      go_wp2_with fail
      go_loopw [22, 23] (fun v22 v23 wr => ∃ (d : Bool) (k : Nat), k ≤ 8 ∧ v22 = .bool d ∧ v23 = .int .i64 k ∧ Hid (d = true ↔ (fs.length ≠ fr.length ∨ ∃ i, i < k ∧ OtherAt fs fr i)) ∧ Hid (Below w7.heap.size w7 wr)) (fun _ v23 _ => 8 - (intOf v23).toNat)
      case atStart => exact ⟨d0, 0, by omega, rfl, rfl, ⟨fun h => .inl (HD0.out.1 h), fun h => by rcases h with h | ⟨i, hi, _⟩; exact HD0.out.2 h; omega⟩, Below.refl _ _⟩
      case round =>
        obtain ⟨d, k, hk, rfl, rfl, HDk, HBr⟩ := hrel
        have HBW : Hid (Below w2.heap.size w2 wr) := below_all HB7.out HBr.out
        by_cases hkk : k < fs.length ∧ k < fr.length
        · obtain ⟨hkf, hkr⟩ := hkk
          obtain ⟨gf, b, cp, rfl, hgf, a, z, c0, c1, hzc, hfk⟩ := HLO.out k hkf
          obtain ⟨gr, b2, cp2, rfl, hgr, a2, z2, e0, e1, hzc2, hrk⟩ := HRO.out k hkr
          have x0 := (HBW.out.cell (p := ⟨gf, k * 2, none⟩) hgf).trans c0
          have x1 := (HBW.out.cell (p := ⟨gf, k * 2 + 1, none⟩) hgf).trans c1
          have y0 := (HBW.out.cell (p := ⟨gr, k * 2, none⟩) hgr).trans e0
          have y1 := (HBW.out.cell (p := ⟨gr, k * 2 + 1, none⟩) hgr).trans e1
          have HAT : Hid (OtherAt fs fr k ↔ ¬ (nums a = nums a2 ∧ z = z2)) := by
            rw [List.getElem?_eq_getElem hkf] at hfk
            rw [List.getElem?_eq_getElem hkr] at hrk
            simp only [Option.map_some, Option.some.injEq, Prod.mk.injEq] at hfk hrk
            obtain ⟨rfl, rfl⟩ := hfk
            obtain ⟨rfl, rfl⟩ := hrk
            show _ ↔ _
            constructor
            · rintro ⟨_, _, h⟩ ⟨h1, h2⟩
              rcases h with h | h
              · exact h h1
              · exact h h2
            · intro h
              refine ⟨hkf, hkr, ?_⟩
              by_cases h1 : nums fs[k].1 = nums fr[k].1
              · exact .inr fun h2 => h ⟨h1, h2⟩
              · exact .inl h1
          have HSTEP : Hid (∀ d' : Bool, (d' = true ↔ (d = true ∨ OtherAt fs fr k)) → (d' = true ↔ (fs.length ≠ fr.length ∨ ∃ i, i < k + 1 ∧ OtherAt fs fr i))) := by
            intro d' hd'
            rw [hd', HDk.out]
            constructor
            · rintro ((h | ⟨i, hi, h⟩) | h)
              · exact .inl h
              · exact .inr ⟨i, by omega, h⟩
              · exact .inr ⟨k, by omega, h⟩
            · rintro (h | ⟨i, hi, ho⟩)
              · exact .inl (.inl h)
              · rcases Nat.lt_or_ge i k with h' | h'
                · exact .inl (.inr ⟨i, h', ho⟩)
                · have hik : i = k := by omega
                  rw [hik] at ho
                  exact .inr ho
          have t1 := text_eq a a2
          have hki : (k : Int) < (fs.length : Int) := by omega
          have hkj : (k : Int) < (fr.length : Int) := by omega
          clear c0 c1 e0 e1 hfk hrk HDk
          cases d with
          | true =>
            clear t1 HAT
            go_wp2_with fail
            go_quiet (fail)
            go_wp2_with fail
            go_roundw
            case rel => exact ⟨true, k + 1, by omega, rfl, by go_num, HSTEP.out true ⟨fun _ => .inl (by first | rfl | trivial), fun _ => rfl⟩, below_drewN HBr.out _⟩
            case measure => simp [intOf]; omega
          | false =>
            by_cases h1 : nums a = nums a2
            · rw [decide_eq_true h1] at t1
              have t1' : (a.toList != a2.toList) = false := by rw [bne, t1]; rfl
              by_cases h2 : z = z2
              · subst h2
                have HN : Hid (¬ OtherAt fs fr k) := fun h => HAT.out.1 h ⟨h1, rfl⟩
                clear h1 HAT
                go_wp2_with fail
                go_quiet (fail)
                go_wp2_with fail
                go_roundw
                case rel => exact ⟨false, k + 1, by omega, rfl, by go_num, HSTEP.out false ⟨(fun h => by cases h), (fun h => by rcases h with h | h; exact h; exact absurd h HN.out)⟩, below_drewN HBr.out _⟩
                case measure => simp [intOf]; omega
              · have HN : Hid (OtherAt fs fr k) := HAT.out.2 fun h => h2 h.2
                have h2' : ((z : Int) != (z2 : Int)) = true := by simp; omega
                clear h1 HAT h2
                go_wp2_with fail
                go_quiet (fail)
                go_wp2_with fail
                go_roundw
                case rel => exact ⟨true, k + 1, by omega, (by first | rfl | rw [h2']), by go_num, HSTEP.out true ⟨fun _ => .inr HN.out, fun _ => rfl⟩, below_drewN HBr.out _⟩
                case measure => simp [intOf]; omega
            · have HN : Hid (OtherAt fs fr k) := HAT.out.2 fun h => h1 h.1
              rw [decide_eq_false h1] at t1
              have t1' : (a.toList != a2.toList) = true := by rw [bne, t1]; rfl
              clear h1 HAT
              go_wp2_with fail
              go_quiet (fail)
              go_wp2_with fail
              go_roundw
              case rel => exact ⟨true, k + 1, by omega, rfl, by go_num, HSTEP.out true ⟨fun _ => .inr HN.out, fun _ => rfl⟩, below_drewN HBr.out _⟩
              case measure => simp [intOf]; omega
        · have HX : Hid (d = true ↔ (fs.length ≠ fr.length ∨ ∃ i, OtherAt fs fr i)) := by
            show _ ↔ _
            rw [HDk.out]
            constructor
            · rintro (h | ⟨i, _, h⟩)
              · exact .inl h
              · exact .inr ⟨i, h⟩
            · rintro (h | ⟨i, h⟩)
              · exact .inl h
              · have hi1 := h.1
                have hi2 := h.2.1
                by_cases hik : i < k
                · exact .inr ⟨i, hik, h⟩
                · exact absurd ⟨by omega, by omega⟩ hkk
          by_cases hkf : k < fs.length
          · have hkr : ¬ (k : Int) < (fr.length : Int) := by omega
            have hki : (k : Int) < (fs.length : Int) := by omega
            clear hkk HDk
            go_wp2_with fail
            go_meet
            exact ⟨d, rfl, HX.out, HBr.out⟩
          · have hki : ¬ (k : Int) < (fs.length : Int) := by omega
            clear hkk HDk
            go_wp2_with fail
            go_meet
            exact ⟨d, rfl, HX.out, HBr.out⟩
    case rest =>
      obtain ⟨d, rfl, HDX, HBC⟩ := hcut
      have HB8 : Hid (Below w2.heap.size w2 wc) := below_all HB7.out HBC.out
      have HE8 : Hid (ErrT wc) := HE7.out.keep HBC.out
      have HC8 : Hid (∀ k (h : k < (nums s).length), wc.cell? ⟨g, 0 + k, none⟩ = some (.int .u8 (nums s)[k])) := cells_below HC7.out HBC.out
      have hgl8 : g < wc.heap.size := by have := HBC.out.size; omega
      have HM8 := hide (HM7.out.below HBC.out)
      clear HBC HM7 HC7 HE7 HB7 hgl7 HLO HRO HD0
      go_wp2_with fail
      refine (same_any (.slice fa fs.length fcp) (.slice ra fr.length rcp) fs fr wc (by omega) (HA1b.out.below HB8.out).ag (HA2.out.below HB8.out).ag).mono ?_
      rintro e w9 ⟨r, rfl, ⟨al, rfl, hal⟩, hb9⟩
      have HAL := hide hal
      have HB9 : Hid (Below w2.heap.size w2 w9) := below_all HB8.out hb9
      have HE9 : Hid (ErrT w9) := HE8.out.keep hb9
      have HM9 := hide (HM8.out.below hb9)
      have HRP := hide (pReplay_any y 4000 lo7 hi7 v7 (.slice none 0 0) fs g cap s 0 w9 HE9.out HM9.out (by omega) hcap (by omega) (by have := hb9.size; omega) hgy (cells_below HC8.out hb9) (by omega) HZS.out)
      clear hal hb9 HM8 HC8 HE8 HB8 hgl8
      go_wp2_with fail
      refine HRP.out.mono ?_
      rintro e w10 ⟨k, nm, rfl, hq⟩
      obtain ⟨T, lo10, hi10, v10, bv10, hM10, hTl, hTz, hB10, HK⟩ : ∃ (T : List (ByteArray × ByteArray)) (lo10 hi10 : Nat) (v10 bv10 : Value), Mir w10 y 4000 lo10 hi10 v10 bv10 T false ∧ T.length ≤ 70000 ∧ (∀ p ∈ T, p.2.size ≤ 70000) ∧ Below w2.heap.size w2 w10 ∧ Hid ((d = true → k = 9 ∧ T = fs) ∧ (fs = fr → d = false → k = 0 ∧ T = fs)) := by
        unfold PRplQ at hq
        cases hr : replayS fs (nums s) 4000 with
        | error q =>
          rw [hr] at hq
          refine ⟨fs, lo7, hi7, v7, .slice none 0 0, HM9.out.below hq.2.2, by omega, fun p hp => by have := HZS.out p hp; omega, below_all HB9.out hq.2.2, fun hd => ?_, fun hf => ?_⟩
          · obtain ⟨n, hn⟩ := HOTH.out (HDX.out.1 hd)
            rw [hr] at hn
            simp only [Except.error.injEq] at hn
            rw [hq.1, hn]
            exact ⟨rfl, rfl⟩
          · have := HSAM.out hf
            rw [hr] at this
            cases this
        | ok l =>
          rw [hr] at hq
          obtain ⟨_, hg10, hq⟩ := hq
          rcases hq with ⟨c1, _⟩ | ⟨gs, lo', hi', tv', bv', hgs, _, hq⟩
          · omega
          · rcases hq with ⟨c1, _⟩ | ⟨_, hk, hM'⟩
            · omega
            · refine ⟨gs, lo', hi', tv', bv', hM', ?_, fun p hp => ?_, HB9.out.grown hg10 HB9.out.size (fun j hj => by simp at hj; omega), fun hd => ?_, fun hf _ => ⟨hk, ?_⟩⟩
              · have h1 := replay_len (s := s) (room := 4000) hr
                rw [← hgs] at h1
                simp at h1
                omega
              · have := replay_small hr (nums p.1, nums p.2) (by rw [← hgs]; exact List.mem_map_of_mem hp)
                simp only [nums_length] at this
                omega
              · obtain ⟨n, hn⟩ := HOTH.out (HDX.out.1 hd)
                rw [hr] at hn
                cases hn
              · have := HSAM.out hf
                rw [hr] at this
                simp only [Except.ok.injEq] at this
                exact files_inj2 (hgs.trans this)
      have HM10 := hide hM10
      have HB10 := hide hB10
      clear hq hM10 hB10 HRP HM9
      go_wp2_with fail
      refine (has_any y 4000 lo10 hi10 v10 bv10 T (.slice fa fs.length fcp) fs w10 HM10.out hTl hTz (HA1b.out.below HB10.out).ag).mono ?_
      rintro e w11 ⟨r, rfl, ⟨lf, rfl, hlf⟩, hb11⟩
      have HLF := hide hlf
      have HB11 : Hid (Below w.heap.size w w11) := below_all HB2.out (below_all HB10.out hb11)
      clear hlf hb11
      cases d with
      | true =>
        obtain ⟨rfl, rfl⟩ := HK.out.1 rfl
        obtain rfl := HLF.out.2 rfl
        clear HLF HK HDX
        go_wp2_with fail
        go_ret
        exact ⟨rfl, HB11.out⟩
      | false =>
        cases al with
        | false =>
          clear HK HLF HAL HDX
          go_wp2_with fail
          go_ret
          exact ⟨rfl, HB11.out⟩
        | true =>
          obtain ⟨rfl, rfl⟩ := HK.out.2 (HAL.out.1 rfl) rfl
          obtain rfl := HLF.out.2 rfl
          clear HLF HK HDX HAL
          go_wp2_with fail
          go_ret
          exact ⟨rfl, HB11.out⟩
end Go.Proofs.YtbhccdedcoajmabGreatDoor
namespace Go.Proofs.YtbhccdedcoajmabGreatDoor
open Go

/-- a tied card without a companion, of a function whose road meets a 'go' -/
theorem holds_tied_goes (Lk : Looks) {p : Pinned} {s : OpenSpec} {c : OpenClaim} (al : List (List PathCond)) (kinds : List LaidKind) (tests : Bool) (har : Bool × String) (lk : Bool)
    (hc : c.holds p s) (hal : ∀ D ∈ al, (c.withDomain D).holds p s) (hw : c.wfByText s = true) (hwal : ∀ D ∈ al, (c.withDomain D).wfByText s = true)
    (htie : c.laidByTextAt Lk p kinds tests)
    (hst : c.start = .entering) (hnb : c.noBlocks = false ∧ c.again = false) (hm : p.checked.prog.mainIs = some (har.1, har.2.toList)) (hn : (!har.1 && har.2.isEmpty && !lk) = false)
    (hl : ∀ f fn, p.checked.prog.funcNamed c.func = some f → p.checked.prog.funcs[f]? = some fn → lk = p.checked.prog.looks [] ∧ ∀ (j : Nat) t, fn.params[j]? = some t → p.checked.prog.wantsStandIn t = false)
    (hg : true = c.goesBy p.checked.prog) :
    Claim7.holds p (.plain s) { stood := { row := c, standIns := [], harness := har, looks := lk }, kinds := [], alts := al, goes := true, laidByText := true, laidKinds := kinds, laidTests := tests, laidLooks := Lk } := by
  have h6 : ∀ r : OpenClaim, Claim7.isSixth { stood := { row := r, standIns := [], harness := har, looks := lk }, kinds := [] } = false := fun r => by simpa [Claim7.isSixth] using hn
  refine ⟨?_, fun D hD => ?_, htie, (fun h => by cases h), hg⟩
  · obtain ⟨_, rest⟩ := Claim7.new_of_sixth hc har lk hst hnb hm (h6 c) hl
    exact ⟨hw, rest⟩
  · obtain ⟨_, rest⟩ := Claim7.new_of_sixth (hal D hD) har lk hst hnb hm (h6 _) hl
    exact ⟨hwal D hD, rest⟩
end Go.Proofs.YtbhccdedcoajmabGreatDoor
