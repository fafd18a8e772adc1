import Derived.Test.YtbhccdedcoajmaaGreatDoorWPushM
import Derived.Test.YtbhccdedcoajmaaGreatDoorRDiffersM
import Derived.Test.YtbhccdedcoajmaaGreatDoorPMkM
import Derived.Test.YtbhccdedcoajmaaGreatDoorMathM
import Derived.Test.YtbhccdedcoajmaaGreatDoorTokRowM
import Derived.Laws.IdiomStrings
import Derived.Deep.RegionWith
import Derived.Deep.DeepCutAuto
import Derived.Deep.CutBlock
namespace Go.Proofs.YtbhccdedcoajmaaGreatDoor
open Go.RowKit

set_option maxRecDepth 10000 in
set_option maxHeartbeats 1000000 in
theorem opened_err (W0 : Nat) (v : Value) (fs : List (ByteArray × ByteArray)) (room : Int) (w : World) (hl : fs.length ≤ 70000) (hz : ∀ p ∈ fs, p.1.size ≤ 70000 ∧ p.2.size ≤ 70000) (hF : Fl w v fs) (k : Int) (nm : ByteArray) (hk : k = 4 ∨ k = 6)
    (h1 : ∀ u W, Below w.heap.size w W → Kf W u fs → Calls Tryz.prog 23 #[u, .int .i64 room] W fun e w' => e = .returned (.tuple #[.pointer none, .int .i64 k, .string nm]) ∧ Below W.heap.size W w')
    (h2 : ∀ W, Below w.heap.size w W → Calls Tryz.prog 25 #[v, .int .i64 room] W fun e w' => e = .returned (.tuple #[.pointer none, .int .i64 k, .string nm]) ∧ Below W.heap.size W w') :
    Calls Tryz.prog 11 #[.pointer (some ⟨W0, 0, none⟩), v, .int .i64 room] w fun e w' => e = .returned (.bool true) ∧ Below w.heap.size w w' := by
  have HF := hide (lfiles_any v fs w hl hz hF)
  have H1 := hide h1
  have H2 := hide h2
  have HK : Hid (∀ u W, Below w.heap.size w W → Kf W u fs → Calls Tryz.prog 24 #[u, v] W fun e w' => e = .returned (.bool true) ∧ Below W.heap.size W w') := fun u W hb hk => kept_any u v fs W hl hz hk (hF.below hb)
  obtain ⟨va, vc, rfl, _⟩ := hF
  clear h1 h2 hz
  go_enter Tryz.func11, Tryz.ntmps11
  go_wp2_with fail
  refine HF.out.mono ?_
  rintro e w1 ⟨u, rfl, hkf, hb1⟩
  have HKF := hide hkf
  have HB1 := hide hb1
  obtain ⟨ua, uc, rfl, _⟩ := hkf
  clear hb1 HF
  go_wp2_with fail
  refine (H1.out _ w1 HB1.out HKF.out).mono ?_
  rintro e w2 ⟨rfl, hb2⟩
  have HB2 : Hid (Below w.heap.size w w2) := below_all HB1.out hb2
  have HK2 := hide (HK.out _ w2 HB2.out (HKF.out.below hb2))
  clear hb2 HKF HB1 H1 HK
  go_wp2_with fail
  refine HK2.out.mono ?_
  rintro e w3 ⟨rfl, hb3⟩
  have HB3 : Hid (Below w.heap.size w w3) := below_all HB2.out hb3
  have HN := hide (H2.out w3 HB3.out)
  clear hb3 HB2 HK2 H2
  go_wp2_with fail
  refine HN.out.mono ?_
  rintro e w4 ⟨rfl, hb4⟩
  have HB4 : Hid (Below w.heap.size w w4) := below_all HB3.out hb4
  clear hb4 HB3 HN
  rcases hk with rfl | rfl
  · go_wp2_with fail
    go_ret
    exact ⟨rfl, HB4.out⟩
  · go_wp2_with fail
    go_ret
    exact ⟨rfl, HB4.out⟩
theorem row_some {w : World} {base : Nat} {e : TypeId} {size : Nat} {v : Value} {n : Nat} {xs : List Value} (h : w.ownsRow base e size v (n + 1) xs) : ∃ g c, v = .slice (some ⟨g, 0, none⟩) (n + 1) c ∧ g < w.heap.size := by
  rcases h.2 with ⟨_, h0⟩ | ⟨g, c, cur, h, _, hg, _⟩
  · omega
  · exact ⟨g, c, h, (Array.getElem?_eq_some_iff.1 hg).1⟩
theorem row_len {w : World} {base : Nat} {e : TypeId} {size : Nat} {v : Value} {n : Nat} {xs : List Value} (h : w.ownsRow base e size v n xs) : ∃ a c, v = .slice a n c := by
  rcases h.2 with ⟨h, h0⟩ | ⟨g, c, cur, h, _⟩
  · exact ⟨none, 0, by rw [h, h0]⟩
  · exact ⟨_, c, h⟩
theorem keeps_range {w w4 wr : World} {hi : Nat} (hb : Below w.heap.size w w4) (hk : Keeps (fun j => w.heap.size ≤ j ∧ j < hi) w4 wr) : Below w.heap.size w wr :=
  ⟨hk.os.trans hb.os, hk.tape.trans hb.tape, hk.output.trans hb.output, Nat.le_trans hb.size hk.size, fun k h => (hk.block k (Nat.lt_of_lt_of_le h hb.size) (by omega)).trans (hb.block k h)⟩
/-- the law's files, while it writes into them -/
structure FB (w : World) (fg : Nat) (ps : List ((ByteArray × ByteArray) × Nat)) : Prop where
  row : ∃ cs, w.heap[fg]? = some (.cells cs 69 (0, 0)) ∧ ∀ i (hi : i < ps.length), (∃ a, cs[i * 2]? = some (.string a)) ∧ cs[i * 2 + 1]? = some (.slice (some ⟨ps[i].2, 0, none⟩) ps[i].1.2.size (ps[i].1.2.size + 2))
  data : ∀ p ∈ ps, p.2 ≠ fg ∧ ∃ ds : Array Value, w.heap[p.2]? = some (.cells ds 5 (0, 0)) ∧ ds.size = p.1.2.size + 2
theorem FB.below {w w' : World} {fg : Nat} {ps : List ((ByteArray × ByteArray) × Nat)} (h : FB w fg ps) (hb : Below w.heap.size w w') : FB w' fg ps := by
  obtain ⟨⟨cs, h1, h2⟩, h3⟩ := h
  refine ⟨⟨cs, (hb.block fg (Array.getElem?_eq_some_iff.1 h1).1).trans h1, h2⟩, fun p hp => ?_⟩
  obtain ⟨a, ds, b, c⟩ := h3 p hp
  exact ⟨a, ds, (hb.block p.2 (Array.getElem?_eq_some_iff.1 b).1).trans b, c⟩
theorem FB.of_row {w : World} {base fg cap : Nat} {ps : List ((ByteArray × ByteArray) × Nat)} (h : w.ownsRow base 69 2 (.slice (some ⟨fg, 0, none⟩) ps.length cap) ps.length (kfCells ps)) (hd : ∀ p ∈ ps, (Value.slice (some ⟨fg, 0, none⟩) ps.length cap).ownBlock ≠ some p.2 ∧ w.heap[p.2]? = some (roomyObj p.1.2)) : FB w fg ps := by
  rcases h.2 with ⟨h0, _⟩ | ⟨g, c, cur, e, _, hg, h1, _, h3, h4⟩
  · cases h0
  · obtain ⟨rfl, rfl⟩ : fg = g ∧ cap = c := by simpa using e
    refine ⟨⟨cur, hg, fun i hi => ?_⟩, fun p hp => ?_⟩
    · obtain ⟨a1, a2⟩ := kfCells_at ps i hi
      rw [← h4] at a1 a2
      have e1 : i * 2 < ps.length * 2 := by omega
      have e2 : i * 2 + 1 < ps.length * 2 := by omega
      rw [List.getElem?_take_of_lt e1] at a1
      rw [List.getElem?_take_of_lt e2] at a2
      exact ⟨⟨_, by simpa using a1⟩, by simpa using a2⟩
    · obtain ⟨b1, b2⟩ := hd p hp
      exact ⟨fun e => b1 (by simp [Value.ownBlock, e]), _, b2, by simp [u8s, nums_length]⟩
theorem FB.spoil {w w' : World} {fg : Nat} {ps : List ((ByteArray × ByteArray) × Nat)} (h : FB w fg ps) {p : (ByteArray × ByteArray) × Nat} (hp : p ∈ ps) (hg : w.grownBy w' (some p.2)) (h9 : All99 w' p.2 (p.1.2.size + 2)) : FB w' fg ps := by
  obtain ⟨⟨cs, h1, h2⟩, h3⟩ := h
  have hne := (h3 p hp).1
  refine ⟨⟨cs, (hg.block fg (Array.getElem?_eq_some_iff.1 h1).1 (by simp; exact Ne.symm hne)).trans h1, h2⟩, fun q hq => ?_⟩
  obtain ⟨a, ds, b, c⟩ := h3 q hq
  refine ⟨a, ?_⟩
  by_cases e : q.2 = p.2
  · obtain ⟨_, ds2, b2, c2⟩ := h3 p hp
    obtain ⟨es, g1, g2, _⟩ := h9
    rw [e] at b
    have : ds = ds2 := by rw [b] at b2; simpa using b2
    subst this
    exact ⟨es, by rw [e]; exact g1, by omega⟩
  · exact ⟨ds, (hg.block q.2 (Array.getElem?_eq_some_iff.1 b).1 (by simp; exact e)).trans b, c⟩
theorem FB.name {w : World} {fg : Nat} {ps : List ((ByteArray × ByteArray) × Nat)} (h : FB w fg ps) (i : Nat) (a : ByteArray) : FB (w.setCell ⟨fg, i * 2, none⟩ (.string a)) fg ps := by
  obtain ⟨⟨cs, h1, h2⟩, h3⟩ := h
  refine ⟨⟨_, heap_setCell_same _ _ _ _ _ _ h1, fun j hj => ?_⟩, fun q hq => ?_⟩
  · obtain ⟨⟨b, b1⟩, b2⟩ := h2 j hj
    have hlt : j * 2 < cs.size := (Array.getElem?_eq_some_iff.1 b1).1
    constructor
    · by_cases e : i * 2 = j * 2
      · exact ⟨a, by rw [e]; simp [hlt]⟩
      · exact ⟨b, by simp [e, b1]⟩
    · have e : i * 2 ≠ j * 2 + 1 := by omega
      simp [e, b2]
  · obtain ⟨b1, ds, b2, b3⟩ := h3 q hq
    exact ⟨b1, ds, (Below.heap_setCell _ _ _ _ (by simpa using b1)).trans b2, b3⟩
theorem Tryz.info47 : (Tryz.prog.info? 47).map (fun i => (i.zero, i.size, i.bytes)) = some (some (.agg #[.pointer none, .pointer none]), 2, 16) := by kernel_rfl

set_option maxRecDepth 10000 in
set_option maxHeartbeats 2000000 in
theorem opened_ok {w : World} {wz : World} {B0 W0 K O : Nat} {ρ : Nat → Nat} {s : St} (hI : Inv wz w B0 W0 K O ρ s) (hK : K ≤ 65536) (v : Value) (fs : List (ByteArray × ByteArray)) (hT : TreeAt w ρ K (v, fs)) (htr : TreeOk fs) (room : Int) (h0 : 0 ≤ room) (h1 : room ≤ 1048576) :
    Calls Tryz.prog 11 #[.pointer (some ⟨W0, 0, none⟩), v, .int .i64 room] w fun e w' => e = .returned (.bool true) ∧ (∃ ρ' s', Inv wz w' B0 W0 (K + 1) O ρ' s') ∧ Keeps (fun k => ρ k = 1 ∨ ρ k = 5) w w' ∧ w'.cell? ⟨W0, 1, none⟩ = some s.vt := by
  obtain ⟨hF, hlen, hsz, hcold⟩ := hT
  simp only at hF hlen hsz hcold
  have h8 := htr.len
  have hz : ∀ p ∈ fs, p.1.size ≤ 70000 ∧ p.2.size ≤ 70000 := fun p hp => by have := hsz p hp; omega
  obtain ⟨j0, hj, y0, y1, y2⟩ := info_parts Tryz.info47
  have HF := hide (lfiles_own v fs w (by omega) hz hF)
  have HN1 : Hid (∀ u W, Kf W u fs → Calls Tryz.prog 23 #[u, .int .i64 room] W fun e w' => ∃ m lo hi uu, e = .returned (.tuple #[.pointer (some ⟨m, 0, none⟩), .int .i64 0, .string ⟨#[]⟩]) ∧ Mir w' m room lo hi uu (.slice none 0 0) fs false ∧ W.heap.size ≤ lo ∧ hi ≤ m ∧ W.heap.size ≤ m ∧ Below W.heap.size W w') := fun u W hk => pNew_ok u fs room W hk.af htr h0 h1
  have HN2 : Hid (∀ W, Below w.heap.size w W → Calls Tryz.prog 25 #[v, .int .i64 room] W fun e w' => ∃ r, e = .returned (.tuple #[.pointer (some ⟨r, 0, none⟩), .int .i64 0, .string ⟨#[]⟩]) ∧ RMb w' r v room false (.slice none 0 0) ∧ W.heap.size ≤ r ∧ Below W.heap.size W w') := fun W hb => rnew_ok v fs room W (by omega) hz (hF.below hb) htr h0 h1
  have HK : Hid (∀ u W, Below w.heap.size w W → Kf W u fs → Calls Tryz.prog 24 #[u, v] W fun e w' => e = .returned (.bool true) ∧ Below W.heap.size W w') := fun u W hb hk => kept_any u v fs W (by omega) hz hk (hF.below hb)
  have HFl := hide hF
  have HPN : Hid (∀ p ∈ fs, p.2.size ≤ 300) := fun p hp => (htr.sizes p hp).2
  have HC := hide hcold
  have HTR := hide htr
  have HI := hide hI
  obtain ⟨va, vc, rfl, _⟩ := hF
  have hkm := hI.km
  have hW0 := hI.lt
  clear hz hsz hcold hI htr
  go_enter Tryz.func11, Tryz.ntmps11
  go_wp2_with fail
  refine HF.out.mono ?_
  rintro e w1 ⟨u, ps, rfl, hps, hown, hdat, hb1⟩
  have hpl : ps.length = fs.length := by rw [← hps, List.length_map]
  have HKF : Hid (Kf w1 u fs) := by
    have h9 := Kf_of_row hown (fun p hp => ⟨(hdat p hp).1, (hdat p hp).2.2.1⟩)
    rw [hps] at h9
    exact h9
  obtain ⟨ua, uc, rfl, _⟩ := HKF.out
  have HFB : Hid (∀ k, k < fs.length → ∃ fg, ua = some ⟨fg, 0, none⟩ ∧ w.heap.size ≤ fg ∧ fg < w1.heap.size ∧ FB w1 fg ps) := by
    intro k hk
    rw [← hpl] at hown
    rcases hown.2 with ⟨h9, h10⟩ | ⟨fg, cap, cur, e, hbs, hg, _⟩
    · omega
    · obtain ⟨rfl, rfl⟩ : ua = some ⟨fg, 0, none⟩ ∧ uc = cap := by simpa using e
      exact ⟨fg, rfl, hbs, (Array.getElem?_eq_some_iff.1 hg).1, FB.of_row hown (fun p hp => ⟨by simpa [Value.ownBlock] using (hdat p hp).2.1, (hdat p hp).2.2.1⟩)⟩
  have HPD : Hid (∀ p ∈ ps, w.heap.size ≤ p.2 ∧ p.2 < w1.heap.size ∧ p.1.2.size ≤ 300) := fun p hp => ⟨(hdat p hp).2.2.2, (hdat p hp).1, HPN.out p.1 (by rw [← hps]; exact List.mem_map_of_mem hp)⟩
  have HB1 := hide hb1
  have HPL := hide hpl
  have hw1 : w.heap.size ≤ w1.heap.size := hb1.size
  clear hown hdat hb1 HF hpl hps
  go_wp2_with fail
  refine (HN1.out _ w1 HKF.out).mono ?_
  rintro e w2 ⟨m, lo, hi, uu, rfl, hM, hlo, hhi, hm, hb2⟩
  have HM := hide hM
  have HB2 : Hid (Below w.heap.size w w2) := below_all HB1.out hb2
  have HB12 := hide hb2
  have HK2 := hide (HK.out _ w2 HB2.out (HKF.out.below hb2))
  have hmlt2 := hM.lt
  clear hb2 HN1 HK hM
  go_wp2_with fail
  refine HK2.out.mono ?_
  rintro e w3 ⟨rfl, hb3⟩
  have HB3 : Hid (Below w.heap.size w w3) := below_all HB2.out hb3
  have HB13 : Hid (Below w1.heap.size w1 w3) := below_all HB12.out hb3
  have HM3 := hide (HM.out.below hb3)
  have HN := hide (HN2.out w3 HB3.out)
  have hmlt : m < w3.heap.size := Nat.lt_of_lt_of_le hmlt2 hb3.size
  clear hb3 HB2 HK2 HN2 HM HB12
  go_wp2_with fail
  refine HN.out.mono ?_
  rintro e w4 ⟨r, rfl, hR, hr, hb4⟩
  have HB4 : Hid (Below w.heap.size w w4) := below_all HB3.out hb4
  have HB14 : Hid (Below w1.heap.size w1 w4) := below_all HB13.out hb4
  have HM4 := hide (HM3.out.below hb4)
  have HR := hide hR
  have hw4 : w1.heap.size ≤ w4.heap.size := HB14.out.size
  clear hb4 HB3 HN HM3 HB13 hR
  go_wp2_with fail
  go_loopw [15] (fun v15 wr => ∃ k : Nat, k ≤ fs.length ∧ v15 = .int .i64 k ∧ Hid (Keeps (fun j => w.heap.size ≤ j ∧ j < w1.heap.size) w4 wr) ∧ Hid (∀ k, k < fs.length → ∃ fg, ua = some ⟨fg, 0, none⟩ ∧ w.heap.size ≤ fg ∧ fg < w1.heap.size ∧ FB wr fg ps)) (fun v15 _ => fs.length - (intOf v15).toNat)
  case atStart =>
    refine ⟨0, Nat.zero_le _, rfl, Keeps.refl _ _, fun k hk => ?_⟩
    obtain ⟨fg, e, a, b, c⟩ := HFB.out k hk
    exact ⟨fg, e, a, b, c.below HB14.out⟩
  case round =>
    obtain ⟨k, hk, rfl, HKr, HFr⟩ := hrel
    by_cases hlt : k < fs.length
    · obtain ⟨fg, rfl, hfg1, hfg2, hfb⟩ := HFr.out k hlt
      have hkp : k < ps.length := by rw [HPL.out]; exact hlt
      obtain ⟨⟨cs, g1, g2⟩, g3⟩ := id hfb
      obtain ⟨⟨a0, g4⟩, g5⟩ := g2 k hkp
      have hmem : ps[k] ∈ ps := List.getElem_mem hkp
      obtain ⟨hne, ds, g6, g7⟩ := g3 _ hmem
      have hpd := HPD.out _ hmem
      have HSPR : Hid (∀ w', wr.grownBy w' (some ps[k].2) → All99 w' ps[k].2 (ps[k].1.2.size + 2) → FB w' fg ps) := fun w' a b => hfb.spoil hmem a b
      generalize ps[k].2 = pb at *
      generalize ps[k].1.2.size = pn at *
      have c1 : wr.cell? ⟨fg, k * 2 + 1, none⟩ = some (.slice (some ⟨pb, 0, none⟩) pn (pn + 2)) := cell_row g1 g5
      have hpn : pn + 2 ≤ 9223372036854775807 := by omega
      have HSP := hide (spoilt_all pb pn (pn + 2) ds wr g6 g7 hpn)
      clear g1 g2 g3 g4 g5 g6 g7 hfb hmem
      go_wp2_with fail
      refine HSP.out.mono ?_
      rintro e w5 ⟨rfl, hg5, h99⟩
      have hfb5 := HSPR.out w5 hg5 h99
      obtain ⟨cs5, q1, q2⟩ := hfb5.row
      obtain ⟨⟨a5, q4⟩, _⟩ := q2 k hkp
      have c5 : w5.cell? ⟨fg, k * 2, none⟩ = some (.string a5) := cell_row q1 q4
      have f5 : w5.frozen? ⟨fg, k * 2, none⟩ = false := frozen_of_row _ _ _ _ _ q1
      have HFB5 := hide hfb5
      have HK5 : Hid (Keeps (fun j => w.heap.size ≤ j ∧ j < w1.heap.size) w4 w5) := HKr.out.trans (grown_keeps hg5 (S := fun j => j = pb) (fun k e => by simpa using e.symm)) (fun j _ e => by rw [e]; exact ⟨hpd.1, hpd.2.1⟩)
      clear hg5 h99 hfb5 q1 q2 q4 HSP HSPR HKr HFr c1
      go_wp2_with fail
      go_roundw
      case rel =>
        refine ⟨k + 1, by omega, by go_num, HK5.out.trans (set_keeps w5 fg _ _) (fun j _ e => by rw [e]; exact ⟨hfg1, hfg2⟩), fun k' _ => ⟨fg, rfl, hfg1, hfg2, HFB5.out.name k _⟩⟩
      case measure => simp [intOf]; omega
    · obtain ⟨ma, mc, hvm⟩ := row_len HI.out.rm.1
      have HBr : Hid (Below w.heap.size w wr) := keeps_range HB4.out HKr.out
      have hcell : wr.cell? ⟨W0, 3, none⟩ = some (.slice ma s.ms.length mc) := (HBr.out.cell (p := ⟨W0, 3, none⟩) hW0).trans (by rw [← hvm]; exact cell_row HI.out.blk rfl)
      have HROW : Hid (wr.ownsRow B0 47 2 (.slice ma s.ms.length mc) s.ms.length (msCells s.ms)) := by
        have h9 := ownsRow_below HI.out.rm.1 HBr.out
        rw [hvm] at h9
        exact h9
      have HVM := hide hvm
      have hb0 : B0 ≤ w.heap.size := HI.out.b0
      have hwr : w.heap.size ≤ wr.heap.size := HBr.out.size
      have hw4r : w4.heap.size ≤ wr.heap.size := HKr.out.size
      have hmlt4 : m < w4.heap.size := HM4.out.lt
      have hrlt4 : r < w4.heap.size := HR.out.lt
      clear hvm HFr HFB HPD HPN HPL HKF HB1 hmlt2
      go_wp2_with (at_builtin; refine wpList_append_own_at _ rfl (.tmp 82) (.tmp 86) 30 rfl B0 47 j0 (.agg #[.pointer none, .pointer none]) 2 16 Tryz.underlying30 hj y0 y1 y2 rfl (by decide) _ s.ms.length (msCells s.ms) rfl (HROW.out.alloc _) ⟨wr.heap.size, 0, none⟩ 1 1 [.pointer (some ⟨m, 0, none⟩), .pointer (some ⟨r, 0, none⟩)] rfl rfl ?ka ?kb ?kc ?kd ?ke ?kf)
      case ka =>
        intro j x hj
        match j, hj with
        | 0, hj => simp at hj; subst hj; simp [Addr.add]
        | 1, hj => simp at hj; subst hj; simp [Addr.add]
      case kb => intro x hx; simp at hx; rcases hx with rfl | rfl <;> rfl
      case kc => unfold maxLen; omega
      case kd => omega
      case ke => simp; omega
      case kf =>
        intro v' w6 hown6 hgrow6 hv6 hloc6
        obtain ⟨g, c, rfl, hglt⟩ := row_some hown6
        have hg6 : w.grownBy w6 s.vm.ownBlock := by
          rw [HVM.out]
          exact (grown_below HBr.out).trans ((World.grownBy_alloc wr _ _).trans hgrow6)
        have hat : s.vm.ownBlock = some g ∨ wr.heap.size ≤ g := by
          rw [HVM.out]
          rcases hloc6 with h9 | h9
          · exact .inl (h9 ▸ rfl)
          · right
            have h10 : g = wr.heap.size + 1 := by simpa [Value.ownBlock] using h9
            omega
        have hvlt : ∀ j, s.vm.ownBlock = some j → j < w.heap.size := fun j hj => (HI.out.rm.1.lt j hj).2
        have hk46 : Keeps (fun j => (w.heap.size ≤ j ∧ j < w1.heap.size) ∨ s.vm.ownBlock = some j) w4 w6 := by
          refine (HKr.out.mono (fun j _ h9 => .inl h9)).trans (grown_keeps (S := fun j => s.vm.ownBlock = some j) ((World.grownBy_alloc wr _ _).trans hgrow6) (fun k e => by rw [HVM.out]; exact e)) (fun j _ h9 => .inr h9)
        have hblk6 : w6.heap[W0]? = some (.cells #[s.vn, s.vt, s.vb, s.vm, s.vo] 33 (0, 0)) := HI.out.blk3 (q := 5) (by omega) hg6 HI.out.rm.2
        have hgne : g ≠ m ∧ g ≠ r ∧ (g < w.heap.size ∨ w4.heap.size ≤ g) := by
          rcases hat with h9 | h9
          · have := hvlt g h9; omega
          · omega
        have HINV : Hid (Inv wz (w6.setCell ⟨W0, 3, none⟩ (.slice (some ⟨g, 0, none⟩) (s.ms.length + 1) c)) B0 W0 (K + 1) O (rhoMs ρ s.ms.length g m r) { s with vm := .slice (some ⟨g, 0, none⟩) (s.ms.length + 1) c, ms := s.ms ++ [⟨m, r, room, lo, hi, uu, .slice none 0 0, fs, false, .slice va fs.length vc, .slice none 0 0⟩] }) := by
          refine HI.out.pushMs ⟨m, r, room, lo, hi, uu, .slice none 0 0, fs, false, .slice va fs.length vc, .slice none 0 0⟩ hown6 hg6 (hat.imp id (fun h9 => by omega)) hglt (HM4.out.keeps hk46 ?_ ?_) (HR.out.keeps hk46 ?_) ⟨_, _, _, rfl⟩ ⟨_, _, _, rfl⟩ ((HFl.out.below HB4.out).keeps hk46 ?_) HTR.out h0 h1 (by show w.heap.size ≤ m; omega) (by show w.heap.size ≤ r; omega) (by show m ≠ r; omega) hgne.1 hgne.2.1 (by show w.heap.size ≤ lo; omega) (fun k a b => ?_) (fun k hk9 => HC.out k hk9)
          · rintro (e | e)
            · omega
            · have := hvlt m e; omega
          · rintro k a b (e | e)
            · omega
            · have := hvlt k e; omega
          · rintro (e | e)
            · omega
            · have := hvlt r e; omega
          · rintro k hk9 (e | e)
            · have := (HC.out k hk9).1; omega
            · have h9 := (HC.out k hk9).2
              have h10 := HI.out.rm.2 k e
              omega
          · have a' : lo ≤ k := a
            have b' : k < hi := b
            have := hgne.2.2
            exact ⟨by omega, by show k ≠ m; omega, by show k ≠ r; omega⟩
        have HKP : Hid (Keeps (fun k => ρ k = 1 ∨ ρ k = 5) w (w6.setCell ⟨W0, 3, none⟩ (.slice (some ⟨g, 0, none⟩) (s.ms.length + 1) c))) := HI.out.push_keeps (j := 3) hg6 HI.out.rm.2
        have HVT : Hid ((w6.setCell ⟨W0, 3, none⟩ (.slice (some ⟨g, 0, none⟩) (s.ms.length + 1) c)).cell? ⟨W0, 1, none⟩ = some s.vt) := cell_row HINV.out.blk rfl
        have c6 : w6.cell? ⟨W0, 3, none⟩ = some (.slice ma s.ms.length mc) := by rw [← HVM.out]; exact cell_row hblk6 rfl
        have f6 : w6.frozen? ⟨W0, 3, none⟩ = false := frozen_of_row _ _ _ _ _ hblk6
        clear hown6 hgrow6 hv6 hloc6 hat hk46 hblk6 hgne hg6
        go_wp2_with fail
        go_ret
        exact ⟨rfl, ⟨_, _, HINV.out⟩, HKP.out, HVT.out⟩
end Go.Proofs.YtbhccdedcoajmaaGreatDoor
namespace Go.Proofs.YtbhccdedcoajmaaGreatDoor
open Go.RowKit

set_option maxHeartbeats 400000 in
theorem lpick (c : Int) (hc : (Lit.int .i64 c).wf = true) (n : Nat) (h1 : 1 ≤ n) (h2 : n ≤ 70000) : ∃ k : Nat, k < n ∧ ∀ w, Calls Tryz.prog 12 #[.int .i64 c, .int .i64 n] w fun e w' => e = .returned (.int .i64 k) ∧ w' = w := by
  have hb : -9223372036854775808 ≤ c ∧ c ≤ 9223372036854775807 := by
    simpa [Lit.wf, IntKind.min, IntKind.max, IntKind.signed, IntKind.bits] using hc
  obtain ⟨hb1, hb2⟩ := hb
  clear hc
  have hz : ((n : Int) == 0) = false := by simp; omega
  have hz2 : ((n : Int) = 0) = False := by simp; omega
  rcases Int.lt_or_le c 0 with h | h
  · obtain ⟨r, hr⟩ : ∃ r, (-(c + 1)).tmod (n : Int) = r := ⟨_, rfl⟩
    have hr' : r = (-(c + 1)) % (n : Int) := by rw [← hr, Int.tmod_eq_emod_of_nonneg (by omega)]
    have hr0 : 0 ≤ r := by rw [hr']; exact Int.emod_nonneg _ (by omega)
    have hr1 : r < n := by rw [hr']; exact Int.emod_lt_of_pos _ (by omega)
    refine ⟨r.toNat, by omega, fun w => ?_⟩
    have hw1 : IntKind.i64.wrap (-(c + 1)) = -(c + 1) := by rw [IntKind.wrap_i64]; omega
    have hw2 : IntKind.i64.wrap r = r := by rw [IntKind.wrap_i64]; omega
    have hrn : (r.toNat : Int) = r := by omega
    rw [hrn]
    have hneg : -((c + 1).tmod (n : Int)) = r := by rw [← Int.neg_tmod]; exact hr
    clear hr'
    go_enter Tryz.func12, Tryz.ntmps12
    go_wp2_with fail
    go_ret
    refine ⟨ret_int ?_, rfl⟩
    first
    | rfl
    | exact hr
    | exact hneg
    | (rw [← Int.neg_tmod]; exact hr)
  · obtain ⟨r, hr⟩ : ∃ r, c.tmod (n : Int) = r := ⟨_, rfl⟩
    have hr' : r = c % (n : Int) := by rw [← hr, Int.tmod_eq_emod_of_nonneg (by omega)]
    have hr0 : 0 ≤ r := by rw [hr']; exact Int.emod_nonneg _ (by omega)
    have hr1 : r < n := by rw [hr']; exact Int.emod_lt_of_pos _ (by omega)
    refine ⟨r.toNat, by omega, fun w => ?_⟩
    have hw2 : IntKind.i64.wrap r = r := by rw [IntKind.wrap_i64]; omega
    have hrn : (r.toNat : Int) = r := by omega
    rw [hrn]
    clear hr'
    go_enter Tryz.func12, Tryz.ntmps12
    go_wp2_with fail
    go_ret
    refine ⟨ret_int ?_, rfl⟩
    first
    | rfl
    | exact hr
end Go.Proofs.YtbhccdedcoajmaaGreatDoor
namespace Go.Proofs.YtbhccdedcoajmaaGreatDoor
open Go.RowKit

/-- bytes in a block of one's own -/
structure ByteBlk (w : World) (g n : Nat) (zs : List Int) : Prop where
  len : zs.length = n
  bytes : Bytes zs
  cell : ∀ k (h : k < zs.length), w.cell? ⟨g, k, none⟩ = some (.int .u8 zs[k])
  free : ∀ k, k < n → w.frozen? ⟨g, k, none⟩ = false
theorem ByteBlk.set {w : World} {g n : Nat} {zs : List Int} (h : ByteBlk w g n zs) (k : Nat) (x : Int) (hx : 0 ≤ x ∧ x < 256) : ByteBlk (w.setCell ⟨g, k, none⟩ (.int .u8 x)) g n (zs.set k x) := by
  refine ⟨by rw [List.length_set]; exact h.len, ?_, ?_, fun j hj => ?_⟩
  · intro y hy
    rcases List.mem_or_eq_of_mem_set hy with hy | rfl
    · exact h.bytes y hy
    · exact hx
  · intro j hj
    rw [List.length_set] at hj
    rw [List.getElem_set]
    by_cases e : k = j
    · subst e
      rw [if_pos rfl]
      exact World.cell?_setCell_same' w _ _ (by rw [h.cell k hj]; rfl)
    · rw [if_neg e, World.cell?_setCell_other _ _ _ _ (by simp)]
      exact h.cell j hj
  · rw [World.frozen?_setCell]; exact h.free j hj
theorem ByteBlk.drew {w : World} {g n : Nat} {zs : List Int} (h : ByteBlk w g n zs) : ByteBlk w.drew g n zs := ⟨h.len, h.bytes, h.cell, h.free⟩
theorem ByteBlk.at {w : World} {g n : Nat} {zs : List Int} (h : ByteBlk w g n zs) (k : Nat) (hk : k < n) : ∃ x, w.cell? ⟨g, k, none⟩ = some (.int .u8 x) ∧ 0 ≤ x ∧ x < 256 :=
  ⟨_, h.cell k (by rw [h.len]; exact hk), h.bytes _ (List.getElem_mem _)⟩
/-- '[]byte(t)' -/
theorem lconv (t : ByteArray) (w : World) : ∃ cap W1, (convert 9 38 (.string t)).run Tryz.prog w = .ok (.slice (some ⟨w.heap.size, 0, none⟩) t.size cap) W1 ∧ t.size ≤ cap ∧ ByteBlk W1 w.heap.size t.size (nums t) ∧ W1.heap.size = w.heap.size + 1 ∧ Below w.heap.size w W1 := by
  have hr := run_bytes_of_string (P := Tryz.prog) w 9 38 5 t Tryz.underlying9 Tryz.underlying38 Tryz.underlying5
  have hge := grownCap_ge w t.size 0 5
  generalize grownCap w t.size 0 5 = cap at *
  have hsz : (bytesRow t cap).size = cap := by simp [bytesRow]; omega
  refine ⟨cap, _, hr, hge, ⟨nums_length t, nums_bytes t, ?_, ?_⟩, by simp, ((Below.refl _ _).drew).alloc (Nat.le_refl _) _⟩
  · intro k h
    rw [nums_length] at h
    refine cell_row (heap_alloc_new _ _) ?_
    rw [bytesRow, Array.getElem?_append_left (by simpa using h)]
    have hd : k < t.data.size := h
    simp [nums, Array.getElem?_eq_getElem hd]
  · intro j hj
    have hh : (w.drew.alloc (.cells (bytesRow t cap) 5 ((bytesRow t cap).size, (bytesRow t cap).size + 1))).heap[w.heap.size]? = some (.cells (bytesRow t cap) 5 ((bytesRow t cap).size, (bytesRow t cap).size + 1)) := heap_alloc_new _ _
    simp only [World.frozen?, hh]
    simp; omega
theorem u8_bd (v : Int) : 0 ≤ IntKind.u8.wrap v ∧ IntKind.u8.wrap v < 256 := by
  simp [IntKind.wrap, IntKind.bits, IntKind.signed]
  omega
theorem xor8_bd (x v : Int) (hx : 0 ≤ x ∧ x < 256) (hv : 0 ≤ v ∧ v < 256) : 0 ≤ bits .xor .u8 x v ∧ bits .xor .u8 x v < 256 := by
  obtain ⟨a, rfl⟩ : ∃ a : Nat, x = a := ⟨x.toNat, by omega⟩
  obtain ⟨b, rfl⟩ : ∃ b : Nat, v = b := ⟨v.toNat, by omega⟩
  have ha : a < 256 := by omega
  have hb : b < 256 := by omega
  have hl : a ^^^ b < 2 ^ 8 := Nat.xor_lt_two_pow (by omega) (by omega)
  have h1 : (BitVec.ofInt 8 (a : Int)).toNat = a := by
    rw [BitVec.ofInt_natCast, BitVec.toNat_ofNat]; exact Nat.mod_eq_of_lt (by omega)
  have h2 : (BitVec.ofInt 8 (b : Int)).toNat = b := by
    rw [BitVec.ofInt_natCast, BitVec.toNat_ofNat]; exact Nat.mod_eq_of_lt (by omega)
  have e : bits .xor .u8 (a : Int) (b : Int) = ((a ^^^ b : Nat) : Int) := by
    show IntKind.u8.wrap ((BitVec.ofInt 8 (a : Int) ^^^ BitVec.ofInt 8 (b : Int)).toNat : Int) = _
    rw [BitVec.toNat_xor, h1, h2]
    simp [IntKind.wrap, IntKind.bits, IntKind.signed]
    omega
  rw [e]
  omega
set_option maxRecDepth 10000 in
set_option maxHeartbeats 1000000 in
theorem turned_any (s : ByteArray) (c : Int) (hc : (Lit.int .i64 c).wf = true) (anew : Bool) (w : World) (hs : s.size ≤ 70000) :
    Calls Tryz.prog 18 #[.string s, .int .i64 c, .bool anew] w fun e w' => ∃ t : ByteArray, e = .returned (.string t) ∧ t.size = s.size ∧ Below w.heap.size w w' := by
  by_cases h0 : s.size = 0
  · have hd : ((s.size : Int) == 0) = true := by simp [h0]
    have HS := hide h0
    clear h0
    go_enter Tryz.func18, Tryz.ntmps18
    go_wp2_with fail
    go_ret
    exact ⟨s, rfl, rfl, Below.refl _ _⟩
  · have hd : ((s.size : Int) == 0) = false := by rw [beq_eq_false_iff_ne]; omega
    have hp : 0 < s.size := by omega
    obtain ⟨k1, hk1, hp1⟩ := lpick c hc s.size (by omega) hs
    obtain ⟨k2, hk2, hp2⟩ := lpick c hc 255 (by omega) (by omega)
    have hp2' : ∀ w, Calls Tryz.prog 12 #[.int .i64 c, .int .i64 255] w fun e w' => e = .returned (.int .i64 k2) ∧ w' = w := hp2
    have HP1 := hide hp1
    have HP2 := hide hp2'
    obtain ⟨cap, W1, hrun, hcap, hbl, hsz, hb1⟩ := lconv s w
    obtain ⟨x, hx, hxb⟩ := hbl.at k1 hk1
    have hfz := hbl.free k1 hk1
    have HYB : Hid (∀ v, 0 ≤ Go.bits .xor .u8 x (IntKind.u8.wrap v) ∧ Go.bits .xor .u8 x (IntKind.u8.wrap v) < 256) := fun v => xor8_bd x _ hxb (u8_bd v)
    have HBL := hide hbl
    have HB1 := hide hb1
    have HSZ := hide hsz
    clear h0 hp1 hp2 hp2' hbl hb1 hsz hc
    go_enter Tryz.func18, Tryz.ntmps18
    go_wp2_with fail
    refine (HP1.out _).mono ?_
    rintro e w1 ⟨rfl, hw1⟩
    obtain rfl := hw1.symm
    go_upto_region 5 with fail
    go_cut [32] (fun _ wc => Hid (∃ zs, ByteBlk wc w.heap.size s.size zs) ∧ Hid (Below w.heap.size w wc))
    case first =>
      go_wp2_with fail
      go_region_with (go_at_call 12; refine (HP2.out _).mono ?_; rintro e w2 ⟨rfl, rfl⟩)
      all_goals
        go_wp2_with fail
        go_meet
        case rel => exact ⟨⟨_, (HBL.out.set k1 _ (HYB.out _)).drew⟩, (HB1.out.setCell (p := ⟨w.heap.size, k1, none⟩) (Nat.le_refl _) _).drew⟩
    case rest =>
      obtain ⟨HZ, HBc⟩ := hcut
      clear HBL HB1 HYB HP1 HP2 hrun hx hxb hfz HSZ
      obtain ⟨zs, hz⟩ := HZ.out
      clear HZ
      by_cases han : anew = true ∧ 8 ≤ s.size
      · obtain ⟨rfl, h8⟩ := han
        have hcv : (convert 38 9 (.slice (some ⟨w.heap.size, 0, none⟩) (s.size - 8) cap)).run Tryz.prog wc = .ok (.string (bytesOf (zs.take (s.size - 8)))) wc := by
          have hl : (zs.take (s.size - 8)).length = s.size - 8 := by rw [List.length_take, hz.len]; omega
          have h9 := conv_cells w.heap.size 0 cap (zs.take (s.size - 8)) wc (fun y hy => hz.bytes y (List.mem_of_mem_take hy)) (fun k hk => by
            rw [Nat.zero_add, List.getElem_take]
            exact hz.cell k (by rw [hl] at hk; rw [hz.len]; omega))
          rw [hl] at h9
          exact h9
        have hbs : (bytesOf (zs.take (s.size - 8))).size ≤ 70000 := by rw [bytesOf_size, List.length_take]; omega
        have HDG := hide (rdigest_any (bytesOf (zs.take (s.size - 8))) hbs wc)
        generalize bytesOf (zs.take (s.size - 8)) = t at *
        generalize digestOf (nums t) = dg at *
        have HZ := hide hz
        have hsub : IntKind.i64.wrap ((s.size : Int) - 8) = ((s.size - 8 : Nat) : Int) := by rw [IntKind.wrap_i64] <;> omega
        clear hz
        go_wp2_with fail
        refine HDG.out.mono ?_
        rintro e w2 ⟨rfl, hw2⟩
        obtain rfl := hw2.symm
        clear hw2 hcv
        go_wp2_with fail
        go_loopw [10] (fun v wr => ∃ k : Nat, k ≤ 8 ∧ v = .int .i64 k ∧ Hid (∃ zs, ByteBlk wr w.heap.size s.size zs) ∧ Hid (Below w.heap.size w wr)) (fun v _ => 8 - (intOf v).toNat)
        case atStart => exact ⟨0, by omega, rfl, ⟨zs, HZ.out⟩, HBc.out⟩
        case round =>
          obtain ⟨k, hk, rfl, HZr, HBr⟩ := hrel
          by_cases hk8 : k < 8
          · obtain ⟨zr, hzr⟩ := HZr.out
            have hi1 : IntKind.i64.wrap ((s.size : Int) - 1) = ((s.size - 1 : Nat) : Int) := by rw [IntKind.wrap_i64] <;> omega
            have hi2 : IntKind.i64.wrap (((s.size - 1 : Nat) : Int) - (k : Int)) = ((s.size - 1 - k : Nat) : Int) := by rw [IntKind.wrap_i64] <;> omega
            have hi3 : IntKind.i64.wrap (8 * (k : Int)) = 8 * (k : Int) := by rw [IntKind.wrap_i64] <;> omega
            obtain ⟨x0, hx0, _⟩ := hzr.at (s.size - 1 - k) (by omega)
            have hf0 := hzr.free (s.size - 1 - k) (by omega)
            have HZR := hide hzr
            clear hzr HZr
            go_wp2_with fail
            go_roundw
            case rel => exact ⟨k + 1, by omega, by go_num, ⟨_, HZR.out.set _ _ (u8_bd _)⟩, HBr.out.setCell (p := ⟨w.heap.size, _, none⟩) (Nat.le_refl _) _⟩
            case measure => simp [intOf]; omega
          · obtain ⟨zr, hzr⟩ := HZr.out
            have hcv2 : (convert 38 9 (.slice (some ⟨w.heap.size, 0, none⟩) s.size cap)).run Tryz.prog wr = .ok (.string (bytesOf zr)) wr := by
              have h9 := conv_cells w.heap.size 0 cap zr wr hzr.bytes (fun k hk => by rw [Nat.zero_add]; exact hzr.cell k hk)
              rw [hzr.len] at h9
              exact h9
            have HL : Hid ((bytesOf zr).size = s.size) := by show _ = _; rw [bytesOf_size, hzr.len]
            clear hzr HZr
            go_wp2_with fail
            go_ret
            exact ⟨_, rfl, HL.out, HBr.out⟩
      · have hcv2 : (convert 38 9 (.slice (some ⟨w.heap.size, 0, none⟩) s.size cap)).run Tryz.prog wc = .ok (.string (bytesOf zs)) wc := by
          have h9 := conv_cells w.heap.size 0 cap zs wc hz.bytes (fun k hk => by rw [Nat.zero_add]; exact hz.cell k hk)
          rw [hz.len] at h9
          exact h9
        have HL : Hid ((bytesOf zs).size = s.size) := by show _ = _; rw [bytesOf_size, hz.len]
        clear hz
        cases anew with
        | false =>
          go_wp2_with fail
          go_ret
          exact ⟨_, rfl, HL.out, HBc.out⟩
        | true =>
          have h8 : s.size < 8 := by
            rcases Nat.lt_or_ge s.size 8 with h | h
            · exact h
            · exact absurd ⟨rfl, h⟩ han
          clear han
          go_wp2_with fail
          go_ret
          exact ⟨_, rfl, HL.out, HBc.out⟩
end Go.Proofs.YtbhccdedcoajmaaGreatDoor
