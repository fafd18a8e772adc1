import Derived.Test.YtbhccdedcoajmaaGreatDoorPMakeA
import Derived.Test.YtbhccdedcoajmaaGreatDoorPApplyM
namespace Go.Proofs.YtbhccdedcoajmaaGreatDoor
open Go.RowKit

/-- an error that says a kind and a name -/
def ErrIs (w : World) (e0 : Value) (k : Int) (n : List Int) : Prop :=
  (n = [] ∧ e0 = .iface 50 (.int .i64 k)) ∨ ∃ b nm, e0 = .iface 123 (.pointer (some ⟨b, 0, none⟩)) ∧ nums nm = n ∧ w.cell? ⟨b, 0, none⟩ = some (.string nm) ∧ w.cell? ⟨b, 1, none⟩ = some (.int .i64 k)
theorem ErrIs.below {w w' : World} {e0 : Value} {k : Int} {n : List Int} (h : ErrIs w e0 k n) (hb : Below w.heap.size w w') : ErrIs w' e0 k n := by
  rcases h with h | ⟨b, nm, h1, h2, c0, c1⟩
  · exact .inl h
  · have hl := World.block_lt_of_cell? w _ c0
    exact .inr ⟨b, nm, h1, h2, (hb.cell (p := ⟨b, 0, none⟩) hl).trans c0, (hb.cell (p := ⟨b, 1, none⟩) hl).trans c1⟩
theorem ErrIs.shape {w : World} {e0 : Value} {k : Int} {n : List Int} (h : ErrIs w e0 k n) : ∃ t u, e0 = .iface t u := by
  rcases h with h | ⟨b, nm, h1, _⟩
  · exact ⟨_, _, h.2⟩
  · exact ⟨_, _, h1⟩
theorem told_err {w : World} {e0 : Value} {k : Int} {n : List Int} (h : ErrIs w e0 k n) (he : ErrT w) : Calls Tryz.prog 33 #[e0] w fun e w' => ∃ nm, e = .returned (.tuple #[.int .i64 k, .string nm]) ∧ nums nm = n ∧ Below w.heap.size w w' := by
  rcases h with ⟨rfl, rfl⟩ | ⟨b, nm, rfl, h2, c0, c1⟩
  · exact (told_kind k w he).mono (by rintro e w' ⟨rfl, hb⟩; exact ⟨_, rfl, nums_empty, hb⟩)
  · exact (told_file b nm k w he c0 c1).mono (by rintro e w' ⟨rfl, hb⟩; exact ⟨_, rfl, h2, hb⟩)
/-- what a replay of any bytes comes to -/
def replayS (fs : List (ByteArray × ByteArray)) (s : List Int) (room : Int) : Except (Int × List Int) (List (List Int × List Int)) :=
  match readL s with
  | none => .error (5, [])
  | some x => replayL fs x room
/-- what replay.Make tells -/
def MkQ (fs : List (ByteArray × ByteArray)) (s : ByteArray) (room : Int) (base : Nat) (r e0 : Value) (w' : World) : Prop :=
  match replayS fs (nums s) room with
  | .error q => r = .slice none 0 0 ∧ ErrIs w' e0 q.1 q.2
  | .ok l => e0 = .nilIface ∧ ∃ ps, FileRow w' base r ps ∧ ps.map (fun p => (nums p.1, nums p.2.1)) = l
theorem MkQ.err {fs : List (ByteArray × ByteArray)} {s : ByteArray} {room : Int} {base : Nat} {e0 : Value} {w' : World} {k : Int} {n : List Int} (h : replayS fs (nums s) room = .error (k, n)) (he : ErrIs w' e0 k n) : MkQ fs s room base (.slice none 0 0) e0 w' := by
  unfold MkQ; rw [h]; exact ⟨rfl, he⟩

set_option maxRecDepth 10000 in
set_option maxHeartbeats 1000000 in
theorem make_bad (v : Value) (fs : List (ByteArray × ByteArray)) (g cap : Nat) (s : ByteArray) (room : Int) (w : World) (he : ErrT w) (hs : s.size ≤ 70000) (hcap : s.size ≤ cap) (h0 : 0 < cap) (hg : g < w.heap.size) (hc : ∀ k (h : k < (nums s).length), w.cell? ⟨g, 0 + k, none⟩ = some (.int .u8 (nums s)[k])) (hread : readL (nums s) = none) :
    Calls Tryz.prog 72 #[v, .slice (some ⟨g, 0, none⟩) s.size cap, .int .i64 room] w fun e w' => ∃ r e0, e = .returned (.tuple #[r, e0]) ∧ MkQ fs s room w.heap.size r e0 w' ∧ Below w.heap.size w w' := by
  have HRD := hide (bread_bad g cap s w he hs hcap h0 hg hc hread)
  have HMK : Hid (∀ W, MkQ fs s room w.heap.size (.slice none 0 0) (.iface 50 (.int .i64 5)) W) := fun W => MkQ.err (k := 5) (n := []) (by unfold replayS; rw [hread]) (.inl ⟨rfl, rfl⟩)
  clear hc hread he
  go_enter Tryz.func72, Tryz.ntmps72
  go_wp2_with fail
  refine HRD.out.mono ?_
  rintro e w1 ⟨rfl, hb1⟩
  have HB1 := hide hb1
  clear hb1
  go_wp2_with fail
  go_ret2
  exact ⟨_, _, rfl, HMK.out _, below_all HB1.out ((Below.refl _ _).alloc (Nat.le_refl _) _)⟩

theorem targets_facts {bas : List EntL} {B : Nat} : ∀ (n : Nat) (last l : List Int) (q : List (EntL × List Tok) × List Int), targetsP bas B n false last l = some q → ∀ x ∈ q.1, x.1.size ≤ 300
  | 0, last, l, q, h => by
    simp only [targetsP, Option.some.injEq] at h
    rw [← h]; simp
  | n + 1, last, l, q, h => by
    rw [targets_step] at h
    simp only [Option.bind_eq_some_iff, Option.map_eq_some_iff] at h
    obtain ⟨a, ha, b, hb, c, hc, h⟩ := h
    have h1 := (entry_facts ha).1
    have h3 := targets_facts n _ _ _ hc
    rw [← h]
    intro x hx
    rcases List.mem_cons.1 hx with rfl | hx
    · exact h1
    · exact h3 x hx

set_option maxRecDepth 10000 in
set_option maxHeartbeats 1000000 in
theorem make_good (v : Value) (fs : List (ByteArray × ByteArray)) (g cap : Nat) (s : ByteArray) (room : Int) (w : World) (hs : s.size ≤ 70000) (hcap : s.size ≤ cap) (hg : g < w.heap.size) (hc : ∀ k (h : k < (nums s).length), w.cell? ⟨g, 0 + k, none⟩ = some (.int .u8 (nums s)[k])) (hl : fs.length ≤ 70000) (hz : ∀ p ∈ fs, p.2.size ≤ 300) (hF : Ag w v fs) (bl : Int) (bs : List EntL) (ts : List (EntL × List Tok)) (hread : readL (nums s) = some ⟨bl, bs, ts⟩) :
    Calls Tryz.prog 72 #[v, .slice (some ⟨g, 0, none⟩) s.size cap, .int .i64 room] w fun e w' => ∃ r e0, e = .returned (.tuple #[r, e0]) ∧ MkQ fs s room w.heap.size r e0 w' ∧ Below w.heap.size w w' := by
  obtain ⟨_, _, _, hb1, hb2, l1, l2, _, htg, _⟩ := read_parts hread
  obtain ⟨B, rfl⟩ : ∃ B : Nat, bl = B := ⟨bl.toNat, by omega⟩
  have HRD := hide (bread_ok g cap s B bs ts w hs hcap hg hc hread)
  have HRS : Hid (replayS fs (nums s) room = replayL fs ⟨B, bs, ts⟩ room) := by show _ = _; unfold replayS; rw [hread]
  have HF := hide hF
  have HZ := hide hz
  have HTS : Hid (∀ x : Tg, tgV x ∈ ts → x.ent.2.1 ≤ 65535) := by
    intro x hx
    simp only [Option.bind_eq_some_iff] at htg
    obtain ⟨q, _, hq⟩ := htg
    have h1 : (tgV x).1.size ≤ 300 := targets_facts _ _ _ _ hq _ hx
    have h2 : (tgV x).1.size = ((x.ent.2.1 : Nat) : Int) := rfl
    omega
  clear hc hread hF htg hz
  go_enter Tryz.func72, Tryz.ntmps72
  go_wp2_with fail
  refine HRD.out.mono ?_
  rintro e w1 ⟨bv, tv, rfl, ⟨es, xs, hoe, hesm, hel, hox, hxl, hxok, _, _, hxm⟩, hb1'⟩
  obtain ⟨ba, bn, bc, rfl⟩ := row_slice hoe
  obtain ⟨ta, tn, tc, rfl⟩ := row_slice hox
  obtain ⟨o, ho⟩ : ∃ o, o = Obj.cells #[.int .i64 (B : Int), .slice ba bn bc, .slice ta tn tc] 110 := ⟨_, rfl⟩
  have hba : Below w1.heap.size w1 (w1.alloc o) := (Below.refl _ _).alloc (Nat.le_refl _) _
  have x0 : (w1.alloc o).cell? ⟨w1.heap.size, 0, none⟩ = some (.int .i64 (B : Int)) := by rw [ho]; exact cell_new rfl rfl
  have x1 : (w1.alloc o).cell? ⟨w1.heap.size, 1, none⟩ = some (.slice ba bn bc) := by rw [ho]; exact cell_new rfl rfl
  have x2 : (w1.alloc o).cell? ⟨w1.heap.size, 2, none⟩ = some (.slice ta tn tc) := by rw [ho]; exact cell_new rfl rfl
  have HBA : Hid (Below w.heap.size w (w1.alloc o)) := below_all hb1' hba
  have HE1 : Hid (El (w1.alloc o) (.slice ba bn bc) es) := (El_of_row hoe).below hba
  have HT1 : Hid (Tl (w1.alloc o) (.slice ta tn tc) xs) := (Tl_of_row hox).below hba
  have HX1 : Hid (∀ x ∈ xs, TgOk (w1.alloc o) w.heap.size x) := fun x hx => (hxok x hx).below hba
  have HSZ : Hid (∀ x ∈ xs, x.ent.2.1 ≤ 65535) := by
    intro x hx
    have h1 : tgV x ∈ ts := by rw [← hxm]; exact List.mem_map_of_mem hx
    exact HTS.out x h1
  have HSL : Hid (∀ x ∈ xs, ∃ a n c, x.v = .slice a n c) := fun x hx => row_slice (hxok x hx).row.row
  rw [ho] at x0 x1 x2 HBA HE1 HT1 HX1
  have HES := hide hesm
  have HXM := hide hxm
  clear hoe hesm hox hxok hxm hb1' hba ho HRD
  go_wp2_with fail
  generalize hWA : w1.alloc (.cells #[.int .i64 (B : Int), .slice ba bn bc, .slice ta tn tc] 110) = wa at *
  clear hWA
  have hxb : w1.heap.size < wa.heap.size := World.block_lt_of_cell? wa _ x0
  have hww : w.heap.size ≤ wa.heap.size := HBA.out.size
  refine (checkBasis_any v _ fs es wa hl (fun p hp => by have := HZ.out p hp; omega) (by omega) (HF.out.below HBA.out) HE1.out).mono ?_
  rintro e w2 ⟨r, rfl, hq, hb2⟩
  have HB2 : Hid (Below w.heap.size w w2) := below_all HBA.out hb2
  have y0 := (hb2.cell (p := ⟨w1.heap.size, 0, none⟩) hxb).trans x0
  have y1 := (hb2.cell (p := ⟨w1.heap.size, 1, none⟩) hxb).trans x1
  have y2 := (hb2.cell (p := ⟨w1.heap.size, 2, none⟩) hxb).trans x2
  have HT2 := hide (HT1.out.below hb2)
  have HX2 : Hid (∀ x ∈ xs, TgOk w2 w.heap.size x) := fun x hx => (HX1.out x hx).below hb2
  clear x0 x1 x2 hb2 HT1 HX1 HE1
  cases hbad : basisBad fs (es.map entV) with
  | some n =>
    unfold ChkQ at hq
    rw [hbad] at hq
    obtain ⟨b, nm, rfl, hn, c0, c1⟩ := hq
    have HM : Hid (MkQ fs s room w.heap.size (.slice none 0 0) (.iface 123 (.pointer (some ⟨b, 0, none⟩))) w2) := MkQ.err (k := 9) (n := n) (by rw [HRS.out]; unfold replayL; rw [← HES.out, hbad]) (.inr ⟨b, nm, rfl, hn, c0, c1⟩)
    clear c0 c1 hn hbad HRS
    go_wp2_with fail
    go_ret2
    exact ⟨_, _, rfl, HM.out, HB2.out⟩
  | none =>
    unfold ChkQ at hq
    rw [hbad] at hq
    subst hq
    have HBD := hide hbad
    clear hbad
    go_wp2_with fail
    refine (rsizeOf_any _ xs w2 hxl HSZ.out HT2.out HSL.out).mono ?_
    rintro e w3 ⟨rfl, hb3⟩
    have HB3 : Hid (Below w.heap.size w w3) := below_all HB2.out hb3
    have hxb2 : w1.heap.size < w2.heap.size := World.block_lt_of_cell? w2 _ y0
    have z0 := (hb3.cell (p := ⟨w1.heap.size, 0, none⟩) hxb2).trans y0
    have z1 := (hb3.cell (p := ⟨w1.heap.size, 1, none⟩) hxb2).trans y1
    have z2 := (hb3.cell (p := ⟨w1.heap.size, 2, none⟩) hxb2).trans y2
    have HT3 := hide (HT2.out.below hb3)
    have HX3 : Hid (∀ x ∈ xs, TgOk w3 w.heap.size x) := fun x hx => (HX2.out x hx).below hb3
    have HSM : Hid (sizesL ts = (sizesN xs : Int)) := by rw [← HXM.out]; exact sizesN_cast xs
    clear y0 y1 y2 hb3 HT2 HX2
    by_cases hrm : room < (sizesN xs : Int)
    · have HM : Hid (∀ W, MkQ fs s room w.heap.size (.slice none 0 0) (.iface 50 (.int .i64 10)) W) := fun W => MkQ.err (k := 10) (n := []) (by rw [HRS.out]; unfold replayL; rw [← HES.out, HBD.out]; simp only; rw [if_pos (by rw [HSM.out]; exact hrm)]) (.inl ⟨rfl, rfl⟩)
      generalize sizesN xs = sz at *
      clear HRS HSM
      go_wp2_with fail
      go_ret2
      exact ⟨_, _, rfl, HM.out _, HB3.out⟩
    · have HMA := hide (makeAll_any v (.slice ba bn bc) (.slice ta tn tc) fs B xs w.heap.size w3 (by omega) (by omega) hl HZ.out (HF.out.below HB3.out) hxl HT3.out HX3.out ⟨_, _, _, rfl⟩)
      have HRL : Hid (replayS fs (nums s) room = match makeGo fs B (xs.map tgV) with | .error n => .error (11, n) | .ok l => .ok l) := by
        show _ = _
        rw [HRS.out]
        unfold replayL
        rw [← HES.out, HBD.out]
        simp only
        rw [if_neg (by rw [HSM.out]; exact hrm), ← HXM.out]
        rfl
      generalize sizesN xs = sz at *
      clear HRS HSM
      go_wp2_with fail
      refine HMA.out.mono ?_
      rintro e w4 ⟨r, e0, rfl, hm, hb4⟩
      have HB4 : Hid (Below w.heap.size w w4) := below_all HB3.out hb4
      have hw3 : w.heap.size ≤ w3.heap.size := HB3.out.size
      have HM : Hid (MkQ fs s room w.heap.size r e0 w4) := by
        unfold MakQ at hm
        show MkQ _ _ _ _ _ _ _
        unfold MkQ
        rw [HRL.out]
        cases hg : makeGo fs B (xs.map tgV) with
        | error n =>
          rw [hg] at hm
          exact ⟨hm.1, .inr hm.2⟩
        | ok l =>
          rw [hg] at hm
          obtain ⟨h1, ps, h2, h3⟩ := hm
          exact ⟨h1, ps, h2.base hw3, h3⟩
      clear hm hb4 HMA
      go_wp2_with fail
      go_ret2
      exact ⟨_, _, rfl, HM.out, HB4.out⟩
/-- replay.Make of any bytes -/
theorem make_any (v : Value) (fs : List (ByteArray × ByteArray)) (g cap : Nat) (s : ByteArray) (room : Int) (w : World) (he : ErrT w) (hs : s.size ≤ 70000) (hcap : s.size ≤ cap) (h0 : 0 < cap) (hg : g < w.heap.size) (hc : ∀ k (h : k < (nums s).length), w.cell? ⟨g, 0 + k, none⟩ = some (.int .u8 (nums s)[k])) (hl : fs.length ≤ 70000) (hz : ∀ p ∈ fs, p.2.size ≤ 300) (hF : Ag w v fs) :
    Calls Tryz.prog 72 #[v, .slice (some ⟨g, 0, none⟩) s.size cap, .int .i64 room] w fun e w' => ∃ r e0, e = .returned (.tuple #[r, e0]) ∧ MkQ fs s room w.heap.size r e0 w' ∧ Below w.heap.size w w' := by
  cases h : readL (nums s) with
  | none => exact make_bad v fs g cap s room w he hs hcap h0 hg hc h
  | some b =>
    obtain ⟨bl, bs, ts⟩ := b
    exact make_good v fs g cap s room w hs hcap hg hc hl hz hF bl bs ts h
end Go.Proofs.YtbhccdedcoajmaaGreatDoor
namespace Go.Proofs.YtbhccdedcoajmaaGreatDoor
open Go.RowKit

/-- names that rise, and are names -/
def RiseN : List Int → List (List Int) → Prop
  | _, [] => True
  | last, n :: r => nameB n = true ∧ ltL last n = true ∧ RiseN n r
theorem RiseN.at : ∀ (l : List (List Int)) (last : List Int), RiseN last l → ∀ i (h : i < l.length), nameB l[i] = true ∧ (0 < i → ltL (l[i - 1]'(by omega)) l[i] = true)
  | n :: r, last, h, 0, _ => ⟨h.1, fun h0 => by omega⟩
  | n :: r, last, h, i + 1, hi => by
    have h2 := RiseN.at r n h.2.2 i (by simpa using hi)
    refine ⟨by simpa using h2.1, fun _ => ?_⟩
    cases i with
    | zero =>
      cases r with
      | nil => simp at hi
      | cons m r => exact h.2.2.2.1
    | succ i => simpa using h2.2 (by omega)
theorem entry_name {last l l' : List Int} {e : EntL} (h : entryP false last l = some (e, l')) : nameB e.name = true := by
  unfold entryP at h
  simp only [Option.bind_eq_bind, Option.bind_eq_some_iff] at h
  obtain ⟨q, _, q2, _, h⟩ := h
  split at h
  · rename_i hc
    simp only [Option.bind_eq_some_iff] at h
    obtain ⟨q3, _, h⟩ := h
    split at h
    · simp only [Option.bind_eq_some_iff] at h
      obtain ⟨q4, _, h⟩ := h
      simp only [Option.some.injEq, Prod.mk.injEq] at h
      obtain ⟨rfl, _⟩ := h
      rw [Bool.and_eq_true, Bool.false_or] at hc
      exact hc.1
    · cases h
  · cases h
theorem targets_rise {bas : List EntL} {B : Nat} : ∀ (n : Nat) (last l : List Int) (q : List (EntL × List Tok) × List Int), targetsP bas B n false last l = some q → RiseN last (q.1.map fun x => x.1.name) ∧ q.1.length = n
  | 0, last, l, q, h => by
    simp only [targetsP, Option.some.injEq] at h
    subst h
    exact ⟨trivial, rfl⟩
  | n + 1, last, l, q, h => by
    unfold targetsP at h
    simp only [Option.bind_eq_bind, Option.bind_eq_some_iff] at h
    obtain ⟨a, ha, b, hb1, c, hc, h⟩ := h
    split at h
    · simp only [Option.bind_eq_some_iff] at h
      obtain ⟨d, hd, h⟩ := h
      cases h
      have h2 := targets_rise n _ _ _ hd
      exact ⟨⟨entry_name (l := l) (l' := a.2) (last := last) (by rw [ha]), (entry_facts (last := last) (l := l) (l' := a.2) (e := a.1) (by rw [ha])).2, h2.1⟩, by simp [h2.2]⟩
    · cases h
theorem find_bytes (fs : List (ByteArray × ByteArray)) (name : List Int) : Bytes (findL (fs.map filOf) name) := by
  unfold findL
  cases h : (fs.map filOf).find? (fun f => decide (f.name = name)) with
  | none => exact fun z hz => by cases hz
  | some f =>
    obtain ⟨p, _, rfl⟩ := List.mem_map.1 (List.mem_of_find?_eq_some h)
    exact nums_bytes p.2
theorem makeGo_parts {fs : List (ByteArray × ByteArray)} {B : Nat} : ∀ (ts : List (EntL × List Tok)) (l : List (List Int × List Int)), (∀ x ∈ ts, ∀ t ∈ x.2, Held t) → makeGo fs B ts = .ok l → l.map Prod.fst = ts.map (fun x => x.1.name) ∧ ∀ p ∈ l, p.2.length ≤ 300
  | [], l, _, h => by
    simp only [makeGo, Except.ok.injEq] at h
    subst h
    exact ⟨rfl, fun p hp => by simp at hp⟩
  | x :: r, l, hH, h => by
    unfold makeGo at h
    split at h
    · cases h
    · rename_i d hd
      split at h
      · cases hr : makeGo fs B r with
        | error e => rw [hr] at h; cases h
        | ok l2 =>
          rw [hr] at h
          simp only [Except.map, Except.ok.injEq] at h
          subst h
          have h2 := makeGo_parts r l2 (fun y hy => hH y (by simp [hy])) hr
          refine ⟨by simp [h2.1], fun p hp => ?_⟩
          rcases List.mem_cons.1 hp with rfl | hp
          · refine (apply_small (zs := findL (fs.map filOf) x.1.name) ?_ x.2 [] d (fun t ht => (hH x (by simp) t ht).1) (fun z hz => by cases hz) (by simp) hd).2
            exact find_bytes fs x.1.name
          · exact h2.2 p hp
      · cases h
/-- a tree that a batch makes of a tree is one -/
theorem made_tree {fs gs : List (ByteArray × ByteArray)} {s : ByteArray} {room : Int} {l : List (List Int × List Int)} (hT : TreeOk fs) (h : replayS fs (nums s) room = .ok l) (hg : gs.map (fun p => (nums p.1, nums p.2)) = l) : TreeOk gs := by
  unfold replayS at h
  split at h
  · cases h
  rename_i x hx
  unfold replayL at h
  split at h
  · cases h
  rename_i hbad
  split at h
  · cases h
  cases hm : makeGo fs x.block.toNat x.targets with
  | error e => rw [hm] at h; cases h
  | ok l2 =>
    rw [hm] at h
    simp only [Except.ok.injEq] at h
    subst h
    obtain ⟨bl, bs, ts⟩ := x
    have hmk := make_ok hx hT hbad
    obtain ⟨h1, h2⟩ := makeGo_parts ts l2 (fun y hy => (hmk y hy).1) hm
    obtain ⟨_, _, _, _, _, l1, l3, _, q2, _⟩ := read_parts hx
    simp only [Option.bind_eq_some_iff] at q2
    obtain ⟨u, hu, q2⟩ := q2
    obtain ⟨hr, hlen⟩ := targets_rise _ _ _ _ q2
    simp only at hr hlen
    have hu8 : u.1 ≤ 8 := by
      unfold filesP at hu
      simp only [Option.bind_eq_some_iff] at hu
      obtain ⟨q, _, hu⟩ := hu
      split at hu
      · cases hu; simp only; omega
      · cases hu
    rw [← h1] at hr
    have hll : l2.length = ts.length := by simpa using congrArg List.length h1
    have hgl : gs.length = l2.length := by rw [← hg]; simp
    intro i hi
    have h3 := RiseN.at _ _ hr i (by rw [List.length_map]; exact hgl ▸ hi)
    have e1 : ∀ j (hj : j < gs.length), (l2.map Prod.fst)[j]'(by simpa using hgl ▸ hj) = nums gs[j].1 := by
      intro j hj
      simp only [List.getElem_map, ← hg]
    have e2 : nums gs[i].2 = (l2[i]'(hgl ▸ hi)).2 := by simp only [← hg, List.getElem_map]
    refine ⟨hi, ?_, fun h0 => ?_, ?_, by omega⟩
    · rw [← e1 i hi]; exact h3.1
    · rw [← e1 i hi, ← e1 (i - 1) (by omega)]; exact h3.2 h0
    · have := h2 _ (List.getElem_mem (hgl ▸ hi))
      rw [← e2, nums_length] at this
      exact this
end Go.Proofs.YtbhccdedcoajmaaGreatDoor
