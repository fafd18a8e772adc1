import Derived.Test.YtbhccdedcoajmaaGreatDoorLStepB
import Derived.Test.YtbhccdedcoajmaaGreatDoorRows
import Derived.Test.YtbhccdedcoajmaaGreatDoorMakeLM
import Derived.SliceStrings
import Derived.OpenShut
import Derived.Test.YtbhccdedcoajmaaGreatDoorAsFM
import Derived.Carry
import Derived.WideShapes
import Derived.Deep.Slices
import Derived.SizedLaws
import Derived.SevenTiedAt
namespace Go.Proofs.YtbhccdedcoajmaaGreatDoor
open Go.RowKit

/-- one step of a script -/
structure OpT where
  k : Int
  a : Int
  b : Int
  c : Int
  s : ByteArray
  t : ByteArray
/-- a script in memory -/
def Ops (w : World) (v : Value) (ops : List OpT) : Prop :=
  ∃ va cap, v = .slice va ops.length cap ∧ ops.length ≤ cap ∧ cap ≤ 9223372036854775807 ∧ ∀ i (hi : i < ops.length), ∃ g o, va = some ⟨g, o, none⟩ ∧ g < w.heap.size ∧ w.cell? ⟨g, o + i * 6, none⟩ = some (.int .i64 ops[i].k) ∧ w.cell? ⟨g, o + i * 6 + 1, none⟩ = some (.int .i64 ops[i].a) ∧ w.cell? ⟨g, o + i * 6 + 2, none⟩ = some (.int .i64 ops[i].b) ∧ w.cell? ⟨g, o + i * 6 + 3, none⟩ = some (.int .i64 ops[i].c) ∧ w.cell? ⟨g, o + i * 6 + 4, none⟩ = some (.string ops[i].s) ∧ w.cell? ⟨g, o + i * 6 + 5, none⟩ = some (.string ops[i].t)
/-- what the form says of each step -/
def OpWf (x : OpT) : Prop := (Lit.int .i64 x.a).wf = true ∧ (Lit.int .i64 x.b).wf = true ∧ (Lit.int .i64 x.c).wf = true ∧ x.s.size ≤ 140737488351232 ∧ x.t.size ≤ 140737488351232

set_option maxRecDepth 10000 in
set_option maxHeartbeats 1000000 in
theorem small_any (v : Value) (ops : List OpT) (w : World) (hO : Ops w v ops) (hW : ∀ x ∈ ops, OpWf x) :
    Calls Tryz.prog 7 #[v] w fun e w' => ∃ r : Bool, e = .returned (.bool r) ∧ (r = true → ops.length ≤ 65536 ∧ ∀ x ∈ ops, x.s.size ≤ 65536 ∧ x.t.size ≤ 65536) ∧ Below w.heap.size w w' := by
  obtain ⟨va, cap, rfl, hcap, hcm, hcell⟩ := hO
  by_cases hbig : 65536 < ops.length
  · clear hcell hW
    have h9 : (65536 : Int) < (ops.length : Int) := by omega
    clear hbig
    go_enter Tryz.func7, Tryz.ntmps7
    go_wp2_with fail
    go_ret
    exact ⟨false, rfl, (fun h => by cases h), Below.refl _ _⟩
  · have HC : Hid (∀ i, i < ops.length → ∃ (g o : Nat) (s t : ByteArray), va = some ⟨g, o, none⟩ ∧ g < w.heap.size ∧ w.cell? ⟨g, o + i * 6 + 4, none⟩ = some (.string s) ∧ w.cell? ⟨g, o + i * 6 + 5, none⟩ = some (.string t) ∧ s.size ≤ 140737488351232 ∧ t.size ≤ 140737488351232 ∧ Hid ((ops[i]?.map OpT.s) = some s ∧ (ops[i]?.map OpT.t) = some t)) := by
      intro i hi
      obtain ⟨g, o, e, hg, _, _, _, _, c4, c5⟩ := hcell i hi
      obtain ⟨_, _, _, h1, h2⟩ := hW _ (List.getElem_mem hi)
      exact ⟨g, o, _, _, e, hg, c4, c5, h1, h2, by simp [hi], by simp [hi]⟩
    have HEND : Hid ((∀ i (s t : ByteArray), i < ops.length → ops[i]?.map OpT.s = some s → ops[i]?.map OpT.t = some t → s.size ≤ 65536 ∧ t.size ≤ 65536) → ∀ x ∈ ops, x.s.size ≤ 65536 ∧ x.t.size ≤ 65536) := by
      intro h x hx
      obtain ⟨i, hi, rfl⟩ := List.getElem_of_mem hx
      exact h i _ _ hi (by simp [hi]) (by simp [hi])
    have hn : ops.length ≤ 65536 := by omega
    clear hcell hW hbig
    generalize ops.length = n at *
    go_enter Tryz.func7, Tryz.ntmps7
    go_wp2_with fail
    go_loopw [3, 4] (fun v3 v4 wr => ∃ (k z : Nat), k ≤ n ∧ v4 = .int .i64 k ∧ v3 = .int .i64 z ∧ z ≤ 65536 ∧ Hid (∀ i (s t : ByteArray), i < k → ops[i]?.map OpT.s = some s → ops[i]?.map OpT.t = some t → s.size ≤ 65536 ∧ t.size ≤ 65536) ∧ Hid (Below w.heap.size w wr)) (fun _ v4 _ => n - (intOf v4).toNat)
    case atStart => exact ⟨0, n, Nat.zero_le _, rfl, rfl, hn, (fun i _ _ h => by omega), Below.refl _ _⟩
    case round =>
      obtain ⟨k, z, hk, rfl, rfl, hz, HA, HBr⟩ := hrel
      by_cases hlt : k < n
      · obtain ⟨g, o, s, t, rfl, hg, c4, c5, h1, h2, HS⟩ := HC.out k hlt
        have d4 := (HBr.out.cell (p := ⟨g, o + k * 6 + 4, none⟩) hg).trans c4
        have d5 := (HBr.out.cell (p := ⟨g, o + k * 6 + 5, none⟩) hg).trans c5
        have w1 : IntKind.i64.wrap ((z : Int) + (s.size : Int)) = ((z + s.size : Nat) : Int) := by rw [IntKind.wrap_i64] <;> omega
        have w2 : IntKind.i64.wrap (((z + s.size : Nat) : Int) + (t.size : Int)) = ((z + s.size + t.size : Nat) : Int) := by rw [IntKind.wrap_i64] <;> omega
        clear c4 c5
        go_upto_region 7 with fail
        go_cut [3] (fun v3 wc => v3 = .int .i64 ((z + s.size + t.size : Nat) : Int) ∧ Hid (Below w.heap.size w wc))
        case first =>
          go_wp2_with fail
          go_quiet (fail)
          go_wp2_with fail
          go_meet
          exact ⟨by go_num, below_drewN HBr.out _⟩
        case rest =>
          obtain ⟨rfl, HBc⟩ := hcut
          by_cases hb : 65536 < z + s.size + t.size
          · have hb' : (65536 : Int) < ((z + s.size + t.size : Nat) : Int) := by omega
            clear hb
            go_wp2_with fail
            go_ret
            exact ⟨false, rfl, (fun h => by cases h), HBc.out⟩
          · have hb' : ((z + s.size + t.size : Nat) : Int) ≤ 65536 := by omega
            have HA2 : Hid (∀ i (s t : ByteArray), i < k + 1 → ops[i]?.map OpT.s = some s → ops[i]?.map OpT.t = some t → s.size ≤ 65536 ∧ t.size ≤ 65536) := by
              intro i s' t' hi e1 e2
              rcases Nat.lt_or_ge i k with h | h
              · exact HA.out i s' t' h e1 e2
              · obtain rfl : i = k := by omega
                rw [HS.out.1] at e1
                rw [HS.out.2] at e2
                cases e1; cases e2
                omega
            clear hb
            go_wp2_with fail
            go_roundw
            case rel => exact ⟨k + 1, z + s.size + t.size, by omega, by go_num, rfl, by omega, HA2.out, HBc.out⟩
            case measure => simp [intOf]; omega
      · have HE := hide (HEND.out (fun i s t hi => HA.out i s t (by omega)))
        go_wp2_with fail
        go_ret
        exact ⟨true, rfl, (fun _ => ⟨hn, HE.out⟩), HBr.out⟩
/-- a step of any kind but Spread's -/
theorem step_any {w : World} {wz : World} {B0 W0 K O : Nat} {ρ : Nat → Nat} {st : St} (hI : Inv wz w B0 W0 K O ρ st) (he : ErrT w) (hK : K ≤ 65536) (hO : O ≤ 1000000) (x : OpT) (hk : x.k ≠ 10) (hx : OpWf x) (hs : x.s.size ≤ 65536) (ht : x.t.size ≤ 65536) :
    Calls Tryz.prog 8 #[.pointer (some ⟨W0, 0, none⟩), .agg #[.int .i64 x.k, .int .i64 x.a, .int .i64 x.b, .int .i64 x.c, .string x.s, .string x.t]] w fun e w' => e = .returned (.bool true) ∧ StepR wz B0 W0 K O w' := by
  obtain ⟨ha, hb, hc, _⟩ := hx
  by_cases h5 : x.k = 1 ∨ x.k = 2 ∨ x.k = 3 ∨ x.k = 4 ∨ x.k = 5
  · exact step_lists hI he hK x.k x.a x.b x.c h5 ha hb hc x.s x.t hs ht
  · by_cases h6 : x.k = 6
    · rw [h6]
      rcases Nat.eq_zero_or_pos st.trees.length with h0 | h0
      · exact step_new0 hI x.a x.b x.c x.s x.t h0
      · exact step_new hI he hK x.a x.b x.c ha x.s x.t h0
    · exact step_other hI he hK hO x.k x.a x.b x.c (by omega) ha hb hc x.s x.t

/-- nothing made yet -/
def st0 : St := ⟨.slice none 0 0, .slice none 0 0, .slice none 0 0, .slice none 0 0, .slice none 0 0, [], [], [], [], []⟩
theorem inv0 (w : World) : Inv w (w.alloc (.cells #[.slice none 0 0, .slice none 0 0, .slice none 0 0, .slice none 0 0, .slice none 0 0] 33 (0, 0))) w.heap.size w.heap.size 0 0 (fun k => if k = w.heap.size then 1 else 0) st0 := by
  have hno : ∀ g, (Value.slice none 0 0).ownBlock = some g → False := fun g h => by simp [Value.ownBlock] at h
  refine ⟨heap_alloc_new _ _, by simp, (Below.refl _ _).alloc (Nat.le_refl _) _, by simp, fun k hk => ?_, ⟨World.ownsRow_nil _ _ _ _, fun g h => (hno g h).elim⟩, ⟨World.ownsRow_nil _ _ _ _, fun g h => (hno g h).elim⟩, ⟨World.ownsRow_nil _ _ _ _, fun g h => (hno g h).elim⟩, ⟨World.ownsRow_nil _ _ _ _, fun g h => (hno g h).elim⟩, ⟨World.ownsRow_nil _ _ _ _, fun g h => (hno g h).elim⟩, fun p hp => by simp [st0] at hp, fun i hi => by simp [st0] at hi, fun x hx => by simp [st0] at hx, fun u hu => by simp [st0] at hu, by simp [st0], fun q hq => by simp [st0] at hq, by simp [st0], by simp [st0], fun q hq => by simp [st0] at hq, by simp [st0], by simp [st0]⟩
  by_cases e : k = w.heap.size
  · subst e; exact ⟨Nat.le_refl _, by simp⟩
  · rw [if_neg e] at hk; exact absurd rfl hk

set_option maxRecDepth 10000 in
set_option maxHeartbeats 2000000 in
theorem plays_any (v : Value) (ops : List OpT) (gw : Nat) (w : World) (he : ErrT w) (hO : Ops w v ops) (hW : ∀ x ∈ ops, OpWf x) (hgw : gw < w.heap.size) (hw10 : w.cell? ⟨gw, 0, none⟩ = some (.int .i64 10)) :
    Calls Tryz.prog 6 #[v, .slice (some ⟨gw, 0, none⟩) 1 1] w fun e w' => e = .returned (.bool true) ∧ Below w.heap.size w w' := by
  have HSM := hide (small_any v ops w hO hW)
  obtain ⟨va, cap, rfl, hcap, hcm, hcell⟩ := hO
  have HC : Hid (∀ i (hi : i < ops.length), ∃ (g o : Nat), va = some ⟨g, o, none⟩ ∧ g < w.heap.size ∧ w.cell? ⟨g, o + i * 6, none⟩ = some (.int .i64 ops[i].k) ∧ w.cell? ⟨g, o + i * 6 + 1, none⟩ = some (.int .i64 ops[i].a) ∧ w.cell? ⟨g, o + i * 6 + 2, none⟩ = some (.int .i64 ops[i].b) ∧ w.cell? ⟨g, o + i * 6 + 3, none⟩ = some (.int .i64 ops[i].c) ∧ w.cell? ⟨g, o + i * 6 + 4, none⟩ = some (.string ops[i].s) ∧ w.cell? ⟨g, o + i * 6 + 5, none⟩ = some (.string ops[i].t)) := hcell
  have HWF := hide hW
  have HE := hide he
  have HW10 := hide hw10
  clear hcell hW he hw10
  go_enter Tryz.func6, Tryz.ntmps6
  go_wp2_with fail
  refine HSM.out.mono ?_
  rintro e w1 ⟨r, rfl, hr, hb1⟩
  have HB1 := hide hb1
  have HR := hide hr
  have hw1 : w.heap.size ≤ w1.heap.size := hb1.size
  clear hb1 hr HSM
  cases r with
  | false =>
    go_wp2_with fail
    go_ret
    exact ⟨rfl, HB1.out⟩
  | true =>
    obtain ⟨hn, hsz⟩ := HR.out rfl
    have HSZ := hide hsz
    clear hsz HR
    have HI0 := hide (inv0 w1)
    go_wp2_with fail
    go_loopw [7] (fun v7 wr => ∃ (i : Nat), i ≤ ops.length ∧ v7 = .int .i64 i ∧ Hid (∃ ρ s, Inv w1 wr w1.heap.size w1.heap.size i (8 * i) ρ s)) (fun v7 _ => ops.length - (intOf v7).toNat)
    case atStart => exact ⟨0, Nat.zero_le _, rfl, ⟨_, _, HI0.out⟩⟩
    case round =>
      obtain ⟨i, hi, rfl, HIr⟩ := hrel
      by_cases hlt : i < ops.length
      · obtain ⟨ρ, st, hI⟩ := HIr.out
        obtain ⟨g, o, rfl, hg, c0, c1, c2, c3, c4, c5⟩ := HC.out i hlt
        have HBr : Hid (Below w.heap.size w wr) := HB1.out.trans (hI.fr.mono hw1)
        have d0 := (HBr.out.cell (p := ⟨g, o + i * 6, none⟩) hg).trans c0
        have d9 := (HBr.out.cell (p := ⟨gw, 0, none⟩) hgw).trans HW10.out
        have HI := hide hI
        have HWX := hide (HWF.out _ (List.getElem_mem hlt))
        have hsx := HSZ.out _ (List.getElem_mem hlt)
        generalize ops[i] = x at *
        obtain ⟨kk, xa, xb, xc, xs, xt⟩ := x
        simp only at c0 c1 c2 c3 c4 c5 d0 hsx
        obtain ⟨q, hq⟩ : ∃ q : Bool, (kk != 10) = q := ⟨_, rfl⟩
        have HQ : Hid (q = true → kk ≠ 10) := fun h => by rw [h] at hq; simpa using hq
        obtain ⟨wo, hwo⟩ : ∃ wo, wo = wr := ⟨_, rfl⟩
        subst hwo
        have hgo : g < wo.heap.size := Nat.lt_of_lt_of_le hg HBr.out.size
        clear hI HIr
        go_wp2_with fail
        go_loopw [8, 9] (fun v8 v9 wr => ((v9 = .int .i64 0 ∧ v8 = .bool true) ∨ (v9 = .int .i64 1 ∧ v8 = .bool q)) ∧ Hid (Below wo.heap.size wo wr)) (fun _ v9 _ => 1 - (intOf v9).toNat)
        case atStart => exact ⟨.inl ⟨rfl, rfl⟩, Below.refl _ _⟩
        case round =>
          obtain ⟨hr, HBi⟩ := hrel
          rcases hr with ⟨rfl, rfl⟩ | ⟨rfl, rfl⟩
          · have e0 := (HBi.out.cell (p := ⟨g, o + i * 6, none⟩) hgo).trans d0
            have e9 := (HBi.out.cell (p := ⟨gw, 0, none⟩) (Nat.lt_of_lt_of_le hgw HBr.out.size)).trans d9
            go_wp2_with fail
            go_quiet (fail)
            go_wp2_with fail
            go_roundw
            case rel => exact ⟨.inr ⟨rfl, by first | rfl | (simp only [hq])⟩, below_drewN HBi.out _⟩
            case measure => simp [intOf]
          · have HIi := hide (HI.out.keep (Nat.le_refl i) (Nat.le_refl (8 * i)) (below_keeps HBi.out _))
            have HBw : Hid (Below w.heap.size w wr) := below_all HBr.out HBi.out
            cases q with
            | false =>
              have HNX : Hid (∃ ρ s, Inv w1 wr w1.heap.size w1.heap.size (i + 1) (8 * (i + 1)) ρ s) := ⟨_, _, HIi.out.keep (Nat.le_succ i) (by omega) (Keeps.refl _ _)⟩
              clear HI HIi
              go_wp2_with fail
              go_roundw
              case rel => exact ⟨i + 1, by omega, by go_num, HNX.out⟩
              case measure => simp [intOf]; omega
            | true =>
              have f0 := (HBw.out.cell (p := ⟨g, o + i * 6, none⟩) hg).trans c0
              have f1 := (HBw.out.cell (p := ⟨g, o + i * 6 + 1, none⟩) hg).trans c1
              have f2 := (HBw.out.cell (p := ⟨g, o + i * 6 + 2, none⟩) hg).trans c2
              have f3 := (HBw.out.cell (p := ⟨g, o + i * 6 + 3, none⟩) hg).trans c3
              have f4 := (HBw.out.cell (p := ⟨g, o + i * 6 + 4, none⟩) hg).trans c4
              have f5 := (HBw.out.cell (p := ⟨g, o + i * 6 + 5, none⟩) hg).trans c5
              have HST := hide (step_any HIi.out (HE.out.keep HBw.out) (by omega) (by omega) ⟨kk, xa, xb, xc, xs, xt⟩ (HQ.out rfl) HWX.out hsx.1 hsx.2)
              clear HI HIi c0 c1 c2 c3 c4 c5 d0 d9 hq
              go_wp2_with fail
              refine HST.out.mono ?_
              rintro e w5 ⟨rfl, ρ5, s5, hI5⟩
              obtain ⟨oa, oc, hvo⟩ := row_len hI5.ro.1
              have e4 : w5.cell? ⟨w1.heap.size, 4, none⟩ = some (.slice oa s5.out.length oc) := by rw [← hvo]; exact cell_row hI5.blk rfl
              have hko := hI5.ko
              have HOU : Hid (∀ j (hj : j < s5.out.length), ∃ (og : Nat) (ua : Option Addr) (un uc : Nat), oa = some ⟨og, 0, none⟩ ∧ w5.cell? ⟨og, j, none⟩ = some (.slice ua un uc) ∧ Calls Tryz.prog 9 #[.slice ua un uc] w5 fun e w' => e = .returned (.bool true) ∧ w' = w5) := by
                intro j hj
                rcases hI5.ro.1.2 with ⟨_, h9⟩ | ⟨og, c, cur, h9, _, hg9, _⟩
                · omega
                · have hoa : oa = some ⟨og, 0, none⟩ := by rw [hvo] at h9; simp at h9; exact h9.1
                  have h10 := hI5.ro.1.cells (g := og) (by rw [hvo, hoa]; rfl) j s5.out[j] (by simp [hj])
                  rw [add_at] at h10
                  rcases hI5.out _ (List.getElem_mem hj) with e | ⟨g2, n2, c2, e, hc2, _, _, h99⟩
                  · rw [e] at h10
                    exact ⟨og, _, _, _, hoa, h10, stays_nil w5⟩
                  · rw [e] at h10
                    exact ⟨og, _, _, _, hoa, h10, stays_ok g2 n2 c2 w5 h99 hc2⟩
              have HNX : Hid (∃ ρ s, Inv w1 w5 w1.heap.size w1.heap.size (i + 1) (8 * (i + 1)) ρ s) := ⟨_, _, hI5.keep (Nat.le_refl _) (by omega) (Keeps.refl _ _)⟩
              have hol : s5.out.length ≤ 1000000 := by omega
              clear hvo hI5 hko HST f0 f1 f2 f3 f4 f5
              generalize s5.out.length = on at *
              go_wp2_with fail
              go_loopw [10, 11] (fun v10 v11 wr => ∃ j : Nat, j ≤ on ∧ v11 = .int .i64 j ∧ v10 = .bool true ∧ wr = w5) (fun _ v11 _ => on - (intOf v11).toNat)
              case atStart => exact ⟨0, Nat.zero_le _, rfl, rfl, rfl⟩
              case round =>
                obtain ⟨j, hj, rfl, rfl, hw⟩ := hrel
                obtain rfl := hw.symm
                clear hw
                by_cases hjl : j < on
                · obtain ⟨og, ua, un, uc, rfl, hu, hst⟩ := HOU.out j hjl
                  have HS := hide hst
                  clear hst
                  go_wp2_with fail
                  refine HS.out.mono ?_
                  rintro e w6 ⟨rfl, hw6⟩
                  obtain rfl := hw6.symm
                  clear hw6 HS
                  go_wp2_with fail
                  go_roundw
                  case rel => exact ⟨j + 1, by omega, by go_num, by first | rfl | trivial, by first | rfl | trivial⟩
                  case measure => simp [intOf]; omega
                · go_wp2_with fail
                  go_roundw
                  case rel => exact ⟨i + 1, by omega, by go_num, HNX.out⟩
                  case measure => simp [intOf]; omega
      · go_wp2_with fail
        go_ret
        obtain ⟨ρ, st, hI⟩ := HIr.out
        exact ⟨rfl, HB1.out.trans (hI.fr.mono hw1)⟩
set_option maxHeartbeats 400000 in
theorem walk_replays (v : Value) (ops : List OpT) (w : World) (he : ErrT w) (hO : Ops w v ops) (hW : ∀ x ∈ ops, OpWf x) :
    Calls Tryz.prog 3 #[v] w fun e w' => e = .returned (.bool true) ∧ Below w.heap.size w w' := by
  have hba : ∀ ob, Below w.heap.size w (w.alloc ob) := fun ob => (Below.refl _ _).alloc (Nat.le_refl _) _
  have hob : ∀ ob, Ops (w.alloc ob) v ops := by
    intro ob
    obtain ⟨va, cap, h1, h2, h3, h4⟩ := hO
    refine ⟨va, cap, h1, h2, h3, fun i hi => ?_⟩
    obtain ⟨g, o, e, hg, c0, c1, c2, c3, c4, c5⟩ := h4 i hi
    have hc : ∀ j, (w.alloc ob).cell? ⟨g, j, none⟩ = w.cell? ⟨g, j, none⟩ := fun j => (hba ob).cell (p := ⟨g, j, none⟩) hg
    exact ⟨g, o, e, Nat.lt_of_lt_of_le hg (hba ob).size, (hc _).trans c0, (hc _).trans c1, (hc _).trans c2, (hc _).trans c3, (hc _).trans c4, (hc _).trans c5⟩
  have HPL : Hid (Calls Tryz.prog 6 #[v, .slice (some ⟨w.heap.size, 0, none⟩) 1 1] (w.alloc (.cells #[.int .i64 10] 3)) fun e w' => e = .returned (.bool true) ∧ Below w.heap.size w w') := by
    refine (plays_any v ops w.heap.size _ (he.keep (hba _)) (hob _) hW (by simp) (cell_new rfl rfl)).mono ?_
    rintro e w' ⟨rfl, hb⟩
    exact ⟨rfl, below_all (hba _) hb⟩
  obtain ⟨va, cap, rfl, _⟩ := hO
  clear hob hba hW he
  go_enter Tryz.func3, Tryz.ntmps3
  go_wp2_with fail
  refine HPL.out.mono ?_
  rintro e w1 ⟨rfl, hb⟩
  have HB := hide hb
  clear hb HPL
  go_wp2_with fail
  go_ret
  exact ⟨rfl, HB.out⟩
end Go.Proofs.YtbhccdedcoajmaaGreatDoor
namespace Go.Proofs.YtbhccdedcoajmaaGreatDoor
open Go.ChangeShapes Go.WideShapes Go.RowKit

theorem bulk_one {H : Type} (d : DataW H) : 1 ≤ Rows.uptoBulk d := by
  cases d with
  | lit l => cases l <;> simp [Rows.uptoBulk]
  | nil => simp [Rows.uptoBulk]
  | ptr d => simp [Rows.uptoBulk]
  | slice elems spare => simp [Rows.uptoBulk]
  | agg parts => simp [Rows.uptoBulk]
  | iface t d => simp [Rows.uptoBulk]
  | map entries => simp [Rows.uptoBulk]
  | held h => simp [Rows.uptoBulk]
theorem bulk_part {H : Type} {d : DataW H} {l : List (DataW H)} (h : d ∈ l) : Rows.uptoBulk d ≤ Rows.uptoBulkAll l := by
  induction l with
  | nil => cases h
  | cons x r ih =>
    simp only [Rows.uptoBulkAll]
    cases List.mem_cons.1 h with
    | inl e => subst e; omega
    | inr e => have := ih e; omega
theorem bulk_length {H : Type} (l : List (DataW H)) : l.length ≤ Rows.uptoBulkAll l := by
  induction l with
  | nil => simp [Rows.uptoBulkAll]
  | cons x r ih => have := bulk_one x; simp only [Rows.uptoBulkAll, List.length_cons]; omega
theorem bulk_bound {H : Type} {l : List (DataW H)} (hk : Rows.uptoSmall H l = true) : Rows.uptoBulkAll l ≤ 1048576 := of_decide_eq_true hk

theorem Tryz.cells9 : Tryz.prog.cellsOf 9 = 1 := by kernel_rfl
theorem Tryz.laidOutB : laidOutB Tryz.prog = true := by kernel_rfl

set_option maxRecDepth 100000 in
/-- a list of texts that came in, nil or not -/
theorem open_sl {H : Type} {enc : TypeId × Value → H} {W : World} {base : Nat} {v : Value} {d : DataW H} {ps : List MemPlace} (hval : Value.okWide Tryz.prog W .any base 29 v) (h : DataW.Trod enc Tryz.prog W 0 (fun _ => true) true 29 v d ps) :
    ∃ ss : List ByteArray, Sl W v ss ∧ ss.length ≤ Rows.uptoBulk d ∧ ∀ s ∈ ss, s.size ≤ Rows.uptoBulk d := by
  obtain ⟨a0, len, cap, rfl⟩ := okWide_slice Tryz.underlying29 hval
  obtain ⟨fuel, hf0⟩ := h
  have hf : DataW.trod enc Tryz.prog W 0 (fun _ => true) true fuel 29 [.slice a0 len cap] = some (d, ps) := hf0
  rcases open_strings Tryz.underlying29 Tryz.underlying9 Tryz.cells9 hf with ⟨hcs, hx⟩ | ⟨a, len', cap', ss, hcs, _, hl, hm, hz, hx, hcell, _⟩
  · simp at hcs
    obtain ⟨rfl, rfl, rfl⟩ := hcs
    exact ⟨[], ⟨none, 0, rfl, Nat.le_refl _, fun i hi => by simp at hi⟩, Nat.zero_le _, fun s hs => by simp at hs⟩
  · simp at hcs
    obtain ⟨rfl, rfl, rfl⟩ := hcs
    simp only [if_true] at hz
    obtain ⟨b, off, spot⟩ := a
    have hd : d = .slice (strs (ss.take len)) (strs (ss.drop len)) := congrArg Prod.fst hx
    have hlen : (ss.take len).length = len := by rw [List.length_take]; omega
    refine ⟨ss.take len, ⟨_, cap, by rw [hlen], by rw [hlen]; exact hl, fun i hi => ?_⟩, ?_, fun s hs => ?_⟩
    · rw [hlen] at hi
      have hc := hcell i (by omega)
      have hspot : spot = none := by simpa [Addr.add] using World.cell?_spot (hcell 0 (by omega))
      subst hspot
      refine ⟨b, off, rfl, World.block_lt_of_cell? W _ (hcell 0 (by omega)), ?_⟩
      have e : (⟨b, off, none⟩ : Addr).add i = ⟨b, off + i, none⟩ := by unfold Addr.add; split <;> simp_all
      rw [e] at hc
      rw [hc, List.getElem_take]
      simp [List.getD, List.getElem?_eq_getElem (show i < ss.length by omega)]
    · rw [hd]
      have := bulk_length (strs (H := H) (ss.take len))
      simp only [Rows.uptoBulk]
      rw [show (strs (H := H) (ss.take len)).length = (ss.take len).length by simp [strs]] at this
      omega
    · rw [hd]
      have := bulk_part (d := (.lit (.string s.data.toList) : DataW H)) (l := strs (ss.take len)) (List.mem_map.2 ⟨s, hs, rfl⟩)
      have e : Rows.uptoBulk (.lit (.string s.data.toList) : DataW H) = s.size + 1 := by simp [Rows.uptoBulk]
      simp only [Rows.uptoBulk] at this ⊢
      have e2 : s.data.toList.length = s.size := by simp
      omega
set_option maxRecDepth 100000 in
/-- the same, with no bound but the form's own -/
theorem open_sl2 {H : Type} {enc : TypeId × Value → H} {W : World} {base : Nat} {v : Value} {d : DataW H} {ps : List MemPlace} (hval : Value.okWide Tryz.prog W .any base 29 v) (h : DataW.Trod enc Tryz.prog W 0 (fun _ => true) true 29 v d ps) :
    ∃ ss : List ByteArray, Sl W v ss ∧ ss.length ≤ maxLen ∧ ∀ s ∈ ss, s.size ≤ maxLen := by
  obtain ⟨a0, len, cap, rfl⟩ := okWide_slice Tryz.underlying29 hval
  obtain ⟨fuel, hf0⟩ := h
  have hf : DataW.trod enc Tryz.prog W 0 (fun _ => true) true fuel 29 [.slice a0 len cap] = some (d, ps) := hf0
  rcases open_strings Tryz.underlying29 Tryz.underlying9 Tryz.cells9 hf with ⟨hcs, hx⟩ | ⟨a, len', cap', ss, hcs, _, hl, hm, hz, hx, hcell, hsz⟩
  · simp at hcs
    obtain ⟨rfl, rfl, rfl⟩ := hcs
    exact ⟨[], ⟨none, 0, rfl, Nat.le_refl _, fun i hi => by simp at hi⟩, Nat.zero_le _, fun s hs => by simp at hs⟩
  · simp at hcs
    obtain ⟨rfl, rfl, rfl⟩ := hcs
    simp only [if_true] at hz
    obtain ⟨b, off, spot⟩ := a
    have hlen : (ss.take len).length = len := by rw [List.length_take]; omega
    refine ⟨ss.take len, ⟨_, cap, by rw [hlen], by rw [hlen]; exact hl, fun i hi => ?_⟩, by rw [hlen]; omega, fun s hs => hsz s (List.mem_of_mem_take hs)⟩
    rw [hlen] at hi
    have hc := hcell i (by omega)
    have hspot : spot = none := by simpa [Addr.add] using World.cell?_spot (hcell 0 (by omega))
    subst hspot
    refine ⟨b, off, rfl, World.block_lt_of_cell? W _ (hcell 0 (by omega)), ?_⟩
    have e : (⟨b, off, none⟩ : Addr).add i = ⟨b, off + i, none⟩ := by unfold Addr.add; split <;> simp_all
    rw [e] at hc
    rw [hc, List.getElem_take]
    simp [List.getD, List.getElem?_eq_getElem (show i < ss.length by omega)]
end Go.Proofs.YtbhccdedcoajmaaGreatDoor
namespace Go.Proofs.YtbhccdedcoajmaaGreatDoor
open Go.ChangeShapes Go.WideShapes Go.RowKit Go.Deep

theorem Tryz.cells35 : Tryz.prog.cellsOf 35 = 6 := by kernel_rfl
theorem Tryz.cells3 : Tryz.prog.cellsOf 3 = 1 := by kernel_rfl
theorem Tryz.bytes35 : Tryz.prog.bytesOf 35 = 64 := by kernel_rfl
theorem addr_plain {b off i : Nat} : (⟨b, off, none⟩ : Addr).add i = ⟨b, off + i, none⟩ := by unfold Addr.add; split <;> simp_all

theorem weights_all {H : Type} {P : Program} {e : TypeId} : ∀ {l : List (DataW H)} {d : DataW H} {n : Nat}, d ∈ l → n ∈ d.weights P e → n ∈ DataW.weightsAll P e l
  | x :: l, d, n, hd, hn => by
    simp only [DataW.weightsAll, List.mem_append]
    rcases List.mem_cons.1 hd with rfl | hd
    · exact .inl hn
    · exact .inr (weights_all hd hn)
set_option maxRecDepth 100000 in
/-- one step of a script, opened -/
theorem open_op {H : Type} {enc : TypeId × Value → H} {W : World} {base n g o i : Nat} {cs : List Value} {y : DataW H × List MemPlace} (h1 : W.cells? base ((⟨g, o, none⟩ : Addr).add (i * 6)) 6 = some cs) (h2 : DataW.trod enc Tryz.prog W base (fun _ => true) true n 35 cs = some y) :
    ∃ x : OpT, W.cell? ⟨g, o + i * 6, none⟩ = some (.int .i64 x.k) ∧ W.cell? ⟨g, o + i * 6 + 1, none⟩ = some (.int .i64 x.a) ∧ W.cell? ⟨g, o + i * 6 + 2, none⟩ = some (.int .i64 x.b) ∧ W.cell? ⟨g, o + i * 6 + 3, none⟩ = some (.int .i64 x.c) ∧ W.cell? ⟨g, o + i * 6 + 4, none⟩ = some (.string x.s) ∧ W.cell? ⟨g, o + i * 6 + 5, none⟩ = some (.string x.t) ∧
      (Lit.int .i64 x.a).wf = true ∧ (Lit.int .i64 x.b).wf = true ∧ (Lit.int .i64 x.c).wf = true ∧ x.s.size ∈ y.1.weights Tryz.prog 35 ∧ x.t.size ∈ y.1.weights Tryz.prog 35 := by
  obtain ⟨_, hlen, hcell⟩ := World.cells?_some h1
  obtain ⟨xs, k, hk, hxy, _, hxl, hf⟩ := DataW.trod_struct Tryz.underlying35 h2
  match xs, hxl, cs, hlen with
  | [y0, y1, y2, y3, y4, y5], _, [v0, v1, v2, v3, v4, v5], _ =>
    have g0 := hf 0 _ rfl
    have g1 := hf 1 _ rfl
    have g2 := hf 2 _ rfl
    have g3 := hf 3 _ rfl
    have g4 := hf 4 _ rfl
    have g5 := hf 5 _ rfl
    simp [Tryz.cells3, Tryz.cells9] at g0 g1 g2 g3 g4 g5
    obtain ⟨q0, e0, _, _⟩ := DataW.trod_int Tryz.underlying3 g0
    obtain ⟨q1, e1, _, w1⟩ := DataW.trod_int Tryz.underlying3 g1
    obtain ⟨q2, e2, _, w2⟩ := DataW.trod_int Tryz.underlying3 g2
    obtain ⟨q3, e3, _, w3⟩ := DataW.trod_int Tryz.underlying3 g3
    obtain ⟨q4, e4, f4, _⟩ := DataW.trod_string Tryz.underlying9 g4
    obtain ⟨q5, e5, f5, _⟩ := DataW.trod_string Tryz.underlying9 g5
    simp only [List.cons.injEq, and_true] at e0 e1 e2 e3 e4 e5
    subst e0 e1 e2 e3 e4 e5
    have c0 := hcell 0 (by omega)
    have c1 := hcell 1 (by omega)
    have c2 := hcell 2 (by omega)
    have c3 := hcell 3 (by omega)
    have c4 := hcell 4 (by omega)
    have c5 := hcell 5 (by omega)
    rw [addr_plain, addr_plain] at c0 c1 c2 c3 c4 c5
    have hw : y.1.weights Tryz.prog 35 = DataW.weightsEach Tryz.prog [3, 3, 3, 3, 9, 9] [y0.1, y1.1, y2.1, y3.1, y4.1, y5.1] := by
      rw [hxy]
      simp only [DataW.weights, Tryz.underlying35, List.map_cons, List.map_nil]
    refine ⟨⟨q0, q1, q2, q3, q4, q5⟩, by simpa using c0, by simpa using c1, by simpa using c2, by simpa using c3, by simpa using c4, by simpa using c5, w1, w2, w3, ?_, ?_⟩
    · rw [hw, f4]
      simp [DataW.weightsEach, DataW.weights]
    · rw [hw, f5]
      simp [DataW.weightsEach, DataW.weights]
set_option maxRecDepth 100000 in
theorem open_ops {H : Type} {enc : TypeId × Value → H} {W : World} {base : Nat} {v : Value} {d : DataW H} {ps : List MemPlace} (hval : Value.okWide Tryz.prog W .any base 22 v) (h : DataW.Trod enc Tryz.prog W 0 (fun _ => true) true 22 v d ps) (hsz : (DataW.weightsEach Tryz.prog [22] [d]).all (· ≤ reachBytes) = true) :
    ∃ ops : List OpT, Ops W v ops ∧ ∀ x ∈ ops, OpWf x := by
  obtain ⟨a0, len, cap, rfl⟩ := okWide_slice Tryz.underlying22 hval
  obtain ⟨fuel, hf0⟩ := h
  have hf : DataW.trod enc Tryz.prog W 0 (fun _ => true) true fuel 22 [.slice a0 len cap] = some (d, ps) := hf0
  rcases open_slice Tryz.underlying22 hf with ⟨hcs, hx⟩ | ⟨a, len', cap', m, n, D, Pl, hcs, _, hl, hm, hmm, hx, hel⟩
  · simp at hcs
    obtain ⟨rfl, rfl, rfl⟩ := hcs
    exact ⟨[], ⟨none, 0, rfl, Nat.le_refl _, by omega, fun i hi => by simp at hi⟩, fun x hx => by simp at hx⟩
  · simp at hcs
    obtain ⟨rfl, rfl, rfl⟩ := hcs
    simp only [if_true] at hmm
    subst hmm
    rw [Tryz.cells35] at hel
    have hd : d = .slice ((List.range len).map D) ((List.range (m - len)).map fun j => D (len + j)) := congrArg Prod.fst hx
    have hbd : ∀ i, i < len → ∀ z ∈ (D i).weights Tryz.prog 35, z ≤ 140737488351232 := by
      intro i hi z hz
      have hmem : z ∈ DataW.weightsEach Tryz.prog [22] [d] := by
        rw [hd]
        simp only [DataW.weightsEach, DataW.weights, Tryz.underlying22, List.append_nil]
        refine List.mem_cons_of_mem _ (List.mem_append.2 (.inl (weights_all (List.mem_map_of_mem (List.mem_range.2 hi)) hz)))
      have h9 : decide (z ≤ reachBytes) = true := List.all_eq_true.1 hsz z hmem
      exact of_decide_eq_true h9
    obtain ⟨b, off, spot⟩ := a
    rcases Nat.eq_zero_or_pos len with h0 | h0
    · subst h0
      exact ⟨[], ⟨_, m, rfl, Nat.zero_le _, by simpa [maxLen] using hm, fun i hi => by simp at hi⟩, fun x hx => by simp at hx⟩
    · have hspot : spot = none := by
        obtain ⟨cs, h1, _⟩ := hel 0 (by omega)
        obtain ⟨_, hlen, hcell⟩ := World.cells?_some h1
        have h9 := hcell 0 (by omega)
        rw [List.getElem?_eq_getElem (by omega)] at h9
        simpa [Addr.add] using World.cell?_spot h9
      subst hspot
      have hX : ∀ i, i < len → ∃ x : OpT, W.cell? ⟨b, off + i * 6, none⟩ = some (.int .i64 x.k) ∧ W.cell? ⟨b, off + i * 6 + 1, none⟩ = some (.int .i64 x.a) ∧ W.cell? ⟨b, off + i * 6 + 2, none⟩ = some (.int .i64 x.b) ∧ W.cell? ⟨b, off + i * 6 + 3, none⟩ = some (.int .i64 x.c) ∧ W.cell? ⟨b, off + i * 6 + 4, none⟩ = some (.string x.s) ∧ W.cell? ⟨b, off + i * 6 + 5, none⟩ = some (.string x.t) ∧ OpWf x := by
        intro i hi
        obtain ⟨cs, h1, h2⟩ := hel i (by omega)
        obtain ⟨x, c0, c1, c2, c3, c4, c5, w1, w2, w3, s1, s2⟩ := open_op h1 h2
        exact ⟨x, c0, c1, c2, c3, c4, c5, w1, w2, w3, hbd i hi _ s1, hbd i hi _ s2⟩
      have hall : ∀ k, k ≤ len → ∃ ops : List OpT, ops.length = k ∧ ∀ i (hi : i < ops.length), W.cell? ⟨b, off + i * 6, none⟩ = some (.int .i64 ops[i].k) ∧ W.cell? ⟨b, off + i * 6 + 1, none⟩ = some (.int .i64 ops[i].a) ∧ W.cell? ⟨b, off + i * 6 + 2, none⟩ = some (.int .i64 ops[i].b) ∧ W.cell? ⟨b, off + i * 6 + 3, none⟩ = some (.int .i64 ops[i].c) ∧ W.cell? ⟨b, off + i * 6 + 4, none⟩ = some (.string ops[i].s) ∧ W.cell? ⟨b, off + i * 6 + 5, none⟩ = some (.string ops[i].t) ∧ OpWf ops[i] := by
        intro k
        induction k with
        | zero => exact fun _ => ⟨[], rfl, fun i hi => by simp at hi⟩
        | succ k ih =>
          intro hk
          obtain ⟨ops, hl, ho⟩ := ih (by omega)
          obtain ⟨x, hx⟩ := hX k (by omega)
          refine ⟨ops ++ [x], by simp [hl], fun i hi => ?_⟩
          have hi' : i < ops.length + 1 := by simpa using hi
          by_cases e : i < ops.length
          · have e2 : (ops ++ [x])[i] = ops[i] := List.getElem_append_left e
            rw [e2]
            exact ho i e
          · have e1 : i = ops.length := by omega
            subst e1
            have e2 : (ops ++ [x])[ops.length]'(by simp) = x := by simp
            rw [e2, hl]
            exact hx
      obtain ⟨ops, hl2, ho⟩ := hall len (Nat.le_refl _)
      refine ⟨ops, ⟨some ⟨b, off, none⟩, m, by rw [hl2], by rw [hl2]; exact hl, by simpa [maxLen] using hm, fun i hi => ?_⟩, fun x hx => ?_⟩
      · obtain ⟨c0, c1, c2, c3, c4, c5, _⟩ := ho i hi
        exact ⟨b, off, rfl, World.block_lt_of_cell? W _ c0, c0, c1, c2, c3, c4, c5⟩
      · obtain ⟨i, hi, rfl⟩ := List.getElem_of_mem hx
        exact (ho i hi).2.2.2.2.2.2
end Go.Proofs.YtbhccdedcoajmaaGreatDoor
namespace Go.Proofs.YtbhccdedcoajmaaGreatDoor
open Go

/-- a tied card without a companion, of a function whose road meets a 'go' -/
theorem holds_tied_goes (Lk : Looks) {p : Pinned} {s : OpenSpec} {c : OpenClaim} (al : List (List PathCond)) (kinds : List LaidKind) (tests : Bool) (har : Bool × String) (lk : Bool)
    (hc : c.holds p s) (hal : ∀ D ∈ al, (c.withDomain D).holds p s) (hw : c.wfByText s = true) (hwal : ∀ D ∈ al, (c.withDomain D).wfByText s = true)
    (htie : c.laidByTextAt Lk p kinds tests)
    (hst : c.start = .entering) (hnb : c.noBlocks = false ∧ c.again = false) (hm : p.checked.prog.mainIs = some (har.1, har.2.toList)) (hn : (!har.1 && har.2.isEmpty && !lk) = false)
    (hl : ∀ f fn, p.checked.prog.funcNamed c.func = some f → p.checked.prog.funcs[f]? = some fn → lk = p.checked.prog.looks [] ∧ ∀ (j : Nat) t, fn.params[j]? = some t → p.checked.prog.wantsStandIn t = false)
    (hg : true = c.goesBy p.checked.prog) :
    Claim7.holds p (.plain s) { stood := { row := c, standIns := [], harness := har, looks := lk }, kinds := [], alts := al, goes := true, laidByText := true, laidKinds := kinds, laidTests := tests, laidLooks := Lk } := by
  have h6 : ∀ r : OpenClaim, Claim7.isSixth { stood := { row := r, standIns := [], harness := har, looks := lk }, kinds := [] } = false := fun r => by simpa [Claim7.isSixth] using hn
  refine ⟨?_, fun D hD => ?_, htie, (fun h => by cases h), hg⟩
  · obtain ⟨_, rest⟩ := Claim7.new_of_sixth hc har lk hst hnb hm (h6 c) hl
    exact ⟨hw, rest⟩
  · obtain ⟨_, rest⟩ := Claim7.new_of_sixth (hal D hD) har lk hst hnb hm (h6 _) hl
    exact ⟨hwal D hD, rest⟩
end Go.Proofs.YtbhccdedcoajmaaGreatDoor
