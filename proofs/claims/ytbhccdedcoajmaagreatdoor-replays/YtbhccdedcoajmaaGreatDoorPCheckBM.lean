import Derived.Test.YtbhccdedcoajmaaGreatDoorWPushM
import Derived.Deep.DeepCutAuto
import Derived.Deep.CutBlock
import Derived.Test.YtbhccdedcoajmaaGreatDoorMathM
namespace Go.Proofs.YtbhccdedcoajmaaGreatDoor
open Go.RowKit

/-- what checkBasis tells -/
def ChkQ (fs : List (ByteArray × ByteArray)) (es : List EntL) (v : Value) (w' : World) : Prop :=
  match basisBad fs es with
  | none => v = .nilIface
  | some n => ∃ b nm, v = .iface 123 (.pointer (some ⟨b, 0, none⟩)) ∧ nums nm = n ∧ w'.cell? ⟨b, 0, none⟩ = some (.string nm) ∧ w'.cell? ⟨b, 1, none⟩ = some (.int .i64 9)
theorem chkQ_at {fs : List (ByteArray × ByteArray)} {es : List EntL} {nm : ByteArray} {b : Nat} {W : World} (h : basisBad fs es = some (nums nm)) (c0 : W.cell? ⟨b, 0, none⟩ = some (.string nm)) (c1 : W.cell? ⟨b, 1, none⟩ = some (.int .i64 9)) : ChkQ fs es (.iface 123 (.pointer (some ⟨b, 0, none⟩))) W := by
  unfold ChkQ
  rw [h]
  exact ⟨b, nm, rfl, rfl, c0, c1⟩
theorem chkQ_new {fs : List (ByteArray × ByteArray)} {es : List EntL} {nm : ByteArray} (h : basisBad fs es = some (nums nm)) (w : World) : ChkQ fs es (.iface 123 (.pointer (some ⟨w.heap.size, 0, none⟩))) (w.alloc (.cells #[.string nm, .int .i64 9] 127)) := by
  unfold ChkQ
  rw [h]
  exact ⟨w.heap.size, nm, rfl, rfl, cell_new rfl rfl, cell_new rfl rfl⟩

set_option maxRecDepth 10000 in
set_option maxHeartbeats 1000000 in
theorem checkBasis_any (v u : Value) (fs : List (ByteArray × ByteArray)) (es : List (ByteArray × Nat × Int)) (w : World) (hl : fs.length ≤ 70000) (hz : ∀ p ∈ fs, p.2.size ≤ 70000) (_hle : es.length ≤ 70000) (hF : Ag w v fs) (hE : El w u es) :
    Calls Tryz.prog 108 #[v, u] w fun e w' => ∃ r, e = .returned r ∧ ChkQ fs (es.map entV) r w' ∧ Below w.heap.size w w' := by
  obtain ⟨va, cap, rfl, hcap, hcell⟩ := hF
  obtain ⟨ua, cap2, rfl, hcap2, hcell2⟩ := hE
  have HC : Hid (∀ k (hk : k < fs.length), ∃ (g : Nat) (vo : Option Addr) (b cp : Nat), va = some ⟨g, 0, none⟩ ∧ g < w.heap.size ∧ w.cell? ⟨g, k * 2, none⟩ = some (.string fs[k].1) ∧ w.cell? ⟨g, k * 2 + 1, none⟩ = some (.slice vo (nums fs[k].2).length cp) ∧ DataAt w vo b cp (nums fs[k].2) ∧ (nums fs[k].2).length ≤ 70000) := by
    intro k hk
    obtain ⟨g, vo, b, cp, e, hg, c0, c1, ho, hD⟩ := hcell k hk
    exact ⟨g, vo, b, cp, e, hg, c0, c1, hD, by rw [nums_length]; exact hz _ (List.getElem_mem hk)⟩
  have HE : Hid (∀ k (hk : k < es.length), ∃ (g : Nat), ua = some ⟨g, 0, none⟩ ∧ g < w.heap.size ∧ w.cell? ⟨g, k * 3, none⟩ = some (.string es[k].1) ∧ w.cell? ⟨g, k * 3 + 1, none⟩ = some (.int .i64 es[k].2.1) ∧ w.cell? ⟨g, k * 3 + 2, none⟩ = some (.int .u64 es[k].2.2)) := hcell2
  clear hcell hcell2 hz
  obtain ⟨N, hN⟩ : ∃ N, N = min fs.length es.length := ⟨_, rfl⟩
  have hNf : N ≤ fs.length := by omega
  have hNe : N ≤ es.length := by omega
  have HN : Hid ((N < fs.length → N = es.length) ∧ (N < es.length → N = fs.length) ∧ (es.length < fs.length → N = es.length) ∧ (¬ es.length < fs.length → N = fs.length)) := ⟨by omega, by omega, by omega, by omega⟩
  have HOT := hide (fun nm W => otherBasis_any nm W)
  clear hN
  go_enter Tryz.func108, Tryz.ntmps108
  go_upto_region 1 with fail
  go_cut [5] (fun v5 wc => v5 = .int .i64 (N : Int) ∧ wc = w)
  case first =>
    by_cases hc : es.length < fs.length
    · have := HN.out.2.2.1 hc
      subst this
      go_wp2_with fail
      go_meet
      exact ⟨rfl, rfl⟩
    · have := HN.out.2.2.2 hc
      subst this
      go_wp2_with fail
      go_meet
      exact ⟨rfl, rfl⟩
  case rest =>
    obtain ⟨rfl, hwc⟩ := hcut
    obtain rfl := hwc.symm
    go_wp2_with fail
    go_loopw [13] (fun i wr => ∃ k : Nat, k ≤ N ∧ i = .int .i64 k ∧ Hid (∀ i (h1 : i < fs.length) (h2 : i < (es.map entV).length), i < k → Same fs[i] (es.map entV)[i]) ∧ Hid (Below w.heap.size w wr)) (fun i _ => N - (intOf i).toNat)
    case atStart => exact ⟨0, Nat.zero_le _, rfl, (fun i _ _ h => by omega), Below.refl _ _⟩
    case round =>
      obtain ⟨k, hk, rfl, HA, HBr⟩ := hrel
      have HBAD : Hid (basisBad fs (es.map entV) = basisBad (fs.drop k) ((es.map entV).drop k)) := basisBad_at fs _ k (by omega) (by simp; omega) HA.out
      by_cases hlt : k < N
      · have hkf : k < fs.length := by omega
        have hke : k < es.length := by omega
        have hkm : k < (es.map entV).length := by simp; omega
        obtain ⟨g, vo, b, cp, rfl, hg, c0, c1, hD, hdl⟩ := HC.out k hkf
        obtain ⟨g2, rfl, hg2, e0, e1, e2⟩ := HE.out k hke
        have x0 := (HBr.out.cell (p := ⟨g, k * 2, none⟩) hg).trans c0
        have x1 := (HBr.out.cell (p := ⟨g, k * 2 + 1, none⟩) hg).trans c1
        have y0 := (HBr.out.cell (p := ⟨g2, k * 3, none⟩) hg2).trans e0
        have y1 := (HBr.out.cell (p := ⟨g2, k * 3 + 1, none⟩) hg2).trans e1
        have y2 := (HBr.out.cell (p := ⟨g2, k * 3 + 2, none⟩) hg2).trans e2
        have HEN : Hid (Calls Tryz.prog 133 #[.agg #[.string fs[k].1, .slice vo (nums fs[k].2).length cp]] wr.drew fun e w' => e = .returned (.agg #[.string fs[k].1, .int .i64 (nums fs[k].2).length, .int .u64 (digestOf (nums fs[k].2))]) ∧ Below wr.heap.size wr w') := by
          refine (entryOf_any fs[k].1 vo b cp (nums fs[k].2) wr.drew hdl (nums_bytes _) ((hD.below HBr.out).below (Below.refl _ _).drew)).mono ?_
          rintro e w' ⟨rfl, h⟩
          exact ⟨rfl, ((Below.refl wr.heap.size wr).drew).trans h⟩
        have HNEQ := hide (fun W => ent_neq fs[k].1 es[k].1 (nums fs[k].2).length es[k].2.1 (digestOf (nums fs[k].2)) es[k].2.2 W)
        have HSM : Hid (Same fs[k] (es.map entV)[k] ↔ (decide (nums fs[k].1 = nums es[k].1) && (decide (((nums fs[k].2).length : Int) = ((es[k].2.1 : Nat) : Int)) && decide (digestOf (nums fs[k].2) = es[k].2.2))) = true) := by
          show _ ↔ _
          rw [List.getElem_map]
          simp only [Same, entV, Bool.and_eq_true, decide_eq_true_eq]
        have HGO : Hid (Same fs[k] (es.map entV)[k] → ∀ i (h1 : i < fs.length) (h2 : i < (es.map entV).length), i < k + 1 → Same fs[i] (es.map entV)[i]) := by
          intro h i h1 h2 hik
          rcases Nat.lt_or_ge i k with h' | h'
          · exact HA.out i h1 h2 h'
          · obtain rfl : i = k := by omega
            exact h
        have HST : Hid (¬ Same fs[k] (es.map entV)[k] → basisBad fs (es.map entV) = some (nums (lesserB fs[k].1 es[k].1))) := by
          intro h
          rw [HBAD.out, List.drop_eq_getElem_cons hkf, List.drop_eq_getElem_cons hkm]
          show (if Same fs[k] (es.map entV)[k] then _ else _) = _
          rw [if_neg h, lesserB_nums, List.getElem_map]
          rfl
        have hgr : g < wr.heap.size := Nat.lt_of_lt_of_le hg HBr.out.size
        have hgr2 : g2 < wr.heap.size := Nat.lt_of_lt_of_le hg2 HBr.out.size
        clear c0 c1 e0 e1 e2 hD HBAD HA
        by_cases hsm : Same fs[k] (es.map entV)[k]
        · have hnq : ∀ W, (binOp BinOp.neq 115 (.agg #[.string fs[k].1, .int .i64 (nums fs[k].2).length, .int .u64 (digestOf (nums fs[k].2))]) (.agg #[.string es[k].1, .int .i64 ((es[k].2.1 : Nat) : Int), .int .u64 es[k].2.2])).run Tryz.prog W = .ok (.bool false) W := fun W => by rw [HNEQ.out W, HSM.out.1 hsm]; rfl
          have HG := hide (HGO.out hsm)
          clear hsm HNEQ HSM HGO HST
          generalize fs[k].1 = a at *
          generalize (nums fs[k].2).length = dn at *
          generalize digestOf (nums fs[k].2) = D at *
          generalize es[k].1 = a2 at *
          generalize es[k].2.1 = z at *
          generalize es[k].2.2 = d2 at *
          go_wp2_with fail
          go_region_held3 (fun w' => w'.cell? ⟨g, k * 2, none⟩ = some (.string a) ∧ w'.cell? ⟨g, k * 2 + 1, none⟩ = some (.slice vo dn cp) ∧ w'.cell? ⟨g2, k * 3, none⟩ = some (.string a2) ∧ w'.cell? ⟨g2, k * 3 + 1, none⟩ = some (.int .i64 z) ∧ w'.cell? ⟨g2, k * 3 + 2, none⟩ = some (.int .u64 d2))
            (first | exact ⟨x0, x1, y0, y1, y2⟩ | exact ⟨p0, p1, q0, q1, q2⟩)
            ((go_at_call 133; refine HEN.out.mono ?_; rintro e w2 ⟨rfl, hb2⟩; have p0 := (hb2.cell (p := ⟨g, k * 2, none⟩) hgr).trans x0; have p1 := (hb2.cell (p := ⟨g, k * 2 + 1, none⟩) hgr).trans x1; have q0 := (hb2.cell (p := ⟨g2, k * 3, none⟩) hgr2).trans y0; have q1 := (hb2.cell (p := ⟨g2, k * 3 + 1, none⟩) hgr2).trans y1; have q2 := (hb2.cell (p := ⟨g2, k * 3 + 2, none⟩) hgr2).trans y2))
          have HB2 : Hid (Below w.heap.size w w2) := below_all HBr.out hb2
          clear p0 p1 q0 q1 q2 x0 x1 y0 y1 y2 hb2
          go_wp2_with fail
          go_roundw
          case rel => exact ⟨k + 1, by omega, by go_num, HG.out, HB2.out⟩
          case measure => simp [intOf]; omega
        · have hnq : ∀ W, (binOp BinOp.neq 115 (.agg #[.string fs[k].1, .int .i64 (nums fs[k].2).length, .int .u64 (digestOf (nums fs[k].2))]) (.agg #[.string es[k].1, .int .i64 ((es[k].2.1 : Nat) : Int), .int .u64 es[k].2.2])).run Tryz.prog W = .ok (.bool true) W := fun W => by rw [HNEQ.out W, Bool.eq_false_iff.2 (fun h => hsm (HSM.out.2 h))]; rfl
          have HS := hide (HST.out hsm)
          have hmn := fun ts t W => run_min_text ts t fs[k].1 es[k].1 W
          clear hsm HNEQ HSM HGO HST
          generalize lesserB fs[k].1 es[k].1 = nm at *
          generalize fs[k].1 = a at *
          generalize (nums fs[k].2).length = dn at *
          generalize digestOf (nums fs[k].2) = D at *
          generalize es[k].1 = a2 at *
          generalize es[k].2.1 = z at *
          generalize es[k].2.2 = d2 at *
          go_wp2_with fail
          go_region_held3 (fun w' => w'.cell? ⟨g, k * 2, none⟩ = some (.string a) ∧ w'.cell? ⟨g, k * 2 + 1, none⟩ = some (.slice vo dn cp) ∧ w'.cell? ⟨g2, k * 3, none⟩ = some (.string a2) ∧ w'.cell? ⟨g2, k * 3 + 1, none⟩ = some (.int .i64 z) ∧ w'.cell? ⟨g2, k * 3 + 2, none⟩ = some (.int .u64 d2))
            (first | exact ⟨x0, x1, y0, y1, y2⟩ | exact ⟨p0, p1, q0, q1, q2⟩)
            ((go_at_call 133; refine HEN.out.mono ?_; rintro e w2 ⟨rfl, hb2⟩; have p0 := (hb2.cell (p := ⟨g, k * 2, none⟩) hgr).trans x0; have p1 := (hb2.cell (p := ⟨g, k * 2 + 1, none⟩) hgr).trans x1; have q0 := (hb2.cell (p := ⟨g2, k * 3, none⟩) hgr2).trans y0; have q1 := (hb2.cell (p := ⟨g2, k * 3 + 1, none⟩) hgr2).trans y1; have q2 := (hb2.cell (p := ⟨g2, k * 3 + 2, none⟩) hgr2).trans y2))
          have HB2 : Hid (Below w.heap.size w w2) := below_all HBr.out hb2
          clear x0 x1 y0 y1 y2 hb2 p1 q1 q2
          go_wp2_with fail
          go_region_held3 (fun w' => w'.cell? ⟨g, k * 2, none⟩ = some (.string a) ∧ w'.cell? ⟨g2, k * 3, none⟩ = some (.string a2))
            (first | exact ⟨p0, q0⟩ | exact ⟨by go_keep, by go_keep⟩)
            ((go_at_call 134; refine (HOT.out _ _).mono ?_; rintro e w3 ⟨rfl, hw3⟩; obtain rfl := hw3.symm))
          go_wp2_with fail
          go_ret
          refine ⟨_, rfl, chkQ_at HS.out (by first | exact cell_new rfl rfl | (simp; done)) (by first | exact cell_new rfl rfl | (simp; done)), ?_⟩
          first
          | exact (below_all HB2.out ((Below.refl _ _).alloc (Nat.le_refl _) _)).drew
          | exact below_all HB2.out (((Below.refl _ _).drew).alloc (Nat.le_refl _) _)
      · have hkn : k = N := by omega
        subst hkn
        by_cases h1 : k < fs.length
        · have hke : k = es.length := HN.out.1 h1
          obtain ⟨g, vo, b, cp, rfl, hg, c0, c1, hD, hdl⟩ := HC.out k h1
          have x0 := (HBr.out.cell (p := ⟨g, k * 2, none⟩) hg).trans c0
          have HS : Hid (basisBad fs (es.map entV) = some (nums fs[k].1)) := by
            show _ = _
            rw [HBAD.out, List.drop_eq_getElem_cons h1, List.drop_of_length_le (l := es.map entV) (by rw [List.length_map]; omega)]
            rfl
          have h1' : (k : Int) < (fs.length : Int) := by omega
          clear c0 c1 hD HBAD HA HN hke
          generalize fs[k].1 = nm at *
          go_wp2_with fail
          refine (HOT.out _ _).mono ?_
          rintro e w3 ⟨rfl, hw3⟩
          obtain rfl := hw3.symm
          go_wp2_with fail
          go_ret
          exact ⟨_, rfl, chkQ_new HS.out _, below_all HBr.out ((Below.refl _ _).alloc (Nat.le_refl _) _)⟩
        · by_cases h2 : k < es.length
          · have hkf : k = fs.length := HN.out.2.1 h2
            obtain ⟨g2, rfl, hg2, e0, e1, e2⟩ := HE.out k h2
            have y0 := (HBr.out.cell (p := ⟨g2, k * 3, none⟩) hg2).trans e0
            have HS : Hid (basisBad fs (es.map entV) = some (nums es[k].1)) := by
              show _ = _
              rw [HBAD.out, List.drop_of_length_le (l := fs) (by omega), List.drop_eq_getElem_cons (l := es.map entV) (by rw [List.length_map]; omega), List.getElem_map]
              rfl
            have h2' : (k : Int) < (es.length : Int) := by omega
            clear e0 e1 e2 HBAD HA HN hkf
            generalize es[k].1 = nm at *
            go_wp2_with fail
            refine (HOT.out _ _).mono ?_
            rintro e w3 ⟨rfl, hw3⟩
            obtain rfl := hw3.symm
            go_wp2_with fail
            go_ret
            exact ⟨_, rfl, chkQ_new HS.out _, below_all HBr.out ((Below.refl _ _).alloc (Nat.le_refl _) _)⟩
          · have HS : Hid (ChkQ fs (es.map entV) .nilIface wr) := by
              show ChkQ _ _ _ _
              unfold ChkQ
              rw [HBAD.out, List.drop_of_length_le (l := fs) (by omega), List.drop_of_length_le (l := es.map entV) (by rw [List.length_map]; omega)]
              rfl
            clear HBAD HA HN
            go_wp2_with fail
            go_ret
            exact ⟨_, rfl, HS.out, HBr.out⟩
end Go.Proofs.YtbhccdedcoajmaaGreatDoor
namespace Go.Proofs.YtbhccdedcoajmaaGreatDoor
open Go.RowKit Go.Extern.Stop Go.Stop Go.Extern

theorem Tryz.assignableFK (w : World) : (ReflectliteType.relation "AssignableTo" ReflectliteType.assignableTo #[.agg #[.pointer (some ⟨1, 276, none⟩)], .iface 210 (.agg #[.pointer (some ⟨1, 50, none⟩)])]).run Tryz.prog w = .ok (.bool false) w := by kernel_rfl
theorem Tryz.typeOfFault (v : Value) (w : World) : (ReflectliteType.typeOf #[.iface 276 v]).run Tryz.prog w = .ok (.iface 210 (.agg #[.pointer (some ⟨1, 276, none⟩)])) w := by kernel_rfl
theorem Tryz.faultNoAs (v : Value) (xT : TypeId) (w : World) : (Instr.typeAssert (.iface 276 v) xT 215 true).run Tryz.prog w = .ok (.tuple #[.nilIface, .bool false]) w := run_typeAssert_lacksB Tryz.underlying215 (by kernel_rfl) (by kernel_rfl) v xT w
theorem Tryz.faultUnwrap (v : Value) (xT : TypeId) (w : World) : (Instr.typeAssert (.iface 276 v) xT 218 true).run Tryz.prog w = .ok (.tuple #[.iface 276 v, .bool true]) w := run_typeAssert_hasB Tryz.underlying218 (by kernel_rfl) v xT w
theorem Tryz.methodUnwrap (v : Value) (w : World) : (Go.method 416 276 v "Unwrap").run Tryz.prog w = .ok (211, v) w := by kernel_rfl

set_option maxHeartbeats 4000000 in
/-- errors.As of a fault within which a kind is wrapped: it finds the kind -/
theorem as_hitU (fb : Addr) (t : Addr) (old : Value) (w : World) (hg : w.cell? ⟨0, 0, none⟩ = some (.iface 210 (.agg #[.pointer (some ⟨1, 86, none⟩)]))) (ht0 : w.cell? t = some old) (hf0 : w.frozen? t = false) :
    Calls Tryz.prog 49 #[.iface 276 (.pointer (some fb)), .iface 128 (.pointer (some t))] w fun ev w' => ev = .returned (.bool true) ∧ w' = ((((w.alloc (.cells #[.pointer (some t)] 128)).alloc (.cells #[.pointer (some ⟨1, 128, none⟩), .pointer (some ⟨w.heap.size, 0, none⟩), .int .u64 150] 171)).alloc (.cells #[.pointer (some ⟨1, 128, none⟩), .pointer (some ⟨w.heap.size, 0, none⟩), .int .u64 150] 171)).alloc (.cells #[.int .i64 5] 50)).setCell t (.int .i64 5) := by
  have h6 := @run_callFunc_extern Tryz.prog 75 _ (fun args => ReflectliteValue.unpack (args.getD 0 (.tuple #[]))) Tryz.func75 (by kernel_rfl) (by kernel_rfl) (by kernel_rfl) (by kernel_rfl)
  have h7 := @run_callFunc_extern Tryz.prog 76 _ (ReflectliteValue.methodAny (ReflectliteValue.valueError "reflectlite.Value.Type" 0) (fun t _ _ _ => ReflectliteType.toType t)) Tryz.func76 (by kernel_rfl) (by kernel_rfl) (by kernel_rfl) (by kernel_rfl)
  have h8 := @run_callFunc_extern Tryz.prog 77 _ (ReflectliteValue.method (ReflectliteValue.valueError "reflectlite.Value.IsNil" 0) ReflectliteValue.isNil) Tryz.func77 (by kernel_rfl) (by kernel_rfl) (by kernel_rfl) (by kernel_rfl)
  have h27 := @run_callFunc_extern Tryz.prog 190 _ (ReflectliteType.abiMethod fun t => do pure (.int .u8 (← Rtype.kind t))) Tryz.func190 (by kernel_rfl) (by kernel_rfl) (by kernel_rfl) (by kernel_rfl)
  have h37 := @run_callFunc_extern Tryz.prog 202 _ (ReflectliteType.method ReflectliteType.elem) Tryz.func202 (by kernel_rfl) (by kernel_rfl) (by kernel_rfl) (by kernel_rfl)
  have h38 := @run_callFunc_extern Tryz.prog 203 _ (ReflectliteType.relation "Implements" ReflectliteType.implements_) Tryz.func203 (by kernel_rfl) (by kernel_rfl) (by kernel_rfl) (by kernel_rfl)
  have h10 := @run_callFunc_extern Tryz.prog 111 _ ReflectliteType.typeOf Tryz.func111 (by kernel_rfl) (by kernel_rfl) (by kernel_rfl) (by kernel_rfl)
  have h35 := @run_callFunc_extern Tryz.prog 200 _ (ReflectliteType.relation "AssignableTo" ReflectliteType.assignableTo) Tryz.func200 (by kernel_rfl) (by kernel_rfl) (by kernel_rfl) (by kernel_rfl)
  have h11 := @run_callFunc_extern Tryz.prog 112 _ (ReflectliteValue.method (ReflectliteValue.valueError "reflectlite.Value.Elem" 0) ReflectliteValue.elem) Tryz.func112 (by kernel_rfl) (by kernel_rfl) (by kernel_rfl) (by kernel_rfl)
  have h12 := @run_callFunc_extern Tryz.prog 113 _ ReflectliteValue.set Tryz.func113 (by kernel_rfl) (by kernel_rfl) (by kernel_rfl) (by kernel_rfl)
  have tO := Tryz.typeOf50
  have tU := Tryz.typeOfFault
  have aU := Tryz.assignableFK
  have nU := Tryz.faultNoAs
  have hU := Tryz.faultUnwrap
  have mU := Tryz.methodUnwrap
  have mA := Tryz.methodAssignableTo
  have a25 := Tryz.assignable50
  have v25 := Tryz.valueOf50
  have f6 := Tryz.valueOf128
  have f7 := Tryz.type128
  have mK := Tryz.methodKind
  have mE := Tryz.methodElem
  have mI := Tryz.methodImplements
  have k27 := Tryz.kind128
  have k25 := Tryz.kind50
  have e27 := Tryz.elem128
  have i25 := Tryz.implements50
  have n8 := Tryz.isNil128 ⟨w.heap.size, 0, none⟩ t ((w.alloc (.cells #[.pointer (some t)] 128)).alloc (.cells #[.pointer (some ⟨1, 128, none⟩), .pointer (some ⟨w.heap.size, 0, none⟩), .int .u64 150] 171)) (by simp)
  have hlt : 0 < w.heap.size := by
    rcases Nat.lt_or_ge 0 w.heap.size with h | h
    · exact h
    · simp [World.cell?, Array.getElem?_eq_none h] at hg
  have hg2 : ((w.alloc (.cells #[.pointer (some t)] 128)).alloc (.cells #[.pointer (some ⟨1, 128, none⟩), .pointer (some ⟨w.heap.size, 0, none⟩), .int .u64 150] 171)).cell? ⟨0, 0, none⟩ = some (.iface 210 (.agg #[.pointer (some ⟨1, 86, none⟩)])) := by
    rw [World.cell?_alloc_lt _ _ ⟨0, 0, none⟩ (by first | (simp; done) | (simp; omega)), World.cell?_alloc_lt _ _ ⟨0, 0, none⟩ hlt]; exact hg
  have htl : t.block < w.heap.size := by
    rcases Nat.lt_or_ge t.block w.heap.size with h | h
    · exact h
    · simp [World.cell?, Array.getElem?_eq_none h] at ht0
  have el := Tryz.elemV128 ⟨w.heap.size, 0, none⟩ t (((w.alloc (.cells #[.pointer (some t)] 128)).alloc (.cells #[.pointer (some ⟨1, 128, none⟩), .pointer (some ⟨w.heap.size, 0, none⟩), .int .u64 150] 171)).alloc (.cells #[.pointer (some ⟨1, 128, none⟩), .pointer (some ⟨w.heap.size, 0, none⟩), .int .u64 150] 171)) (by rw [World.cell?_alloc_lt _ _ ⟨w.heap.size, 0, none⟩ (by simp; omega)]; simp)
  have st := Tryz.set50 t ⟨w.heap.size + 1 + 1 + 1, 0, none⟩ 5 old ((((w.alloc (.cells #[.pointer (some t)] 128)).alloc (.cells #[.pointer (some ⟨1, 128, none⟩), .pointer (some ⟨w.heap.size, 0, none⟩), .int .u64 150] 171)).alloc (.cells #[.pointer (some ⟨1, 128, none⟩), .pointer (some ⟨w.heap.size, 0, none⟩), .int .u64 150] 171)).alloc (.cells #[.int .i64 5] 50))
    (by rw [World.cell?_alloc_at _ _ _ _ (by simp)]; rfl)
    (by rw [World.cell?_alloc_lt _ _ t (by simp; omega), World.cell?_alloc_lt _ _ t (by simp; omega), World.cell?_alloc_lt _ _ t (by simp; omega), World.cell?_alloc_lt _ _ t htl]; exact ht0)
    (by rw [World.frozen?_alloc_old _ _ t (by simp; omega), World.frozen?_alloc_old _ _ t (by simp; omega), World.frozen?_alloc_old _ _ t (by simp; omega), World.frozen?_alloc_old _ _ t (Nat.ne_of_lt htl)]; exact hf0)
  go_enter Tryz.func49, Tryz.ntmps49
  go_wp2
  refine wp_loop_rounds 2 ?_
  rw [rounds_succ]
  go_wp2
  rw [rounds_succ]
  go_wp2
  go_ret
  exact ⟨rfl, rfl⟩
end Go.Proofs.YtbhccdedcoajmaaGreatDoor
