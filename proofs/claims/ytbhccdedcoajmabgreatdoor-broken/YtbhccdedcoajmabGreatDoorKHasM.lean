import Derived.Test.YtbhccdedcoajmabGreatDoorMir
import Derived.Test.YtbhccdedcoajmabGreatDoorPApplyM
import Derived.Deep.QuietTactic
import Derived.BigQuiet
import Derived.Test.YtbhccdedcoajmabGreatDoorPBatch
import Derived.Test.YtbhccdedcoajmabGreatDoorRFindM
import Derived.Test.YtbhccdedcoajmabGreatDoorPRecAM
import Derived.Deep.RegionHeld3
namespace Go.Proofs.YtbhccdedcoajmabGreatDoor
open Go.RowKit

theorem conv_data {vo : Option Addr} {b cp : Nat} {d : ByteArray} {w : World} (ho : vo = none ∧ cp = 0 ∨ vo = some ⟨b, 0, none⟩) (hD : DataAt w vo b cp (nums d)) :
    (convert 25 9 (.slice vo (nums d).length cp)).run Tryz.prog w = .ok (.string d) w := by
  have hd : bytesOf (nums d) = d := nums_inj (nums_bytesOf (nums_bytes d))
  rcases ho with ⟨rfl, rfl⟩ | rfl
  · have hz : nums d = [] := by
      cases h : nums d with
      | nil => rfl
      | cons z r => have := hD.1 (by rw [h]; simp); cases this
    have hde : d = ⟨#[]⟩ := nums_inj (by rw [hz]; rfl)
    rw [hz, hde]
    exact Tryz.convNil w
  · have := conv_cells b 0 cp (nums d) w (nums_bytes d) hD.2.2
    rw [hd] at this
    exact this
/-- what mirrorkeep.same tells of two lists of files -/
def SameQ (fs gs : List (ByteArray × ByteArray)) (v : Value) : Prop := ∃ b : Bool, v = .bool b ∧ (b = true ↔ fs = gs)
theorem same_no {fs gs : List (ByteArray × ByteArray)} (h : fs ≠ gs) : SameQ fs gs (.bool false) := ⟨false, rfl, by constructor <;> intro e; cases e; exact absurd e h⟩

set_option maxRecDepth 10000 in
set_option maxHeartbeats 1000000 in
theorem same_any (v u : Value) (fs gs : List (ByteArray × ByteArray)) (w : World) (hl : fs.length ≤ 70000) (hF : Ag w v fs) (hG : Ag w u gs) :
    Calls Tryz.prog 14 #[v, u] w fun e w' => ∃ r, e = .returned r ∧ SameQ fs gs r ∧ Below w.heap.size w w' := by
  obtain ⟨va, cap, rfl, hcap, hcell⟩ := hF
  obtain ⟨ua, cap2, rfl, hcap2, hcell2⟩ := hG
  by_cases hn : fs.length = gs.length
  · have HC : Hid (∀ k (hk : k < fs.length), ∃ (g g2 : Nat) (vo vo2 : Option Addr) (cp cp2 : Nat) (a a2 d d2 : ByteArray), va = some ⟨g, 0, none⟩ ∧ ua = some ⟨g2, 0, none⟩ ∧ g < w.heap.size ∧ g2 < w.heap.size ∧ w.cell? ⟨g, k * 2, none⟩ = some (.string a) ∧ w.cell? ⟨g, k * 2 + 1, none⟩ = some (.slice vo (nums d).length cp) ∧ w.cell? ⟨g2, k * 2, none⟩ = some (.string a2) ∧ w.cell? ⟨g2, k * 2 + 1, none⟩ = some (.slice vo2 (nums d2).length cp2) ∧
        (∀ W, Below w.heap.size w W → (convert 25 9 (.slice vo (nums d).length cp)).run Tryz.prog W = .ok (.string d) W) ∧ (∀ W, Below w.heap.size w W → (convert 25 9 (.slice vo2 (nums d2).length cp2)).run Tryz.prog W = .ok (.string d2) W) ∧ fs[k] = (a, d) ∧ gs[k]? = some (a2, d2)) := by
      intro k hk
      obtain ⟨g, vo, b, cp, e, hg, c0, c1, ho, hD⟩ := hcell k hk
      obtain ⟨g2, vo2, b2, cp2, e2, hg2, d0, d1, ho2, hD2⟩ := hcell2 k (by omega)
      exact ⟨g, g2, vo, vo2, cp, cp2, _, _, _, _, e, e2, hg, hg2, c0, c1, d0, d1, fun W hb => conv_data ho (hD.below hb), fun W hb => conv_data ho2 (hD2.below hb), rfl, List.getElem?_eq_getElem (by omega)⟩
    have HEND : Hid ((∀ j (hj : j < fs.length), gs[j]? = some fs[j]) → fs = gs) := by
      intro h
      refine List.ext_getElem hn fun i h1 h2 => ?_
      have := h i h1
      rw [List.getElem?_eq_getElem h2] at this
      exact (Option.some.inj this).symm
    clear hcell hcell2
    rw [← hn] at hcap2 ⊢
    clear hn
    go_enter Tryz.func14, Tryz.ntmps14
    go_wp2_with fail
    go_loopw [5] (fun i wr => ∃ k : Nat, k ≤ fs.length ∧ i = .int .i64 k ∧ Hid (∀ j (hj : j < fs.length), j < k → gs[j]? = some fs[j]) ∧ Hid (Below w.heap.size w wr)) (fun i _ => fs.length - (intOf i).toNat)
    case atStart => exact ⟨0, Nat.zero_le _, rfl, (fun j _ hj => by omega), Below.refl _ _⟩
    case round =>
      obtain ⟨k, hk, rfl, HA, HBr⟩ := hrel
      by_cases hlt : k < fs.length
      · obtain ⟨g, g2, vo, vo2, cp, cp2, a, a2, d, d2, rfl, rfl, hg, hg2, c0, c1, e0, e1, hv, hv2, hfk, hgk⟩ := HC.out k hlt
        have x0 := (HBr.out.cell (p := ⟨g, k * 2, none⟩) hg).trans c0
        have x1 := (HBr.out.cell (p := ⟨g, k * 2 + 1, none⟩) hg).trans c1
        have y0 := (HBr.out.cell (p := ⟨g2, k * 2, none⟩) hg2).trans e0
        have y1 := (HBr.out.cell (p := ⟨g2, k * 2 + 1, none⟩) hg2).trans e1
        have q1 : ∀ q, (convert 25 9 (.slice vo (nums d).length cp)).run Tryz.prog (wr.drewN q) = .ok (.string d) (wr.drewN q) := fun q => hv _ (below_drewN HBr.out q)
        have q2 : ∀ q, (convert 25 9 (.slice vo2 (nums d2).length cp2)).run Tryz.prog (wr.drewN q) = .ok (.string d2) (wr.drewN q) := fun q => hv2 _ (below_drewN HBr.out q)
        have HNO : Hid (¬ (nums a = nums a2 ∧ nums d = nums d2) → fs ≠ gs) := by
          intro h e
          subst e
          rw [List.getElem?_eq_getElem hlt, hfk] at hgk
          simp only [Option.some.injEq, Prod.mk.injEq] at hgk
          exact h ⟨by rw [hgk.1], by rw [hgk.2]⟩
        have HYES : Hid (nums a = nums a2 → nums d = nums d2 → ∀ j (hj : j < fs.length), j < k + 1 → gs[j]? = some fs[j]) := by
          intro h1 h2 j hj hjk
          rcases Nat.lt_or_ge j k with h | h
          · exact HA.out j hj h
          · obtain rfl : j = k := by omega
            rw [hgk, hfk, nums_inj h1, nums_inj h2]
        have t1 := text_eq a a2
        have t2 := text_eq d d2
        clear c0 c1 e0 e1 hv hv2 hfk hgk
        generalize (nums d).length = dn at *
        generalize (nums d2).length = dn2 at *
        by_cases h1 : nums a = nums a2
        · rw [decide_eq_true h1] at t1
          have t1' : (a.toList != a2.toList) = false := by rw [bne, t1]; rfl
          by_cases h2 : nums d = nums d2
          · rw [decide_eq_true h2] at t2
            have t2' : (d.toList != d2.toList) = false := by rw [bne, t2]; rfl
            have HY := hide (HYES.out h1 h2)
            clear h1 h2 HYES HNO
            go_wp2_with fail
            go_quiet (fail)
            go_wp2_with fail
            go_roundw
            case rel => exact ⟨k + 1, by omega, by go_num, HY.out, below_drewN HBr.out _⟩
            case measure => simp [intOf]; omega
          · rw [decide_eq_false h2] at t2
            have t2' : (d.toList != d2.toList) = true := by rw [bne, t2]; rfl
            have HN := hide (HNO.out (fun h => h2 h.2))
            clear h1 h2 HYES HNO
            go_wp2_with fail
            go_quiet (fail)
            go_wp2_with fail
            go_ret
            exact ⟨_, rfl, same_no HN.out, below_drewN HBr.out _⟩
        · rw [decide_eq_false h1] at t1
          have t1' : (a.toList != a2.toList) = true := by rw [bne, t1]; rfl
          have HN := hide (HNO.out (fun h => h1 h.1))
          clear h1 HYES HNO t2
          go_wp2_with fail
          go_quiet (fail)
          go_wp2_with fail
          go_ret
          exact ⟨_, rfl, same_no HN.out, below_drewN HBr.out _⟩
      · have HE := hide (HEND.out (fun j hj => HA.out j hj (by omega)))
        go_wp2_with fail
        go_ret
        exact ⟨_, rfl, ⟨true, rfl, fun _ => HE.out, fun _ => rfl⟩, HBr.out⟩
  · have hni : ¬ ((fs.length : Nat) : Int) = (gs.length : Int) := by omega
    have HN : Hid (fs ≠ gs) := fun e => hn (by rw [e])
    clear hcell hcell2 hn
    go_enter Tryz.func14, Tryz.ntmps14
    go_wp2_with fail
    go_ret
    exact ⟨_, rfl, same_no HN.out, Below.refl _ _⟩

set_option maxHeartbeats 400000 in
theorem has_any (m : Nat) (room : Int) (lo hi : Nat) (v v2 : Value) (fs : List (ByteArray × ByteArray)) (u : Value) (gs : List (ByteArray × ByteArray)) (w : World) (hM : Mir w m room lo hi v v2 fs false) (hl : fs.length ≤ 70000) (hz : ∀ p ∈ fs, p.2.size ≤ 70000) (hG : Ag w u gs) :
    Calls Tryz.prog 12 #[.pointer (some ⟨m, 0, none⟩), u] w fun e w' => ∃ r, e = .returned r ∧ SameQ fs gs r ∧ Below w.heap.size w w' := by
  have HPF := hide (pFiles_ok m room lo hi v v2 fs w hM hl hz)
  have HG := hide hG
  clear hM hz hG
  go_enter Tryz.func12, Tryz.ntmps12
  go_wp2_with fail
  refine HPF.out.mono ?_
  rintro e w1 ⟨t, ps, rfl, hfr, hps, hb⟩
  have HA1 : Hid (Ag w1 t fs) := by rw [← hps]; exact hfr.ag
  have HB1 := hide hb
  have HG1 := hide (HG.out.below hb)
  clear hfr hps hb HPF HG
  go_wp2_with fail
  refine (same_any t u fs gs w1 hl HA1.out HG1.out).mono ?_
  rintro e w2 ⟨r, rfl, ⟨b, rfl, hb⟩, hb2⟩
  have HQ := hide hb
  have HB2 : Hid (Below w.heap.size w w2) := below_all HB1.out hb2
  clear hb hb2
  cases b with
  | false =>
    go_wp2_with fail
    go_ret
    exact ⟨_, rfl, ⟨false, rfl, HQ.out⟩, HB2.out⟩
  | true =>
    have HT := hide (HQ.out.1 (by first | rfl | trivial))
    clear HQ
    go_wp2_with fail
    go_ret
    exact ⟨_, rfl, ⟨true, rfl, fun _ => HT.out, fun _ => rfl⟩, HB2.out⟩

/-- how many bytes a list of files has -/
def bytesIn (fs : List (ByteArray × ByteArray)) : Nat := (fs.map fun p => p.2.size).sum
theorem bytesIn_le {fs : List (ByteArray × ByteArray)} {c : Nat} (h : ∀ p ∈ fs, p.2.size ≤ c) : bytesIn fs ≤ fs.length * c := by
  unfold bytesIn
  induction fs with
  | nil => simp
  | cons p fs ih =>
    have := ih (fun q hq => h q (by simp [hq]))
    have := h p (by simp)
    rw [List.map_cons, List.sum_cons, List.length_cons, Nat.add_mul]
    omega
theorem bytesIn_take {fs : List (ByteArray × ByteArray)} {k : Nat} (hk : k < fs.length) : bytesIn (fs.take (k + 1)) = bytesIn (fs.take k) + fs[k].2.size := by
  unfold bytesIn
  rw [List.take_succ_eq_append_getElem hk, List.map_append, List.sum_append]
  simp
set_option maxRecDepth 10000 in
set_option maxHeartbeats 1000000 in
theorem all_any (v : Value) (fs : List (ByteArray × ByteArray)) (w : World) (hl : fs.length ≤ 8) (hz : ∀ p ∈ fs, p.2.size ≤ 300) (hF : Af w v fs) :
    Calls Tryz.prog 10 #[v] w fun e w' => e = .returned (.int .i64 (bytesIn fs : Nat)) ∧ w' = w := by
  obtain ⟨va, cap, rfl, hcap, hcell⟩ := hF
  have HC : Hid (∀ k (hk : k < fs.length), ∃ (g z b cp : Nat), va = some ⟨g, 0, none⟩ ∧ w.cell? ⟨g, k * 2 + 1, none⟩ = some (.slice (some ⟨b, 0, none⟩) z cp) ∧ z ≤ 300 ∧ z ≤ cp ∧ bytesIn (fs.take (k + 1)) = bytesIn (fs.take k) + z) := by
    intro k hk
    obtain ⟨g, b, cp, e, hg, c0, c1, _, hcp, _⟩ := hcell k hk
    exact ⟨g, _, b, cp, e, c1, hz _ (List.getElem_mem hk), hcp, bytesIn_take hk⟩
  have HB : Hid (∀ k, bytesIn (fs.take k) ≤ 2400) := by
    intro k
    have h1 := bytesIn_le (fs := fs.take k) (c := 300) (fun p hp => hz p (List.mem_of_mem_take hp))
    have h2 : (fs.take k).length ≤ 8 := by rw [List.length_take]; omega
    omega
  have HTK : Hid (fs.take fs.length = fs) := List.take_of_length_le (Nat.le_refl _)
  clear hcell hz
  go_enter Tryz.func10, Tryz.ntmps10
  go_wp2_with fail
  go_loop [3, 4] (fun v3 v4 => ∃ k : Nat, k ≤ fs.length ∧ v4 = .int .i64 k ∧ v3 = .int .i64 (bytesIn (fs.take k) : Nat)) (fun _ v4 => fs.length - (intOf v4).toNat)
  case atStart => exact ⟨0, Nat.zero_le _, rfl, rfl⟩
  case round =>
    obtain ⟨k, hk, rfl, rfl⟩ := hrel
    by_cases hlt : k < fs.length
    · obtain ⟨g, z, b, cp, rfl, c1, hz3, hzc, hst⟩ := HC.out k hlt
      have HS := hide hst
      have hB := HB.out k
      clear hst
      generalize bytesIn (fs.take k) = x at *
      go_wp2_with fail
      go_round
      case rel => exact ⟨k + 1, by omega, by go_num, by rw [HS.out]; go_num⟩
      case measure => simp [intOf]; omega
    · have hkn : k = fs.length := by omega
      subst hkn
      rw [HTK.out]
      go_wp2_with fail
      go_ret
      exact ⟨rfl, rfl⟩
end Go.Proofs.YtbhccdedcoajmabGreatDoor
namespace Go.Proofs.YtbhccdedcoajmabGreatDoor
open Go Go.RowKit

/-- is a file what is told of it? -/
abbrev Same (p : ByteArray × ByteArray) (e : EntL) : Prop := nums p.1 = e.name ∧ ((nums p.2).length : Int) = e.size ∧ digestOf (nums p.2) = e.digest
/-- the lesser of two names -/
def lesser (a b : List Int) : List Int := if ltL b a = true then b else a
/-- the name at which a tree is not a basis -/
def basisBad : List (ByteArray × ByteArray) → List EntL → Option (List Int)
  | [], [] => none
  | p :: _, [] => some (nums p.1)
  | [], e :: _ => some e.name
  | p :: fs, e :: es => if Same p e then basisBad fs es else some (lesser (nums p.1) e.name)
theorem basisBad_at : ∀ (fs : List (ByteArray × ByteArray)) (es : List EntL) (k : Nat), k ≤ fs.length → k ≤ es.length → (∀ i (h1 : i < fs.length) (h2 : i < es.length), i < k → Same fs[i] es[i]) → basisBad fs es = basisBad (fs.drop k) (es.drop k)
  | fs, es, 0, _, _, _ => rfl
  | p :: fs, e :: es, k + 1, h1, h2, h => by
    have h0 : Same p e := h 0 (by simp) (by simp) (by omega)
    show (if Same p e then basisBad fs es else _) = basisBad (fs.drop k) (es.drop k)
    rw [if_pos h0]
    exact basisBad_at fs es k (by simpa using h1) (by simpa using h2) fun i a b c => h (i + 1) (by simpa using a) (by simpa using b) (by omega)
theorem basisBad_self : ∀ (fs : List (ByteArray × ByteArray)), basisBad fs ((fs.map filOf).map entOf) = none
  | [] => rfl
  | p :: fs => by
    show (if Same p (entOf (filOf p)) then basisBad fs ((fs.map filOf).map entOf) else _) = none
    rw [if_pos ⟨rfl, rfl, rfl⟩]
    exact basisBad_self fs

/-- what a batch's targets make of a tree: the files, or the name of the first that is not what it says -/
def makeGo (fs : List (ByteArray × ByteArray)) (B : Nat) : List (EntL × List Tok) → Except (List Int) (List (List Int × List Int))
  | [] => .ok []
  | x :: r => match applyGo (findL (fs.map filOf) x.1.name) B [] x.2 with
    | .error _ => .error x.1.name
    | .ok d => if digestOf d = x.1.digest then (makeGo fs B r).map ((x.1.name, d) :: ·) else .error x.1.name
def sizesL (ts : List (EntL × List Tok)) : Int := (ts.map fun x => x.1.size).sum
/-- what a replay of a batch comes to: a kind and a name, or the files -/
def replayL (fs : List (ByteArray × ByteArray)) (x : BatL) (room : Int) : Except (Int × List Int) (List (List Int × List Int)) :=
  match basisBad fs x.basis with
  | some n => .error (9, n)
  | none => if room < sizesL x.targets then .error (10, []) else match makeGo fs x.block.toNat x.targets with
    | .error n => .error (11, n)
    | .ok l => .ok l
theorem makeGo_diffs {fr : List (ByteArray × ByteArray)} {B : Nat} (hB : 0 < B) : ∀ (fs : List (ByteArray × ByteArray)), (∀ p ∈ fs, p.2.size ≤ 300) → makeGo fr B ((fs.map filOf).map fun f => (entOf f, diffOf (findL (fr.map filOf) f.name) f.data B)) = .ok (fs.map fun p => (nums p.1, nums p.2))
  | [], _ => rfl
  | p :: fs, h => by
    rw [List.map_cons, List.map_cons]
    unfold makeGo
    have h1 : applyGo (findL (fr.map filOf) (entOf (filOf p)).name) B [] (diffOf (findL (fr.map filOf) (filOf p).name) (filOf p).data B) = .ok (nums p.2) := apply_diff hB (by rw [show (filOf p).data = nums p.2 from rfl, nums_length]; exact h p (by simp))
    simp only [h1]
    rw [if_pos (show digestOf (nums p.2) = (entOf (filOf p)).digest from rfl), makeGo_diffs hB fs fun q hq => h q (by simp [hq])]
    rfl
theorem sizes_diffs {fr : List (ByteArray × ByteArray)} {B : Nat} : ∀ (fs : List (ByteArray × ByteArray)), sizesL ((fs.map filOf).map fun f => (entOf f, diffOf (findL (fr.map filOf) f.name) f.data B)) = (fs.map fun p => (p.2.size : Int)).sum
  | [] => rfl
  | p :: fs => by
    have := sizes_diffs (fr := fr) (B := B) fs
    unfold sizesL at *
    rw [List.map_cons, List.map_cons, List.map_cons, List.sum_cons, this, List.map_cons, List.sum_cons]
    congr 1
    show ((nums p.2).length : Int) = _
    rw [nums_length]
end Go.Proofs.YtbhccdedcoajmabGreatDoor
namespace Go.Proofs.YtbhccdedcoajmabGreatDoor
open Go.RowKit

/-- the lesser of two names -/
def lesserB (x y : ByteArray) : ByteArray := if ltL (nums y) (nums x) = true then y else x
theorem lesserB_nums (x y : ByteArray) : nums (lesserB x y) = lesser (nums x) (nums y) := by
  unfold lesserB lesser
  split <;> rfl
theorem run_min_text (ts : Array TypeId) (t : TypeId) (x y : ByteArray) (w : World) : (Builtin.min_ ts t #[.string x, .string y]).run Tryz.prog w = .ok (.string (lesserB x y)) w := by
  have h := text_gtr x y
  unfold lesserB
  rw [← h]
  simp [Builtin.min_, Builtin.min2, Op.stringOp, asBool]
  cases Op.bytesLess x.toList y.toList <;> cases x.toList == y.toList <;> simp
theorem ent_neq (a a2 : ByteArray) (n z D d : Int) (w : World) : (binOp BinOp.neq 178 (.agg #[.string a, .int .i64 n, .int .u64 D]) (.agg #[.string a2, .int .i64 z, .int .u64 d])).run Tryz.prog w = .ok (.bool (!(decide (nums a = nums a2) && (decide (n = z) && decide (D = d))))) w := by
  rw [← text_eq, run_neq_struct]
  cases h1 : a.toList == a2.toList <;> cases h2 : decide (n = z) <;> cases h3 : decide (D = d)
  all_goals
    simp only [decide_eq_true_eq, decide_eq_false_iff_not] at h2 h3
    simp [go_sem, Op.eqFields, h1, h2, h3]
set_option maxHeartbeats 400000 in
theorem otherBasis_any (nm : ByteArray) (w : World) :
    Calls Tryz.prog 96 #[.string nm] w fun e w' => e = .returned (.iface 69 (.pointer (some ⟨w.heap.size, 0, none⟩))) ∧ w' = w.alloc (.cells #[.string nm, .int .i64 9] 73) := by
  go_enter Tryz.func96, Tryz.ntmps96
  go_wp2_with fail
  go_ret
  exact ⟨rfl, rfl⟩
set_option maxRecDepth 10000 in
set_option maxHeartbeats 1000000 in
theorem entryOf_any (a : ByteArray) (vo : Option Addr) (b cp : Nat) (zs : List Int) (w : World) (hm : zs.length ≤ 70000) (hz : Bytes zs) (hD : DataAt w vo b cp zs) :
    Calls Tryz.prog 95 #[.agg #[.string a, .slice vo zs.length cp]] w fun e w' => e = .returned (.agg #[.string a, .int .i64 zs.length, .int .u64 (digestOf zs)]) ∧ Below w.heap.size w w' := by
  obtain ⟨o1, ho1⟩ : ∃ o, o = Obj.cells #[.string a, .slice vo zs.length cp] 37 := ⟨_, rfl⟩
  obtain ⟨o2, ho2⟩ : ∃ o, o = Obj.cells #[.string ⟨#[]⟩, .int .i64 0, .int .u64 0] 178 := ⟨_, rfl⟩
  have hb : Below w.heap.size w ((w.alloc o1).alloc o2) := ((Below.refl _ _).alloc (Nat.le_refl _) _).alloc (by simp) _
  have HD : Hid (Calls Tryz.prog 67 #[.slice vo zs.length cp] ((w.alloc o1).alloc o2).drew fun e w' => e = .returned (.int .u64 (digestOf zs)) ∧ w' = ((w.alloc o1).alloc o2).drew) := digest_opt vo b cp zs _ hm hz ((hD.below hb).below (Below.refl _ _).drew)
  have hrow : ((w.alloc o1).alloc o2).heap[w.heap.size + 1]? = some (.cells #[.string ⟨#[]⟩, .int .i64 0, .int .u64 0] 178 (0, 0)) := by
    have := heap_alloc_new (w.alloc o1) o2
    rw [show (w.alloc o1).heap.size = w.heap.size + 1 by simp] at this
    rw [this, ho2]
  have x0 : ((w.alloc o1).alloc o2).cell? ⟨w.heap.size, 0, none⟩ = some (.string a) := by
    rw [World.cell?_alloc_lt _ _ _ (by simp), ho1]; exact cell_new rfl rfl
  have x1 : ((w.alloc o1).alloc o2).cell? ⟨w.heap.size, 1, none⟩ = some (.slice vo zs.length cp) := by
    rw [World.cell?_alloc_lt _ _ _ (by simp), ho1]; exact cell_new rfl rfl
  have HB := hide hb
  rw [ho1, ho2] at HD x0 x1 HB hrow
  clear hD hz hb ho1 ho2
  generalize hzn : zs.length = n at *
  generalize digestOf zs = D at *
  clear hzn
  go_enter Tryz.func95, Tryz.ntmps95
  go_wp2_with fail
  generalize hWA : (w.alloc (.cells #[.string a, .slice vo n cp] 37)).alloc (.cells #[.string ⟨#[]⟩, .int .i64 0, .int .u64 0] 178) = wa at *
  clear hWA
  have k0 : wa.cell? ⟨w.heap.size + 1, 0, none⟩ = some (.string ⟨#[]⟩) := cell_row hrow rfl
  have k1 : wa.cell? ⟨w.heap.size + 1, 1, none⟩ = some (.int .i64 0) := cell_row hrow rfl
  have k2 : wa.cell? ⟨w.heap.size + 1, 2, none⟩ = some (.int .u64 0) := cell_row hrow rfl
  have kf : ∀ j, wa.frozen? ⟨w.heap.size + 1, j, none⟩ = false := fun j => frozen_of_row _ _ _ _ _ hrow
  clear hrow
  go_region_held3 (fun w' => w'.cell? ⟨w.heap.size, 0, none⟩ = some (.string a) ∧ w'.cell? ⟨w.heap.size, 1, none⟩ = some (.slice vo n cp))
    (first | exact ⟨x0, x1⟩ | exact ⟨by go_keep, by go_keep⟩)
    ((go_at_call 67; refine HD.out.mono ?_; rintro e w2 ⟨rfl, hw2⟩; obtain rfl := hw2.symm))
  go_wp2_with fail
  refine bodyPost_ret (v := .agg #[.string a, .int .i64 n, .int .u64 D]) (by simp [results, Tryz.results95, go_sem, k0, k1, k2]) rfl ⟨rfl, ?_⟩
  exact (((HB.out.setCell (p := ⟨w.heap.size + 1, 0, none⟩) (by simp) _).setCell (p := ⟨w.heap.size + 1, 1, none⟩) (by simp) _).setCell (p := ⟨w.heap.size + 1, 2, none⟩) (by simp) _).drew
end Go.Proofs.YtbhccdedcoajmabGreatDoor
