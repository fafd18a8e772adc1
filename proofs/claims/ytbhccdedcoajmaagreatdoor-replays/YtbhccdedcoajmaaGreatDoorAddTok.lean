import Derived.Test.YtbhccdedcoajmaaGreatDoorDeltaM
import Derived.Test.YtbhccdedcoajmaaGreatDoorMadeM
namespace Go.Proofs.YtbhccdedcoajmaaGreatDoor
open Go.RowKit


set_option maxRecDepth 10000 in
set_option maxHeartbeats 400000 in
theorem joins_any (t : Tok) (u : Value) (k : Int) (hb : 0 ≤ t.block ∧ t.block ≤ 300) (hc : 0 ≤ t.count ∧ t.count ≤ 255) (w : World) :
    Calls Tryz.prog 164 #[.agg #[.int .i64 t.block, .int .i64 t.count, u], .int .i64 k] w fun e w' => e = .returned (.bool (decide (0 < t.count ∧ t.count < 255 ∧ t.block + t.count = k))) ∧ Below w.heap.size w w' := by
  go_enter Tryz.func164, Tryz.ntmps164
  go_wp2_with fail
  all_goals go_ret
  all_goals refine ⟨congrArg (fun x => Ending.returned (Value.bool x)) ?_, (Below.refl _ _).alloc (Nat.le_refl _) _⟩
  all_goals
    rw [Bool.eq_iff_iff]
    simp
    try omega

/-- bytes in memory: of no bytes nothing is asked -/
def PartAt (w : World) (B0 : Nat) (va : Option Addr) (zs : List Int) : Prop := zs = [] ∨ ∃ b off, va = some ⟨b, off, none⟩ ∧ b < B0 ∧ ∀ k (h : k < zs.length), w.cell? ⟨b, off + k, none⟩ = some (.int .u8 zs[k])
theorem PartAt.mono {w : World} {B0 B1 : Nat} {va : Option Addr} {zs : List Int} (h : PartAt w B0 va zs) (hb : B0 ≤ B1) : PartAt w B1 va zs := by
  rcases h with h | ⟨b, off, h1, h2, h3⟩
  · exact .inl h
  · exact .inr ⟨b, off, h1, by omega, h3⟩
theorem PartAt.below {w w' : World} {B0 : Nat} {va : Option Addr} {zs : List Int} (h : PartAt w B0 va zs) (hb : Below B0 w w') : PartAt w' B0 va zs := by
  rcases h with h | ⟨b, off, h1, h2, h3⟩
  · exact .inl h
  · exact .inr ⟨b, off, h1, h2, fun k h => (hb.cell (p := ⟨b, off + k, none⟩) h2).trans (h3 k h)⟩

set_option maxRecDepth 10000 in
set_option maxHeartbeats 1000000 in
theorem addBytes_ok (B0 : Nat) (v : Value) (ps : List (Tok × Value)) (va : Option Addr) (cap : Nat) (zs : List Int) (w : World) (hB : B0 ≤ w.heap.size) (hT : TokRow w B0 v ps) (hP : PartAt w B0 va zs) (hsh : Shut (ps.map Prod.fst) ∨ zs = [])
    (hl : ps.length ≤ 1000) (hm : zs.length ≤ 300) (hcap : zs.length ≤ cap) :
    Calls Tryz.prog 147 #[v, .slice va zs.length cap] w fun e w' => ∃ v' ps', e = .returned v' ∧ TokRow w' B0 v' ps' ∧ ps'.map Prod.fst = zs.foldl pushByte (ps.map Prod.fst) ∧ Below B0 w w' := by
  obtain ⟨i0, hi, z0, z1, z2⟩ := info_parts Tryz.info100
  have HT := hide hT
  have HP := hide hP
  have HSH := hide hsh
  have HL := hide hl
  have HCAP := hide hcap
  clear hT hP hsh hl
  generalize hn : zs.length = n at *
  have HN := hide hn
  clear hn
  go_enter Tryz.func147, Tryz.ntmps147
  go_wp2_with fail
  go_loopw [0, 1] (fun v0 v1 wr => ∃ (ps' : List (Tok × Value)) (ys : List Int) (m : Nat) (va' : Option Addr) (cap' : Nat), v1 = .slice va' m cap' ∧ m ≤ 300 ∧ m ≤ cap' ∧ Hid (ys.length = m) ∧ Hid (TokRow wr B0 v0 ps') ∧ Hid (PartAt wr B0 va' ys) ∧ Hid (Shut (ps'.map Prod.fst) ∨ ys = []) ∧
      Hid (ys.foldl pushByte (ps'.map Prod.fst) = zs.foldl pushByte (ps.map Prod.fst)) ∧ Hid (ps'.length + m ≤ 1300) ∧ Hid (Below B0 w wr)) (fun _ v1 _ => match v1 with | .slice _ m _ => m | _ => 0)
  case atStart => exact ⟨ps, zs, n, va, cap, rfl, hm, hcap, HN.out, HT.out, HP.out, HSH.out, (rfl : _ = _), (show ps.length + n ≤ 1300 by have := HL.out; omega), Below.refl _ _⟩
  case round =>
    obtain ⟨ps', ys, m, va', cap', rfl, hm', hmc, EN, HTr, HPr, HSr, EQ, ELN, HBr⟩ := hrel
    by_cases h0 : 0 < m
    · have hne : ys ≠ [] := by intro e; have := EN.out; rw [e] at this; simp at this; omega
      have HSHr : Hid (Shut (ps'.map Prod.fst)) := HSr.out.resolve_right hne
      obtain ⟨b, off, rfl, hbB, hce⟩ := HPr.out.resolve_left hne
      have HCE := hide hce
      clear hce hne
      by_cases h1 : 255 < m
      · have HCL := hide (clone_any b off 255 (ys.take 255) wr (by rw [List.length_take]; omega) (fun k h => by
          have h' : k < ys.length := by rw [List.length_take] at h; omega
          rw [List.getElem_take]; exact HCE.out k h'))
        rw [show (ys.take 255).length = 255 by rw [List.length_take]; have := EN.out; omega] at HCL
        go_wp2_with fail
        refine HCL.out.mono ?_
        rintro e w2 ⟨u, rfl, ho, hb2⟩
        obtain ⟨g, c2, rfl⟩ : ∃ g c2, u = .slice (some ⟨g, 0, none⟩) 255 c2 := by
          rcases ho.2 with ⟨_, h⟩ | ⟨g, c2, cur, h, _⟩
          · omega
          · exact ⟨g, c2, h⟩
        have HO2 := hide ho
        have HB2 := hide hb2
        have HT2 := hide (HTr.out.below hb2)
        have HSZ2 : Hid (wr.heap.size ≤ w2.heap.size) := hb2.size
        clear ho hb2
        go_wp2_with (at_builtin; refine wpList_append_own_at _ rfl (.tmp 12) (.tmp 19) 96 rfl B0 100 i0 (.agg #[.int .i64 0, .int .i64 0, .slice none 0 0]) 3 40 Tryz.underlying96 hi z0 z1 z2 rfl (by decide) _ ps'.length (tcells ps') rfl (HT2.out.row.alloc _) ⟨w2.heap.size, 0, none⟩ 1 1 [.int .i64 0, .int .i64 0, .slice (some ⟨g, 0, none⟩) 255 c2] rfl rfl ?ka ?kb ?kc ?kd ?ke ?kf)
        case ka =>
          intro j x hj
          match j, hj with
          | 0, hj => simp at hj; subst hj; simp [Addr.add]
          | 1, hj => simp at hj; subst hj; simp [Addr.add]
          | 2, hj => simp at hj; subst hj; simp [Addr.add]
        case kb => intro x hx; simp at hx; rcases hx with rfl | rfl <;> rfl
        case kc => have := ELN.out; unfold maxLen; omega
        case kd => have := ELN.out; omega
        case ke => have := HSZ2.out; have := HBr.out.size; simp; omega
        case kf =>
          intro v' w3 hown3 hgrow3 _ hloc3
          have hpush := HTr.out.pushNew (t := ⟨0, 0, ys.take 255⟩) (u := .slice (some ⟨g, 0, none⟩) 255 c2) (by have := HBr.out.size; omega) HB2.out (by have := HO2.out; have e : (ys.take 255).length = 255 := (by rw [List.length_take]; have := EN.out; omega); simp only [e]; exact this) hown3 hgrow3 hloc3
          have HT3 := hide hpush.1
          have HB3 : Hid (Below B0 w w3) := HBr.out.trans hpush.2
          have HB3' : Hid (Below B0 wr w3) := hpush.2
          clear hpush hown3 hgrow3 hloc3
          have HS3 : Hid ((ys.take 255).foldl pushByte (ps'.map Prod.fst) = (ps' ++ [((⟨0, 0, ys.take 255⟩ : Tok), Value.slice (some ⟨g, 0, none⟩) 255 c2)]).map Prod.fst) := by
            show _ = _
            rw [push_part HSHr.out (by rw [List.length_take]; have := EN.out; omega) (by rw [List.length_take]; omega)]
            simp
          go_wp2_with fail
          go_roundw
          case rel =>
            refine ⟨_, ys.drop 255, m - 255, _, _, rfl, by omega, by omega, ?_, HT3.out, ?_, .inl ?_, ?_, ?_, HB3.out⟩
            · show _ = _
              rw [List.length_drop]; have := EN.out; omega
            · refine .inr ⟨b, off + 255, rfl, hbB, fun k h => ?_⟩
              rw [List.length_drop] at h
              rw [List.getElem_drop, Nat.add_assoc, HB3'.out.cell (p := ⟨b, off + (255 + k), none⟩) hbB]
              exact HCE.out (255 + k) (by omega)
            · rw [List.map_append]
              exact shut_snoc (by simp; have := EN.out; omega)
            · show _ = _
              rw [← HS3.out, ← List.foldl_append, List.take_append_drop]; exact EQ.out
            · show _ ≤ _
              have := ELN.out; simp; omega
          case measure => simp; omega
      · have HCL := hide (clone_any b off m (ys.take m) wr (by rw [List.length_take]; omega) (fun k h => by
          have h' : k < ys.length := by rw [List.length_take] at h; omega
          rw [List.getElem_take]; exact HCE.out k h'))
        rw [show (ys.take m).length = m by rw [List.length_take]; have := EN.out; omega] at HCL
        go_wp2_with fail
        refine HCL.out.mono ?_
        rintro e w2 ⟨u, rfl, ho, hb2⟩
        obtain ⟨g, c2, rfl⟩ : ∃ g c2, u = .slice (some ⟨g, 0, none⟩) m c2 := by
          rcases ho.2 with ⟨_, h⟩ | ⟨g, c2, cur, h, _⟩
          · omega
          · exact ⟨g, c2, h⟩
        have HO2 := hide ho
        have HB2 := hide hb2
        have HT2 := hide (HTr.out.below hb2)
        have HSZ2 : Hid (wr.heap.size ≤ w2.heap.size) := hb2.size
        clear ho hb2
        go_wp2_with (at_builtin; refine wpList_append_own_at _ rfl (.tmp 12) (.tmp 19) 96 rfl B0 100 i0 (.agg #[.int .i64 0, .int .i64 0, .slice none 0 0]) 3 40 Tryz.underlying96 hi z0 z1 z2 rfl (by decide) _ ps'.length (tcells ps') rfl (HT2.out.row.alloc _) ⟨w2.heap.size, 0, none⟩ 1 1 [.int .i64 0, .int .i64 0, .slice (some ⟨g, 0, none⟩) m c2] rfl rfl ?ka ?kb ?kc ?kd ?ke ?kf)
        case ka =>
          intro j x hj
          match j, hj with
          | 0, hj => simp at hj; subst hj; simp [Addr.add]
          | 1, hj => simp at hj; subst hj; simp [Addr.add]
          | 2, hj => simp at hj; subst hj; simp [Addr.add]
        case kb => intro x hx; simp at hx; rcases hx with rfl | rfl <;> rfl
        case kc => have := ELN.out; unfold maxLen; omega
        case kd => have := ELN.out; omega
        case ke => have := HSZ2.out; have := HBr.out.size; simp; omega
        case kf =>
          intro v' w3 hown3 hgrow3 _ hloc3
          have hpush := HTr.out.pushNew (t := ⟨0, 0, ys.take m⟩) (u := .slice (some ⟨g, 0, none⟩) m c2) (by have := HBr.out.size; omega) HB2.out (by have := HO2.out; have e : (ys.take m).length = m := (by rw [List.length_take]; have := EN.out; omega); simp only [e]; exact this) hown3 hgrow3 hloc3
          have HT3 := hide hpush.1
          have HB3 : Hid (Below B0 w w3) := HBr.out.trans hpush.2
          have HB3' : Hid (Below B0 wr w3) := hpush.2
          clear hpush hown3 hgrow3 hloc3
          have HS3 : Hid ((ys.take m).foldl pushByte (ps'.map Prod.fst) = (ps' ++ [((⟨0, 0, ys.take m⟩ : Tok), Value.slice (some ⟨g, 0, none⟩) m c2)]).map Prod.fst) := by
            show _ = _
            rw [push_part HSHr.out (by rw [List.length_take]; have := EN.out; omega) (by rw [List.length_take]; omega)]
            simp
          go_wp2_with fail
          go_roundw
          case rel =>
            refine ⟨_, [], 0, _, _, rfl, by omega, by omega, rfl, HT3.out, .inl rfl, .inr rfl, ?_, ?_, HB3.out⟩
            · show _ = _
              rw [List.foldl_nil, ← HS3.out, List.take_of_length_le (by have := EN.out; omega)]; exact EQ.out
            · show _ ≤ _
              have := ELN.out; simp; omega
          case measure => simp; omega
    · go_wp2_with fail
      go_ret
      refine ⟨_, ps', rfl, HTr.out, ?_, HBr.out⟩
      have hy : ys = [] := by
        have := EN.out
        exact List.length_eq_zero_iff.1 (by omega)
      have := EQ.out
      rw [hy] at this
      exact this

set_option maxRecDepth 10000 in
set_option maxHeartbeats 1000000 in
theorem addBlock_nil (B0 : Nat) (v : Value) (k : Nat) (w : World) (hB : B0 ≤ w.heap.size) (hT : TokRow w B0 v []) :
    Calls Tryz.prog 148 #[v, .int .i64 k] w fun e w' => ∃ v' ps', e = .returned v' ∧ TokRow w' B0 v' ps' ∧ ps'.map Prod.fst = pushBlock [] k ∧ Below B0 w w' := by
  obtain ⟨i0, hi, z0, z1, z2⟩ := info_parts Tryz.info100
  obtain ⟨va, cap, rfl⟩ : ∃ va cap, v = .slice va 0 cap := by
    rcases hT.row.2 with ⟨h, _⟩ | ⟨g, c2, cur, h, _⟩
    · exact ⟨_, _, h⟩
    · exact ⟨_, _, h⟩
  have HT := hide hT
  have HSZ := hide hB
  clear hT
  go_enter Tryz.func148, Tryz.ntmps148
  go_wp2_with (at_builtin; refine wpList_append_own_at _ rfl (.tmp 28) (.tmp 31) 96 rfl B0 100 i0 (.agg #[.int .i64 0, .int .i64 0, .slice none 0 0]) 3 40 Tryz.underlying96 hi z0 z1 z2 rfl (by decide) _ 0 [] rfl (HT.out.row.alloc _) ⟨w.heap.size, 0, none⟩ 1 1 [.int .i64 k, .int .i64 1, .slice none 0 0] rfl rfl ?ka ?kb ?kc ?kd ?ke ?kf)
  case ka =>
    intro j x hj
    match j, hj with
    | 0, hj => simp at hj; subst hj; simp [Addr.add]
    | 1, hj => simp at hj; subst hj; simp [Addr.add]
    | 2, hj => simp at hj; subst hj; simp [Addr.add]
  case kb => intro x hx; simp at hx; rcases hx with rfl | rfl | rfl <;> rfl
  case kc => unfold maxLen; omega
  case kd => omega
  case ke => have := HSZ.out; simp; omega
  case kf =>
    intro v' w3 hown3 hgrow3 _ hloc3
    have hpush := HT.out.pushNew (t := ⟨k, 1, []⟩) (u := .slice none 0 0) hB (Below.refl _ _) (World.ownsRow_nil _ _ _ _) hown3 hgrow3 hloc3
    have HT3 := hide hpush.1
    have HB3 := hide hpush.2
    clear hpush hown3 hgrow3 hloc3
    go_wp2_with fail
    go_ret
    refine ⟨_, _, rfl, HT3.out, ?_, HB3.out⟩
    rfl

set_option maxRecDepth 10000 in
set_option maxHeartbeats 1000000 in
theorem addBlock_snoc (B0 : Nat) (v : Value) (l : List (Tok × Value)) (t : Tok) (u : Value) (k : Nat) (w : World) (hB : B0 ≤ w.heap.size) (hT : TokRow w B0 v (l ++ [(t, u)])) (hl : l.length ≤ 1000) (hb : 0 ≤ t.block ∧ t.block ≤ 300) (hc : 0 ≤ t.count ∧ t.count ≤ 255) :
    Calls Tryz.prog 148 #[v, .int .i64 k] w fun e w' => ∃ v' ps', e = .returned v' ∧ TokRow w' B0 v' ps' ∧ ps'.map Prod.fst = pushBlock (l.map Prod.fst ++ [t]) k ∧ Below B0 w w' := by
  obtain ⟨i0, hi, z0, z1, z2⟩ := info_parts Tryz.info100
  obtain ⟨g, cap, rfl, hg1, hg2, hc1, hc2⟩ := hT.shape (by simp)
  obtain ⟨d0, d1, d2⟩ := hT.cells l.length (by simp)
  have hfz := own_frozen hT.row
  simp only [List.getElem_concat_length, List.length_append, List.length_singleton] at d0 d1 d2 hT hc1 ⊢
  have HJ := hide (joins_any t u k hb hc w)
  have HT := hide hT
  have HSZ := hide hB
  have HCX := hide hc
  clear hT hc2
  generalize hL : l.length = L at *
  have hcap : L + 1 ≤ cap := hc1
  go_enter Tryz.func148, Tryz.ntmps148
  have HLL := hide hL
  clear hL
  go_wp2_with fail
  refine HJ.out.mono ?_
  rintro e w1 ⟨rfl, hb1⟩
  have HB1 := hide hb1
  have hfz1 : ∀ j, w1.frozen? ⟨g, j, none⟩ = false := fun j => (hb1.frozen (p := ⟨g, j, none⟩) hg2).trans (hfz j)
  have e1 := (hb1.cell (p := ⟨g, L * 3 + 1, none⟩) hg2).trans d1
  have HT1 := hide (HT.out.below hb1)
  have HR1 : Hid (w1.ownsRow B0 100 3 (.slice (some ⟨g, 0, none⟩) (L + 1) cap) (L + 1) (tcells (l ++ [(t, u)]))) := by
    have := HT1.out.row
    rw [List.length_append, List.length_singleton, HLL.out] at this
    exact this
  clear hb1 d0 d1 d2 hfz
  by_cases hh : 0 < t.count ∧ t.count < 255 ∧ t.block + t.count = k
  · have hdt : decide (0 < t.count ∧ t.count < 255 ∧ t.block + t.count = (k : Int)) = true := decide_eq_true hh
    have HH := hide hh
    clear hh
    rw [hdt]
    clear hdt
    go_wp2_with fail
    go_ret
    have h3 := HT1.out
    rw [← HLL.out] at h3
    have h4 := h3.setCount (t.count + 1)
    rw [HLL.out] at h4
    refine ⟨_, _, rfl, h4, ?_, (HB1.out.mono hB).setCell (p := ⟨g, L * 3 + 1, none⟩) hg1 _⟩
    rw [pushBlock_snoc, if_pos HH.out]
    simp
  · have hdt : decide (0 < t.count ∧ t.count < 255 ∧ t.block + t.count = (k : Int)) = false := decide_eq_false hh
    have HH := hide hh
    clear hh
    rw [hdt]
    clear hdt
    go_wp2_with (at_builtin; refine wpList_append_own_at _ rfl (.tmp 28) (.tmp 31) 96 rfl B0 100 i0 (.agg #[.int .i64 0, .int .i64 0, .slice none 0 0]) 3 40 Tryz.underlying96 hi z0 z1 z2 rfl (by decide) _ (L + 1) (tcells (l ++ [(t, u)])) rfl (HR1.out.alloc _) ⟨w1.heap.size, 0, none⟩ 1 1 [.int .i64 k, .int .i64 1, .slice none 0 0] rfl rfl ?ka ?kb ?kc ?kd ?ke ?kf)
    case ka =>
      intro j x hj
      match j, hj with
      | 0, hj => simp at hj; subst hj; simp [Addr.add]
      | 1, hj => simp at hj; subst hj; simp [Addr.add]
      | 2, hj => simp at hj; subst hj; simp [Addr.add]
    case kb => intro x hx; simp at hx; rcases hx with rfl | rfl | rfl <;> rfl
    case kc => unfold maxLen; omega
    case kd => omega
    case ke => have := HSZ.out; have := HB1.out.size; simp; omega
    case kf =>
      intro v' w3 hown3 hgrow3 _ hloc3
      have hpush := HT.out.pushNew (t := ⟨k, 1, []⟩) (u := .slice none 0 0) hB HB1.out (World.ownsRow_nil _ _ _ _) (by rw [List.length_append, List.length_singleton, HLL.out]; exact hown3) hgrow3 hloc3
      have HT3 := hide hpush.1
      have HB3 := hide hpush.2
      clear hpush hown3 hgrow3 hloc3
      go_wp2_with fail
      go_ret
      refine ⟨_, _, rfl, HT3.out, ?_, HB3.out⟩
      rw [pushBlock_snoc, if_neg HH.out]
      simp

theorem addBlock_ok (B0 : Nat) (v : Value) (ps : List (Tok × Value)) (k : Nat) (w : World) (hB : B0 ≤ w.heap.size) (hT : TokRow w B0 v ps) (hl : ps.length ≤ 1000) (hf : AllFair (ps.map Prod.fst)) :
    Calls Tryz.prog 148 #[v, .int .i64 k] w fun e w' => ∃ v' ps', e = .returned v' ∧ TokRow w' B0 v' ps' ∧ ps'.map Prod.fst = pushBlock (ps.map Prod.fst) k ∧ Below B0 w w' := by
  rcases snoc_cases ps with rfl | ⟨l, ⟨t, u⟩, rfl⟩
  · exact addBlock_nil B0 v k w hB hT
  · rw [List.map_append] at hf ⊢
    obtain ⟨_, f⟩ := fair_snoc.1 hf
    exact addBlock_snoc B0 v l t u k w hB hT (by simp at hl; omega) ⟨f.2.2.1, f.2.2.2.1⟩ ⟨f.2.2.2.2.1, f.2.2.2.2.2⟩
end Go.Proofs.YtbhccdedcoajmaaGreatDoor
