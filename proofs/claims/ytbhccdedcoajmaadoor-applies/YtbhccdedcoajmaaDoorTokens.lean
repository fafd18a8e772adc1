import Derived.Test.YtbhccdedcoajmaaDoorAlike
import Derived.RegionTactic
namespace Go.Proofs.YtbhccdedcoajmaaDoor
open Go.RowKit

/-- the tokens that a text says -/
def tokGo (l : List Int) : List Tok :=
  match l with
  | a :: b :: c :: n :: r => ⟨256 * a + b - 2, c - 1, r.take n.toNat⟩ :: tokGo (r.drop n.toNat)
  | _ => []
  termination_by l.length
  decreasing_by simp only [List.length_drop, List.length_cons]; omega
theorem tokGo_four (a b c n : Int) (r : List Int) : tokGo (a :: b :: c :: n :: r) = ⟨256 * a + b - 2, c - 1, r.take n.toNat⟩ :: tokGo (r.drop n.toNat) := by rw [tokGo]
theorem tokGo_short {l : List Int} (h : l.length < 4) : tokGo l = [] := by
  match l, h with
  | [], _ => rw [tokGo]; intros; simp_all
  | [_], _ => rw [tokGo]; intros; simp_all
  | [_, _], _ => rw [tokGo]; intros; simp_all
  | [_, _, _], _ => rw [tokGo]; intros; simp_all
  | _ :: _ :: _ :: _ :: _, h => simp at h; omega
theorem tokGo_held : ∀ (k : Nat) (l : List Int), l.length ≤ k → Bytes l → (∀ t ∈ tokGo l, Held t) ∧ (tokGo l).length ≤ l.length
  | k, l, hk, hb => by
    match k, l, hk with
    | _, [], _ => rw [tokGo_short (by simp)]; simp
    | _, [_], _ => rw [tokGo_short (by simp)]; simp
    | _, [_, _], _ => rw [tokGo_short (by simp)]; simp
    | _, [_, _, _], _ => rw [tokGo_short (by simp)]; simp
    | k + 1, a :: b :: c :: n :: r, hk =>
      have ha := hb a (by simp)
      have hb' := hb b (by simp)
      have hc := hb c (by simp)
      have hn := hb n (by simp)
      have hr : Bytes r := fun x hx => hb x (by simp [hx])
      simp only [List.length_cons] at hk
      obtain ⟨h1, h2⟩ := tokGo_held k (r.drop n.toNat) (by rw [List.length_drop]; omega) (hr.drop _)
      rw [tokGo_four]
      refine ⟨fun t ht => ?_, ?_⟩
      · rw [List.mem_cons] at ht
        rcases ht with rfl | ht
        · refine ⟨hr.take _, ?_, ⟨by simp only; omega, by simp only; omega⟩, ⟨by simp only; omega, by simp only; omega⟩⟩
          simp only [List.length_take]; omega
        · exact h1 t ht
      · rw [List.length_drop] at h2
        simp only [List.length_cons]; omega

theorem lt_heap {w : World} {b : Nat} {o : Obj} (h : w.heap[b]? = some o) : b < w.heap.size := (Array.getElem?_eq_some_iff.1 h).1
theorem nums_four (u : ByteArray) (h : 4 ≤ u.size) : nums u = (u[0].toNat : Int) :: (u[1].toNat : Int) :: (u[2].toNat : Int) :: (u[3].toNat : Int) :: nums (u.extract 4 u.size) := by
  rw [nums_extract]
  have hl := nums_length u
  have h0 := nums_at u 0 (by omega)
  have h1 := nums_at u 1 (by omega)
  have h2 := nums_at u 2 (by omega)
  have h3 := nums_at u 3 (by omega)
  rw [← h0, ← h1, ← h2, ← h3, List.take_of_length_le (by rw [List.length_drop]; omega)]
  have e3 : (nums u)[3]'(by omega) :: (nums u).drop 4 = (nums u).drop 3 := (List.drop_eq_getElem_cons (by omega)).symm
  have e2 : (nums u)[2]'(by omega) :: (nums u).drop 3 = (nums u).drop 2 := (List.drop_eq_getElem_cons (by omega)).symm
  have e1 : (nums u)[1]'(by omega) :: (nums u).drop 2 = (nums u).drop 1 := (List.drop_eq_getElem_cons (by omega)).symm
  have e0 : (nums u)[0]'(by omega) :: (nums u).drop 1 = (nums u).drop 0 := (List.drop_eq_getElem_cons (by omega)).symm
  rw [e3, e2, e1, e0, List.drop_zero]

set_option maxRecDepth 10000 in
set_option maxHeartbeats 2000000 in
theorem tokens_ok (s : ByteArray) (hm : s.size ≤ 65536) (w : World) :
    Calls Tryd.prog 22 #[.string s] w fun e w' => ∃ v ps, e = .returned v ∧ TokRow w' w.heap.size v ps ∧ ps.map Prod.fst = tokGo (nums s) ∧ Below w.heap.size w w' := by
  obtain ⟨i0, hi, z0, z1, z2⟩ := info_parts Tryd.info50
  go_enter Tryd.func22, Tryd.ntmps22
  go_wp2_with fail
  go_loopw [0, 3] (fun v0 v3 wr => ∃ (u : ByteArray) (ps : List (Tok × Value)), v0 = .string u ∧ u.size ≤ 65536 ∧ Hid (TokRow wr w.heap.size v3 ps) ∧ Hid (ps.map Prod.fst ++ tokGo (nums u) = tokGo (nums s)) ∧ Hid (ps.length + u.size ≤ s.size) ∧ Hid (Below w.heap.size w wr)) (fun v0 _ _ => match v0 with | .string u => u.size | _ => 0)
  case atStart => exact ⟨s, [], rfl, hm, TokRow.nil _ _, (rfl : _ = _), (show 0 + s.size ≤ s.size by omega), Below.refl _ _⟩
  case round =>
    obtain ⟨u, ps, rfl, hu, HTr, HEr, HLr, HBr⟩ := hrel
    by_cases h4 : 4 ≤ u.size
    · have HN := hide (nums_four u h4)
      have hb0 := u[0].toNat_lt
      have hb1 := u[1].toNat_lt
      have hb2 := u[2].toNat_lt
      have hb3 := u[3].toNat_lt
      go_wp2_with fail
      have k0 : 0 < u.size := by omega
      have k1' : 1 < u.size := by omega
      have k2' : 2 < u.size := by omega
      have k1 : (1 : Int) < (u.size : Int) := by omega
      have k2 : (2 : Int) < (u.size : Int) := by omega
      have r0 : IntKind.i64.wrap (256 * (u[0].toNat : Int)) = 256 * (u[0].toNat : Int) := by rw [IntKind.wrap_i64]; omega
      have r1 : IntKind.i64.wrap (256 * (u[0].toNat : Int) + (u[1].toNat : Int)) = 256 * (u[0].toNat : Int) + (u[1].toNat : Int) := by rw [IntKind.wrap_i64]; omega
      have r2 : IntKind.i64.wrap (256 * (u[0].toNat : Int) + (u[1].toNat : Int) - 2) = 256 * (u[0].toNat : Int) + (u[1].toNat : Int) - 2 := by rw [IntKind.wrap_i64]; omega
      have r3 : IntKind.i64.wrap ((u[2].toNat : Int) - 1) = (u[2].toNat : Int) - 1 := by rw [IntKind.wrap_i64]; omega
      have s0 : IntKind.i64.wrap (u[0].toNat : Int) = (u[0].toNat : Int) := by rw [IntKind.wrap_i64]; omega
      have s1 : IntKind.i64.wrap (u[1].toNat : Int) = (u[1].toNat : Int) := by rw [IntKind.wrap_i64]; omega
      have s2 : IntKind.i64.wrap (u[2].toNat : Int) = (u[2].toNat : Int) := by rw [IntKind.wrap_i64]; omega
      go_region
      have HXI : Hid (tokGo (nums u) = ⟨256 * (u[0].toNat : Int) + (u[1].toNat : Int) - 2, (u[2].toNat : Int) - 1, (nums (u.extract 4 u.size)).take u[3].toNat⟩ :: tokGo ((nums (u.extract 4 u.size)).drop u[3].toNat)) := by
        show _ = _
        rw [HN.out, tokGo_four]; simp
      clear r0 r1 r2 r3 s0 s1 s2 HN
      generalize 256 * (u[0].toNat : Int) + (u[1].toNat : Int) - 2 = X at *
      generalize (u[2].toNat : Int) - 1 = Y at *
      obtain ⟨wb, hwb⟩ : ∃ wb, wb = (wr.alloc (.cells #[.int .i64 X, .int .i64 Y, .slice none 0 0] 50)).drew := ⟨_, rfl⟩
      rw [← hwb]
      have hgb : wb.heap[wr.heap.size]? = some (.cells #[.int .i64 X, .int .i64 Y, .slice none 0 0] 50 (0, 0)) := by rw [hwb]; exact heap_alloc_new _ _
      have HBb : Hid (Below wr.heap.size wr wb) := by rw [hwb]; exact ((Below.refl _ _).alloc (Nat.le_refl _) _).drew
      clear hwb
      have HGb := hide hgb
      have e0 : wb.cell? ⟨wr.heap.size, 0, none⟩ = some (.int .i64 X) := cell_row hgb rfl
      have e1 : wb.cell? ⟨wr.heap.size, 1, none⟩ = some (.int .i64 Y) := cell_row hgb rfl
      have e2 : wb.cell? ⟨wr.heap.size, 2, none⟩ = some (.slice none 0 0) := cell_row hgb rfl
      clear hgb
      obtain ⟨u1, hu1⟩ : ∃ u1, u.extract 4 u.size = u1 := ⟨_, rfl⟩
      have hL1 : u1.size = u.size - 4 := by rw [← hu1]; simp [ByteArray.size_extract]
      rw [hu1] at HXI
      have HL1 := hide hL1
      have hL2 : u1.size ≤ 65532 := by omega
      clear hL1
      have HTb := hide (HTr.out.below HBb.out)
      have HBwb : Hid (Below w.heap.size w wb) := below_all HBr.out HBb.out
      have HU1 := hide hu1
      obtain ⟨x3, hx3⟩ : ∃ x3, u[3].toNat = x3 := ⟨_, rfl⟩
      rw [hx3] at HXI hb3
      clear hb0 hb1 hb2
      by_cases hgt : u1.size < x3
      · by_cases h0 : 0 < u1.size
        · have HRM := hide (roomy_any u1 (by omega) wb)
          go_wp2_with fail
          refine HRM.out.mono ?_
          rintro e w4 ⟨rfl, hg4, hb4⟩
          have HG4 := hide hg4
          have HB4 : Hid (Below wr.heap.size wr w4) := HBb.out.trans (hb4.mono HBb.out.size)
          have hgb4 : w4.heap[wr.heap.size]? = some (.cells #[.int .i64 X, .int .i64 Y, .slice none 0 0] 50 (0, 0)) := (hb4.block _ (lt_heap HGb.out)).trans HGb.out
          have f0 : w4.cell? ⟨wr.heap.size, 0, none⟩ = some (.int .i64 X) := cell_row hgb4 rfl
          have f1 : w4.cell? ⟨wr.heap.size, 1, none⟩ = some (.int .i64 Y) := cell_row hgb4 rfl
          have f2 : w4.cell? ⟨wr.heap.size, 2, none⟩ = some (.slice none 0 0) := cell_row hgb4 rfl
          have ff : ∀ j, w4.frozen? ⟨wr.heap.size, j, none⟩ = false := fun j => frozen_of_row _ _ _ _ _ hgb4
          have HB5 : Hid (Below wr.heap.size wr (w4.setCell ⟨wr.heap.size, 2, none⟩ (.slice (some ⟨wb.heap.size, 0, none⟩) u1.size (u1.size + 2)))) := HB4.out.setCell (p := ⟨wr.heap.size, 2, none⟩) (Nat.le_refl _) _
          have HBw5 : Hid (Below w.heap.size w (w4.setCell ⟨wr.heap.size, 2, none⟩ (.slice (some ⟨wb.heap.size, 0, none⟩) u1.size (u1.size + 2)))) := below_all HBr.out HB5.out
          have HT5 := hide (HTr.out.below HB5.out)
          have HU5 : Hid ((w4.setCell ⟨wr.heap.size, 2, none⟩ (.slice (some ⟨wb.heap.size, 0, none⟩) u1.size (u1.size + 2))).ownsRow wr.heap.size 5 1 (.slice (some ⟨wb.heap.size, 0, none⟩) u1.size (u1.size + 2)) (nums (u1)).length (u8s (nums (u1)))) := by
            have hne : wb.heap.size ≠ wr.heap.size := by have := lt_heap HGb.out; omega
            have hg5 := (Below.heap_setCell w4 ⟨wr.heap.size, 2, none⟩ (.slice (some ⟨wb.heap.size, 0, none⟩) u1.size (u1.size + 2)) wb.heap.size hne).trans HG4.out
            refine ⟨by simp [u8s], .inr ⟨wb.heap.size, u1.size + 2, _, by rw [nums_length], HBb.out.size, hg5, by rw [nums_length]; omega, by unfold maxLen; omega, by simp [u8s, nums_length], ?_⟩⟩
            rw [nums_length, Nat.mul_one]
            simp [u8s, nums_length]
          clear hg4 hb4 hgb4 e0 e1 e2
          go_wp2_with (at_builtin; refine wpList_append_own_at _ rfl (.tmp 44) (.tmp 46) 41 rfl w.heap.size 50 i0 (.agg #[.int .i64 0, .int .i64 0, .slice none 0 0]) 3 40 Tryd.underlying41 hi z0 z1 z2 rfl (by decide) _ ps.length (tcells ps) rfl (HT5.out.row.alloc _) ⟨w4.heap.size, 0, none⟩ 1 1 [.int .i64 X, .int .i64 Y, .slice (some ⟨wb.heap.size, 0, none⟩) u1.size (u1.size + 2)] rfl rfl ?ka ?kb ?kc ?kd ?ke ?kf)
          case ka =>
            intro j x hj
            have hsz : w4.heap.size = (w4.setCell ⟨wr.heap.size, 2, none⟩ (.slice (some ⟨wb.heap.size, 0, none⟩) u1.size (u1.size + 2))).heap.size := by simp
            rw [add_at]
            match j, hj with
            | 0, hj => simp at hj; subst hj; exact cell_new hsz rfl
            | 1, hj => simp at hj; subst hj; exact cell_new hsz rfl
            | 2, hj => simp at hj; subst hj; exact cell_new hsz rfl
          case kb => intro x hx; simp at hx; rcases hx with rfl | rfl | rfl <;> rfl
          case kc => have := HLr.out; unfold maxLen; omega
          case kd => have := HLr.out; omega
          case ke => have := HBw5.out.size; simp at this ⊢; omega
          case kf =>
            intro v' w6 hown6 hgrow6 _ hloc6
            have hpush := HTr.out.pushNew (t := ⟨X, Y, nums (u1)⟩) (u := .slice (some ⟨wb.heap.size, 0, none⟩) u1.size (u1.size + 2)) HBr.out.size HB5.out HU5.out hown6 hgrow6 (by simpa using hloc6)
            have HT6 := hide hpush.1
            have HB6 : Hid (Below w.heap.size w w6) := HBr.out.trans hpush.2
            clear hpush hown6 hgrow6 hloc6
            go_wp2_with fail
            go_roundw
            case rel =>
              refine ⟨_, _, rfl, Nat.zero_le _, HT6.out, ?_, ?_, HB6.out⟩
              · show _ = _
                rw [← HEr.out, HXI.out, List.map_append, List.append_assoc]
                congr 1
                rw [List.take_of_length_le (by rw [nums_length]; omega), List.drop_of_length_le (by rw [nums_length]; omega)]
                rfl
              · show _ ≤ _
                have := HLr.out
                have := HL1.out
                rw [List.length_append, List.length_singleton]
                try simp
                try omega
            case measure => have := HL1.out; first | omega | (simp; omega)
        · go_wp2_with (at_builtin; refine wpList_append_own_at _ rfl (.tmp 44) (.tmp 46) 41 rfl w.heap.size 50 i0 (.agg #[.int .i64 0, .int .i64 0, .slice none 0 0]) 3 40 Tryd.underlying41 hi z0 z1 z2 rfl (by decide) _ ps.length (tcells ps) rfl (HTb.out.row.alloc _) ⟨wb.heap.size, 0, none⟩ 1 1 [.int .i64 X, .int .i64 Y, .slice none 0 0] rfl rfl ?ka ?kb ?kc ?kd ?ke ?kf)
          case ka =>
            intro j x hj
            match j, hj with
            | 0, hj => simp at hj; subst hj; simp [Addr.add]
            | 1, hj => simp at hj; subst hj; simp [Addr.add]
            | 2, hj => simp at hj; subst hj; simp [Addr.add]
          case kb => intro x hx; simp at hx; rcases hx with rfl | rfl | rfl <;> rfl
          case kc => have := HLr.out; unfold maxLen; omega
          case kd => have := HLr.out; omega
          case ke => have := HBwb.out.size; simp at this ⊢; omega
          case kf =>
            intro v' w6 hown6 hgrow6 _ hloc6
            have hpush := (HTb.out.pushNew (t := ⟨X, Y, []⟩) (u := .slice none 0 0) HBwb.out.size (Below.refl _ _) (World.ownsRow_nil _ _ _ _) hown6 hgrow6 (by simpa using hloc6))
            have HT6 := hide hpush.1
            have HB6 : Hid (Below w.heap.size w w6) := HBwb.out.trans hpush.2
            clear hpush hown6 hgrow6 hloc6
            go_wp2_with fail
            go_roundw
            case rel =>
              refine ⟨_, _, rfl, Nat.zero_le _, HT6.out, ?_, ?_, HB6.out⟩
              · show _ = _
                rw [← HEr.out, HXI.out, List.map_append, List.append_assoc]
                congr 1
                have hz : nums u1 = [] := List.length_eq_zero_iff.1 (by rw [nums_length]; omega)
                rw [hz]
                simp
                rfl
              · show _ ≤ _
                have := HLr.out
                have := HL1.out
                rw [List.length_append, List.length_singleton]
                try simp
                try omega
            case measure => have := HL1.out; first | omega | (simp; omega)
      · by_cases h0 : 0 < x3
        · have hTs : (u1.extract 0 x3).size = x3 := by simp [ByteArray.size_extract]; omega
          have HRM := hide (roomy_any (u1.extract 0 x3) (by rw [hTs]; omega) wb)
          rw [hTs] at HRM
          have HTS := hide hTs
          clear hTs
          go_wp2_with fail
          refine HRM.out.mono ?_
          rintro e w4 ⟨rfl, hg4, hb4⟩
          have HG4 := hide hg4
          have HB4 : Hid (Below wr.heap.size wr w4) := HBb.out.trans (hb4.mono HBb.out.size)
          have hgb4 : w4.heap[wr.heap.size]? = some (.cells #[.int .i64 X, .int .i64 Y, .slice none 0 0] 50 (0, 0)) := (hb4.block _ (lt_heap HGb.out)).trans HGb.out
          have f0 : w4.cell? ⟨wr.heap.size, 0, none⟩ = some (.int .i64 X) := cell_row hgb4 rfl
          have f1 : w4.cell? ⟨wr.heap.size, 1, none⟩ = some (.int .i64 Y) := cell_row hgb4 rfl
          have f2 : w4.cell? ⟨wr.heap.size, 2, none⟩ = some (.slice none 0 0) := cell_row hgb4 rfl
          have ff : ∀ j, w4.frozen? ⟨wr.heap.size, j, none⟩ = false := fun j => frozen_of_row _ _ _ _ _ hgb4
          have HB5 : Hid (Below wr.heap.size wr (w4.setCell ⟨wr.heap.size, 2, none⟩ (.slice (some ⟨wb.heap.size, 0, none⟩) x3 (x3 + 2)))) := HB4.out.setCell (p := ⟨wr.heap.size, 2, none⟩) (Nat.le_refl _) _
          have HBw5 : Hid (Below w.heap.size w (w4.setCell ⟨wr.heap.size, 2, none⟩ (.slice (some ⟨wb.heap.size, 0, none⟩) x3 (x3 + 2)))) := below_all HBr.out HB5.out
          have HT5 := hide (HTr.out.below HB5.out)
          have HU5 : Hid ((w4.setCell ⟨wr.heap.size, 2, none⟩ (.slice (some ⟨wb.heap.size, 0, none⟩) x3 (x3 + 2))).ownsRow wr.heap.size 5 1 (.slice (some ⟨wb.heap.size, 0, none⟩) x3 (x3 + 2)) (nums (u1.extract 0 x3)).length (u8s (nums (u1.extract 0 x3)))) := by
            have hne : wb.heap.size ≠ wr.heap.size := by have := lt_heap HGb.out; omega
            have hg5 := (Below.heap_setCell w4 ⟨wr.heap.size, 2, none⟩ (.slice (some ⟨wb.heap.size, 0, none⟩) x3 (x3 + 2)) wb.heap.size hne).trans HG4.out
            refine ⟨by simp [u8s], .inr ⟨wb.heap.size, x3 + 2, _, by rw [nums_length, HTS.out], HBb.out.size, hg5, by rw [nums_length, HTS.out]; omega, by unfold maxLen; omega, by simp [u8s, nums_length, HTS.out], ?_⟩⟩
            rw [nums_length, Nat.mul_one]
            simp [u8s, nums_length]
          clear hg4 hb4 hgb4 e0 e1 e2
          go_wp2_with (at_builtin; refine wpList_append_own_at _ rfl (.tmp 44) (.tmp 46) 41 rfl w.heap.size 50 i0 (.agg #[.int .i64 0, .int .i64 0, .slice none 0 0]) 3 40 Tryd.underlying41 hi z0 z1 z2 rfl (by decide) _ ps.length (tcells ps) rfl (HT5.out.row.alloc _) ⟨w4.heap.size, 0, none⟩ 1 1 [.int .i64 X, .int .i64 Y, .slice (some ⟨wb.heap.size, 0, none⟩) x3 (x3 + 2)] rfl rfl ?ka ?kb ?kc ?kd ?ke ?kf)
          case ka =>
            intro j x hj
            have hsz : w4.heap.size = (w4.setCell ⟨wr.heap.size, 2, none⟩ (.slice (some ⟨wb.heap.size, 0, none⟩) x3 (x3 + 2))).heap.size := by simp
            rw [add_at]
            match j, hj with
            | 0, hj => simp at hj; subst hj; exact cell_new hsz rfl
            | 1, hj => simp at hj; subst hj; exact cell_new hsz rfl
            | 2, hj => simp at hj; subst hj; exact cell_new hsz rfl
          case kb => intro x hx; simp at hx; rcases hx with rfl | rfl | rfl <;> rfl
          case kc => have := HLr.out; unfold maxLen; omega
          case kd => have := HLr.out; omega
          case ke => have := HBw5.out.size; simp at this ⊢; omega
          case kf =>
            intro v' w6 hown6 hgrow6 _ hloc6
            have hpush := HTr.out.pushNew (t := ⟨X, Y, nums (u1.extract 0 x3)⟩) (u := .slice (some ⟨wb.heap.size, 0, none⟩) x3 (x3 + 2)) HBr.out.size HB5.out HU5.out hown6 hgrow6 (by simpa using hloc6)
            have HT6 := hide hpush.1
            have HB6 : Hid (Below w.heap.size w w6) := HBr.out.trans hpush.2
            clear hpush hown6 hgrow6 hloc6
            go_wp2_with fail
            go_roundw
            case rel =>
              refine ⟨_, _, rfl, by simp [ByteArray.size_extract]; omega, HT6.out, ?_, ?_, HB6.out⟩
              · show _ = _
                rw [← HEr.out, HXI.out, List.map_append, List.append_assoc]
                congr 1
                rw [nums_extract, nums_extract]
                have e : ((nums u1).drop x3).take (u1.size - x3) = (nums u1).drop x3 := List.take_of_length_le (by rw [List.length_drop, nums_length]; omega)
                rw [e]
                simp
              · show _ ≤ _
                have := HLr.out
                have := HL1.out
                rw [List.length_append, List.length_singleton]
                try simp [ByteArray.size_extract]
                try omega
            case measure => have := HL1.out; simp [ByteArray.size_extract]; omega
        · go_wp2_with (at_builtin; refine wpList_append_own_at _ rfl (.tmp 44) (.tmp 46) 41 rfl w.heap.size 50 i0 (.agg #[.int .i64 0, .int .i64 0, .slice none 0 0]) 3 40 Tryd.underlying41 hi z0 z1 z2 rfl (by decide) _ ps.length (tcells ps) rfl (HTb.out.row.alloc _) ⟨wb.heap.size, 0, none⟩ 1 1 [.int .i64 X, .int .i64 Y, .slice none 0 0] rfl rfl ?ka ?kb ?kc ?kd ?ke ?kf)
          case ka =>
            intro j x hj
            match j, hj with
            | 0, hj => simp at hj; subst hj; simp [Addr.add]
            | 1, hj => simp at hj; subst hj; simp [Addr.add]
            | 2, hj => simp at hj; subst hj; simp [Addr.add]
          case kb => intro x hx; simp at hx; rcases hx with rfl | rfl | rfl <;> rfl
          case kc => have := HLr.out; unfold maxLen; omega
          case kd => have := HLr.out; omega
          case ke => have := HBwb.out.size; simp at this ⊢; omega
          case kf =>
            intro v' w6 hown6 hgrow6 _ hloc6
            have hpush := (HTb.out.pushNew (t := ⟨X, Y, []⟩) (u := .slice none 0 0) HBwb.out.size (Below.refl _ _) (World.ownsRow_nil _ _ _ _) hown6 hgrow6 (by simpa using hloc6))
            have HT6 := hide hpush.1
            have HB6 : Hid (Below w.heap.size w w6) := HBwb.out.trans hpush.2
            clear hpush hown6 hgrow6 hloc6
            go_wp2_with fail
            go_roundw
            case rel =>
              refine ⟨_, _, rfl, by simp [ByteArray.size_extract]; omega, HT6.out, ?_, ?_, HB6.out⟩
              · show _ = _
                rw [← HEr.out, HXI.out, List.map_append, List.append_assoc]
                congr 1
                obtain rfl : x3 = 0 := by omega
                have e : nums (u1.extract 0 u1.size) = nums u1 := by
                  rw [nums_extract, List.drop_zero, List.take_of_length_le (by rw [nums_length]; omega)]
                rw [e]
                rfl
              · show _ ≤ _
                have := HLr.out
                have := HL1.out
                rw [List.length_append, List.length_singleton]
                try simp [ByteArray.size_extract]
                try omega
            case measure => have := HL1.out; simp [ByteArray.size_extract]; omega
    · go_wp2_with fail
      go_ret
      refine ⟨_, ps, rfl, HTr.out, ?_, HBr.out⟩
      have := HEr.out
      rw [tokGo_short (by rw [nums_length]; omega), List.append_nil] at this
      exact this
end Go.Proofs.YtbhccdedcoajmaaDoor
