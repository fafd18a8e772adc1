import Derived.Test.YtbhccdedcoajmaaDoorSw
import Derived.Test.YtbhccdedcoajmaaDoorChunks
namespace Go.Proofs.YtbhccdedcoajmaaDoor
open Go.RowKit

set_option maxHeartbeats 400000 in
theorem sized_block (B n : Int) (h : B < 1 ∨ 64 < B) (w : World) :
    Calls Tryd.prog 14 #[.int .i64 B, .int .i64 n] w fun e w' => e = .returned (.int .i64 1) ∧ w' = w := by
  rcases h with h | h
  all_goals
    go_enter Tryd.func14, Tryd.ntmps14
    go_wp2_with fail
    go_ret
    exact ⟨rfl, rfl⟩
set_option maxHeartbeats 400000 in
theorem sized_data (B n : Int) (h1 : 1 ≤ B) (h2 : B ≤ 64) (h : 300 < n) (w : World) :
    Calls Tryd.prog 14 #[.int .i64 B, .int .i64 n] w fun e w' => e = .returned (.int .i64 2) ∧ w' = w := by
  go_enter Tryd.func14, Tryd.ntmps14
  go_wp2_with fail
  go_ret
  exact ⟨rfl, rfl⟩
set_option maxHeartbeats 400000 in
theorem sized_ok (B n : Int) (h1 : 1 ≤ B) (h2 : B ≤ 64) (h : n ≤ 300) (w : World) :
    Calls Tryd.prog 14 #[.int .i64 B, .int .i64 n] w fun e w' => e = .returned (.int .i64 0) ∧ w' = w := by
  go_enter Tryd.func14, Tryd.ntmps14
  go_wp2_with fail
  go_ret
  exact ⟨rfl, rfl⟩

theorem Tryd.info9 : (Tryd.prog.info? 9).map (fun i => (i.zero, i.size, i.bytes)) = some (some (.string ⟨#[]⟩), 1, 16) := by kernel_rfl

set_option maxRecDepth 10000 in
set_option maxHeartbeats 1000000 in
theorem blocks_any (s : ByteArray) (B : Nat) (w : World) (hB1 : 1 ≤ B) (hB2 : B ≤ 64) (hm : s.size ≤ 300) :
    Calls Tryd.prog 15 #[.string s, .int .i64 B] w fun e w' => ∃ (v : Value) (ts : List ByteArray), e = .returned v ∧
      w'.ownsRow w.heap.size 9 1 v (chunks s.size B) (ts.map Value.string) ∧ ts.map nums = (List.range (chunks s.size B)).map (chunk (nums s) B) ∧ Below w.heap.size w w' := by
  obtain ⟨i0, hi, z0, z1, z2⟩ := info_parts Tryd.info9
  have HIFF : Hid (∀ k, k < chunks s.size B ↔ k * B < s.size) := fun k => lt_chunks hB1
  have hcle := chunks_le (n := s.size) hB1
  have HNL := hide (nums_length s)
  generalize chunks s.size B = M at *
  go_enter Tryd.func15, Tryd.ntmps15
  go_wp2_with fail
  go_loopw [0, 5] (fun t v wr => ∃ (k : Nat) (u : ByteArray) (ts : List ByteArray), k ≤ M ∧ u.size ≤ 300 ∧ t = .string u ∧ Hid (u.size = s.size - k * B) ∧ Hid (nums u = (nums s).drop (k * B)) ∧ Hid (ts.map nums = (List.range k).map (chunk (nums s) B)) ∧
      Hid (wr.ownsRow w.heap.size 9 1 v k (ts.map Value.string)) ∧ Hid (Below w.heap.size w wr)) (fun t _ _ => match t with | .string u => u.size | _ => 0)
  case atStart => exact ⟨0, s, [], Nat.zero_le _, hm, rfl, (show s.size = s.size - 0 * B by omega), (show nums s = (nums s).drop (0 * B) by simp), rfl, World.ownsRow_nil _ _ _ _, Below.refl _ _⟩
  case round =>
    obtain ⟨k, u, ts, hk, hu, rfl, ES, EN, ET, HOr, HBr⟩ := hrel
    by_cases hlt : 0 < u.size
    · have hkM : k < M := (HIFF.out k).2 (by have := ES.out; omega)
      have hsz : w.heap.size ≤ wr.heap.size := HBr.out.size
      have HSZ := hide hsz
      have HKM := hide hkM
      clear hsz
      by_cases hle : B ≤ u.size
      · go_wp2_with (at_builtin; refine wpList_append_own _ rfl (.tmp 17) (.tmp 21) 32 rfl w.heap.size 9 i0 (.string ⟨#[]⟩) 1 16 Tryd.underlying32 hi z0 z1 z2 rfl (by decide) _ k (ts.map Value.string) rfl (HOr.out.alloc _) ⟨wr.heap.size, 0, none⟩ 1 1 [.string (u.extract 0 B)] rfl rfl ?ka ?kb ?kc ?kd ?ke ?kf)
        case ka =>
          intro j x hj
          match j, hj with
          | 0, hj => simp at hj; subst hj; simp [Addr.add]
        case kb => intro x hx; simp at hx; subst hx; rfl
        case kc => unfold maxLen; omega
        case kd => omega
        case ke => have := HSZ.out; simp; omega
        case kf =>
          intro v' w3 hown3 hgrow3 _
          have HB3 : Hid (Below w.heap.size w w3) := (HBr.out.alloc HSZ.out _).grown hgrow3 (by have := HSZ.out; simp; omega) (fun j hj => (HOr.out.lt j hj).1)
          have HO3 : Hid (w3.ownsRow w.heap.size 9 1 v' (k + 1) ((ts ++ [(u.extract 0 B)]).map Value.string)) := by
            show World.ownsRow _ _ _ _ _ _ _
            rw [List.map_append]
            exact hown3
          have ET3 : Hid ((ts ++ [(u.extract 0 B)]).map nums = (List.range (k + 1)).map (chunk (nums s) B)) := by
            show _ = _
            rw [List.map_append, ET.out, List.range_succ, List.map_append]
            have := EN.out
            have hnl := nums_length u
            congr 1
            simp only [List.map_cons, List.map_nil, chunk, ← this]
            rw [nums_extract]; simp
          clear hown3 hgrow3
          go_wp2_with fail
          go_roundw
          case rel =>
            refine ⟨k + 1, _, _, HKM.out, ?_, rfl, ?_, ?_, ET3, HO3, HB3⟩
            · simp [ByteArray.size_extract]; omega
            · show _ = _
              have := ES.out
              rw [Nat.add_mul]
              simp [ByteArray.size_extract]; omega
            · show _ = _
              have hnl := nums_length u
              rw [nums_extract, List.take_of_length_le (by rw [List.length_drop]; omega), EN.out, List.drop_drop, Nat.add_mul, Nat.one_mul]
          case measure => simp [ByteArray.size_extract]; omega
      · go_wp2_with (at_builtin; refine wpList_append_own _ rfl (.tmp 17) (.tmp 21) 32 rfl w.heap.size 9 i0 (.string ⟨#[]⟩) 1 16 Tryd.underlying32 hi z0 z1 z2 rfl (by decide) _ k (ts.map Value.string) rfl (HOr.out.alloc _) ⟨wr.heap.size, 0, none⟩ 1 1 [.string u] rfl rfl ?la ?lb ?lc ?ld ?le ?lf)
        case la =>
          intro j x hj
          match j, hj with
          | 0, hj => simp at hj; subst hj; simp [Addr.add]
        case lb => intro x hx; simp at hx; subst hx; rfl
        case lc => unfold maxLen; omega
        case ld => omega
        case le => have := HSZ.out; simp; omega
        case lf =>
          intro v' w3 hown3 hgrow3 _
          have HB3 : Hid (Below w.heap.size w w3) := (HBr.out.alloc HSZ.out _).grown hgrow3 (by have := HSZ.out; simp; omega) (fun j hj => (HOr.out.lt j hj).1)
          have HO3 : Hid (w3.ownsRow w.heap.size 9 1 v' (k + 1) ((ts ++ [u]).map Value.string)) := by
            show World.ownsRow _ _ _ _ _ _ _
            rw [List.map_append]
            exact hown3
          have ET3 : Hid ((ts ++ [u]).map nums = (List.range (k + 1)).map (chunk (nums s) B)) := by
            show _ = _
            rw [List.map_append, ET.out, List.range_succ, List.map_append]
            have := EN.out
            have hnl := nums_length u
            congr 1
            simp only [List.map_cons, List.map_nil, chunk, ← this]
            rw [List.take_of_length_le (by omega)]
          clear hown3 hgrow3
          go_wp2_with fail
          go_roundw
          case rel =>
            refine ⟨k + 1, _, _, HKM.out, ?_, rfl, ?_, ?_, ET3, HO3, HB3⟩
            · simp
            · show _ = _
              have := ES.out
              rw [Nat.add_mul]
              simp; omega
            · show _ = _
              have hnl := HNL.out
              have := ES.out
              rw [List.drop_of_length_le (by rw [hnl, Nat.add_mul]; omega)]
              rfl
          case measure => simp; omega
    · have HKM : Hid (k = M) := by
        have := (HIFF.out k).1
        have := ES.out
        show k = M
        omega
      go_wp2_with fail
      go_ret
      have hk := HKM.out
      subst hk
      exact ⟨_, ts, rfl, HOr.out, ET.out, HBr.out⟩
end Go.Proofs.YtbhccdedcoajmaaDoor
