import Derived.Test.YtbhccdedcoajmaaDoorSigns
import Derived.Laws.IdiomStrings
namespace Go.Proofs.YtbhccdedcoajmaaDoor
open Go.RowKit

set_option maxRecDepth 10000 in
set_option maxHeartbeats 1000000 in
theorem sign_any (b off cap B : Nat) (zs : List Int) (w : World) (hB1 : 1 ≤ B) (hB2 : B ≤ 64) (hm : zs.length ≤ 300) (hcap : zs.length ≤ cap) (hz : Bytes zs)
    (hc : ∀ k (h : k < zs.length), w.cell? ⟨b, off + k, none⟩ = some (.int .u8 zs[k])) :
    Calls Tryd.prog 50 #[.slice (some ⟨b, off, none⟩) zs.length cap, .int .i64 B] w fun e w' => e = .returned (.tuple #[.slice (some ⟨w.heap.size, 0, none⟩) (chunks zs.length B) (chunks zs.length B), .nilIface]) ∧
      w'.ownsRow w.heap.size 39 3 (.slice (some ⟨w.heap.size, 0, none⟩) (chunks zs.length B) (chunks zs.length B)) (chunks zs.length B) (signCells zs B (chunks zs.length B)) ∧ Below w.heap.size w w' := by
  obtain ⟨i0, hi, z0, z1, z2⟩ := info_parts Tryd.info39
  have hbl : ∀ k (h : k < zs.length), b < w.heap.size := fun k h => World.block_lt_of_cell? w _ (hc k h)
  have hsum : ∀ (i : Nat) (W : World), Below w.heap.size w W → i < chunks zs.length B → ∀ cap', Calls Tryd.prog 64 #[.slice (some ⟨b, off + i * B, none⟩) (chunk zs B i).length cap'] W fun e w' => e = .returned (.agg #[.int .i64 (chunk zs B i).length, .int .u32 (weakOf (chunk zs B i)), .int .u64 (digestOf (chunk zs B i))]) ∧ Below W.heap.size W w' := by
    intro i W hb hi cap'
    refine sumOf_any b (off + i * B) cap' (chunk zs B i) W (by rw [chunk_length]; omega) (hz.chunk B i) ?_
    intro k h
    obtain ⟨h', e⟩ := chunk_at h
    rw [e, ← hc _ h', Nat.add_assoc]
    exact hb.cell (p := ⟨b, off + (i * B + k), none⟩) (hbl _ h')
  have HSUM := hide hsum
  have hlen : ∀ i, i < chunks zs.length B → i * B < zs.length ∧ ((chunk zs B i).length = B ∧ i * B + B ≤ zs.length ∨ (chunk zs B i).length = zs.length - i * B ∧ zs.length < i * B + B) := by
    intro i hi
    have := (lt_chunks hB1).1 hi
    have h2 := chunk_length zs B i
    rcases Nat.lt_or_ge zs.length (i * B + B) with h | h
    · exact ⟨this, .inr ⟨by omega, h⟩⟩
    · exact ⟨this, .inl ⟨by omega, h⟩⟩
  have HLEN := hide hlen
  have hcle := chunks_le (n := zs.length) hB1
  have HIFF : Hid (∀ k, k < chunks zs.length B ↔ k * B < zs.length) := fun k => lt_chunks hB1
  have HSUCC : Hid (∀ k, signCells zs B (k + 1) = signCells zs B k ++ sumCells (chunk zs B k)) := signCells_succ zs B
  have HLN : Hid (∀ k, (signCells zs B k).length = k * 3) := signCells_length zs B
  clear hsum hlen hc hbl hz
  generalize hn : zs.length = n at *
  clear hn
  generalize hM : chunks n B = M at *
  have HM := hide hM
  clear hM
  go_enter Tryd.func50, Tryd.ntmps50
  go_wp2_with fail
  refine (check_ok _ _ _ _ (by omega) (by omega) (by omega) _).mono ?_
  rintro e w' ⟨rfl, hw'⟩
  obtain rfl := hw'.symm
  go_wp2_with fail
  refine (count_any _ _ hB1 hB2 (by omega) _).mono ?_
  rintro e w' ⟨rfl, hw'⟩
  obtain rfl := hw'.symm
  rw [HM.out]
  go_wp2_with (at_make; refine wpList_make_own _ rfl _ _ 27 rfl w.heap.size 39 i0 _ 3 Tryd.underlying27 hi z0 z1 .i64 .i64 _ M rfl rfl rfl (by rw [z2]; omega) (by unfold maxLen; omega) (Nat.le_refl _) ?_; intro w1 hown hgrow)
  have hb1 : Below w.heap.size w w1 := (Below.refl _ _).grown hgrow (Nat.le_refl _) (fun k hk => by simp at hk)
  have HO := hide hown
  have HB := hide hb1
  clear hown hgrow hb1
  go_loopw [7, 8] (fun v i wr => ∃ k p : Nat, k ≤ M ∧ p ≤ n + 64 ∧ v = .slice (some ⟨w.heap.size, 0, none⟩) k M ∧ i = .int .i64 p ∧ Hid (p = k * B) ∧ Hid (wr.ownsRow w.heap.size 39 3 (.slice (some ⟨w.heap.size, 0, none⟩) k M) k (signCells zs B k)) ∧ Hid (Below w.heap.size w wr)) (fun _ i _ => n + 64 - (intOf i).toNat)
  case atStart => exact ⟨0, 0, Nat.zero_le _, Nat.zero_le _, rfl, rfl, (show 0 = 0 * B by omega), HO.out, HB.out⟩
  case round =>
    obtain ⟨k, p, hk, hp, rfl, rfl, EP, HOr, HBr⟩ := hrel
    by_cases hlt : p < n
    · have hkM : k < M := (HIFF.out k).2 (by have := EP.out; omega)
      have hpc : ¬ cap = p := by omega
      obtain ⟨hlA, hlB⟩ := HLEN.out k hkM
      have hS := HSUM.out k
      rw [← EP.out] at hlA hlB hS
      have HS := hide hS
      have HKM := hide hkM
      clear hS hlA hkM
      rcases hlB with ⟨hl, hto⟩ | ⟨hl, hto⟩
      · rw [hl] at HS
        have HL := hide hl
        clear hl
        go_wp2_with fail
        refine (HS.out _ HBr.out HKM.out _).mono ?_
        rintro e w2 ⟨rfl, hb2⟩
        have HB2 : Hid (Below w.heap.size w w2) := below_seq HBr.out hb2 HBr.out.size
        have HO2 := hide (ownsRow_below HOr.out hb2)
        have hsz : w.heap.size ≤ w2.heap.size := HB2.out.size
        have HSZ := hide hsz
        clear hb2 hsz
        go_wp2_with (at_builtin; refine wpList_append_fits _ rfl (.tmp 34) (.tmp 41) 27 rfl w.heap.size 39 i0 3 Tryd.underlying27 hi z1 w.heap.size k M (signCells zs B k) rfl (HO2.out.alloc _) ⟨w2.heap.size, 0, none⟩ 1 1 [.int .i64 (B : Nat), .int .u32 (weakOf (chunk zs B k)), .int .u64 (digestOf (chunk zs B k))] rfl rfl ?ka ?kb ?kc ?kd)
        case ka =>
          intro j u hj
          match j, hj with
          | 0, hj => simp at hj; subst hj; simp [Addr.add]
          | 1, hj => simp at hj; subst hj; simp [Addr.add]
          | 2, hj => simp at hj; subst hj; simp [Addr.add]
        case kb => intro u hu; simp at hu; rcases hu with rfl | rfl | rfl <;> rfl
        case kc => exact HKM.out
        case kd =>
          intro w3 hown3 hgrow3
          have HB3 : Hid (Below w.heap.size w w3) := (HB2.out.alloc HSZ.out _).grown hgrow3 (by have := HSZ.out; simp; omega) (fun j hj => by simp at hj; omega)
          have HO3 : Hid (w3.ownsRow w.heap.size 39 3 (.slice (some ⟨w.heap.size, 0, none⟩) (k + 1) M) (k + 1) (signCells zs B (k + 1))) := by
            show World.ownsRow _ _ _ _ _ _ _
            rw [HSUCC.out k]
            simp only [sumCells, HL.out]
            exact hown3
          clear hown3 hgrow3
          go_wp2_with fail
          go_roundw
          case rel => exact ⟨k + 1, p + B, HKM.out, by omega, rfl, by go_num, (show p + B = (k + 1) * B by have := EP.out; rw [Nat.add_mul]; omega), HO3, HB3⟩
          case measure => simp [intOf]; omega
      · rw [hl] at HS
        have HL := hide hl
        clear hl
        have hto' : (n : Int) < (p : Int) + (B : Int) := by omega
        clear hto
        go_wp2_with fail
        refine (HS.out _ HBr.out HKM.out _).mono ?_
        rintro e w2 ⟨rfl, hb2⟩
        have HB2 : Hid (Below w.heap.size w w2) := below_seq HBr.out hb2 HBr.out.size
        have HO2 := hide (ownsRow_below HOr.out hb2)
        have hsz : w.heap.size ≤ w2.heap.size := HB2.out.size
        have HSZ := hide hsz
        clear hb2 hsz
        go_wp2_with (at_builtin; refine wpList_append_fits _ rfl (.tmp 34) (.tmp 41) 27 rfl w.heap.size 39 i0 3 Tryd.underlying27 hi z1 w.heap.size k M (signCells zs B k) rfl (HO2.out.alloc _) ⟨w2.heap.size, 0, none⟩ 1 1 [.int .i64 (n - p : Nat), .int .u32 (weakOf (chunk zs B k)), .int .u64 (digestOf (chunk zs B k))] rfl rfl ?la ?lb ?lc ?ld)
        case la =>
          intro j u hj
          match j, hj with
          | 0, hj => simp at hj; subst hj; simp [Addr.add]
          | 1, hj => simp at hj; subst hj; simp [Addr.add]
          | 2, hj => simp at hj; subst hj; simp [Addr.add]
        case lb => intro u hu; simp at hu; rcases hu with rfl | rfl | rfl <;> rfl
        case lc => exact HKM.out
        case ld =>
          intro w3 hown3 hgrow3
          have HB3 : Hid (Below w.heap.size w w3) := (HB2.out.alloc HSZ.out _).grown hgrow3 (by have := HSZ.out; simp; omega) (fun j hj => by simp at hj; omega)
          have HO3 : Hid (w3.ownsRow w.heap.size 39 3 (.slice (some ⟨w.heap.size, 0, none⟩) (k + 1) M) (k + 1) (signCells zs B (k + 1))) := by
            show World.ownsRow _ _ _ _ _ _ _
            rw [HSUCC.out k]
            simp only [sumCells, HL.out]
            exact hown3
          clear hown3 hgrow3
          go_wp2_with fail
          go_roundw
          case rel => exact ⟨k + 1, p + B, HKM.out, by omega, rfl, by go_num, (show p + B = (k + 1) * B by have := EP.out; rw [Nat.add_mul]; omega), HO3, HB3⟩
          case measure => simp [intOf]; omega
    · have HKM : Hid (k = M) := by
        have := (HIFF.out k).1
        have := EP.out
        show k = M
        omega
      go_wp2_with fail
      go_ret2
      have hk := HKM.out
      subst hk
      exact ⟨rfl, HOr.out, HBr.out⟩

set_option maxHeartbeats 400000 in
theorem pSign_any (b off cap B : Nat) (zs : List Int) (w : World) (hB1 : 1 ≤ B) (hB2 : B ≤ 64) (hm : zs.length ≤ 300) (hcap : zs.length ≤ cap) (hz : Bytes zs)
    (hc : ∀ k (h : k < zs.length), w.cell? ⟨b, off + k, none⟩ = some (.int .u8 zs[k])) :
    Calls Tryd.prog 12 #[.slice (some ⟨b, off, none⟩) zs.length cap, .int .i64 B] w fun e w' => e = .returned (.tuple #[.slice (some ⟨w.heap.size, 0, none⟩) (chunks zs.length B) (chunks zs.length B), .int .i64 0]) ∧
      w'.ownsRow w.heap.size 39 3 (.slice (some ⟨w.heap.size, 0, none⟩) (chunks zs.length B) (chunks zs.length B)) (chunks zs.length B) (signCells zs B (chunks zs.length B)) ∧ Below w.heap.size w w' := by
  have HC := hide (mSign_any _ _ _ _ _ _ w _ (sign_any b off cap B zs w hB1 hB2 hm hcap hz hc))
  clear hc hz
  generalize chunks zs.length B = M at *
  generalize zs.length = n at *
  go_enter Tryd.func12, Tryd.ntmps12
  go_wp2_with fail
  refine HC.out.mono ?_
  rintro e w1 ⟨rfl, ho, hb⟩
  have HO := hide ho
  have HB := hide hb
  clear ho hb
  go_wp2_with fail
  refine (told_nil _).mono ?_
  rintro e w2 ⟨rfl, hb⟩
  have HB2 := hide hb
  clear hb
  go_wp2_with fail
  go_ret2
  exact ⟨rfl, ownsRow_below HO.out HB2.out, below_all HB.out HB2.out⟩


set_option maxHeartbeats 400000 in
theorem clip_long (s : ByteArray) (n : Nat) (hs : n < s.size) (_hm : s.size ≤ maxLen) (w : World) :
    Calls Tryd.prog 31 #[.string s, .int .i64 n] w fun e w' => e = .returned (.string (s.extract 0 n)) ∧ w' = w := by
  unfold maxLen at _hm
  go_enter Tryd.func31, Tryd.ntmps31
  go_wp2_with fail
  go_ret
  exact ⟨rfl, rfl⟩

set_option maxHeartbeats 400000 in
theorem clip_short (s : ByteArray) (n : Nat) (hs : s.size ≤ n) (_hm : s.size ≤ maxLen) (w : World) :
    Calls Tryd.prog 31 #[.string s, .int .i64 n] w fun e w' => e = .returned (.string s) ∧ w' = w := by
  unfold maxLen at _hm
  go_enter Tryd.func31, Tryd.ntmps31
  go_wp2_with fail
  go_ret
  exact ⟨rfl, rfl⟩

/-- '[]byte(t)': new memory that holds the bytes, with spare room perhaps -/
theorem conv_any (t : ByteArray) (w : World) : ∃ cap W1, (convert 9 25 (.string t)).run Tryd.prog w = .ok (.slice (some ⟨w.heap.size, 0, none⟩) t.size cap) W1 ∧ t.size ≤ cap ∧
    (∀ k (h : k < (nums t).length), W1.cell? ⟨w.heap.size, 0 + k, none⟩ = some (.int .u8 (nums t)[k])) ∧
    (∀ j, j < cap → (W1.cell? ⟨w.heap.size, j, none⟩).isSome = true ∧ W1.frozen? ⟨w.heap.size, j, none⟩ = false) ∧
    W1.heap.size = w.heap.size + 1 ∧ Below w.heap.size w W1 := by
  have hr := run_bytes_of_string (P := Tryd.prog) w 9 25 5 t Tryd.underlying9 Tryd.underlying25 Tryd.underlying5
  have hge := grownCap_ge w t.size 0 5
  generalize grownCap w t.size 0 5 = cap at *
  have hsz : (bytesRow t cap).size = cap := by simp [bytesRow]; omega
  refine ⟨cap, _, hr, hge, ?_, ?_, by simp, ((Below.refl _ _).drew).alloc (Nat.le_refl _) _⟩
  · intro k h
    rw [nums_length] at h
    rw [Nat.zero_add]
    refine cell_row (heap_alloc_new _ _) ?_
    rw [bytesRow, Array.getElem?_append_left (by simpa using h)]
    have hd : k < t.data.size := h
    simp [nums, Array.getElem?_eq_getElem hd]
  · intro j hj
    constructor
    · have hj' : j < (bytesRow t cap).size := by omega
      have hh : (w.drew.alloc (.cells (bytesRow t cap) 5 ((bytesRow t cap).size, (bytesRow t cap).size + 1))).cell? ⟨w.heap.size, j, none⟩ = some (bytesRow t cap)[j] := cell_row (heap_alloc_new _ _) (Array.getElem?_eq_getElem hj')
      rw [hh]; rfl
    · have hh : (w.drew.alloc (.cells (bytesRow t cap) 5 ((bytesRow t cap).size, (bytesRow t cap).size + 1))).heap[w.heap.size]? = some (.cells (bytesRow t cap) 5 ((bytesRow t cap).size, (bytesRow t cap).size + 1)) := heap_alloc_new _ _
      simp only [World.frozen?, hh]
      simp; omega


/-- which of 64 things -/
def pickOf (c : Int) : Nat := if c < 0 then ((-(c + 1)) % 64).toNat else (c % 64).toNat
theorem pickOf_lt (c : Int) : pickOf c < 64 := by unfold pickOf; split <;> omega
set_option maxHeartbeats 400000 in
theorem pick_any (c : Int) (hc : (Lit.int .i64 c).wf = true) (w : World) :
    Calls Tryd.prog 32 #[.int .i64 c, .int .i64 64] w fun e w' => e = .returned (.int .i64 (pickOf c : Nat)) ∧ w' = w := by
  have hb : -9223372036854775808 ≤ c ∧ c ≤ 9223372036854775807 := by
    simpa [Lit.wf, IntKind.min, IntKind.max, IntKind.signed, IntKind.bits] using hc
  obtain ⟨hb1, hb2⟩ := hb
  clear hc
  rcases Int.lt_or_le c 0 with h | h
  · have hm : (-(c + 1)) % 64 = ((pickOf c : Nat) : Int) := by unfold pickOf; rw [if_pos h]; omega
    have HM := hide hm
    clear hm
    go_enter Tryd.func32, Tryd.ntmps32
    go_wp2_with fail
    go_ret
    exact ⟨ret_int (by rw [← Int.neg_tmod, Int.tmod_eq_emod_of_nonneg (by omega)]; exact HM.out), rfl⟩
  · have hm : c % 64 = ((pickOf c : Nat) : Int) := by unfold pickOf; rw [if_neg (by omega)]; omega
    have HM := hide hm
    clear hm
    go_enter Tryd.func32, Tryd.ntmps32
    go_wp2_with fail
    go_ret
    exact ⟨ret_int HM.out, rfl⟩
theorem pick_ex (c : Int) (hc : (Lit.int .i64 c).wf = true) : ∃ k : Nat, k < 64 ∧ ∀ w, Calls Tryd.prog 32 #[.int .i64 c, .int .i64 64] w fun e w' => e = .returned (.int .i64 k) ∧ w' = w := ⟨pickOf c, pickOf_lt c, fun w => pick_any c hc w⟩
end Go.Proofs.YtbhccdedcoajmaaDoor
