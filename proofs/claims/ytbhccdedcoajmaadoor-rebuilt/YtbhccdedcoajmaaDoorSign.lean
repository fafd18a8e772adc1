import Derived.Test.YtbhccdedcoajmaaDoorSw
import Derived.Test.YtbhccdedcoajmaaDoorChunks
namespace Go.Proofs.YtbhccdedcoajmaaDoor
open Go.RowKit

set_option maxHeartbeats 400000 in
theorem checkBlock_bad (B : Int) (h : B < 1 ∨ 64 < B) (w : World) :
    Calls Tryd.prog 78 #[.int .i64 B] w fun e w' => e = .returned (.iface 23 (.int .i64 1)) ∧ w' = w := by
  rcases h with h | h
  all_goals
    go_enter Tryd.func78, Tryd.ntmps78
    go_wp2_with fail
    go_ret
    exact ⟨rfl, rfl⟩
set_option maxHeartbeats 400000 in
theorem checkBlock_ok (B : Int) (h1 : 1 ≤ B) (h2 : B ≤ 64) (w : World) :
    Calls Tryd.prog 78 #[.int .i64 B] w fun e w' => e = .returned .nilIface ∧ w' = w := by
  go_enter Tryd.func78, Tryd.ntmps78
  go_wp2_with fail
  go_ret
  exact ⟨rfl, rfl⟩
set_option maxHeartbeats 400000 in
theorem check_block (v : Option Addr) (n cap : Nat) (B : Int) (_hn : n ≤ 70000) (h : B < 1 ∨ 64 < B) (w : World) :
    Calls Tryd.prog 62 #[.slice v n cap, .int .i64 B] w fun e w' => e = .returned (.iface 23 (.int .i64 1)) ∧ w' = w := by
  have HC := hide (fun w => checkBlock_bad B h w)
  clear h
  go_enter Tryd.func62, Tryd.ntmps62
  go_wp2_with fail
  refine (HC.out _).mono ?_
  rintro e w' ⟨rfl, rfl⟩
  go_wp2_with fail
  go_ret
  exact ⟨rfl, rfl⟩
set_option maxHeartbeats 400000 in
theorem check_data (v : Option Addr) (n cap : Nat) (B : Int) (hn : n ≤ 70000) (h1 : 1 ≤ B) (h2 : B ≤ 64) (h : 300 < n) (w : World) :
    Calls Tryd.prog 62 #[.slice v n cap, .int .i64 B] w fun e w' => e = .returned (.iface 23 (.int .i64 2)) ∧ w' = w := by
  have HC := hide (fun w => checkBlock_ok B h1 h2 w)
  go_enter Tryd.func62, Tryd.ntmps62
  go_wp2_with fail
  refine (HC.out _).mono ?_
  rintro e w' ⟨rfl, rfl⟩
  go_wp2_with fail
  go_ret
  exact ⟨rfl, rfl⟩
set_option maxHeartbeats 400000 in
theorem check_ok (v : Option Addr) (n cap : Nat) (B : Int) (h1 : 1 ≤ B) (h2 : B ≤ 64) (h : n ≤ 300) (w : World) :
    Calls Tryd.prog 62 #[.slice v n cap, .int .i64 B] w fun e w' => e = .returned .nilIface ∧ w' = w := by
  have HC := hide (fun w => checkBlock_ok B h1 h2 w)
  go_enter Tryd.func62, Tryd.ntmps62
  go_wp2_with fail
  refine (HC.out _).mono ?_
  rintro e w' ⟨rfl, rfl⟩
  go_wp2_with fail
  go_ret
  exact ⟨rfl, rfl⟩
set_option maxHeartbeats 400000 in
theorem count_any (n B : Nat) (h1 : 1 ≤ B) (h2 : B ≤ 64) (h : n ≤ 300) (w : World) :
    Calls Tryd.prog 63 #[.int .i64 n, .int .i64 B] w fun e w' => e = .returned (.int .i64 (chunks n B : Nat)) ∧ w' = w := by
  have hc : (((n : Int) + (B : Int) - 1) / (B : Int)) = ((chunks n B : Nat) : Int) := by
    unfold chunks; rw [Int.natCast_ediv]; congr 1; omega
  have HC := hide hc
  clear hc
  go_enter Tryd.func63, Tryd.ntmps63
  go_wp2_with fail
  go_ret
  exact ⟨ret_int HC.out, rfl⟩
set_option maxHeartbeats 400000 in
theorem sumOf_any (b off cap : Nat) (zs : List Int) (w : World) (hm : zs.length ≤ 70000) (hz : Bytes zs)
    (hc : ∀ k (h : k < zs.length), w.cell? ⟨b, off + k, none⟩ = some (.int .u8 zs[k])) :
    Calls Tryd.prog 64 #[.slice (some ⟨b, off, none⟩) zs.length cap] w fun e w' => e = .returned (.agg #[.int .i64 zs.length, .int .u32 (weakOf zs), .int .u64 (digestOf zs)]) ∧ Below w.heap.size w w' := by
  have hb1 : ∀ o, Below w.heap.size w (w.alloc o) := fun o => (Below.refl _ _).alloc (Nat.le_refl _) _
  have hbl : ∀ k (h : k < zs.length), b < w.heap.size := fun k h => World.block_lt_of_cell? w _ (hc k h)
  have hc1 : ∀ o k (h : k < zs.length), (w.alloc o).cell? ⟨b, off + k, none⟩ = some (.int .u8 zs[k]) := fun o k h => ((hb1 o).cell (p := ⟨b, off + k, none⟩) (hbl k h)).trans (hc k h)
  have HW := hide (fun o => weak_any b off cap zs (w.alloc o) (by omega) hz (hc1 o))
  have HD := hide (fun o => digest_any b off cap zs (w.alloc o) (by omega) hz (hc1 o))
  clear hb1 hc1 hc hz hbl
  generalize hn : zs.length = n at *
  have HN := hide hn
  clear hn
  go_enter Tryd.func64, Tryd.ntmps64
  go_wp2_with fail
  refine (HW.out _).mono ?_
  rintro e w' ⟨rfl, rfl⟩
  go_wp2_with fail
  refine (HD.out _).mono ?_
  rintro e w' ⟨rfl, rfl⟩
  go_wp2_with fail
  refine bodyPost_ret (v := .agg #[.int .i64 n, .int .u32 (weakOf zs), .int .u64 (digestOf zs)]) (by simp [results, Tryd.results64, go_sem]) rfl ⟨rfl, ?_⟩
  exact (Below.refl _ _).alloc (Nat.le_refl _) _

set_option maxHeartbeats 400000 in
theorem sign_bad (v : Option Addr) (n cap : Nat) (B k : Int) (w : World) (hc : Calls Tryd.prog 62 #[.slice v n cap, .int .i64 B] w fun e w' => e = .returned (.iface 23 (.int .i64 k)) ∧ w' = w) :
    Calls Tryd.prog 50 #[.slice v n cap, .int .i64 B] w fun e w' => e = .returned (.tuple #[.slice none 0 0, .iface 23 (.int .i64 k)]) ∧ w' = w := by
  have HC := hide hc
  clear hc
  go_enter Tryd.func50, Tryd.ntmps50
  go_wp2_with fail
  refine HC.out.mono ?_
  rintro e w' ⟨rfl, rfl⟩
  go_wp2_with fail
  go_ret2
  exact ⟨rfl, rfl⟩

theorem Tryd.info39 : (Tryd.prog.info? 39).map (fun i => (i.zero, i.size, i.bytes)) = some (some (.agg #[.int .i64 0, .int .u32 0, .int .u64 0]), 3, 24) := by kernel_rfl

set_option maxRecDepth 10000 in
set_option maxHeartbeats 1000000 in
theorem sign_ok (b off cap B : Nat) (zs : List Int) (w : World) (hB1 : 1 ≤ B) (hB2 : B ≤ 64) (hm : zs.length ≤ 300) (hcap : zs.length ≤ cap) (_hcap2 : cap ≤ 70002) (hz : Bytes zs)
    (hc : ∀ k (h : k < zs.length), w.cell? ⟨b, off + k, none⟩ = some (.int .u8 zs[k])) :
    Calls Tryd.prog 50 #[.slice (some ⟨b, off, none⟩) zs.length cap, .int .i64 B] w fun e w' => e = .returned (.tuple #[.slice (some ⟨w.heap.size, 0, none⟩) (chunks zs.length B) (chunks zs.length B), .nilIface]) ∧
      w'.ownsRow w.heap.size 39 3 (.slice (some ⟨w.heap.size, 0, none⟩) (chunks zs.length B) (chunks zs.length B)) (chunks zs.length B) (signCells zs B (chunks zs.length B)) ∧ Below w.heap.size w w' := by
  obtain ⟨i0, hi, z0, z1, z2⟩ := info_parts Tryd.info39
  have hbl : ∀ k (h : k < zs.length), b < w.heap.size := fun k h => World.block_lt_of_cell? w _ (hc k h)
  have hsum : ∀ (i : Nat) (W : World), Below w.heap.size w W → i < chunks zs.length B → ∀ cap', Calls Tryd.prog 64 #[.slice (some ⟨b, off + i * B, none⟩) (chunk zs B i).length cap'] W fun e w' => e = .returned (.agg #[.int .i64 (chunk zs B i).length, .int .u32 (weakOf (chunk zs B i)), .int .u64 (digestOf (chunk zs B i))]) ∧ Below W.heap.size W w' := by
    intro i W hb hi cap'
    refine sumOf_any b (off + i * B) cap' (chunk zs B i) W (by rw [chunk_length]; omega) (hz.chunk B i) ?_
    intro k h
    obtain ⟨h', e⟩ := chunk_at h
    rw [e, ← hc _ h', Nat.add_assoc]
    exact hb.cell (p := ⟨b, off + (i * B + k), none⟩) (hbl _ h')
  have HSUM := hide hsum
  have hlen : ∀ i, i < chunks zs.length B → i * B < zs.length ∧ ((chunk zs B i).length = B ∧ i * B + B ≤ zs.length ∨ (chunk zs B i).length = zs.length - i * B ∧ zs.length < i * B + B) := by
    intro i hi
    have := (lt_chunks hB1).1 hi
    have h2 := chunk_length zs B i
    rcases Nat.lt_or_ge zs.length (i * B + B) with h | h
    · exact ⟨this, .inr ⟨by omega, h⟩⟩
    · exact ⟨this, .inl ⟨by omega, h⟩⟩
  have HLEN := hide hlen
  have hcle := chunks_le (n := zs.length) hB1
  have HIFF : Hid (∀ k, k < chunks zs.length B ↔ k * B < zs.length) := fun k => lt_chunks hB1
  have HSUCC : Hid (∀ k, signCells zs B (k + 1) = signCells zs B k ++ sumCells (chunk zs B k)) := signCells_succ zs B
  have HLN : Hid (∀ k, (signCells zs B k).length = k * 3) := signCells_length zs B
  clear hsum hlen hc hbl hz
  generalize hn : zs.length = n at *
  clear hn
  generalize hM : chunks n B = M at *
  have HM := hide hM
  clear hM
  go_enter Tryd.func50, Tryd.ntmps50
  go_wp2_with fail
  refine (check_ok _ _ _ _ (by omega) (by omega) (by omega) _).mono ?_
  rintro e w' ⟨rfl, hw'⟩
  obtain rfl := hw'.symm
  go_wp2_with fail
  refine (count_any _ _ hB1 hB2 (by omega) _).mono ?_
  rintro e w' ⟨rfl, hw'⟩
  obtain rfl := hw'.symm
  rw [HM.out]
  go_wp2_with (at_make; refine wpList_make_own _ rfl _ _ 27 rfl w.heap.size 39 i0 _ 3 Tryd.underlying27 hi z0 z1 .i64 .i64 _ M rfl rfl rfl (by rw [z2]; omega) (by unfold maxLen; omega) (Nat.le_refl _) ?_; intro w1 hown hgrow)
  have hb1 : Below w.heap.size w w1 := (Below.refl _ _).grown hgrow (Nat.le_refl _) (fun k hk => by simp at hk)
  have HO := hide hown
  have HB := hide hb1
  clear hown hgrow hb1
  go_loopw [7, 8] (fun v i wr => ∃ k p : Nat, k ≤ M ∧ p ≤ n + 64 ∧ v = .slice (some ⟨w.heap.size, 0, none⟩) k M ∧ i = .int .i64 p ∧ Hid (p = k * B) ∧ Hid (wr.ownsRow w.heap.size 39 3 (.slice (some ⟨w.heap.size, 0, none⟩) k M) k (signCells zs B k)) ∧ Hid (Below w.heap.size w wr)) (fun _ i _ => n + 64 - (intOf i).toNat)
  case atStart => exact ⟨0, 0, Nat.zero_le _, Nat.zero_le _, rfl, rfl, (show 0 = 0 * B by omega), HO.out, HB.out⟩
  case round =>
    obtain ⟨k, p, hk, hp, rfl, rfl, EP, HOr, HBr⟩ := hrel
    by_cases hlt : p < n
    · have hkM : k < M := (HIFF.out k).2 (by have := EP.out; omega)
      have hpc : ¬ cap = p := by omega
      obtain ⟨hlA, hlB⟩ := HLEN.out k hkM
      have hS := HSUM.out k
      rw [← EP.out] at hlA hlB hS
      have HS := hide hS
      have HKM := hide hkM
      clear hS hlA hkM
      rcases hlB with ⟨hl, hto⟩ | ⟨hl, hto⟩
      · rw [hl] at HS
        have HL := hide hl
        clear hl
        go_wp2_with fail
        refine (HS.out _ HBr.out HKM.out _).mono ?_
        rintro e w2 ⟨rfl, hb2⟩
        have HB2 : Hid (Below w.heap.size w w2) := below_seq HBr.out hb2 HBr.out.size
        have HO2 := hide (ownsRow_below HOr.out hb2)
        have hsz : w.heap.size ≤ w2.heap.size := HB2.out.size
        have HSZ := hide hsz
        clear hb2 hsz
        go_wp2_with (at_builtin; refine wpList_append_fits _ rfl (.tmp 34) (.tmp 41) 27 rfl w.heap.size 39 i0 3 Tryd.underlying27 hi z1 w.heap.size k M (signCells zs B k) rfl (HO2.out.alloc _) ⟨w2.heap.size, 0, none⟩ 1 1 [.int .i64 (B : Nat), .int .u32 (weakOf (chunk zs B k)), .int .u64 (digestOf (chunk zs B k))] rfl rfl ?ka ?kb ?kc ?kd)
        case ka =>
          intro j u hj
          match j, hj with
          | 0, hj => simp at hj; subst hj; simp [Addr.add]
          | 1, hj => simp at hj; subst hj; simp [Addr.add]
          | 2, hj => simp at hj; subst hj; simp [Addr.add]
        case kb => intro u hu; simp at hu; rcases hu with rfl | rfl | rfl <;> rfl
        case kc => exact HKM.out
        case kd =>
          intro w3 hown3 hgrow3
          have HB3 : Hid (Below w.heap.size w w3) := (HB2.out.alloc HSZ.out _).grown hgrow3 (by have := HSZ.out; simp; omega) (fun j hj => by simp at hj; omega)
          have HO3 : Hid (w3.ownsRow w.heap.size 39 3 (.slice (some ⟨w.heap.size, 0, none⟩) (k + 1) M) (k + 1) (signCells zs B (k + 1))) := by
            show World.ownsRow _ _ _ _ _ _ _
            rw [HSUCC.out k]
            simp only [sumCells, HL.out]
            exact hown3
          clear hown3 hgrow3
          go_wp2_with fail
          go_roundw
          case rel => exact ⟨k + 1, p + B, HKM.out, by omega, rfl, by go_num, (show p + B = (k + 1) * B by have := EP.out; rw [Nat.add_mul]; omega), HO3, HB3⟩
          case measure => simp [intOf]; omega
      · rw [hl] at HS
        have HL := hide hl
        clear hl
        have hto' : (n : Int) < (p : Int) + (B : Int) := by omega
        clear hto
        go_wp2_with fail
        refine (HS.out _ HBr.out HKM.out _).mono ?_
        rintro e w2 ⟨rfl, hb2⟩
        have HB2 : Hid (Below w.heap.size w w2) := below_seq HBr.out hb2 HBr.out.size
        have HO2 := hide (ownsRow_below HOr.out hb2)
        have hsz : w.heap.size ≤ w2.heap.size := HB2.out.size
        have HSZ := hide hsz
        clear hb2 hsz
        go_wp2_with (at_builtin; refine wpList_append_fits _ rfl (.tmp 34) (.tmp 41) 27 rfl w.heap.size 39 i0 3 Tryd.underlying27 hi z1 w.heap.size k M (signCells zs B k) rfl (HO2.out.alloc _) ⟨w2.heap.size, 0, none⟩ 1 1 [.int .i64 (n - p : Nat), .int .u32 (weakOf (chunk zs B k)), .int .u64 (digestOf (chunk zs B k))] rfl rfl ?la ?lb ?lc ?ld)
        case la =>
          intro j u hj
          match j, hj with
          | 0, hj => simp at hj; subst hj; simp [Addr.add]
          | 1, hj => simp at hj; subst hj; simp [Addr.add]
          | 2, hj => simp at hj; subst hj; simp [Addr.add]
        case lb => intro u hu; simp at hu; rcases hu with rfl | rfl | rfl <;> rfl
        case lc => exact HKM.out
        case ld =>
          intro w3 hown3 hgrow3
          have HB3 : Hid (Below w.heap.size w w3) := (HB2.out.alloc HSZ.out _).grown hgrow3 (by have := HSZ.out; simp; omega) (fun j hj => by simp at hj; omega)
          have HO3 : Hid (w3.ownsRow w.heap.size 39 3 (.slice (some ⟨w.heap.size, 0, none⟩) (k + 1) M) (k + 1) (signCells zs B (k + 1))) := by
            show World.ownsRow _ _ _ _ _ _ _
            rw [HSUCC.out k]
            simp only [sumCells, HL.out]
            exact hown3
          clear hown3 hgrow3
          go_wp2_with fail
          go_roundw
          case rel => exact ⟨k + 1, p + B, HKM.out, by omega, rfl, by go_num, (show p + B = (k + 1) * B by have := EP.out; rw [Nat.add_mul]; omega), HO3, HB3⟩
          case measure => simp [intOf]; omega
    · have HKM : Hid (k = M) := by
        have := (HIFF.out k).1
        have := EP.out
        show k = M
        omega
      go_wp2_with fail
      go_ret2
      have hk := HKM.out
      subst hk
      exact ⟨rfl, HOr.out, HBr.out⟩
end Go.Proofs.YtbhccdedcoajmaaDoor
