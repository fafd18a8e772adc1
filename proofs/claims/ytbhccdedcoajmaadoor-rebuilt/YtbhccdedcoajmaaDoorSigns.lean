import Derived.Test.YtbhccdedcoajmaaDoorRoomy
import Derived.Test.YtbhccdedcoajmaaDoorSign
import Derived.Test.YtbhccdedcoajmaaDoorBlocks
import Derived.Test.YtbhccdedcoajmaaDoorTold
import Derived.WalkSpells
namespace Go.Proofs.YtbhccdedcoajmaaDoor
open Go.RowKit

set_option maxHeartbeats 400000 in
theorem mSign_any (v0 : Option Addr) (n cap : Nat) (B : Int) (r e0 : Value) (w : World) (R : World → Prop) (hc : Calls Tryd.prog 50 #[.slice v0 n cap, .int .i64 B] w fun e w' => e = .returned (.tuple #[r, e0]) ∧ R w') :
    Calls Tryd.prog 34 #[.slice v0 n cap, .int .i64 B] w fun e w' => e = .returned (.tuple #[r, e0]) ∧ R w' := by
  have HC := hide hc
  clear hc
  go_enter Tryd.func34, Tryd.ntmps34
  go_wp2_with fail
  refine HC.out.mono ?_
  rintro e w1 ⟨rfl, hr⟩
  have HR := hide hr
  clear hr
  go_wp2_with fail
  go_ret2
  exact ⟨rfl, HR.out⟩

set_option maxHeartbeats 400000 in
theorem pSign_bad (v0 : Option Addr) (n cap : Nat) (B k : Int) (w : World) (he : ErrT w) (hc : Calls Tryd.prog 62 #[.slice v0 n cap, .int .i64 B] w fun e w' => e = .returned (.iface 23 (.int .i64 k)) ∧ w' = w) :
    Calls Tryd.prog 12 #[.slice v0 n cap, .int .i64 B] w fun e w' => e = .returned (.tuple #[.slice none 0 0, .int .i64 k]) ∧ Below w.heap.size w w' := by
  have HC := hide (mSign_any v0 n cap B _ _ w (fun w' => w' = w) (sign_bad v0 n cap B k w hc))
  have HE := hide he
  clear hc he
  go_enter Tryd.func12, Tryd.ntmps12
  go_wp2_with fail
  refine HC.out.mono ?_
  rintro e w1 ⟨rfl, hw1⟩
  obtain rfl := hw1.symm
  go_wp2_with fail
  refine (told_kind _ _ HE.out).mono ?_
  rintro e w2 ⟨rfl, hb⟩
  have HB := hide hb
  clear hb
  go_wp2_with fail
  go_ret2
  exact ⟨rfl, HB.out⟩

set_option maxHeartbeats 400000 in
theorem pSign_ok (b off cap B : Nat) (zs : List Int) (w : World) (hB1 : 1 ≤ B) (hB2 : B ≤ 64) (hm : zs.length ≤ 300) (hcap : zs.length ≤ cap) (hcap2 : cap ≤ 70002) (hz : Bytes zs)
    (hc : ∀ k (h : k < zs.length), w.cell? ⟨b, off + k, none⟩ = some (.int .u8 zs[k])) :
    Calls Tryd.prog 12 #[.slice (some ⟨b, off, none⟩) zs.length cap, .int .i64 B] w fun e w' => e = .returned (.tuple #[.slice (some ⟨w.heap.size, 0, none⟩) (chunks zs.length B) (chunks zs.length B), .int .i64 0]) ∧
      w'.ownsRow w.heap.size 39 3 (.slice (some ⟨w.heap.size, 0, none⟩) (chunks zs.length B) (chunks zs.length B)) (chunks zs.length B) (signCells zs B (chunks zs.length B)) ∧ Below w.heap.size w w' := by
  have HC := hide (mSign_any _ _ _ _ _ _ w _ (sign_ok b off cap B zs w hB1 hB2 hm hcap hcap2 hz hc))
  clear hc hz
  generalize chunks zs.length B = M at *
  generalize zs.length = n at *
  go_enter Tryd.func12, Tryd.ntmps12
  go_wp2_with fail
  refine HC.out.mono ?_
  rintro e w1 ⟨rfl, ho, hb⟩
  have HO := hide ho
  have HB := hide hb
  clear ho hb
  go_wp2_with fail
  refine (told_nil _).mono ?_
  rintro e w2 ⟨rfl, hb⟩
  have HB2 := hide hb
  clear hb
  go_wp2_with fail
  go_ret2
  exact ⟨rfl, ownsRow_below HO.out HB2.out, below_all HB.out HB2.out⟩

set_option maxHeartbeats 400000 in
theorem signs_great (s : ByteArray) (hs : 65536 < s.size) (hm : s.size ≤ maxLen) (B : Int) (w : World) :
    Calls Tryd.prog 4 #[.string s, .int .i64 B] w fun e w' => e = .returned (.bool true) ∧ Below w.heap.size w w' := by
  unfold maxLen at hm
  go_enter Tryd.func4, Tryd.ntmps4
  go_wp2_with fail
  go_ret
  exact ⟨rfl, Below.refl _ _⟩

theorem Tryd.nilSums (w : World) : (binOp BinOp.eql 27 (.slice none 0 0) (.slice none 0 0)).run Tryd.prog w = .ok (.bool true) w := by kernel_rfl

set_option maxRecDepth 10000 in
set_option maxHeartbeats 1000000 in
theorem signs_bad (s : ByteArray) (hs : s.size ≤ 65536) (B k : Int) (hk : k = 1 ∨ k = 2) (w : World) (he : ErrT w)
    (hc : ∀ v w, Calls Tryd.prog 62 #[.slice v s.size (s.size + 2), .int .i64 B] w fun e w' => e = .returned (.iface 23 (.int .i64 k)) ∧ w' = w)
    (hd : ∀ w, Calls Tryd.prog 14 #[.int .i64 B, .int .i64 s.size] w fun e w' => e = .returned (.int .i64 k) ∧ w' = w) :
    Calls Tryd.prog 4 #[.string s, .int .i64 B] w fun e w' => e = .returned (.bool true) ∧ Below w.heap.size w w' := by
  have HC := hide hc
  have HD := hide hd
  have HE := hide he
  have hk0 : (k != 0) = true := by rcases hk with rfl | rfl <;> rfl
  clear hc hd he hk
  have hnil := Tryd.nilSums
  go_enter Tryd.func4, Tryd.ntmps4
  go_wp2_with fail
  refine (roomy_any s (by omega) _).mono ?_
  rintro e w1 ⟨rfl, hg, hb⟩
  have HG := hide hg
  have HB := hide hb
  clear hg hb
  go_wp2_with fail
  refine (pSign_bad _ _ _ _ _ _ (HE.out.keep HB.out) (HC.out _ _)).mono ?_
  rintro e w2 ⟨rfl, hb⟩
  have HB2 := hide hb
  have HG2 : Hid (w2.heap[w.heap.size]? = some (.cells (u8s (nums s) ++ [Value.int .u8 77, Value.int .u8 88]).toArray 5 (0, 0))) := (hb.block _ (Array.getElem?_eq_some_iff.1 HG.out).1).trans HG.out
  clear hb
  go_wp2_with fail
  refine (still_any s (by omega) _ _ HG2.out).mono ?_
  rintro e w3 ⟨rfl, hw3⟩
  obtain rfl := hw3.symm
  go_wp2_with fail
  refine (HD.out _).mono ?_
  rintro e w3 ⟨rfl, hw3⟩
  obtain rfl := hw3.symm
  go_wp2_with fail
  go_ret
  exact ⟨rfl, below_all HB.out HB2.out⟩

set_option maxRecDepth 10000 in
set_option maxHeartbeats 1000000 in
theorem signs_zero (s : ByteArray) (hs : s.size = 0) (B : Nat) (hB1 : 1 ≤ B) (hB2 : B ≤ 64) (w : World) :
    Calls Tryd.prog 4 #[.string s, .int .i64 B] w fun e w' => e = .returned (.bool true) ∧ Below w.heap.size w w' := by
  have hM : chunks s.size B = 0 := by have := chunks_le (n := s.size) hB1; omega
  have hs3 : s.size ≤ 300 := by omega
  clear hs
  have HPS : Hid (∀ W b, W.heap[b]? = some (.cells (u8s (nums s) ++ [Value.int .u8 77, Value.int .u8 88]).toArray 5 (0, 0)) → Calls Tryd.prog 12 #[.slice (some ⟨b, 0, none⟩) s.size (s.size + 2), .int .i64 B] W fun e w' => e = .returned (.tuple #[.slice (some ⟨W.heap.size, 0, none⟩) (chunks s.size B) (chunks s.size B), .int .i64 0]) ∧
      w'.ownsRow W.heap.size 39 3 (.slice (some ⟨W.heap.size, 0, none⟩) (chunks s.size B) (chunks s.size B)) (chunks s.size B) (signCells (nums s) B (chunks s.size B)) ∧ Below W.heap.size W w') := by
    intro W b hg
    have := pSign_ok b 0 (s.size + 2) B (nums s) W hB1 hB2 (by rw [nums_length]; omega) (by rw [nums_length]; omega) (by omega) (nums_bytes s) (row_cells hg)
    rw [nums_length] at this
    exact this
  have HBL : Hid (∀ W, Calls Tryd.prog 15 #[.string s, .int .i64 B] W fun e w' => ∃ (v : Value) (ts : List ByteArray), e = .returned v ∧
      w'.ownsRow W.heap.size 9 1 v (chunks s.size B) (ts.map Value.string) ∧ ts.map nums = (List.range (chunks s.size B)).map (chunk (nums s) B) ∧ Below W.heap.size W w') := fun W => blocks_any s B W hB1 hB2 (by omega)
  rw [hM] at HPS HBL
  clear hM
  go_enter Tryd.func4, Tryd.ntmps4
  go_wp2_with fail
  refine (roomy_any s (by omega) _).mono ?_
  rintro e w1 ⟨rfl, hg, hb⟩
  have HG := hide hg
  have HB := hide hb
  clear hg hb
  go_wp2_with fail
  refine (HPS.out _ _ HG.out).mono ?_
  rintro e w2 ⟨rfl, ho, hb⟩
  have HO2 := hide ho
  have HB2 := hide hb
  have HG2 : Hid (w2.heap[w.heap.size]? = some (.cells (u8s (nums s) ++ [Value.int .u8 77, Value.int .u8 88]).toArray 5 (0, 0))) := (hb.block _ (Array.getElem?_eq_some_iff.1 HG.out).1).trans HG.out
  clear hb ho
  go_wp2_with fail
  refine (still_any s (by omega) _ _ HG2.out).mono ?_
  rintro e w3 ⟨rfl, hw3⟩
  obtain rfl := hw3.symm
  go_wp2_with fail
  refine (sized_ok _ _ (by omega) (by omega) (by omega) _).mono ?_
  rintro e w3 ⟨rfl, hw3⟩
  obtain rfl := hw3.symm
  go_wp2_with fail
  refine (HBL.out _).mono ?_
  rintro e w3 ⟨v, ts, rfl, ho, ht, hb⟩
  obtain ⟨ao, c2, hv⟩ : ∃ ao c2, v = .slice ao 0 c2 := by
    rcases ho.2 with ⟨h, _⟩ | ⟨g, cap', cur, h, _⟩
    · exact ⟨none, 0, h⟩
    · exact ⟨_, cap', h⟩
  rw [hv]
  have HB3 : Hid (Below w.heap.size w w3) := below_all (below_all HB.out HB2.out) hb
  clear ho ht hb hv HPS HBL
  go_wp2_with fail
  refine wp_loop_rounds 1 ?_
  rw [rounds_succ]
  go_wp2_with fail
  go_ret
  exact ⟨rfl, HB3.out⟩

set_option maxRecDepth 10000 in
set_option maxHeartbeats 1000000 in
theorem signs_pos (s : ByteArray) (h0 : 0 < s.size) (hs : s.size ≤ 300) (B : Nat) (hB1 : 1 ≤ B) (hB2 : B ≤ 64) (w : World) :
    Calls Tryd.prog 4 #[.string s, .int .i64 B] w fun e w' => e = .returned (.bool true) ∧ Below w.heap.size w w' := by
  have hM1 : 0 < chunks s.size B := (lt_chunks hB1).2 (by omega)
  have hM2 := chunks_le (n := s.size) hB1
  have HPS : Hid (∀ W b, W.heap[b]? = some (.cells (u8s (nums s) ++ [Value.int .u8 77, Value.int .u8 88]).toArray 5 (0, 0)) → Calls Tryd.prog 12 #[.slice (some ⟨b, 0, none⟩) s.size (s.size + 2), .int .i64 B] W fun e w' => e = .returned (.tuple #[.slice (some ⟨W.heap.size, 0, none⟩) (chunks s.size B) (chunks s.size B), .int .i64 0]) ∧
      w'.ownsRow W.heap.size 39 3 (.slice (some ⟨W.heap.size, 0, none⟩) (chunks s.size B) (chunks s.size B)) (chunks s.size B) (signCells (nums s) B (chunks s.size B)) ∧ Below W.heap.size W w') := by
    intro W b hg
    have := pSign_ok b 0 (s.size + 2) B (nums s) W hB1 hB2 (by rw [nums_length]; omega) (by rw [nums_length]; omega) (by omega) (nums_bytes s) (row_cells hg)
    rw [nums_length] at this
    exact this
  have HBL : Hid (∀ W, Calls Tryd.prog 15 #[.string s, .int .i64 B] W fun e w' => ∃ (v : Value) (ts : List ByteArray), e = .returned v ∧
      w'.ownsRow W.heap.size 9 1 v (chunks s.size B) (ts.map Value.string) ∧ ts.map nums = (List.range (chunks s.size B)).map (chunk (nums s) B) ∧ Below W.heap.size W w') := fun W => blocks_any s B W hB1 hB2 hs
  generalize chunks s.size B = M at *
  go_enter Tryd.func4, Tryd.ntmps4
  go_wp2_with fail
  refine (roomy_any s (by omega) _).mono ?_
  rintro e w1 ⟨rfl, hg, hb⟩
  have HG := hide hg
  have HB := hide hb
  clear hg hb
  go_wp2_with fail
  refine (HPS.out _ _ HG.out).mono ?_
  rintro e w2 ⟨rfl, ho, hb⟩
  have HO2 := hide ho
  have HB2 := hide hb
  have HG2 : Hid (w2.heap[w.heap.size]? = some (.cells (u8s (nums s) ++ [Value.int .u8 77, Value.int .u8 88]).toArray 5 (0, 0))) := (hb.block _ (Array.getElem?_eq_some_iff.1 HG.out).1).trans HG.out
  clear hb ho
  go_wp2_with fail
  refine (still_any s (by omega) _ _ HG2.out).mono ?_
  rintro e w3 ⟨rfl, hw3⟩
  obtain rfl := hw3.symm
  go_wp2_with fail
  refine (sized_ok _ _ (by omega) (by omega) (by omega) _).mono ?_
  rintro e w3 ⟨rfl, hw3⟩
  obtain rfl := hw3.symm
  go_wp2_with fail
  refine (HBL.out _).mono ?_
  rintro e w3 ⟨v, ts, rfl, ho, ht, hb⟩
  obtain ⟨g2, c2, hv⟩ : ∃ g2 c2, v = .slice (some ⟨g2, 0, none⟩) M c2 := by
    rcases ho.2 with ⟨_, h⟩ | ⟨g, cap', cur, h, _⟩
    · omega
    · exact ⟨g, cap', h⟩
  rw [hv]
  rw [hv] at ho
  have HO3 := hide ho
  have HO2' := hide (ownsRow_below HO2.out hb)
  have HB3 : Hid (Below w.heap.size w w3) := below_all (below_all HB.out HB2.out) hb
  have HT := hide ht
  clear ho ht hb hv
  go_wp2_with fail
  have HCELLS : Hid (∀ k, k < M → ∀ wr, Below w3.heap.size w3 wr → ∃ t : ByteArray, t.size ≤ 300 ∧ wr.cell? ⟨g2, k, none⟩ = some (.string t) ∧ wr.cell? ⟨w1.heap.size, k * 3, none⟩ = some (.int .i64 t.size) ∧ wr.cell? ⟨w1.heap.size, k * 3 + 1, none⟩ = some (.int .u32 (weakOf (nums t))) ∧ wr.cell? ⟨w1.heap.size, k * 3 + 2, none⟩ = some (.int .u64 (digestOf (nums t)))) := by
    intro k hk wr hbr
    have hlt : k < ts.length := by
      have := congrArg List.length HT.out
      simp at this; omega
    have hch : nums ts[k] = chunk (nums s) B k := by
      have := congrArg (fun l => l[k]?) HT.out
      simpa [hlt, hk] using this
    have hlen : (chunk (nums s) B k).length = ts[k].size := by rw [← hch, nums_length]
    have hle := chunk_length (nums s) B k
    have ho3 := ownsRow_below HO3.out hbr
    have ho2 := ownsRow_below HO2'.out hbr
    refine ⟨ts[k], by omega, ?_, ?_, ?_, ?_⟩
    · rw [ho3.cellAt k (by omega)]; simp [hlt]
    · have := ho2.cellAt (k * 3 + 0) (by omega)
      rw [signCells_at _ _ _ _ _ hk (by omega)] at this
      rw [Nat.add_zero] at this; rw [this]; simp [sumCells, hlen]
    · rw [ho2.cellAt (k * 3 + 1) (by omega), signCells_at _ _ _ _ _ hk (by omega)]; simp [sumCells, hch]
    · rw [ho2.cellAt (k * 3 + 2) (by omega), signCells_at _ _ _ _ _ hk (by omega)]; simp [sumCells, hch]
  clear HO2 HO2' HO3 HT HG HG2 HPS HBL
  go_loopw [11] (fun i wr => ∃ k : Nat, k ≤ M ∧ i = .int .i64 k ∧ Hid (Below w3.heap.size w3 wr)) (fun i _ => M - (intOf i).toNat)
  case atStart => exact ⟨0, Nat.zero_le _, rfl, Below.refl _ _⟩
  case round =>
    obtain ⟨k, hk, rfl, HBr⟩ := hrel
    by_cases hlt : k < M
    · obtain ⟨t, ht, hc0, hc1, hc2, hc3⟩ := HCELLS.out k hlt wr HBr.out
      go_wp2_with fail
      refine (rweak_any t (by omega) _).mono ?_
      rintro e w5 ⟨rfl, hw5⟩
      obtain rfl := hw5.symm
      go_wp2_with fail
      refine (rdigest_any t (by omega) _).mono ?_
      rintro e w5 ⟨rfl, hw5⟩
      obtain rfl := hw5.symm
      generalize weakOf (nums t) = W at *
      generalize digestOf (nums t) = D at *
      go_wp2_with fail
      go_quiet (fail)
      go_wp2_with fail
      go_roundw
      case rel => exact ⟨k + 1, by omega, by go_num, below_drewN HBr.out _⟩
      case measure => simp [intOf]; omega
    · go_wp2_with fail
      go_ret
      exact ⟨rfl, below_all HB3.out HBr.out⟩

theorem walk_signs (s : ByteArray) (B : Int) (hs : s.size ≤ maxLen) (_hB : (Lit.int .i64 B).wf = true) (w : World) (he : ErrT w) :
    Calls Tryd.prog 4 #[.string s, .int .i64 B] w fun e w' => e = .returned (.bool true) ∧ Below w.heap.size w w' := by
  by_cases h1 : 65536 < s.size
  · exact signs_great s h1 hs B w
  · by_cases h2 : B < 1 ∨ 64 < B
    · exact signs_bad s (by omega) B 1 (.inl rfl) w he (fun v w => check_block v s.size (s.size + 2) B (by omega) h2 w) (fun w => sized_block B s.size h2 w)
    · by_cases h3 : 300 < s.size
      · exact signs_bad s (by omega) B 2 (.inr rfl) w he (fun v w => check_data v s.size (s.size + 2) B (by omega) (by omega) (by omega) h3 w) (fun w => sized_data B s.size (by omega) (by omega) (by omega) w)
      · obtain ⟨b, rfl⟩ : ∃ b : Nat, B = b := ⟨B.toNat, by omega⟩
        by_cases h4 : s.size = 0
        · exact signs_zero s h4 b (by omega) (by omega) w
        · exact signs_pos s (by omega) (by omega) b (by omega) (by omega) w
end Go.Proofs.YtbhccdedcoajmaaDoor
