import Derived.Test.YtbhccdedcoajmaaDoorRefDiff
import Derived.Test.YtbhccdedcoajmaaDoorPDiff
import Derived.Test.YtbhccdedcoajmaaDoorWritten
import Derived.Test.YtbhccdedcoajmaaDoorFair
namespace Go.Proofs.YtbhccdedcoajmaaDoor
open Go.RowKit

theorem still_below {s : ByteArray} {b : Nat} {w w' : World} {base : Nat} (hg : w.heap[b]? = some (.cells (u8s (nums s) ++ [Value.int .u8 77, Value.int .u8 88]).toArray 5 (0, 0))) (hb : Below base w w') (hlt : b < base) : w'.heap[b]? = some (.cells (u8s (nums s) ++ [Value.int .u8 77, Value.int .u8 88]).toArray 5 (0, 0)) := (hb.block b hlt).trans hg
theorem lt_of_heap {w : World} {b : Nat} {o : Obj} (h : w.heap[b]? = some o) : b < w.heap.size := (Array.getElem?_eq_some_iff.1 h).1

set_option maxHeartbeats 400000 in
theorem diffs_great (s d : ByteArray) (h : 65536 < s.size ∨ 65536 < d.size) (hs : s.size ≤ maxLen) (hd : d.size ≤ maxLen) (B : Int) (w : World) :
    Calls Tryd.prog 5 #[.string s, .string d, .int .i64 B] w fun e w' => e = .returned (.bool true) ∧ Below w.heap.size w w' := by
  unfold maxLen at hs hd
  by_cases h1 : 65536 < s.size
  · go_enter Tryd.func5, Tryd.ntmps5
    go_wp2_with fail
    go_ret
    exact ⟨rfl, Below.refl _ _⟩
  · have h2 : 65536 < d.size := h.resolve_left h1
    clear h
    go_enter Tryd.func5, Tryd.ntmps5
    go_wp2_with fail
    go_ret
    exact ⟨rfl, Below.refl _ _⟩

theorem Tryd.nilToks (w : World) : (binOp BinOp.eql 41 (.slice none 0 0) (.slice none 0 0)).run Tryd.prog w = .ok (.bool true) w := by kernel_rfl

set_option maxRecDepth 10000 in
set_option maxHeartbeats 1000000 in
theorem diffs_bad1 (s d : ByteArray) (hs : s.size ≤ 65536) (hd : d.size ≤ 65536) (B k : Int) (hk : k = 1 ∨ k = 2) (w : World) (he : ErrT w)
    (hc : ∀ v v' w, Calls Tryd.prog 69 #[.slice v s.size (s.size + 2), .slice v' d.size (d.size + 2), .int .i64 B] w fun e w' => e = .returned (.iface 23 (.int .i64 k)) ∧ w' = w)
    (hz : ∀ w, Calls Tryd.prog 14 #[.int .i64 B, .int .i64 s.size] w fun e w' => e = .returned (.int .i64 k) ∧ w' = w) :
    Calls Tryd.prog 5 #[.string s, .string d, .int .i64 B] w fun e w' => e = .returned (.bool true) ∧ Below w.heap.size w w' := by
  have HC := hide hc
  have HZ := hide hz
  have HE := hide he
  have hk0 : (k != 0) = true := by rcases hk with rfl | rfl <;> rfl
  have hk1 : (k == 0) = false := by rcases hk with rfl | rfl <;> rfl
  clear hc hz he hk
  have hnil := Tryd.nilToks
  go_enter Tryd.func5, Tryd.ntmps5
  go_wp2_with fail
  refine (roomy_any s (by omega) _).mono ?_
  rintro e w1 ⟨rfl, hg, hb⟩
  have HG := hide hg
  have HB := hide hb
  clear hg hb
  go_wp2_with fail
  refine (roomy_any d (by omega) _).mono ?_
  rintro e w2 ⟨rfl, hg, hb⟩
  have HG2 := hide hg
  have HB2 := hide hb
  clear hg hb
  go_wp2_with fail
  refine (pDiff_bad _ _ _ _ _ _ _ _ _ ((HE.out.keep HB.out).keep HB2.out) (HC.out _ _ _)).mono ?_
  rintro e w3 ⟨rfl, hb⟩
  have HB3 := hide hb
  clear hb
  go_wp2_with fail
  refine (HZ.out _).mono ?_
  rintro e w4 ⟨rfl, hw4⟩
  obtain rfl := hw4.symm
  go_wp2_with fail
  refine (still_any s (by omega) _ _ (still_below HG.out (below_all HB2.out HB3.out) (lt_of_heap HG.out))).mono ?_
  rintro e w4 ⟨rfl, hw4⟩
  obtain rfl := hw4.symm
  go_wp2_with fail
  refine (still_any d (by omega) _ _ (still_below HG2.out HB3.out (lt_of_heap HG2.out))).mono ?_
  rintro e w4 ⟨rfl, hw4⟩
  obtain rfl := hw4.symm
  go_wp2_with fail
  go_ret
  exact ⟨rfl, below_all (below_all HB.out HB2.out) HB3.out⟩

set_option maxRecDepth 10000 in
set_option maxHeartbeats 1000000 in
theorem diffs_bad2 (s d : ByteArray) (hs : s.size ≤ 65536) (hd : d.size ≤ 65536) (B : Int) (w : World) (he : ErrT w)
    (hc : ∀ v v' w, Calls Tryd.prog 69 #[.slice v s.size (s.size + 2), .slice v' d.size (d.size + 2), .int .i64 B] w fun e w' => e = .returned (.iface 23 (.int .i64 2)) ∧ w' = w)
    (hz : ∀ w, Calls Tryd.prog 14 #[.int .i64 B, .int .i64 s.size] w fun e w' => e = .returned (.int .i64 0) ∧ w' = w)
    (hz2 : ∀ w, Calls Tryd.prog 14 #[.int .i64 B, .int .i64 d.size] w fun e w' => e = .returned (.int .i64 2) ∧ w' = w) :
    Calls Tryd.prog 5 #[.string s, .string d, .int .i64 B] w fun e w' => e = .returned (.bool true) ∧ Below w.heap.size w w' := by
  have HC := hide hc
  have HZ := hide hz
  have HZ2 := hide hz2
  have HE := hide he
  clear hc hz he hz2
  have hnil := Tryd.nilToks
  go_enter Tryd.func5, Tryd.ntmps5
  go_wp2_with fail
  refine (roomy_any s (by omega) _).mono ?_
  rintro e w1 ⟨rfl, hg, hb⟩
  have HG := hide hg
  have HB := hide hb
  clear hg hb
  go_wp2_with fail
  refine (roomy_any d (by omega) _).mono ?_
  rintro e w2 ⟨rfl, hg, hb⟩
  have HG2 := hide hg
  have HB2 := hide hb
  clear hg hb
  go_wp2_with fail
  refine (pDiff_bad _ _ _ _ _ _ _ _ _ ((HE.out.keep HB.out).keep HB2.out) (HC.out _ _ _)).mono ?_
  rintro e w3 ⟨rfl, hb⟩
  have HB3 := hide hb
  clear hb
  go_wp2_with fail
  refine (HZ.out _).mono ?_
  rintro e w4 ⟨rfl, hw4⟩
  obtain rfl := hw4.symm
  go_wp2_with fail
  refine (HZ2.out _).mono ?_
  rintro e w4 ⟨rfl, hw4⟩
  obtain rfl := hw4.symm
  go_wp2_with fail
  refine (still_any s (by omega) _ _ (still_below HG.out (below_all HB2.out HB3.out) (lt_of_heap HG.out))).mono ?_
  rintro e w4 ⟨rfl, hw4⟩
  obtain rfl := hw4.symm
  go_wp2_with fail
  refine (still_any d (by omega) _ _ (still_below HG2.out HB3.out (lt_of_heap HG2.out))).mono ?_
  rintro e w4 ⟨rfl, hw4⟩
  obtain rfl := hw4.symm
  go_wp2_with fail
  go_ret
  exact ⟨rfl, below_all (below_all HB.out HB2.out) HB3.out⟩

set_option maxRecDepth 10000 in
set_option maxHeartbeats 1000000 in
theorem diffs_ok (s d : ByteArray) (hs : s.size ≤ 300) (hd : d.size ≤ 300) (B : Nat) (hB1 : 1 ≤ B) (hB2 : B ≤ 64) (w : World) :
    Calls Tryd.prog 5 #[.string s, .string d, .int .i64 B] w fun e w' => e = .returned (.bool true) ∧ Below w.heap.size w w' := by
  have HPD : Hid (∀ W b b2, W.heap[b]? = some (.cells (u8s (nums s) ++ [Value.int .u8 77, Value.int .u8 88]).toArray 5 (0, 0)) → W.heap[b2]? = some (.cells (u8s (nums d) ++ [Value.int .u8 77, Value.int .u8 88]).toArray 5 (0, 0)) →
      Calls Tryd.prog 18 #[.slice (some ⟨b, 0, none⟩) s.size (s.size + 2), .slice (some ⟨b2, 0, none⟩) d.size (d.size + 2), .int .i64 B] W fun e w' => ∃ v ps, e = .returned (.tuple #[v, .int .i64 0]) ∧ TokRow w' W.heap.size v ps ∧ ps.map Prod.fst = diffOf (nums s) (nums d) B ∧ Below W.heap.size W w') := by
    intro W b b2 hg hg2
    have := pDiff_ok b 0 (s.size + 2) B (nums s) b2 0 (d.size + 2) (nums d) W hB1 hB2 (by rw [nums_length]; omega) (by rw [nums_length]; omega) (nums_bytes s) (by rw [nums_length]; omega) (by rw [nums_length]; omega) (nums_bytes d) (lt_of_heap hg2) (row_cells hg) (row_cells hg2)
    rw [nums_length, nums_length] at this
    exact this
  have HRD := hide (fun w => rdiff_ok s d B w hB1 hB2 hs hd)
  have HFA : Hid (AllFair (diffOf (nums s) (nums d) B) ∧ (diffOf (nums s) (nums d) B).length ≤ 300) := by
    obtain ⟨h1, h2⟩ := fair_diffOf (zs := nums s) (ds := nums d) (B := B) hB1 (by rw [nums_length]; omega) (nums_bytes d)
    exact ⟨h1, by rw [nums_length] at h2; omega⟩
  go_enter Tryd.func5, Tryd.ntmps5
  go_wp2_with fail
  refine (roomy_any s (by omega) _).mono ?_
  rintro e w1 ⟨rfl, hg, hb⟩
  have HG := hide hg
  have HB := hide hb
  clear hg hb
  go_wp2_with fail
  refine (roomy_any d (by omega) _).mono ?_
  rintro e w2 ⟨rfl, hg, hb⟩
  have HG2 := hide hg
  have HB2 := hide hb
  have HG1 := hide (still_below HG.out hb (lt_of_heap HG.out))
  clear hg hb
  go_wp2_with fail
  refine (HPD.out _ _ _ HG1.out HG2.out).mono ?_
  rintro e w3 ⟨v, ps, rfl, hT, hE, hb⟩
  have HT := hide hT
  have HE := hide hE
  have HB3 := hide hb
  clear hT hE hb
  go_wp2_with fail
  refine (sized_ok _ _ (by omega) (by omega) (by omega) _).mono ?_
  rintro e w4 ⟨rfl, hw4⟩
  obtain rfl := hw4.symm
  go_wp2_with fail
  refine (sized_ok _ _ (by omega) (by omega) (by omega) _).mono ?_
  rintro e w4 ⟨rfl, hw4⟩
  obtain rfl := hw4.symm
  go_wp2_with fail
  refine (HRD.out _).mono ?_
  rintro e w4 ⟨v', qs, rfl, hU, hE', hb⟩
  have HU := hide hU
  have HE' := hide hE'
  have HB4 := hide hb
  have HT4 := hide (HT.out.below hb)
  clear hU hE' hb
  go_wp2_with fail
  refine (alike_ok _ _ _ _ ps qs _ HT4.out HU.out (HE.out.trans HE'.out.symm) (fun p hp => (HFA.out.1 p.1 (by rw [← HE.out]; exact List.mem_map_of_mem hp)).1) (by have := HFA.out.2; rw [← HE.out, List.length_map] at this; omega)).mono ?_
  rintro e w5 ⟨rfl, hb⟩
  have HB5 := hide hb
  have HT5 := hide (HT4.out.below hb)
  clear hb
  go_wp2_with fail
  refine (written_ok _ _ ps _ (Nat.le_trans HB3.out.size (Nat.le_trans HB4.out.size HB5.out.size)) HT5.out (by have := HFA.out.2; rw [← HE.out, List.length_map] at this; omega)).mono ?_
  rintro e w6 ⟨rfl, hb⟩
  have HB6 : Hid (Below w2.heap.size w2 w6) := (below_all (below_all HB3.out HB4.out) HB5.out).trans hb
  clear hb
  go_wp2_with fail
  refine (still_any s (by omega) _ _ (still_below HG1.out HB6.out (lt_of_heap HG1.out))).mono ?_
  rintro e w7 ⟨rfl, hw7⟩
  obtain rfl := hw7.symm
  go_wp2_with fail
  refine (still_any d (by omega) _ _ (still_below HG2.out HB6.out (lt_of_heap HG2.out))).mono ?_
  rintro e w7 ⟨rfl, hw7⟩
  obtain rfl := hw7.symm
  go_wp2_with fail
  go_ret
  exact ⟨rfl, below_all (below_all HB.out HB2.out) HB6.out⟩

theorem walk_diffs (s d : ByteArray) (B : Int) (hs : s.size ≤ maxLen) (hd : d.size ≤ maxLen) (_hB : (Lit.int .i64 B).wf = true) (w : World) (he : ErrT w) :
    Calls Tryd.prog 5 #[.string s, .string d, .int .i64 B] w fun e w' => e = .returned (.bool true) ∧ Below w.heap.size w w' := by
  by_cases h1 : 65536 < s.size ∨ 65536 < d.size
  · exact diffs_great s d h1 hs hd B w
  · by_cases h2 : B < 1 ∨ 64 < B
    · exact diffs_bad1 s d (by omega) (by omega) B 1 (.inl rfl) w he (fun v v' w => checkBoth_bad v v' _ _ _ _ B 1 w (check_block v s.size (s.size + 2) B (by omega) h2 w)) (fun w => sized_block B s.size h2 w)
    · by_cases h3 : 300 < s.size
      · exact diffs_bad1 s d (by omega) (by omega) B 2 (.inr rfl) w he (fun v v' w => checkBoth_bad v v' _ _ _ _ B 2 w (check_data v s.size (s.size + 2) B (by omega) (by omega) (by omega) h3 w)) (fun w => sized_data B s.size (by omega) (by omega) (by omega) w)
      · by_cases h4 : 300 < d.size
        · exact diffs_bad2 s d (by omega) (by omega) B w he (fun v v' w => checkBoth_next v v' _ _ _ _ B _ w (check_ok v s.size (s.size + 2) B (by omega) (by omega) (by omega) w) (check_data v' d.size (d.size + 2) B (by omega) (by omega) (by omega) h4 w)) (fun w => sized_ok B s.size (by omega) (by omega) (by omega) w) (fun w => sized_data B d.size (by omega) (by omega) (by omega) w)
        · obtain ⟨b, rfl⟩ : ∃ b : Nat, B = b := ⟨B.toNat, by omega⟩
          exact diffs_ok s d (by omega) (by omega) b (by omega) (by omega) w
end Go.Proofs.YtbhccdedcoajmaaDoor
