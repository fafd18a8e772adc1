import Derived.Test.YtbhccdedcoajmaaRoomy
import Derived.Test.YtbhccdedcoajmaaSx
import Derived.Laws.IdiomStrings
namespace Go.Proofs.Ytbhccdedcoajmaa
open Go.RowKit

set_option maxHeartbeats 400000 in
theorem clip_long (s : ByteArray) (n : Nat) (hs : n < s.size) (_hm : s.size ≤ maxLen) (w : World) :
    Calls Try.prog 13 #[.string s, .int .i64 n] w fun e w' => e = .returned (.string (s.extract 0 n)) ∧ w' = w := by
  unfold maxLen at _hm
  go_enter Try.func13, Try.ntmps13
  go_wp2_with fail
  go_ret
  exact ⟨rfl, rfl⟩

set_option maxHeartbeats 400000 in
theorem clip_short (s : ByteArray) (n : Nat) (hs : s.size ≤ n) (_hm : s.size ≤ maxLen) (w : World) :
    Calls Try.prog 13 #[.string s, .int .i64 n] w fun e w' => e = .returned (.string s) ∧ w' = w := by
  unfold maxLen at _hm
  go_enter Try.func13, Try.ntmps13
  go_wp2_with fail
  go_ret
  exact ⟨rfl, rfl⟩

/-- '[]byte(t)': new memory that holds the bytes, with spare room perhaps -/
theorem conv_any (t : ByteArray) (w : World) : ∃ cap W1, (convert 9 22 (.string t)).run Try.prog w = .ok (.slice (some ⟨w.heap.size, 0, none⟩) t.size cap) W1 ∧ t.size ≤ cap ∧
    (∀ k (h : k < (nums t).length), W1.cell? ⟨w.heap.size, 0 + k, none⟩ = some (.int .u8 (nums t)[k])) ∧
    (∀ j, j < cap → (W1.cell? ⟨w.heap.size, j, none⟩).isSome = true ∧ W1.frozen? ⟨w.heap.size, j, none⟩ = false) ∧
    W1.heap.size = w.heap.size + 1 ∧ Below w.heap.size w W1 := by
  have hr := run_bytes_of_string (P := Try.prog) w 9 22 5 t Try.underlying9 Try.underlying22 Try.underlying5
  have hge := grownCap_ge w t.size 0 5
  generalize grownCap w t.size 0 5 = cap at *
  have hsz : (bytesRow t cap).size = cap := by simp [bytesRow]; omega
  refine ⟨cap, _, hr, hge, ?_, ?_, by simp, ((Below.refl _ _).drew).alloc (Nat.le_refl _) _⟩
  · intro k h
    rw [nums_length] at h
    rw [Nat.zero_add]
    refine cell_row (heap_alloc_new _ _) ?_
    rw [bytesRow, Array.getElem?_append_left (by simpa using h)]
    have hd : k < t.data.size := h
    simp [nums, Array.getElem?_eq_getElem hd]
  · intro j hj
    constructor
    · have hj' : j < (bytesRow t cap).size := by omega
      have hh : (w.drew.alloc (.cells (bytesRow t cap) 5 ((bytesRow t cap).size, (bytesRow t cap).size + 1))).cell? ⟨w.heap.size, j, none⟩ = some (bytesRow t cap)[j] := cell_row (heap_alloc_new _ _) (Array.getElem?_eq_getElem hj')
      rw [hh]; rfl
    · have hh : (w.drew.alloc (.cells (bytesRow t cap) 5 ((bytesRow t cap).size, (bytesRow t cap).size + 1))).heap[w.heap.size]? = some (.cells (bytesRow t cap) 5 ((bytesRow t cap).size, (bytesRow t cap).size + 1)) := heap_alloc_new _ _
      simp only [World.frozen?, hh]
      simp; omega

theorem nums_tail (t : ByteArray) : nums (t.extract 1 t.size) = (nums t).tail := by
  simp [nums, ByteArray.data_extract, Array.toList_extract]
  exact List.take_of_length_le (by simp)
theorem empty_iff (t : ByteArray) : t.toList.isEmpty = decide (t.size = 0) := by
  rw [ByteArray.toList_eq, Bool.eq_iff_iff, List.isEmpty_iff, decide_eq_true_iff, ← List.length_eq_zero_iff]
  simp
theorem nums_head (t : ByteArray) (h : 0 < t.size) : nums t = (t[0].toNat : Int) :: (nums t).tail := by
  have := nums_at t 0 h
  have hl := nums_length t
  match hn : nums t, hl with
  | x :: r, _ => simp only [hn, List.getElem_cons_zero] at this; rw [this]; rfl
  | [], hl => simp at hl; omega

set_option maxHeartbeats 400000 in
theorem rolled_none (s t : ByteArray) (hc : ∀ w, Calls Try.prog 13 #[.string s, .int .i64 70000] w fun e w' => e = .returned (.string t) ∧ w' = w) (h0 : t.size = 0) (i : Int) (w : World) :
    Calls Try.prog 4 #[.string s, .int .i64 i] w fun e w' => e = .returned (.bool true) ∧ Below w.heap.size w w' := by
  have HC := hide hc
  have he : t.toList.isEmpty = true := by rw [empty_iff]; simp [h0]
  clear hc h0
  go_enter Try.func4, Try.ntmps4
  go_wp2_with fail
  refine (HC.out _).mono ?_
  rintro e w' ⟨rfl, rfl⟩
  go_wp2_with fail
  refine (mWeak_nil _).mono ?_
  rintro e w' ⟨rfl, rfl⟩
  go_wp2_with fail
  go_ret
  exact ⟨rfl, Below.refl _ _⟩

set_option maxHeartbeats 800000 in
theorem rolled_rest (s t : ByteArray) (hc : ∀ w, Calls Try.prog 13 #[.string s, .int .i64 70000] w fun e w' => e = .returned (.string t) ∧ w' = w) (ht : t.size ≤ 70000) (h0 : 0 < t.size) (i : Int) (w : World) :
    Calls Try.prog 4 #[.string s, .int .i64 i] w fun e w' => e = .returned (.bool true) ∧ Below w.heap.size w w' := by
  have HC := hide hc
  have he : t.toList.isEmpty = false := by rw [empty_iff]; exact decide_eq_false (by omega)
  clear hc
  obtain ⟨cap1, W1, hr1, _, hc1, _, hz1, hb1⟩ := conv_any t w
  obtain ⟨cap2, W2, hr2, hle2, hc2, hs2, hz2, hb2⟩ := conv_any (t.extract 1 t.size) W1
  have HW1 := mWeak_any w.heap.size 0 cap1 (nums t) W1 (by rw [nums_length]; omega) (nums_bytes t) hc1
  rw [nums_length] at HW1
  have HW := hide HW1
  have hz2' : W1.heap.size < W2.heap.size := by omega
  have hold3 : ∀ j u, (u8s (nums t).tail)[j]? = some u → (W2.alloc (.cells #[.int .u8 (i % 256)] 5)).cell? ⟨W1.heap.size, 0 + j, none⟩ = some u := by
    intro j u hu
    have hj : j < (nums (t.extract 1 t.size)).length := by
      have := (List.getElem?_eq_some_iff.1 hu).1
      rw [nums_tail]; simpa [u8s] using this
    have := hc2 j hj
    rw [((Below.refl W2.heap.size W2).alloc (Nat.le_refl _) _).cell (p := ⟨W1.heap.size, 0 + j, none⟩) hz2', this]
    simp only [nums_tail] at hj ⊢
    rw [u8s, List.getElem?_map, List.getElem?_eq_getElem hj] at hu
    simpa using hu
  have hsp3 : ∀ j, j < cap2 → ((W2.alloc (.cells #[.int .u8 (i % 256)] 5)).cell? ⟨W1.heap.size, j, none⟩).isSome = true ∧ (W2.alloc (.cells #[.int .u8 (i % 256)] 5)).frozen? ⟨W1.heap.size, j, none⟩ = false := by
    intro j hj
    rw [((Below.refl W2.heap.size W2).alloc (Nat.le_refl _) _).cell (p := ⟨W1.heap.size, j, none⟩) hz2', ((Below.refl W2.heap.size W2).alloc (Nat.le_refl _) _).frozen (p := ⟨W1.heap.size, j, none⟩) hz2']
    exact hs2 j hj
  have hb3 : Below w.heap.size w (W2.alloc (.cells #[.int .u8 (i % 256)] 5)) := (hb1.trans (hb2.mono (by omega))).alloc (by omega) _
  have HO := hide hold3
  have HS := hide hsp3
  have HZ2 := hide hz2'
  have HZ1 := hide hz1
  have HB3 := hide hb3
  have hw := weakOf_bd (nums t)
  have u4 : 0 ≤ i % 256 ∧ i % 256 < 256 := by omega
  have u3 := t[0].toNat_lt
  have htl : (nums t).tail.length = t.size - 1 := by rw [List.length_tail, nums_length]
  have HT := hide htl
  clear hc1 HW1 hb1 hb2 hc2 hs2 hz1 hz2 hz2' hold3 hsp3 hb3 htl
  have hby : Bytes ((nums t).tail ++ [i % 256]) := by
    intro x hx
    rcases List.mem_append.1 hx with h | h
    · exact nums_bytes t x (List.mem_of_mem_tail h)
    · simp at h; subst h; exact u4
  have hb3 : Bytes [3] := by intro x hx; simp at hx; subst hx; omega
  have w3 : weakOf [3] = 196611 := by decide
  have HE : Hid (rollOf (weakOf (nums t)) (t.size : Int) (t[0].toNat : Int) (i % 256) = weakOf ((nums t).tail ++ [i % 256])) := by
    have := rolled (t[0].toNat : Int) (nums t).tail (i % 256)
    rw [← nums_head t h0, HT.out] at this
    rw [← this]; show _ = _; congr 1; omega
  obtain ⟨i0, hi, z0, z1, z2⟩ := info_parts Try.info5
  go_enter Try.func4, Try.ntmps4
  go_wp2_with fail
  refine (HC.out _).mono ?_
  rintro e w'' ⟨rfl, hw''⟩
  obtain rfl := hw''.symm
  go_wp2_with fail
  refine HW.out.mono ?_
  rintro e w'' ⟨rfl, hw''⟩
  obtain rfl := hw''.symm
  go_wp2_with fail
  refine (mRoll_any _ _ _ _ hw.1 hw.2 (by omega) (by omega) u4.1 u4.2 _).mono ?_
  rintro e w'' ⟨rfl, hw''⟩
  obtain rfl := hw''.symm
  go_wp2_with (at_builtin; refine wpList_append_arg _ rfl (.tmp 29) (.tmp 32) 22 rfl 5 i0 (.int .u8 0) 1 1 Try.underlying22 hi z0 z1 z2 rfl (by decide) W1.heap.size 0 (t.size - 1) cap2 (u8s (nums t).tail) rfl ?k1 ?k2 ⟨W2.heap.size, 0, none⟩ 1 1 [.int .u8 (i % 256)] rfl rfl ?k3 ?k4 ?k5 ?k6 ?k7 ?k8 ?k9)
  case k1 => rw [u8s, List.length_map, HT.out, Nat.mul_one]
  case k2 => exact HO.out
  case k3 =>
    intro j u hj
    match j, hj with
    | 0, hj => simp at hj; subst hj; simp [Addr.add]
  case k4 => intro u hu; simp at hu; subst hu; rfl
  case k5 =>
    intro hroom j hj
    have hj0 : j = 0 := by simp at hj; exact hj
    subst hj0
    rw [Nat.zero_add, Nat.mul_one, Nat.add_zero]
    exact HS.out _ (by omega)
  case k6 => unfold maxLen; omega
  case k7 => omega
  case k8 =>
    intro hroom
    have hs' := (HS.out (t.size - 1) (by omega))
    have hbx : Below w.heap.size w ((W2.alloc (.cells #[.int .u8 (i % 256)] 5)).setCells W1.heap.size (t.size - 1) [.int .u8 (i % 256)]) := HB3.out.setCell (by have := HZ1.out; show w.heap.size ≤ W1.heap.size; omega) _
    have hcx : ∀ k (h : k < ((nums t).tail ++ [i % 256]).length), ((W2.alloc (.cells #[.int .u8 (i % 256)] 5)).setCells W1.heap.size (t.size - 1) [.int .u8 (i % 256)]).cell? ⟨W1.heap.size, 0 + k, none⟩ = some (.int .u8 ((nums t).tail ++ [i % 256])[k]) := by
      intro k h
      have htl := HT.out
      have h' : k < t.size - 1 + 1 := by have := h; rw [List.length_append, htl] at this; exact this
      by_cases hk : k < t.size - 1
      · rw [World.cell?_setCells_out _ _ _ _ _ (fun _ _ => Or.inl (by show 0 + k < _; omega))]
        refine HO.out k _ ?_
        rw [u8s, List.getElem?_map, List.getElem?_eq_getElem (by omega), List.getElem_append_left (by omega)]
        rfl
      · have hk' : k = t.size - 1 := by omega
        subst hk'
        have := World.cell?_setCells_in W1.heap.size [.int .u8 (i % 256)] (t.size - 1) (W2.alloc (.cells #[.int .u8 (i % 256)] 5)) (fun j hj => by simp at hj; subst hj; exact hs'.1) 0 (by simp)
        rw [Nat.add_zero] at this
        rw [Nat.zero_add, this, List.getElem_append_right (by omega)]
        simp
    have HX := mWeak_any W1.heap.size 0 cap2 ((nums t).tail ++ [i % 256]) _ (by simp only [List.length_append, List.length_cons, List.length_nil, HT.out]; omega) hby hcx
    rw [show ((nums t).tail ++ [i % 256]).length = t.size - 1 + 1 by simp [HT.out]] at HX
    have HX' := hide HX
    have HBX := hide hbx
    clear HX hbx hcx
    go_wp2_with fail
    refine HX'.out.mono ?_
    rintro e w'' ⟨rfl, hw''⟩
    obtain rfl := hw''.symm
    go_wp2_with fail
    refine (mWeak_any _ 0 1 [3] _ (by simp) hb3 (fun k h => by match k, h with | 0, _ => simp)).mono ?_
    rintro e w'' ⟨rfl, hw''⟩
    obtain rfl := hw''.symm
    rw [w3, HE.out]
    go_wp2
    go_ret
    exact ⟨rfl, HBX.out.alloc (by have := HBX.out.size; omega) _⟩
  case k9 =>
    intro hgr v' w' hown hgrow
    have hbx : Below w.heap.size w w' := HB3.out.grown hgrow (by have := HZ1.out; have := HZ2.out; simp; omega) (fun k hk => by simp at hk)
    obtain ⟨g, cap', rfl⟩ : ∃ g cap', v' = .slice (some ⟨g, 0, none⟩) (t.size - 1 + 1) cap' := by
      rcases hown.2 with ⟨_, h⟩ | ⟨g, cap', cur, rfl, _⟩
      · omega
      · exact ⟨g, cap', rfl⟩
    have hcx : ∀ k (h : k < ((nums t).tail ++ [i % 256]).length), w'.cell? ⟨g, 0 + k, none⟩ = some (.int .u8 ((nums t).tail ++ [i % 256])[k]) := by
      intro k h
      have htl := HT.out
      have h' : k < t.size - 1 + 1 := by have := h; rw [List.length_append, htl] at this; exact this
      rw [Nat.zero_add, hown.cellAt k (by omega)]
      rw [show u8s (nums t).tail ++ [Value.int .u8 (i % 256)] = ((nums t).tail ++ [i % 256]).map (Value.int .u8) by simp [u8s]]
      rw [List.getElem?_map, List.getElem?_eq_getElem h]
      rfl
    have HX := mWeak_any g 0 cap' ((nums t).tail ++ [i % 256]) _ (by simp only [List.length_append, List.length_cons, List.length_nil, HT.out]; omega) hby hcx
    rw [show ((nums t).tail ++ [i % 256]).length = t.size - 1 + 1 by simp [HT.out]] at HX
    have HX' := hide HX
    have HBX := hide hbx
    clear HX hbx hcx
    go_wp2_with fail
    refine HX'.out.mono ?_
    rintro e w'' ⟨rfl, hw''⟩
    obtain rfl := hw''.symm
    go_wp2_with fail
    refine (mWeak_any _ 0 1 [3] _ (by simp) hb3 (fun k h => by match k, h with | 0, _ => simp)).mono ?_
    rintro e w'' ⟨rfl, hw''⟩
    obtain rfl := hw''.symm
    rw [w3, HE.out]
    go_wp2
    go_ret
    exact ⟨rfl, HBX.out.alloc (by have := HBX.out.size; omega) _⟩
end Go.Proofs.Ytbhccdedcoajmaa
