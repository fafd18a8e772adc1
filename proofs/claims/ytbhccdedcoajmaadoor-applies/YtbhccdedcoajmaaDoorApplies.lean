import Derived.Test.YtbhccdedcoajmaaDoorTokens
import Derived.Test.YtbhccdedcoajmaaDoorRefApply
import Derived.Test.YtbhccdedcoajmaaDoorPApply
import Derived.Test.YtbhccdedcoajmaaDoorSpoilt
import Derived.Test.YtbhccdedcoajmaaDoorSign
namespace Go.Proofs.YtbhccdedcoajmaaDoor
open Go.RowKit

theorem apply_err {zs : List Int} {B : Nat} {k : Int} : ∀ (ts : List Tok) (m : List Int), applyGo zs B m ts = .error k → k = 2 ∨ k = 3
  | [], m, h => by simp [applyGo] at h
  | t :: r, m, h => by
    unfold applyGo at h
    split at h
    · split at h
      · simp at h; omega
      · exact apply_err r _ h
    · simp at h; omega
theorem apply_bytes {zs : List Int} {B : Nat} (hz : Bytes zs) : ∀ (ts : List Tok) (m : List Int) {r : List Int}, (∀ t ∈ ts, Bytes t.data) → Bytes m → applyGo zs B m ts = .ok r → Bytes r
  | [], m, r, _, hm, h => by simp [applyGo] at h; subst h; exact hm
  | t :: l, m, r, ht, hm, h => by
    unfold applyGo at h
    split at h
    · split at h
      · simp at h
      · refine apply_bytes hz l _ (fun u hu => ht u (by simp [hu])) ?_ h
        intro x hx
        rw [List.mem_append] at hx
        rcases hx with hx | hx
        · exact hm x hx
        · unfold partT at hx
          split at hx
          · exact ht t (by simp) x hx
          · exact ((hz.drop _).take _) x hx
    · simp at h

theorem ap_below {s : ByteArray} {b : Nat} {w w' : World} {base : Nat} (hg : w.heap[b]? = some (.cells (u8s (nums s) ++ [Value.int .u8 77, Value.int .u8 88]).toArray 5 (0, 0))) (hb : Below base w w') (hlt : b < base) : w'.heap[b]? = some (.cells (u8s (nums s) ++ [Value.int .u8 77, Value.int .u8 88]).toArray 5 (0, 0)) := (hb.block b hlt).trans hg
theorem Tryd.nilBytes (w : World) : (binOp BinOp.eql 25 (.slice none 0 0) (.slice none 0 0)).run Tryd.prog w = .ok (.bool true) w := by kernel_rfl

set_option maxHeartbeats 400000 in
theorem applies_great (s d : ByteArray) (h : 65536 < s.size ∨ 65536 < d.size) (hs : s.size ≤ maxLen) (hd : d.size ≤ maxLen) (B f n : Int) (w : World) :
    Calls Tryd.prog 6 #[.string s, .string d, .int .i64 B, .int .i64 f, .int .i64 n] w fun e w' => e = .returned (.bool true) ∧ Below w.heap.size w w' := by
  unfold maxLen at hs hd
  by_cases h1 : 65536 < s.size
  · go_enter Tryd.func6, Tryd.ntmps6
    go_wp2_with fail
    go_ret
    exact ⟨rfl, Below.refl _ _⟩
  · have h2 : 65536 < d.size := h.resolve_left h1
    clear h
    go_enter Tryd.func6, Tryd.ntmps6
    go_wp2_with fail
    go_ret
    exact ⟨rfl, Below.refl _ _⟩

set_option maxRecDepth 10000 in
set_option maxHeartbeats 2000000 in
theorem applies_bad0 (s d : ByteArray) (hs : s.size ≤ 65536) (hd : d.size ≤ 65536) (B k : Int) (hk : k = 1 ∨ k = 2) (f n : Int) (hn : n = 0) (w : World) (he : ErrT w) (hall : ∀ t ∈ (tokGo (nums d)), Held t)
    (hc : ∀ v w, Calls Tryd.prog 62 #[.slice v s.size (s.size + 2), .int .i64 B] w fun e w' => e = .returned (.iface 23 (.int .i64 k)) ∧ w' = w)
    (hz : ∀ w, Calls Tryd.prog 14 #[.int .i64 B, .int .i64 s.size] w fun e w' => e = .returned (.int .i64 k) ∧ w' = w) :
    Calls Tryd.prog 6 #[.string s, .string d, .int .i64 B, .int .i64 f, .int .i64 n] w fun e w' => e = .returned (.bool true) ∧ Below w.heap.size w w' := by
  subst hn
  have HHELD : Hid ((∀ t ∈ tokGo (nums d), Held t) ∧ (tokGo (nums d)).length ≤ 65536) := by
    obtain ⟨h1, h2⟩ := tokGo_held _ (nums d) (Nat.le_refl _) (nums_bytes d)
    exact ⟨h1, by rw [nums_length] at h2; omega⟩
  have HALL := hide hall
  clear hall
  have HC := hide hc
  have HZ := hide hz
  have HE := hide he
  have hk0 : (k != 0) = true := by rcases hk with rfl | rfl <;> rfl
  clear hc hz he hk
  have hnil := Tryd.nilBytes
  go_enter Tryd.func6, Tryd.ntmps6
  go_wp2_with fail
  refine (roomy_any s (by omega) _).mono ?_
  rintro e w1 ⟨rfl, hg, hb⟩
  have HG := hide hg
  have HB := hide hb
  clear hg hb
  go_wp2_with fail
  refine (tokens_ok d (by omega) _).mono ?_
  rintro e w2 ⟨vl, ps, rfl, hT, hE, hb⟩
  have HT := hide hT
  have HE1 := hide hE
  have HB2 := hide hb
  clear hT hE hb
  go_wp2_with fail
  refine (tokens_ok d (by omega) _).mono ?_
  rintro e w3 ⟨vm, qs, rfl, hU, hE, hb⟩
  have HU := hide hU
  have HE2 := hide hE
  have HB3 := hide hb
  have HT3 := hide (HT.out.below hb)
  clear hU hE hb
  have HLP : Hid (ps.length ≤ 65536) := by have := HHELD.out.2; rw [← HE1.out, List.length_map] at this; exact this
  have HLQ : Hid (qs.length ≤ 65536) := by have := HHELD.out.2; rw [← HE2.out, List.length_map] at this; exact this
  have HTX := hide HT3.out
  have HUX := hide HU.out
  have HBX : Hid (Below w1.heap.size w1 w3) := HB2.out.trans (HB3.out.mono HB2.out.size)
  have HPX := hide HE1.out
  have HQX := hide HE2.out
  have HGX := hide (ap_below HG.out HBX.out (lt_heap HG.out))
  have HBW : Hid (Below w.heap.size w w3) := below_all HB.out HBX.out
  have HHX : Hid (∀ p ∈ ps, Held p.1) := fun p hp => HALL.out p.1 (by rw [← HPX.out]; exact List.mem_map_of_mem hp)
  have HHQ : Hid (∀ p ∈ qs, Held p.1) := fun p hp => HALL.out p.1 (by rw [← HQX.out]; exact List.mem_map_of_mem hp)
  have HLX : Hid (ps.length ≤ 70000) := by have := HLP.out; show _ ≤ _; omega
  have HLY : Hid (qs.length ≤ 70000) := by have := HLQ.out; show _ ≤ _; omega
  go_wp2_with fail
  refine (pApply_bad _ _ _ _ _ _ _ (HE.out.keep HBW.out) (HC.out _ _)).mono ?_
  rintro e w7 ⟨rfl, hb⟩
  have HB7 := hide hb
  clear hb
  go_wp2_with fail
  refine (still_any s (by omega) _ _ (ap_below HGX.out HB7.out (lt_heap HGX.out))).mono ?_
  rintro e w8 ⟨rfl, hw8⟩
  obtain rfl := hw8.symm
  go_wp2_with fail
  refine (alike_ok _ _ _ _ ps qs _ (HTX.out.below HB7.out) (HUX.out.below HB7.out) (HPX.out.trans HQX.out.symm) (fun p hp => (HHX.out p hp).1) HLX.out).mono ?_
  rintro e w8 ⟨rfl, hb⟩
  have HB8 := hide hb
  clear hb
  go_wp2_with fail
  refine (HZ.out _).mono ?_
  rintro e w9 ⟨rfl, hw9⟩
  obtain rfl := hw9.symm
  go_wp2_with fail
  go_ret
  exact ⟨rfl, below_all (below_all HBW.out HB7.out) HB8.out⟩

set_option maxRecDepth 10000 in
set_option maxHeartbeats 2000000 in
theorem applies_err0 (s d : ByteArray) (hs : s.size ≤ 300) (hd : d.size ≤ 65536) (B : Nat) (hB1 : 1 ≤ B) (hB2 : B ≤ 64) (k : Int) (f n : Int) (hn : n = 0) (w : World) (he : ErrT w) (hall : ∀ t ∈ (tokGo (nums d)), Held t)
    (hres : applyGo (nums s) B [] (tokGo (nums d)) = .error k) :
    Calls Tryd.prog 6 #[.string s, .string d, .int .i64 B, .int .i64 f, .int .i64 n] w fun e w' => e = .returned (.bool true) ∧ Below w.heap.size w w' := by
  subst hn
  have HHELD : Hid ((∀ t ∈ tokGo (nums d), Held t) ∧ (tokGo (nums d)).length ≤ 65536) := by
    obtain ⟨h1, h2⟩ := tokGo_held _ (nums d) (Nat.le_refl _) (nums_bytes d)
    exact ⟨h1, by rw [nums_length] at h2; omega⟩
  have HALL := hide hall
  clear hall
  have HE := hide he
  have HRES := hide hres
  have hk0 : (k != 0) = true := by rcases apply_err _ _ hres with rfl | rfl <;> rfl
  clear he hres
  have hnil := Tryd.nilBytes
  go_enter Tryd.func6, Tryd.ntmps6
  go_wp2_with fail
  refine (roomy_any s (by omega) _).mono ?_
  rintro e w1 ⟨rfl, hg, hb⟩
  have HG := hide hg
  have HB := hide hb
  clear hg hb
  go_wp2_with fail
  refine (tokens_ok d (by omega) _).mono ?_
  rintro e w2 ⟨vl, ps, rfl, hT, hE, hb⟩
  have HT := hide hT
  have HE1 := hide hE
  have HB2 := hide hb
  clear hT hE hb
  go_wp2_with fail
  refine (tokens_ok d (by omega) _).mono ?_
  rintro e w3 ⟨vm, qs, rfl, hU, hE, hb⟩
  have HU := hide hU
  have HE2 := hide hE
  have HB3 := hide hb
  have HT3 := hide (HT.out.below hb)
  clear hU hE hb
  have HLP : Hid (ps.length ≤ 65536) := by have := HHELD.out.2; rw [← HE1.out, List.length_map] at this; exact this
  have HLQ : Hid (qs.length ≤ 65536) := by have := HHELD.out.2; rw [← HE2.out, List.length_map] at this; exact this
  have HTX := hide HT3.out
  have HUX := hide HU.out
  have HBX : Hid (Below w1.heap.size w1 w3) := HB2.out.trans (HB3.out.mono HB2.out.size)
  have HPX := hide HE1.out
  have HQX := hide HE2.out
  have HGX := hide (ap_below HG.out HBX.out (lt_heap HG.out))
  have HBW : Hid (Below w.heap.size w w3) := below_all HB.out HBX.out
  have HHX : Hid (∀ p ∈ ps, Held p.1) := fun p hp => HALL.out p.1 (by rw [← HPX.out]; exact List.mem_map_of_mem hp)
  have HHQ : Hid (∀ p ∈ qs, Held p.1) := fun p hp => HALL.out p.1 (by rw [← HQX.out]; exact List.mem_map_of_mem hp)
  have HLX : Hid (ps.length ≤ 70000) := by have := HLP.out; show _ ≤ _; omega
  have HLY : Hid (qs.length ≤ 70000) := by have := HLQ.out; show _ ≤ _; omega
  go_wp2_with fail
  have HPA := hide (pApply_no w.heap.size 0 (s.size + 2) B (nums s) w1.heap.size vl ps w3 (HE.out.keep HBW.out) hB1 hB2 (by rw [nums_length]; omega) (by rw [nums_length]; omega) (row_cells HGX.out) HTX.out HLX.out HHX.out (k := k) (by rw [HPX.out]; exact HRES.out))
  rw [nums_length] at HPA
  refine HPA.out.mono ?_
  rintro e w7 ⟨rfl, hb⟩
  have HB7 := hide hb
  clear hb HPA
  go_wp2_with fail
  refine (still_any s (by omega) _ _ (ap_below HGX.out HB7.out (lt_heap HGX.out))).mono ?_
  rintro e w8 ⟨rfl, hw8⟩
  obtain rfl := hw8.symm
  go_wp2_with fail
  refine (alike_ok _ _ _ _ ps qs _ (HTX.out.below HB7.out) (HUX.out.below HB7.out) (HPX.out.trans HQX.out.symm) (fun p hp => (HHX.out p hp).1) HLX.out).mono ?_
  rintro e w8 ⟨rfl, hb⟩
  have HB8 := hide hb
  clear hb
  go_wp2_with fail
  refine (sized_ok _ _ (by omega) (by omega) (by omega) _).mono ?_
  rintro e w9 ⟨rfl, hw9⟩
  obtain rfl := hw9.symm
  go_wp2_with fail
  refine (rapply_ok s B _ _ qs _ hB1 hB2 (by omega) ((HUX.out.below HB7.out).below HB8.out) HLY.out HHQ.out).mono ?_
  rintro e w9 ⟨v9, e9, rfl, ht, hb⟩
  rw [HQX.out, HRES.out] at ht
  obtain ⟨rfl, rfl⟩ := ht
  have HB9 := hide hb
  clear hb
  go_wp2_with fail
  go_ret
  exact ⟨rfl, below_all (below_all (below_all HBW.out HB7.out) HB8.out) HB9.out⟩

set_option maxRecDepth 10000 in
set_option maxHeartbeats 2000000 in
theorem applies_good0 (s d : ByteArray) (hs : s.size ≤ 300) (hd : d.size ≤ 65536) (B : Nat) (hB1 : 1 ≤ B) (hB2 : B ≤ 64) (made : List Int) (f n : Int) (hn : n = 0) (w : World) (hall : ∀ t ∈ (tokGo (nums d)), Held t)
    (hres : applyGo (nums s) B [] (tokGo (nums d)) = .ok made) :
    Calls Tryd.prog 6 #[.string s, .string d, .int .i64 B, .int .i64 f, .int .i64 n] w fun e w' => e = .returned (.bool true) ∧ Below w.heap.size w w' := by
  subst hn
  have HHELD : Hid ((∀ t ∈ tokGo (nums d), Held t) ∧ (tokGo (nums d)).length ≤ 65536) := by
    obtain ⟨h1, h2⟩ := tokGo_held _ (nums d) (Nat.le_refl _) (nums_bytes d)
    exact ⟨h1, by rw [nums_length] at h2; omega⟩
  have HALL := hide hall
  clear hall
  have HRES := hide hres
  have HMB : Hid (Bytes made) := apply_bytes (nums_bytes s) _ _ (fun t ht => (HALL.out t ht).1) (fun x hx => by simp at hx) hres
  clear hres
  go_enter Tryd.func6, Tryd.ntmps6
  go_wp2_with fail
  refine (roomy_any s (by omega) _).mono ?_
  rintro e w1 ⟨rfl, hg, hb⟩
  have HG := hide hg
  have HB := hide hb
  clear hg hb
  go_wp2_with fail
  refine (tokens_ok d (by omega) _).mono ?_
  rintro e w2 ⟨vl, ps, rfl, hT, hE, hb⟩
  have HT := hide hT
  have HE1 := hide hE
  have HB2 := hide hb
  clear hT hE hb
  go_wp2_with fail
  refine (tokens_ok d (by omega) _).mono ?_
  rintro e w3 ⟨vm, qs, rfl, hU, hE, hb⟩
  have HU := hide hU
  have HE2 := hide hE
  have HB3 := hide hb
  have HT3 := hide (HT.out.below hb)
  clear hU hE hb
  have HLP : Hid (ps.length ≤ 65536) := by have := HHELD.out.2; rw [← HE1.out, List.length_map] at this; exact this
  have HLQ : Hid (qs.length ≤ 65536) := by have := HHELD.out.2; rw [← HE2.out, List.length_map] at this; exact this
  have HTX := hide HT3.out
  have HUX := hide HU.out
  have HBX : Hid (Below w1.heap.size w1 w3) := HB2.out.trans (HB3.out.mono HB2.out.size)
  have HPX := hide HE1.out
  have HQX := hide HE2.out
  have HGX := hide (ap_below HG.out HBX.out (lt_heap HG.out))
  have HBW : Hid (Below w.heap.size w w3) := below_all HB.out HBX.out
  have HHX : Hid (∀ p ∈ ps, Held p.1) := fun p hp => HALL.out p.1 (by rw [← HPX.out]; exact List.mem_map_of_mem hp)
  have HHQ : Hid (∀ p ∈ qs, Held p.1) := fun p hp => HALL.out p.1 (by rw [← HQX.out]; exact List.mem_map_of_mem hp)
  have HLX : Hid (ps.length ≤ 70000) := by have := HLP.out; show _ ≤ _; omega
  have HLY : Hid (qs.length ≤ 70000) := by have := HLQ.out; show _ ≤ _; omega
  go_wp2_with fail
  have HPA := hide (pApply_ok w.heap.size 0 (s.size + 2) B (nums s) w1.heap.size vl ps w3 hB1 hB2 (by rw [nums_length]; omega) (by rw [nums_length]; omega) (row_cells HGX.out) HTX.out HLX.out HHX.out (made := made) (by rw [HPX.out]; exact HRES.out))
  rw [nums_length] at HPA
  refine HPA.out.mono ?_
  rintro e w7 ⟨v7, rfl, ho, hb⟩
  have HO7 := hide ho
  have HB7 := hide hb
  clear ho hb HPA
  go_wp2_with fail
  refine (still_any s (by omega) _ _ (ap_below HGX.out HB7.out (lt_heap HGX.out))).mono ?_
  rintro e w8 ⟨rfl, hw8⟩
  obtain rfl := hw8.symm
  go_wp2_with fail
  refine (alike_ok _ _ _ _ ps qs _ (HTX.out.below HB7.out) (HUX.out.below HB7.out) (HPX.out.trans HQX.out.symm) (fun p hp => (HHX.out p hp).1) HLX.out).mono ?_
  rintro e w8 ⟨rfl, hb⟩
  have HB8 := hide hb
  clear hb
  go_wp2_with fail
  refine (sized_ok _ _ (by omega) (by omega) (by omega) _).mono ?_
  rintro e w9 ⟨rfl, hw9⟩
  obtain rfl := hw9.symm
  go_wp2_with fail
  refine (rapply_ok s B _ _ qs _ hB1 hB2 (by omega) ((HUX.out.below HB7.out).below HB8.out) HLY.out HHQ.out).mono ?_
  rintro e w9 ⟨v9, e9, rfl, ht, hb⟩
  rw [HQX.out, HRES.out] at ht
  obtain ⟨rfl, rfl⟩ := ht
  have HB9 := hide hb
  clear hb
  have HO9 := hide (ownsRow_below (ownsRow_below HO7.out HB8.out) HB9.out)
  have hcv := conv_own HMB.out HO9.out
  go_wp2_with fail
  refine (spoilt_ok _ _ made _ HO9.out).mono ?_
  rintro e w10 ⟨rfl, hb⟩
  have HB10 : Hid (Below w3.heap.size w3 w10) := (below_all (below_all HB7.out HB8.out) HB9.out).trans hb
  clear hb hcv
  go_wp2_with fail
  refine (still_any s (by omega) _ _ (ap_below HGX.out HB10.out (lt_heap HGX.out))).mono ?_
  rintro e w11 ⟨rfl, hw11⟩
  obtain rfl := hw11.symm
  go_wp2_with fail
  refine (alike_ok _ _ _ _ ps qs _ (HTX.out.below HB10.out) (HUX.out.below HB10.out) (HPX.out.trans HQX.out.symm) (fun p hp => (HHX.out p hp).1) HLX.out).mono ?_
  rintro e w11 ⟨rfl, hb⟩
  have HB11 := hide hb
  clear hb
  go_wp2_with fail
  go_ret
  exact ⟨rfl, below_all (below_all HBW.out HB10.out) HB11.out⟩

set_option maxRecDepth 10000 in
set_option maxHeartbeats 2000000 in
theorem applies_bad1 (s d : ByteArray) (hs : s.size ≤ 65536) (hd : d.size ≤ 65536) (B k : Int) (hk : k = 1 ∨ k = 2) (f n : Int) (hn : n ≠ 0) (w : World) (he : ErrT w) (hall : ∀ t ∈ (tokGo (nums d) ++ [⟨f, n, []⟩]), Held t)
    (hc : ∀ v w, Calls Tryd.prog 62 #[.slice v s.size (s.size + 2), .int .i64 B] w fun e w' => e = .returned (.iface 23 (.int .i64 k)) ∧ w' = w)
    (hz : ∀ w, Calls Tryd.prog 14 #[.int .i64 B, .int .i64 s.size] w fun e w' => e = .returned (.int .i64 k) ∧ w' = w) :
    Calls Tryd.prog 6 #[.string s, .string d, .int .i64 B, .int .i64 f, .int .i64 n] w fun e w' => e = .returned (.bool true) ∧ Below w.heap.size w w' := by
  obtain ⟨i0, hi, z0, z1, z2⟩ := info_parts Tryd.info50
  have hn0 : (n != 0) = true := by simpa using hn
  have HHELD : Hid ((∀ t ∈ tokGo (nums d), Held t) ∧ (tokGo (nums d)).length ≤ 65536) := by
    obtain ⟨h1, h2⟩ := tokGo_held _ (nums d) (Nat.le_refl _) (nums_bytes d)
    exact ⟨h1, by rw [nums_length] at h2; omega⟩
  have HALL := hide hall
  clear hall
  have HC := hide hc
  have HZ := hide hz
  have HE := hide he
  have hk0 : (k != 0) = true := by rcases hk with rfl | rfl <;> rfl
  clear hc hz he hk
  have hnil := Tryd.nilBytes
  go_enter Tryd.func6, Tryd.ntmps6
  go_wp2_with fail
  refine (roomy_any s (by omega) _).mono ?_
  rintro e w1 ⟨rfl, hg, hb⟩
  have HG := hide hg
  have HB := hide hb
  clear hg hb
  go_wp2_with fail
  refine (tokens_ok d (by omega) _).mono ?_
  rintro e w2 ⟨vl, ps, rfl, hT, hE, hb⟩
  have HT := hide hT
  have HE1 := hide hE
  have HB2 := hide hb
  clear hT hE hb
  go_wp2_with fail
  refine (tokens_ok d (by omega) _).mono ?_
  rintro e w3 ⟨vm, qs, rfl, hU, hE, hb⟩
  have HU := hide hU
  have HE2 := hide hE
  have HB3 := hide hb
  have HT3 := hide (HT.out.below hb)
  clear hU hE hb
  have HLP : Hid (ps.length ≤ 65536) := by have := HHELD.out.2; rw [← HE1.out, List.length_map] at this; exact this
  have HLQ : Hid (qs.length ≤ 65536) := by have := HHELD.out.2; rw [← HE2.out, List.length_map] at this; exact this
  go_wp2_with (at_builtin; refine wpList_append_own_at _ rfl (.tmp 36) (.tmp 40) 41 rfl w1.heap.size 50 i0 (.agg #[.int .i64 0, .int .i64 0, .slice none 0 0]) 3 40 Tryd.underlying41 hi z0 z1 z2 rfl (by decide) _ ps.length (tcells ps) rfl (HT3.out.row.alloc _) ⟨w3.heap.size, 0, none⟩ 1 1 [.int .i64 f, .int .i64 n, .slice none 0 0] rfl rfl ?pa ?pb ?pc ?pd ?pe ?pf)
  case pa =>
    intro j x hj
    match j, hj with
    | 0, hj => simp at hj; subst hj; simp [Addr.add]
    | 1, hj => simp at hj; subst hj; simp [Addr.add]
    | 2, hj => simp at hj; subst hj; simp [Addr.add]
  case pb => intro x hx; simp at hx; rcases hx with rfl | rfl | rfl <;> rfl
  case pc => have := HLP.out; have := HLQ.out; unfold maxLen; omega
  case pd => have := HLP.out; have := HLQ.out; omega
  case pe => have := HB2.out.size; have := HB3.out.size; simp; omega
  case pf =>
    intro vl' w4 hown4 hgrow4 _ hloc4
    have hpush := HT3.out.pushNew (t := ⟨f, n, []⟩) (u := .slice none 0 0) (Nat.le_trans HB2.out.size HB3.out.size) (Below.refl _ _) (World.ownsRow_nil _ _ _ _) hown4 hgrow4 (by simpa using hloc4)
    have hg4 := (World.grownBy_alloc w3 _ _).trans hgrow4
    have HT4 := hide hpush.1
    have HB4 : Hid (Below w1.heap.size w3 w4) := hpush.2
    have hloc4' : vl'.ownBlock = vl.ownBlock ∨ vl'.ownBlock = some (w3.heap.size + 1) := by simpa using hloc4
    have HLOC := hide hloc4'
    have HW4 : Hid (w2.heap.size ≤ w4.heap.size) := Nat.le_trans HB3.out.size hpush.2.size
    have HU4 : Hid (TokRow w4 w2.heap.size vm qs) := by
      have hap : ∀ g, vl.ownBlock = some g → g < w2.heap.size := fun g hg => (HT.out.row.lt g hg).2
      refine HU.out.grown hg4 ?_ ?_
      · cases hv : vm.ownBlock with
        | none => exact .inl rfl
        | some g =>
          refine .inr fun e => ?_
          have h1 := hap g e.symm
          have := (HU.out.row.lt g hv).1
          omega
      · intro p hp
        cases hp2 : p.2.ownBlock with
        | none => exact .inl rfl
        | some g =>
          refine .inr fun e => ?_
          have h1 := hap g e.symm
          have := ((HU.out.data p hp).lt g hp2).1
          omega
    clear hpush hg4 hown4 hgrow4 hloc4 hloc4'
    go_wp2_with (at_builtin; refine wpList_append_own_at _ rfl (.tmp 42) (.tmp 46) 41 rfl w2.heap.size 50 i0 (.agg #[.int .i64 0, .int .i64 0, .slice none 0 0]) 3 40 Tryd.underlying41 hi z0 z1 z2 rfl (by decide) _ qs.length (tcells qs) rfl (HU4.out.row.alloc _) ⟨w4.heap.size, 0, none⟩ 1 1 [.int .i64 f, .int .i64 n, .slice none 0 0] rfl rfl ?qa ?qb ?qc ?qd ?qe ?qf)
    case qa =>
      intro j x hj
      match j, hj with
      | 0, hj => simp at hj; subst hj; simp [Addr.add]
      | 1, hj => simp at hj; subst hj; simp [Addr.add]
      | 2, hj => simp at hj; subst hj; simp [Addr.add]
    case qb => intro x hx; simp at hx; rcases hx with rfl | rfl | rfl <;> rfl
    case qc => have := HLP.out; have := HLQ.out; unfold maxLen; omega
    case qd => have := HLP.out; have := HLQ.out; omega
    case qe => have := HW4.out; simp; omega
    case qf =>
      intro vm' w5 hown5 hgrow5 _ hloc5
      have hpush := HU4.out.pushNew (t := ⟨f, n, []⟩) (u := .slice none 0 0) HW4.out (Below.refl _ _) (World.ownsRow_nil _ _ _ _) hown5 hgrow5 (by simpa using hloc5)
      have hg5 := (World.grownBy_alloc w4 _ _).trans hgrow5
      have HUX := hide hpush.1
      have HTX : Hid (TokRow w5 w1.heap.size vl' (ps ++ [(⟨f, n, []⟩, .slice none 0 0)])) := by
        have hap : ∀ g, vm.ownBlock = some g → w2.heap.size ≤ g ∧ g < w3.heap.size := fun g hg => HU.out.row.lt g hg
        refine HT4.out.grown hg5 ?_ ?_
        · cases hv : vl'.ownBlock with
          | none => exact .inl rfl
          | some g =>
            refine .inr fun e => ?_
            have h1 := hap g e.symm
            rcases HLOC.out with h | h
            · rw [hv] at h
              have := (HT.out.row.lt g h.symm).2
              omega
            · rw [hv] at h; simp at h; omega
        · intro p hp
          cases hp2 : p.2.ownBlock with
          | none => exact .inl rfl
          | some g =>
            refine .inr fun e => ?_
            have h1 := hap g e.symm
            rw [List.mem_append] at hp
            rcases hp with hp | hp
            · have := ((HT.out.data p hp).lt g hp2).2
              omega
            · simp at hp; subst hp; cases hp2
      have HBX : Hid (Below w1.heap.size w1 w5) := ((HB2.out.trans (HB3.out.mono HB2.out.size)).trans HB4.out).trans (hpush.2.mono HB2.out.size)
      clear hpush hg5 hown5 hgrow5 hloc5
      have HPX : Hid ((ps ++ [((⟨f, n, []⟩ : Tok), Value.slice none 0 0)]).map Prod.fst = tokGo (nums d) ++ [⟨f, n, []⟩]) := by show _ = _; rw [List.map_append, HE1.out]; rfl
      have HQX : Hid ((qs ++ [((⟨f, n, []⟩ : Tok), Value.slice none 0 0)]).map Prod.fst = tokGo (nums d) ++ [⟨f, n, []⟩]) := by show _ = _; rw [List.map_append, HE2.out]; rfl
      have HGX := hide (ap_below HG.out HBX.out (lt_heap HG.out))
      have HBW : Hid (Below w.heap.size w w5) := below_all HB.out HBX.out
      have HHX : Hid (∀ p ∈ (ps ++ [((⟨f, n, []⟩ : Tok), Value.slice none 0 0)]), Held p.1) := fun p hp => HALL.out p.1 (by rw [← HPX.out]; exact List.mem_map_of_mem hp)
      have HHQ : Hid (∀ p ∈ (qs ++ [((⟨f, n, []⟩ : Tok), Value.slice none 0 0)]), Held p.1) := fun p hp => HALL.out p.1 (by rw [← HQX.out]; exact List.mem_map_of_mem hp)
      have HLX : Hid ((ps ++ [((⟨f, n, []⟩ : Tok), Value.slice none 0 0)]).length ≤ 70000) := by have := HLP.out; show _ ≤ _; rw [List.length_append, List.length_singleton]; omega
      have HLY : Hid ((qs ++ [((⟨f, n, []⟩ : Tok), Value.slice none 0 0)]).length ≤ 70000) := by have := HLQ.out; show _ ≤ _; rw [List.length_append, List.length_singleton]; omega
      go_wp2_with fail
      refine (pApply_bad _ _ _ _ _ _ _ (HE.out.keep HBW.out) (HC.out _ _)).mono ?_
      rintro e w7 ⟨rfl, hb⟩
      have HB7 := hide hb
      clear hb
      go_wp2_with fail
      refine (still_any s (by omega) _ _ (ap_below HGX.out HB7.out (lt_heap HGX.out))).mono ?_
      rintro e w8 ⟨rfl, hw8⟩
      obtain rfl := hw8.symm
      go_wp2_with fail
      refine (alike_ok _ _ _ _ (ps ++ [((⟨f, n, []⟩ : Tok), Value.slice none 0 0)]) (qs ++ [((⟨f, n, []⟩ : Tok), Value.slice none 0 0)]) _ (HTX.out.below HB7.out) (HUX.out.below HB7.out) (HPX.out.trans HQX.out.symm) (fun p hp => (HHX.out p hp).1) HLX.out).mono ?_
      rintro e w8 ⟨rfl, hb⟩
      have HB8 := hide hb
      clear hb
      go_wp2_with fail
      refine (HZ.out _).mono ?_
      rintro e w9 ⟨rfl, hw9⟩
      obtain rfl := hw9.symm
      go_wp2_with fail
      go_ret
      exact ⟨rfl, below_all (below_all HBW.out HB7.out) HB8.out⟩

set_option maxRecDepth 10000 in
set_option maxHeartbeats 2000000 in
theorem applies_err1 (s d : ByteArray) (hs : s.size ≤ 300) (hd : d.size ≤ 65536) (B : Nat) (hB1 : 1 ≤ B) (hB2 : B ≤ 64) (k : Int) (f n : Int) (hn : n ≠ 0) (w : World) (he : ErrT w) (hall : ∀ t ∈ (tokGo (nums d) ++ [⟨f, n, []⟩]), Held t)
    (hres : applyGo (nums s) B [] (tokGo (nums d) ++ [⟨f, n, []⟩]) = .error k) :
    Calls Tryd.prog 6 #[.string s, .string d, .int .i64 B, .int .i64 f, .int .i64 n] w fun e w' => e = .returned (.bool true) ∧ Below w.heap.size w w' := by
  obtain ⟨i0, hi, z0, z1, z2⟩ := info_parts Tryd.info50
  have hn0 : (n != 0) = true := by simpa using hn
  have HHELD : Hid ((∀ t ∈ tokGo (nums d), Held t) ∧ (tokGo (nums d)).length ≤ 65536) := by
    obtain ⟨h1, h2⟩ := tokGo_held _ (nums d) (Nat.le_refl _) (nums_bytes d)
    exact ⟨h1, by rw [nums_length] at h2; omega⟩
  have HALL := hide hall
  clear hall
  have HE := hide he
  have HRES := hide hres
  have hk0 : (k != 0) = true := by rcases apply_err _ _ hres with rfl | rfl <;> rfl
  clear he hres
  have hnil := Tryd.nilBytes
  go_enter Tryd.func6, Tryd.ntmps6
  go_wp2_with fail
  refine (roomy_any s (by omega) _).mono ?_
  rintro e w1 ⟨rfl, hg, hb⟩
  have HG := hide hg
  have HB := hide hb
  clear hg hb
  go_wp2_with fail
  refine (tokens_ok d (by omega) _).mono ?_
  rintro e w2 ⟨vl, ps, rfl, hT, hE, hb⟩
  have HT := hide hT
  have HE1 := hide hE
  have HB2 := hide hb
  clear hT hE hb
  go_wp2_with fail
  refine (tokens_ok d (by omega) _).mono ?_
  rintro e w3 ⟨vm, qs, rfl, hU, hE, hb⟩
  have HU := hide hU
  have HE2 := hide hE
  have HB3 := hide hb
  have HT3 := hide (HT.out.below hb)
  clear hU hE hb
  have HLP : Hid (ps.length ≤ 65536) := by have := HHELD.out.2; rw [← HE1.out, List.length_map] at this; exact this
  have HLQ : Hid (qs.length ≤ 65536) := by have := HHELD.out.2; rw [← HE2.out, List.length_map] at this; exact this
  go_wp2_with (at_builtin; refine wpList_append_own_at _ rfl (.tmp 36) (.tmp 40) 41 rfl w1.heap.size 50 i0 (.agg #[.int .i64 0, .int .i64 0, .slice none 0 0]) 3 40 Tryd.underlying41 hi z0 z1 z2 rfl (by decide) _ ps.length (tcells ps) rfl (HT3.out.row.alloc _) ⟨w3.heap.size, 0, none⟩ 1 1 [.int .i64 f, .int .i64 n, .slice none 0 0] rfl rfl ?pa ?pb ?pc ?pd ?pe ?pf)
  case pa =>
    intro j x hj
    match j, hj with
    | 0, hj => simp at hj; subst hj; simp [Addr.add]
    | 1, hj => simp at hj; subst hj; simp [Addr.add]
    | 2, hj => simp at hj; subst hj; simp [Addr.add]
  case pb => intro x hx; simp at hx; rcases hx with rfl | rfl | rfl <;> rfl
  case pc => have := HLP.out; have := HLQ.out; unfold maxLen; omega
  case pd => have := HLP.out; have := HLQ.out; omega
  case pe => have := HB2.out.size; have := HB3.out.size; simp; omega
  case pf =>
    intro vl' w4 hown4 hgrow4 _ hloc4
    have hpush := HT3.out.pushNew (t := ⟨f, n, []⟩) (u := .slice none 0 0) (Nat.le_trans HB2.out.size HB3.out.size) (Below.refl _ _) (World.ownsRow_nil _ _ _ _) hown4 hgrow4 (by simpa using hloc4)
    have hg4 := (World.grownBy_alloc w3 _ _).trans hgrow4
    have HT4 := hide hpush.1
    have HB4 : Hid (Below w1.heap.size w3 w4) := hpush.2
    have hloc4' : vl'.ownBlock = vl.ownBlock ∨ vl'.ownBlock = some (w3.heap.size + 1) := by simpa using hloc4
    have HLOC := hide hloc4'
    have HW4 : Hid (w2.heap.size ≤ w4.heap.size) := Nat.le_trans HB3.out.size hpush.2.size
    have HU4 : Hid (TokRow w4 w2.heap.size vm qs) := by
      have hap : ∀ g, vl.ownBlock = some g → g < w2.heap.size := fun g hg => (HT.out.row.lt g hg).2
      refine HU.out.grown hg4 ?_ ?_
      · cases hv : vm.ownBlock with
        | none => exact .inl rfl
        | some g =>
          refine .inr fun e => ?_
          have h1 := hap g e.symm
          have := (HU.out.row.lt g hv).1
          omega
      · intro p hp
        cases hp2 : p.2.ownBlock with
        | none => exact .inl rfl
        | some g =>
          refine .inr fun e => ?_
          have h1 := hap g e.symm
          have := ((HU.out.data p hp).lt g hp2).1
          omega
    clear hpush hg4 hown4 hgrow4 hloc4 hloc4'
    go_wp2_with (at_builtin; refine wpList_append_own_at _ rfl (.tmp 42) (.tmp 46) 41 rfl w2.heap.size 50 i0 (.agg #[.int .i64 0, .int .i64 0, .slice none 0 0]) 3 40 Tryd.underlying41 hi z0 z1 z2 rfl (by decide) _ qs.length (tcells qs) rfl (HU4.out.row.alloc _) ⟨w4.heap.size, 0, none⟩ 1 1 [.int .i64 f, .int .i64 n, .slice none 0 0] rfl rfl ?qa ?qb ?qc ?qd ?qe ?qf)
    case qa =>
      intro j x hj
      match j, hj with
      | 0, hj => simp at hj; subst hj; simp [Addr.add]
      | 1, hj => simp at hj; subst hj; simp [Addr.add]
      | 2, hj => simp at hj; subst hj; simp [Addr.add]
    case qb => intro x hx; simp at hx; rcases hx with rfl | rfl | rfl <;> rfl
    case qc => have := HLP.out; have := HLQ.out; unfold maxLen; omega
    case qd => have := HLP.out; have := HLQ.out; omega
    case qe => have := HW4.out; simp; omega
    case qf =>
      intro vm' w5 hown5 hgrow5 _ hloc5
      have hpush := HU4.out.pushNew (t := ⟨f, n, []⟩) (u := .slice none 0 0) HW4.out (Below.refl _ _) (World.ownsRow_nil _ _ _ _) hown5 hgrow5 (by simpa using hloc5)
      have hg5 := (World.grownBy_alloc w4 _ _).trans hgrow5
      have HUX := hide hpush.1
      have HTX : Hid (TokRow w5 w1.heap.size vl' (ps ++ [(⟨f, n, []⟩, .slice none 0 0)])) := by
        have hap : ∀ g, vm.ownBlock = some g → w2.heap.size ≤ g ∧ g < w3.heap.size := fun g hg => HU.out.row.lt g hg
        refine HT4.out.grown hg5 ?_ ?_
        · cases hv : vl'.ownBlock with
          | none => exact .inl rfl
          | some g =>
            refine .inr fun e => ?_
            have h1 := hap g e.symm
            rcases HLOC.out with h | h
            · rw [hv] at h
              have := (HT.out.row.lt g h.symm).2
              omega
            · rw [hv] at h; simp at h; omega
        · intro p hp
          cases hp2 : p.2.ownBlock with
          | none => exact .inl rfl
          | some g =>
            refine .inr fun e => ?_
            have h1 := hap g e.symm
            rw [List.mem_append] at hp
            rcases hp with hp | hp
            · have := ((HT.out.data p hp).lt g hp2).2
              omega
            · simp at hp; subst hp; cases hp2
      have HBX : Hid (Below w1.heap.size w1 w5) := ((HB2.out.trans (HB3.out.mono HB2.out.size)).trans HB4.out).trans (hpush.2.mono HB2.out.size)
      clear hpush hg5 hown5 hgrow5 hloc5
      have HPX : Hid ((ps ++ [((⟨f, n, []⟩ : Tok), Value.slice none 0 0)]).map Prod.fst = tokGo (nums d) ++ [⟨f, n, []⟩]) := by show _ = _; rw [List.map_append, HE1.out]; rfl
      have HQX : Hid ((qs ++ [((⟨f, n, []⟩ : Tok), Value.slice none 0 0)]).map Prod.fst = tokGo (nums d) ++ [⟨f, n, []⟩]) := by show _ = _; rw [List.map_append, HE2.out]; rfl
      have HGX := hide (ap_below HG.out HBX.out (lt_heap HG.out))
      have HBW : Hid (Below w.heap.size w w5) := below_all HB.out HBX.out
      have HHX : Hid (∀ p ∈ (ps ++ [((⟨f, n, []⟩ : Tok), Value.slice none 0 0)]), Held p.1) := fun p hp => HALL.out p.1 (by rw [← HPX.out]; exact List.mem_map_of_mem hp)
      have HHQ : Hid (∀ p ∈ (qs ++ [((⟨f, n, []⟩ : Tok), Value.slice none 0 0)]), Held p.1) := fun p hp => HALL.out p.1 (by rw [← HQX.out]; exact List.mem_map_of_mem hp)
      have HLX : Hid ((ps ++ [((⟨f, n, []⟩ : Tok), Value.slice none 0 0)]).length ≤ 70000) := by have := HLP.out; show _ ≤ _; rw [List.length_append, List.length_singleton]; omega
      have HLY : Hid ((qs ++ [((⟨f, n, []⟩ : Tok), Value.slice none 0 0)]).length ≤ 70000) := by have := HLQ.out; show _ ≤ _; rw [List.length_append, List.length_singleton]; omega
      go_wp2_with fail
      have HPA := hide (pApply_no w.heap.size 0 (s.size + 2) B (nums s) w1.heap.size vl' (ps ++ [((⟨f, n, []⟩ : Tok), Value.slice none 0 0)]) w5 (HE.out.keep HBW.out) hB1 hB2 (by rw [nums_length]; omega) (by rw [nums_length]; omega) (row_cells HGX.out) HTX.out HLX.out HHX.out (k := k) (by rw [HPX.out]; exact HRES.out))
      rw [nums_length] at HPA
      refine HPA.out.mono ?_
      rintro e w7 ⟨rfl, hb⟩
      have HB7 := hide hb
      clear hb HPA
      go_wp2_with fail
      refine (still_any s (by omega) _ _ (ap_below HGX.out HB7.out (lt_heap HGX.out))).mono ?_
      rintro e w8 ⟨rfl, hw8⟩
      obtain rfl := hw8.symm
      go_wp2_with fail
      refine (alike_ok _ _ _ _ (ps ++ [((⟨f, n, []⟩ : Tok), Value.slice none 0 0)]) (qs ++ [((⟨f, n, []⟩ : Tok), Value.slice none 0 0)]) _ (HTX.out.below HB7.out) (HUX.out.below HB7.out) (HPX.out.trans HQX.out.symm) (fun p hp => (HHX.out p hp).1) HLX.out).mono ?_
      rintro e w8 ⟨rfl, hb⟩
      have HB8 := hide hb
      clear hb
      go_wp2_with fail
      refine (sized_ok _ _ (by omega) (by omega) (by omega) _).mono ?_
      rintro e w9 ⟨rfl, hw9⟩
      obtain rfl := hw9.symm
      go_wp2_with fail
      refine (rapply_ok s B _ _ (qs ++ [((⟨f, n, []⟩ : Tok), Value.slice none 0 0)]) _ hB1 hB2 (by omega) ((HUX.out.below HB7.out).below HB8.out) HLY.out HHQ.out).mono ?_
      rintro e w9 ⟨v9, e9, rfl, ht, hb⟩
      rw [HQX.out, HRES.out] at ht
      obtain ⟨rfl, rfl⟩ := ht
      have HB9 := hide hb
      clear hb
      go_wp2_with fail
      go_ret
      exact ⟨rfl, below_all (below_all (below_all HBW.out HB7.out) HB8.out) HB9.out⟩

set_option maxRecDepth 10000 in
set_option maxHeartbeats 2000000 in
theorem applies_good1 (s d : ByteArray) (hs : s.size ≤ 300) (hd : d.size ≤ 65536) (B : Nat) (hB1 : 1 ≤ B) (hB2 : B ≤ 64) (made : List Int) (f n : Int) (hn : n ≠ 0) (w : World) (hall : ∀ t ∈ (tokGo (nums d) ++ [⟨f, n, []⟩]), Held t)
    (hres : applyGo (nums s) B [] (tokGo (nums d) ++ [⟨f, n, []⟩]) = .ok made) :
    Calls Tryd.prog 6 #[.string s, .string d, .int .i64 B, .int .i64 f, .int .i64 n] w fun e w' => e = .returned (.bool true) ∧ Below w.heap.size w w' := by
  obtain ⟨i0, hi, z0, z1, z2⟩ := info_parts Tryd.info50
  have hn0 : (n != 0) = true := by simpa using hn
  have HHELD : Hid ((∀ t ∈ tokGo (nums d), Held t) ∧ (tokGo (nums d)).length ≤ 65536) := by
    obtain ⟨h1, h2⟩ := tokGo_held _ (nums d) (Nat.le_refl _) (nums_bytes d)
    exact ⟨h1, by rw [nums_length] at h2; omega⟩
  have HALL := hide hall
  clear hall
  have HRES := hide hres
  have HMB : Hid (Bytes made) := apply_bytes (nums_bytes s) _ _ (fun t ht => (HALL.out t ht).1) (fun x hx => by simp at hx) hres
  clear hres
  go_enter Tryd.func6, Tryd.ntmps6
  go_wp2_with fail
  refine (roomy_any s (by omega) _).mono ?_
  rintro e w1 ⟨rfl, hg, hb⟩
  have HG := hide hg
  have HB := hide hb
  clear hg hb
  go_wp2_with fail
  refine (tokens_ok d (by omega) _).mono ?_
  rintro e w2 ⟨vl, ps, rfl, hT, hE, hb⟩
  have HT := hide hT
  have HE1 := hide hE
  have HB2 := hide hb
  clear hT hE hb
  go_wp2_with fail
  refine (tokens_ok d (by omega) _).mono ?_
  rintro e w3 ⟨vm, qs, rfl, hU, hE, hb⟩
  have HU := hide hU
  have HE2 := hide hE
  have HB3 := hide hb
  have HT3 := hide (HT.out.below hb)
  clear hU hE hb
  have HLP : Hid (ps.length ≤ 65536) := by have := HHELD.out.2; rw [← HE1.out, List.length_map] at this; exact this
  have HLQ : Hid (qs.length ≤ 65536) := by have := HHELD.out.2; rw [← HE2.out, List.length_map] at this; exact this
  go_wp2_with (at_builtin; refine wpList_append_own_at _ rfl (.tmp 36) (.tmp 40) 41 rfl w1.heap.size 50 i0 (.agg #[.int .i64 0, .int .i64 0, .slice none 0 0]) 3 40 Tryd.underlying41 hi z0 z1 z2 rfl (by decide) _ ps.length (tcells ps) rfl (HT3.out.row.alloc _) ⟨w3.heap.size, 0, none⟩ 1 1 [.int .i64 f, .int .i64 n, .slice none 0 0] rfl rfl ?pa ?pb ?pc ?pd ?pe ?pf)
  case pa =>
    intro j x hj
    match j, hj with
    | 0, hj => simp at hj; subst hj; simp [Addr.add]
    | 1, hj => simp at hj; subst hj; simp [Addr.add]
    | 2, hj => simp at hj; subst hj; simp [Addr.add]
  case pb => intro x hx; simp at hx; rcases hx with rfl | rfl | rfl <;> rfl
  case pc => have := HLP.out; have := HLQ.out; unfold maxLen; omega
  case pd => have := HLP.out; have := HLQ.out; omega
  case pe => have := HB2.out.size; have := HB3.out.size; simp; omega
  case pf =>
    intro vl' w4 hown4 hgrow4 _ hloc4
    have hpush := HT3.out.pushNew (t := ⟨f, n, []⟩) (u := .slice none 0 0) (Nat.le_trans HB2.out.size HB3.out.size) (Below.refl _ _) (World.ownsRow_nil _ _ _ _) hown4 hgrow4 (by simpa using hloc4)
    have hg4 := (World.grownBy_alloc w3 _ _).trans hgrow4
    have HT4 := hide hpush.1
    have HB4 : Hid (Below w1.heap.size w3 w4) := hpush.2
    have hloc4' : vl'.ownBlock = vl.ownBlock ∨ vl'.ownBlock = some (w3.heap.size + 1) := by simpa using hloc4
    have HLOC := hide hloc4'
    have HW4 : Hid (w2.heap.size ≤ w4.heap.size) := Nat.le_trans HB3.out.size hpush.2.size
    have HU4 : Hid (TokRow w4 w2.heap.size vm qs) := by
      have hap : ∀ g, vl.ownBlock = some g → g < w2.heap.size := fun g hg => (HT.out.row.lt g hg).2
      refine HU.out.grown hg4 ?_ ?_
      · cases hv : vm.ownBlock with
        | none => exact .inl rfl
        | some g =>
          refine .inr fun e => ?_
          have h1 := hap g e.symm
          have := (HU.out.row.lt g hv).1
          omega
      · intro p hp
        cases hp2 : p.2.ownBlock with
        | none => exact .inl rfl
        | some g =>
          refine .inr fun e => ?_
          have h1 := hap g e.symm
          have := ((HU.out.data p hp).lt g hp2).1
          omega
    clear hpush hg4 hown4 hgrow4 hloc4 hloc4'
    go_wp2_with (at_builtin; refine wpList_append_own_at _ rfl (.tmp 42) (.tmp 46) 41 rfl w2.heap.size 50 i0 (.agg #[.int .i64 0, .int .i64 0, .slice none 0 0]) 3 40 Tryd.underlying41 hi z0 z1 z2 rfl (by decide) _ qs.length (tcells qs) rfl (HU4.out.row.alloc _) ⟨w4.heap.size, 0, none⟩ 1 1 [.int .i64 f, .int .i64 n, .slice none 0 0] rfl rfl ?qa ?qb ?qc ?qd ?qe ?qf)
    case qa =>
      intro j x hj
      match j, hj with
      | 0, hj => simp at hj; subst hj; simp [Addr.add]
      | 1, hj => simp at hj; subst hj; simp [Addr.add]
      | 2, hj => simp at hj; subst hj; simp [Addr.add]
    case qb => intro x hx; simp at hx; rcases hx with rfl | rfl | rfl <;> rfl
    case qc => have := HLP.out; have := HLQ.out; unfold maxLen; omega
    case qd => have := HLP.out; have := HLQ.out; omega
    case qe => have := HW4.out; simp; omega
    case qf =>
      intro vm' w5 hown5 hgrow5 _ hloc5
      have hpush := HU4.out.pushNew (t := ⟨f, n, []⟩) (u := .slice none 0 0) HW4.out (Below.refl _ _) (World.ownsRow_nil _ _ _ _) hown5 hgrow5 (by simpa using hloc5)
      have hg5 := (World.grownBy_alloc w4 _ _).trans hgrow5
      have HUX := hide hpush.1
      have HTX : Hid (TokRow w5 w1.heap.size vl' (ps ++ [(⟨f, n, []⟩, .slice none 0 0)])) := by
        have hap : ∀ g, vm.ownBlock = some g → w2.heap.size ≤ g ∧ g < w3.heap.size := fun g hg => HU.out.row.lt g hg
        refine HT4.out.grown hg5 ?_ ?_
        · cases hv : vl'.ownBlock with
          | none => exact .inl rfl
          | some g =>
            refine .inr fun e => ?_
            have h1 := hap g e.symm
            rcases HLOC.out with h | h
            · rw [hv] at h
              have := (HT.out.row.lt g h.symm).2
              omega
            · rw [hv] at h; simp at h; omega
        · intro p hp
          cases hp2 : p.2.ownBlock with
          | none => exact .inl rfl
          | some g =>
            refine .inr fun e => ?_
            have h1 := hap g e.symm
            rw [List.mem_append] at hp
            rcases hp with hp | hp
            · have := ((HT.out.data p hp).lt g hp2).2
              omega
            · simp at hp; subst hp; cases hp2
      have HBX : Hid (Below w1.heap.size w1 w5) := ((HB2.out.trans (HB3.out.mono HB2.out.size)).trans HB4.out).trans (hpush.2.mono HB2.out.size)
      clear hpush hg5 hown5 hgrow5 hloc5
      have HPX : Hid ((ps ++ [((⟨f, n, []⟩ : Tok), Value.slice none 0 0)]).map Prod.fst = tokGo (nums d) ++ [⟨f, n, []⟩]) := by show _ = _; rw [List.map_append, HE1.out]; rfl
      have HQX : Hid ((qs ++ [((⟨f, n, []⟩ : Tok), Value.slice none 0 0)]).map Prod.fst = tokGo (nums d) ++ [⟨f, n, []⟩]) := by show _ = _; rw [List.map_append, HE2.out]; rfl
      have HGX := hide (ap_below HG.out HBX.out (lt_heap HG.out))
      have HBW : Hid (Below w.heap.size w w5) := below_all HB.out HBX.out
      have HHX : Hid (∀ p ∈ (ps ++ [((⟨f, n, []⟩ : Tok), Value.slice none 0 0)]), Held p.1) := fun p hp => HALL.out p.1 (by rw [← HPX.out]; exact List.mem_map_of_mem hp)
      have HHQ : Hid (∀ p ∈ (qs ++ [((⟨f, n, []⟩ : Tok), Value.slice none 0 0)]), Held p.1) := fun p hp => HALL.out p.1 (by rw [← HQX.out]; exact List.mem_map_of_mem hp)
      have HLX : Hid ((ps ++ [((⟨f, n, []⟩ : Tok), Value.slice none 0 0)]).length ≤ 70000) := by have := HLP.out; show _ ≤ _; rw [List.length_append, List.length_singleton]; omega
      have HLY : Hid ((qs ++ [((⟨f, n, []⟩ : Tok), Value.slice none 0 0)]).length ≤ 70000) := by have := HLQ.out; show _ ≤ _; rw [List.length_append, List.length_singleton]; omega
      go_wp2_with fail
      have HPA := hide (pApply_ok w.heap.size 0 (s.size + 2) B (nums s) w1.heap.size vl' (ps ++ [((⟨f, n, []⟩ : Tok), Value.slice none 0 0)]) w5 hB1 hB2 (by rw [nums_length]; omega) (by rw [nums_length]; omega) (row_cells HGX.out) HTX.out HLX.out HHX.out (made := made) (by rw [HPX.out]; exact HRES.out))
      rw [nums_length] at HPA
      refine HPA.out.mono ?_
      rintro e w7 ⟨v7, rfl, ho, hb⟩
      have HO7 := hide ho
      have HB7 := hide hb
      clear ho hb HPA
      go_wp2_with fail
      refine (still_any s (by omega) _ _ (ap_below HGX.out HB7.out (lt_heap HGX.out))).mono ?_
      rintro e w8 ⟨rfl, hw8⟩
      obtain rfl := hw8.symm
      go_wp2_with fail
      refine (alike_ok _ _ _ _ (ps ++ [((⟨f, n, []⟩ : Tok), Value.slice none 0 0)]) (qs ++ [((⟨f, n, []⟩ : Tok), Value.slice none 0 0)]) _ (HTX.out.below HB7.out) (HUX.out.below HB7.out) (HPX.out.trans HQX.out.symm) (fun p hp => (HHX.out p hp).1) HLX.out).mono ?_
      rintro e w8 ⟨rfl, hb⟩
      have HB8 := hide hb
      clear hb
      go_wp2_with fail
      refine (sized_ok _ _ (by omega) (by omega) (by omega) _).mono ?_
      rintro e w9 ⟨rfl, hw9⟩
      obtain rfl := hw9.symm
      go_wp2_with fail
      refine (rapply_ok s B _ _ (qs ++ [((⟨f, n, []⟩ : Tok), Value.slice none 0 0)]) _ hB1 hB2 (by omega) ((HUX.out.below HB7.out).below HB8.out) HLY.out HHQ.out).mono ?_
      rintro e w9 ⟨v9, e9, rfl, ht, hb⟩
      rw [HQX.out, HRES.out] at ht
      obtain ⟨rfl, rfl⟩ := ht
      have HB9 := hide hb
      clear hb
      have HO9 := hide (ownsRow_below (ownsRow_below HO7.out HB8.out) HB9.out)
      have hcv := conv_own HMB.out HO9.out
      go_wp2_with fail
      refine (spoilt_ok _ _ made _ HO9.out).mono ?_
      rintro e w10 ⟨rfl, hb⟩
      have HB10 : Hid (Below w5.heap.size w5 w10) := (below_all (below_all HB7.out HB8.out) HB9.out).trans hb
      clear hb hcv
      go_wp2_with fail
      refine (still_any s (by omega) _ _ (ap_below HGX.out HB10.out (lt_heap HGX.out))).mono ?_
      rintro e w11 ⟨rfl, hw11⟩
      obtain rfl := hw11.symm
      go_wp2_with fail
      refine (alike_ok _ _ _ _ (ps ++ [((⟨f, n, []⟩ : Tok), Value.slice none 0 0)]) (qs ++ [((⟨f, n, []⟩ : Tok), Value.slice none 0 0)]) _ (HTX.out.below HB10.out) (HUX.out.below HB10.out) (HPX.out.trans HQX.out.symm) (fun p hp => (HHX.out p hp).1) HLX.out).mono ?_
      rintro e w11 ⟨rfl, hb⟩
      have HB11 := hide hb
      clear hb
      go_wp2_with fail
      go_ret
      exact ⟨rfl, below_all (below_all HBW.out HB10.out) HB11.out⟩

theorem held_raw {d : ByteArray} {f n : Int} (hf : (Lit.int .i64 f).wf = true) (hn : (Lit.int .i64 n).wf = true) : ∀ t ∈ tokGo (nums d) ++ [(⟨f, n, []⟩ : Tok)], Held t := by
  intro t ht
  rw [List.mem_append] at ht
  rcases ht with ht | ht
  · exact (tokGo_held _ (nums d) (Nat.le_refl _) (nums_bytes d)).1 t ht
  · simp at ht
    subst ht
    refine ⟨fun x hx => by simp at hx, by simp, ?_, ?_⟩
    · simpa [I64, Lit.wf, IntKind.min, IntKind.max, IntKind.signed, IntKind.bits] using hf
    · simpa [I64, Lit.wf, IntKind.min, IntKind.max, IntKind.signed, IntKind.bits] using hn

theorem walk_applies (s d : ByteArray) (B f n : Int) (hs : s.size ≤ maxLen) (hd : d.size ≤ maxLen) (_hB : (Lit.int .i64 B).wf = true) (hf : (Lit.int .i64 f).wf = true) (hn : (Lit.int .i64 n).wf = true) (w : World) (he : ErrT w) :
    Calls Tryd.prog 6 #[.string s, .string d, .int .i64 B, .int .i64 f, .int .i64 n] w fun e w' => e = .returned (.bool true) ∧ Below w.heap.size w w' := by
  by_cases h1 : 65536 < s.size ∨ 65536 < d.size
  · exact applies_great s d h1 hs hd B f n w
  · have hall0 := (tokGo_held _ (nums d) (Nat.le_refl _) (nums_bytes d)).1
    have hall1 := held_raw (d := d) hf hn
    by_cases hn0 : n = 0
    · by_cases h2 : B < 1 ∨ 64 < B
      · exact applies_bad0 s d (by omega) (by omega) B 1 (.inl rfl) f n hn0 w he hall0 (fun v w => check_block v s.size (s.size + 2) B (by omega) h2 w) (fun w => sized_block B s.size h2 w)
      · by_cases h3 : 300 < s.size
        · exact applies_bad0 s d (by omega) (by omega) B 2 (.inr rfl) f n hn0 w he hall0 (fun v w => check_data v s.size (s.size + 2) B (by omega) (by omega) (by omega) h3 w) (fun w => sized_data B s.size (by omega) (by omega) (by omega) w)
        · obtain ⟨b, rfl⟩ : ∃ b : Nat, B = b := ⟨B.toNat, by omega⟩
          cases hr : applyGo (nums s) b [] (tokGo (nums d)) with
          | ok made => exact applies_good0 s d (by omega) (by omega) b (by omega) (by omega) made f n hn0 w hall0 hr
          | error k => exact applies_err0 s d (by omega) (by omega) b (by omega) (by omega) k f n hn0 w he hall0 hr

    · by_cases h2 : B < 1 ∨ 64 < B
      · exact applies_bad1 s d (by omega) (by omega) B 1 (.inl rfl) f n hn0 w he hall1 (fun v w => check_block v s.size (s.size + 2) B (by omega) h2 w) (fun w => sized_block B s.size h2 w)
      · by_cases h3 : 300 < s.size
        · exact applies_bad1 s d (by omega) (by omega) B 2 (.inr rfl) f n hn0 w he hall1 (fun v w => check_data v s.size (s.size + 2) B (by omega) (by omega) (by omega) h3 w) (fun w => sized_data B s.size (by omega) (by omega) (by omega) w)
        · obtain ⟨b, rfl⟩ : ∃ b : Nat, B = b := ⟨B.toNat, by omega⟩
          cases hr : applyGo (nums s) b [] (tokGo (nums d) ++ [⟨f, n, []⟩]) with
          | ok made => exact applies_good1 s d (by omega) (by omega) b (by omega) (by omega) made f n hn0 w hall1 hr
          | error k => exact applies_err1 s d (by omega) (by omega) b (by omega) (by omega) k f n hn0 w he hall1 hr

end Go.Proofs.YtbhccdedcoajmaaDoor
