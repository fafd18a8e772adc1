import Derived.Test.YtbhccdedcoajmaaDoorClip
import Derived.Test.YtbhccdedcoajmaaDoorPDiff
import Derived.Test.YtbhccdedcoajmaaDoorPApply
import Derived.Test.YtbhccdedcoajmaaDoorFair
namespace Go.Proofs.YtbhccdedcoajmaaDoor
open Go.RowKit

theorem lits_take_le (l : List Tok) (k : Nat) : lits (l.take k) ≤ lits l := by
  have := lits_append (l.take k) (l.drop k)
  rw [List.take_append_drop] at this
  omega
theorem lits_take_succ {l : List Tok} {k : Nat} (h : k < l.length) : lits (l.take (k + 1)) = lits (l.take k) + l[k].data.length := by
  rw [List.take_succ_eq_append_getElem h, lits_append]
  simp [lits]

set_option maxRecDepth 10000 in
set_option maxHeartbeats 2000000 in
theorem rebuilt_of (s0 d0 s d : ByteArray) (c : Int) (B : Nat) (hB1 : 1 ≤ B) (hB2 : B ≤ 64) (hs : s.size ≤ 300) (hd : d.size ≤ 300)
    (hcs : ∀ w, Calls Tryd.prog 31 #[.string s0, .int .i64 300] w fun e w' => e = .returned (.string s) ∧ w' = w)
    (hcd : ∀ w, Calls Tryd.prog 31 #[.string d0, .int .i64 300] w fun e w' => e = .returned (.string d) ∧ w' = w)
    (hpk : ∀ w, Calls Tryd.prog 32 #[.int .i64 c, .int .i64 64] w fun e w' => e = .returned (.int .i64 ((B : Int) - 1)) ∧ w' = w) (w : World) :
    Calls Tryd.prog 9 #[.string s0, .string d0, .int .i64 c] w fun e w' => e = .returned (.bool true) ∧ Below w.heap.size w w' := by
  have hls := nums_length s
  have hld := nums_length d
  -- Diff of the two files, laid anew
  have HPD : Hid (∀ (d : ByteArray) (b cap b2 cap2 : Nat) (W : World), d.size ≤ 300 → s.size ≤ cap → d.size ≤ cap2 → b2 < W.heap.size → (∀ k (h : k < (nums s).length), W.cell? ⟨b, 0 + k, none⟩ = some (.int .u8 (nums s)[k])) → (∀ k (h : k < (nums d).length), W.cell? ⟨b2, 0 + k, none⟩ = some (.int .u8 (nums d)[k])) →
      Calls Tryd.prog 18 #[.slice (some ⟨b, 0, none⟩) s.size cap, .slice (some ⟨b2, 0, none⟩) d.size cap2, .int .i64 B] W fun e w' => ∃ v ps, e = .returned (.tuple #[v, .int .i64 0]) ∧ TokRow w' W.heap.size v ps ∧ ps.map Prod.fst = diffOf (nums s) (nums d) B ∧ Below W.heap.size W w') := by
    intro d b cap b2 cap2 W hd hc1 hc2 hb2 hz hy
    have := pDiff_ok b 0 cap B (nums s) b2 0 cap2 (nums d) W hB1 hB2 (by omega) (by omega) (nums_bytes s) (by rw [nums_length]; omega) (by rw [nums_length]; omega) (nums_bytes d) hb2 hz hy
    rw [nums_length, nums_length] at this
    exact this
  have HPA : Hid (∀ (d : ByteArray) (b cap base : Nat) (tv : Value) (ps : List (Tok × Value)) (W : World), d.size ≤ 300 → s.size ≤ cap → (∀ k (h : k < (nums s).length), W.cell? ⟨b, 0 + k, none⟩ = some (.int .u8 (nums s)[k])) → TokRow W base tv ps → ps.map Prod.fst = diffOf (nums s) (nums d) B →
      Calls Tryd.prog 23 #[.slice (some ⟨b, 0, none⟩) s.size cap, tv, .int .i64 B] W fun e w' => ∃ v, e = .returned (.tuple #[v, .int .i64 0]) ∧ (∀ w'', Below w'.heap.size w' w'' → (convert 25 9 v).run Tryd.prog w'' = .ok (.string d) w'') ∧ Below W.heap.size W w') := by
    intro d b cap base tv ps W hd hc1 hz hT hE
    obtain ⟨hf1, hf2⟩ := fair_diffOf (zs := nums s) (ds := nums d) (B := B) hB1 (by omega) (nums_bytes d)
    have hh : ∀ p ∈ ps, Held p.1 := by
      intro p hp
      have := hf1 p.1 (by rw [← hE]; exact List.mem_map_of_mem hp)
      exact ⟨this.1, this.2.1, ⟨by have := this.2.2.1; omega, by have := this.2.2.2.1; omega⟩, ⟨by have := this.2.2.2.2.1; omega, by have := this.2.2.2.2.2; omega⟩⟩
    have hlen : ps.length ≤ 70000 := by
      rw [← hE, List.length_map, nums_length] at hf2; omega
    have := pApply_ok b 0 cap B (nums s) base tv ps W hB1 hB2 (by omega) (by omega) hz hT hlen hh (made := nums d) (by rw [hE]; exact apply_diff hB1 (by rw [nums_length]; omega))
    rw [nums_length s] at this
    refine this.mono ?_
    rintro e w' ⟨v, rfl, ho, hb⟩
    refine ⟨v, rfl, fun w'' hb' => ?_, hb⟩
    have := conv_own (nums_bytes d) (ownsRow_below ho hb')
    rw [bytesOf_nums] at this
    exact this
  have HPS : Hid (∀ (b cap : Nat) (W : World), s.size ≤ cap → (∀ k (h : k < (nums s).length), W.cell? ⟨b, 0 + k, none⟩ = some (.int .u8 (nums s)[k])) → Calls Tryd.prog 12 #[.slice (some ⟨b, 0, none⟩) s.size cap, .int .i64 B] W fun e w' => e = .returned (.tuple #[.slice (some ⟨W.heap.size, 0, none⟩) (chunks s.size B) (chunks s.size B), .int .i64 0]) ∧
      w'.ownsRow W.heap.size 39 3 (.slice (some ⟨W.heap.size, 0, none⟩) (chunks s.size B) (chunks s.size B)) (chunks s.size B) (signCells (nums s) B (chunks s.size B)) ∧ Below W.heap.size W w') := by
    intro b cap W hc1 hz
    have := pSign_any b 0 cap B (nums s) W hB1 hB2 (by omega) (by omega) (nums_bytes s) hz
    rw [nums_length] at this
    exact this
  have HCS := hide hcs
  have HCD := hide hcd
  have HPK := hide hpk
  have hbm : (1 : Int) + ((B : Int) - 1) = (B : Int) := by omega
  clear hcs hcd hpk hls hld
  obtain ⟨cap1, W1, hr1, hk1, hz1, _, hsz1, hb1⟩ := conv_any s w
  obtain ⟨cap2, W2, hr2, hk2, hz2, _, hsz2, hb2⟩ := conv_any d W1
  have HZ1 := hide (cells_below hz1 hb2)
  have HZ2 := hide hz2
  have HB2 : Hid (Below w.heap.size w W2) := below_all hb1 hb2
  have HS2 : Hid (W1.heap.size < W2.heap.size) := by show _ < _; omega
  clear hz1 hz2 hb1 hb2 hsz1 hsz2
  go_enter Tryd.func9, Tryd.ntmps9
  go_wp2_with fail
  refine (HCS.out _).mono ?_
  rintro e w9 ⟨rfl, hw9⟩
  obtain rfl := hw9.symm
  go_wp2_with fail
  refine (HCD.out _).mono ?_
  rintro e w9 ⟨rfl, hw9⟩
  obtain rfl := hw9.symm
  go_wp2_with fail
  refine (HPK.out _).mono ?_
  rintro e w9 ⟨rfl, hw9⟩
  obtain rfl := hw9.symm
  go_wp2_with fail
  refine (HPD.out d _ _ _ _ _ hd hk1 hk2 HS2.out HZ1.out HZ2.out).mono ?_
  rintro e w3 ⟨v3, ps, rfl, hT, hE, hb⟩
  obtain ⟨cap4, W4, hr4, hk4, hz4, _, hsz4, hb4⟩ := conv_any s w3
  have HT := hide (hT.below hb4)
  have HE := hide hE
  have HZ4 := hide hz4
  have HB4 : Hid (Below w.heap.size w W4) := below_all HB2.out (below_all hb hb4)
  clear hT hE hb hz4 hb4 hsz4 hr1 hr2
  go_wp2_with fail
  refine (HPA.out d _ _ _ _ ps _ hd hk4 HZ4.out HT.out HE.out).mono ?_
  rintro e w5 ⟨v5, rfl, hcv, hb⟩
  obtain ⟨cap6, W6, hr6, hk6, hz6, _, hsz6, hb6⟩ := conv_any s w5
  obtain ⟨cap7, W7, hr7, hk7, hz7, _, hsz7, hb7⟩ := conv_any s W6
  have hcv5 := hcv w5 (Below.refl _ _)
  have HZ6 := hide (cells_below hz6 hb7)
  have HZ7 := hide hz7
  have HS7 : Hid (W6.heap.size < W7.heap.size) := by show _ < _; omega
  have HB7 : Hid (Below w.heap.size w W7) := below_all (below_all HB4.out hb) (below_all hb6 hb7)
  clear hcv hb hz6 hz7 hb6 hb7 hsz6 hsz7 hr4
  go_wp2_with fail
  refine (HPD.out s _ _ _ _ _ hs hk6 hk7 HS7.out HZ6.out HZ7.out).mono ?_
  rintro e w8 ⟨v8, qs, rfl, hT, hE, hb⟩
  obtain ⟨cap9, W9, hr9, hk9, hz9, _, hsz9, hb9⟩ := conv_any s w8
  have HT9 := hide (hT.below hb9)
  have HE9 := hide hE
  have HZ9 := hide hz9
  have HB9 : Hid (Below w.heap.size w W9) := below_all HB7.out (below_all hb hb9)
  clear hT hE hb hz9 hb9 hsz9 hr6 hr7 hcv5
  go_wp2_with fail
  refine (HPA.out s _ _ _ _ qs _ hs hk9 HZ9.out HT9.out HE9.out).mono ?_
  rintro e w10 ⟨v10, rfl, hcv, hb⟩
  have hcv10 := hcv w10 (Below.refl _ _)
  have hT10 := HT9.out.below hb
  have HB10 : Hid (Below w.heap.size w w10) := below_all HB9.out hb
  obtain ⟨va, tcap, hv8, htc, hcell⟩ := hT10.opened
  subst hv8
  have hlit : lits (qs.map Prod.fst) < B := by rw [HE9.out]; exact lits_diffOf hB1
  have HLT : Hid (∀ k, k < qs.length → ∃ (g m dc : Nat) (da : Option Addr), va = some ⟨g, 0, none⟩ ∧ w10.cell? ⟨g, k * 3 + 2, none⟩ = some (.slice da m dc) ∧ lits ((qs.map Prod.fst).take (k + 1)) = lits ((qs.map Prod.fst).take k) + m) := by
    intro k hk
    obtain ⟨g, hv, _, _, _, _, c2⟩ := hcell k hk
    have hls := lits_take_succ (l := qs.map Prod.fst) (k := k) (by simpa using hk)
    rcases own_shape (hT10.data qs[k] (List.getElem_mem hk)) with ⟨h, hz⟩ | ⟨g2, dc, h, _⟩
    · refine ⟨g, 0, 0, none, hv, by rw [c2, h], ?_⟩
      rw [hls]; simp [hz]
    · refine ⟨g, _, dc, _, hv, by rw [c2, h], ?_⟩
      rw [hls]; simp
  have HTK : Hid (∀ k, lits ((qs.map Prod.fst).take k) < B) := fun k => Nat.lt_of_le_of_lt (lits_take_le _ k) hlit
  have hqn : qs.length ≤ 300 := by
    have := (fair_diffOf (zs := nums s) (ds := nums s) (B := B) hB1 (by rw [nums_length]; omega) (nums_bytes s)).2
    rw [← HE9.out, List.length_map, nums_length] at this
    omega
  clear hcv hb hcell hT10 hlit hr9
  generalize hQ : qs.length = nq at *
  have HQ := hide hQ
  clear hQ
  go_wp2_with fail
  go_loop [12, 13] (fun v12 v13 => ∃ (k x : Nat), k ≤ nq ∧ v13 = .int .i64 k ∧ v12 = .int .i64 x ∧ x < B ∧ Hid (x = lits ((qs.map Prod.fst).take k))) (fun _ v13 => nq - (intOf v13).toNat)
  case atStart => exact ⟨0, 0, Nat.zero_le _, rfl, rfl, by omega, (rfl : _ = _)⟩
  case round =>
    obtain ⟨k, x, hk, rfl, rfl, hxB, HX⟩ := hrel
    by_cases hlt : k < nq
    · obtain ⟨g, m, dc, da, rfl, hc, hl⟩ := HLT.out k hlt
      have hxm : x + m < B := by have := HTK.out (k + 1); rw [hl, ← HX.out] at this; exact this
      have HL := hide hl
      clear hl
      go_wp2_with fail
      go_round
      case rel => exact ⟨k + 1, x + m, by omega, by go_num, by go_num, hxm, (show x + m = _ by rw [HL.out, HX.out])⟩
      case measure => simp [intOf]; omega
    · obtain ⟨cap11, W11, hr11, hk11, hz11, _, hsz11, hb11⟩ := conv_any s w10
      have HZ11 := hide hz11
      have HB11 : Hid (Below w.heap.size w W11) := below_all HB10.out hb11
      clear hz11 hb11 hsz11
      go_wp2_with fail
      refine (HPS.out _ _ _ hk11 HZ11.out).mono ?_
      rintro e w12 ⟨rfl, ho, hb⟩
      have HO := hide ho
      have HB12 : Hid (Below w.heap.size w w12) := below_all HB11.out hb
      have HSZ : Hid (∀ k, k < chunks s.size B → ∃ m : Nat, w12.cell? ⟨W11.heap.size, k * 3, none⟩ = some (.int .i64 m) ∧ min ((k + 1) * B) s.size = min (k * B) s.size + m) := by
        intro k hk
        refine ⟨(chunk (nums s) B k).length, ?_, ?_⟩
        · have h0 := ho.cellAt (k * 3 + 0) (by omega)
          rw [signCells_at _ _ _ _ _ hk (by omega)] at h0
          rw [Nat.add_zero] at h0; rw [h0]; simp [sumCells]
        · have hl := chunk_length (nums s) B k
          have := (lt_chunks hB1).1 hk
          rw [nums_length] at hl
          rw [hl, Nat.add_mul]; omega
      have HALL : Hid (min (chunks s.size B * B) s.size = s.size) := by
        have := (lt_chunks (n := s.size) (k := chunks s.size B) hB1).2
        show _ = _
        rcases Nat.lt_or_ge (chunks s.size B * B) s.size with h | h
        · exact absurd (this h) (by omega)
        · omega
      have hMle := chunks_le (n := s.size) hB1
      clear ho hb hr11 hcv10
      generalize chunks s.size B = M at *
      go_wp2_with fail
      go_loop [16, 17] (fun v16 v17 => ∃ (k x : Nat), k ≤ M ∧ v17 = .int .i64 k ∧ v16 = .int .i64 x ∧ x ≤ 300 ∧ Hid (x = min (k * B) s.size)) (fun _ v17 => M - (intOf v17).toNat)
      case atStart => exact ⟨0, 0, Nat.zero_le _, rfl, rfl, by omega, (show 0 = min (0 * B) s.size by omega)⟩
      case round =>
        obtain ⟨j, y, hj, rfl, rfl, hy, HY⟩ := hrel
        by_cases hjt : j < M
        · obtain ⟨m, hc, hl⟩ := HSZ.out j hjt
          have hym : y + m ≤ 300 := by have := HY.out; omega
          have HL := hide hl
          clear hl
          go_wp2_with fail
          go_round
          case rel => exact ⟨j + 1, y + m, by omega, by go_num, by go_num, hym, (show y + m = _ by rw [HL.out, HY.out])⟩
          case measure => simp [intOf]; omega
        · have hyn : y = s.size := by
            have h1 := HY.out
            have h2 := HALL.out
            obtain rfl : j = M := by omega
            omega
          subst hyn
          go_wp2_with fail
          go_ret
          exact ⟨rfl, HB12.out⟩

theorem walk_rebuilt (s d : ByteArray) (c : Int) (hs : s.size ≤ maxLen) (hd : d.size ≤ maxLen) (hc : (Lit.int .i64 c).wf = true) (w : World) (_he : ErrT w) :
    Calls Tryd.prog 9 #[.string s, .string d, .int .i64 c] w fun e w' => e = .returned (.bool true) ∧ Below w.heap.size w w' := by
  have hclip : ∀ s : ByteArray, s.size ≤ maxLen → ∃ t : ByteArray, t.size ≤ 300 ∧ ∀ w, Calls Tryd.prog 31 #[.string s, .int .i64 300] w fun e w' => e = .returned (.string t) ∧ w' = w := by
    intro s hs
    by_cases h : 300 < s.size
    · exact ⟨s.extract 0 300, by simp [ByteArray.size_extract]; omega, fun w => clip_long s 300 h hs w⟩
    · exact ⟨s, by omega, fun w => clip_short s 300 (by omega) hs w⟩
  obtain ⟨s1, h1, hcs⟩ := hclip s hs
  obtain ⟨d1, h2, hcd⟩ := hclip d hd
  obtain ⟨k, hk, hpk⟩ : ∃ k : Nat, k < 64 ∧ ∀ w, Calls Tryd.prog 32 #[.int .i64 c, .int .i64 64] w fun e w' => e = .returned (.int .i64 k) ∧ w' = w := pick_ex c hc
  refine rebuilt_of s d s1 d1 c (k + 1) (by omega) (by omega) h1 h2 hcs hcd (fun w => ?_) w
  have := hpk w
  rw [show (((k + 1 : Nat) : Int) - 1) = (k : Int) by omega]
  exact this
end Go.Proofs.YtbhccdedcoajmaaDoor
