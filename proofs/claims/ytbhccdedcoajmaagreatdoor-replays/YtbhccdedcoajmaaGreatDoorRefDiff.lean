import Derived.Test.YtbhccdedcoajmaaGreatDoorStrAtM
import Derived.Deep.QuietTactic
import Derived.BigQuiet
import Derived.Deep.RegionHeld3
import Derived.Deep.AppendLies
import Derived.Deep.RegionLaw
namespace Go.Proofs.YtbhccdedcoajmaaGreatDoor
open Go.RowKit

theorem nums_cons (u : ByteArray) (h : 0 < u.size) : nums u = (u[0].toNat : Int) :: nums (u.extract 1 u.size) := by
  rw [nums_extract]
  have hl := nums_length u
  have := nums_at u 0 h
  rw [← this]
  rw [List.take_of_length_le (by rw [List.length_drop]; omega)]
  rw [← List.drop_eq_getElem_cons (by omega)]
  rfl
theorem grown_drew {w w' : World} {r : Option Nat} (h : w.grownBy w' r) : w.grownBy w'.drew r := ⟨h.os, h.tape, h.output, h.size, h.block⟩
theorem one_new (w : World) (x : Int) : (w.alloc (.cells #[.int .u8 x] 5)).ownsRow w.heap.size 5 1 (.slice (some ⟨w.heap.size, 0, none⟩) 1 1) 1 (u8s [x]) :=
  ⟨rfl, .inr ⟨w.heap.size, 1, #[.int .u8 x], rfl, Nat.le_refl _, heap_alloc_new _ _, Nat.le_refl _, by decide, rfl, rfl⟩⟩

set_option maxRecDepth 10000 in
set_option maxHeartbeats 4000000 in
theorem rdiff_ok (s d : ByteArray) (B : Nat) (w : World) (hB1 : 1 ≤ B) (hB2 : B ≤ 64) (hm : s.size ≤ 300) (hm2 : d.size ≤ 300) :
    Calls Tryz.prog 40 #[.string s, .string d, .int .i64 B] w fun e w' => ∃ v ps, e = .returned v ∧ TokRow w' w.heap.size v ps ∧ ps.map Prod.fst = diffOf (nums s) (nums d) B ∧ Below w.heap.size w w' := by
  obtain ⟨i0, hi, z0, z1, z2⟩ := info_parts Tryz.info100
  obtain ⟨j0, hj, y0, y1, y2⟩ := info_parts Tryz.info5
  have HBL := hide (blocks_any s B w hB1 hB2 hm)
  have HPL : Hid (∀ base (v : Value) (ts : List ByteArray) (u : ByteArray) (w : World), u.size = B → w.ownsRow base 9 1 v (chunks s.size B) (ts.map Value.string) → ts.map nums = (List.range (chunks s.size B)).map (chunk (nums s) B) → Calls Tryz.prog 57 #[v, .string u] w fun e w' => e = .returned (placeV (findBlk (nums s) B (nums u))) ∧ w' = w) := by
    intro base v ts u w hu ho ht
    have hl := nums_length s
    exact place_ok base B v (nums s) ts u w hB1 (by omega) hu (by rw [hl]; exact ho) (by rw [hl]; exact ht)
  go_enter Tryz.func40, Tryz.ntmps40
  go_wp2_with fail
  refine HBL.out.mono ?_
  rintro e W0 ⟨bv, ts, rfl, ho, ht, hb⟩
  have HO := hide ho
  have HT := hide ht
  have HBW := hide hb
  clear ho ht hb HBL
  go_wp2_with fail
  go_loopw [1, 8] (fun v1 v8 wr => ∃ (u : ByteArray) (ps : List (Tok × Value)), v1 = .string u ∧ u.size ≤ 300 ∧ Hid (TokRow wr W0.heap.size v8 ps) ∧ Hid (diffGo (nums s) B (ps.map Prod.fst) (nums u) = diffOf (nums s) (nums d) B) ∧
      Hid (AllFair (ps.map Prod.fst)) ∧ Hid (ps.length + u.size ≤ d.size) ∧ Hid (Below W0.heap.size W0 wr)) (fun v1 _ _ => match v1 with | .string u => u.size | _ => 0)
  case atStart => exact ⟨d, [], rfl, hm2, TokRow.nil _ _, (rfl : _ = _), (fun t ht => by simp at ht), (show 0 + d.size ≤ d.size by omega), Below.refl _ _⟩
  case round =>
    obtain ⟨u, ps, rfl, hu, HTr, HDr, HFr, HLr, HBr⟩ := hrel
    by_cases h0 : 0 < u.size
    · have HMISS : Hid (findBlk (nums s) B ((nums u).take B) = none → ∀ out, diffGo (nums s) B out (nums u) = diffGo (nums s) B (pushByte out (u[0].toNat : Int)) (nums (u.extract 1 u.size))) := by
        intro h out
        rw [nums_cons u h0] at h ⊢
        exact diffGo_miss h
      have HX : Hid (0 ≤ (u[0].toNat : Int) ∧ (u[0].toNat : Int) < 256) := by have := u[0].toNat_lt; show _ ∧ _; omega
      by_cases hs : u.size < B
      · have HF : Hid (findBlk (nums s) B ((nums u).take B) = none) := findBlk_short hB1 (by rw [List.length_take, nums_length]; omega)
        rcases snoc_cases ps with rfl | ⟨l, ⟨t, du⟩, rfl⟩
        · obtain ⟨va, cap, rfl⟩ : ∃ va cap, u8 = .slice va 0 cap := by
            rcases HTr.out.row.2 with ⟨h, _⟩ | ⟨g, c2, cur, h, _⟩
            · exact ⟨_, _, h⟩
            · exact ⟨_, _, h⟩
          go_wp2_with (at_builtin; refine wpList_append_own_at _ rfl (.tmp 66) (.tmp 71) 96 rfl W0.heap.size 100 i0 (.agg #[.int .i64 0, .int .i64 0, .slice none 0 0]) 3 40 Tryz.underlying96 hi z0 z1 z2 rfl (by decide) _ 0 [] rfl ((HTr.out.row.alloc _).alloc _) ⟨wr.heap.size + 1, 0, none⟩ 1 1 [.int .i64 0, .int .i64 0, .slice (some ⟨wr.heap.size, 0, none⟩) 1 1] rfl rfl ?ka ?kb ?kc ?kd ?ke ?kf)
          case ka =>
            intro j x hj
            match j, hj with
            | 0, hj => simp at hj; subst hj; simp [Addr.add]
            | 1, hj => simp at hj; subst hj; simp [Addr.add]
            | 2, hj => simp at hj; subst hj; simp [Addr.add]
          case kb => intro x hx; simp at hx; rcases hx with rfl | rfl <;> rfl
          case kc =>
            have := HLr.out
            try simp at this
            unfold maxLen; omega
          case kd =>
            have := HLr.out
            try simp at this
            omega
          case ke => have := HBr.out.size; simp; omega
          case kf =>
            intro v' w3 hown3 hgrow3 _ hloc3
            have hpush := HTr.out.pushNew (t := ⟨0, 0, [(u[0].toNat : Int)]⟩) (u := .slice (some ⟨wr.heap.size, 0, none⟩) 1 1) HBr.out.size ((Below.refl _ _).alloc (Nat.le_refl _) _) (one_new wr _) (by first | exact hown3 | (rw [List.length_append, List.length_singleton, HLL.out]; exact hown3)) hgrow3 (by simpa using hloc3)
            have HT3 := hide hpush.1
            have HB3 : Hid (Below W0.heap.size W0 w3) := HBr.out.trans hpush.2
            clear hpush hown3 hgrow3 hloc3
            go_wp2_with fail
            go_roundw
            case rel =>
              refine ⟨_, _, rfl, by simp [ByteArray.size_extract]; omega, HT3.out, ?_, ?_, ?_, HB3.out⟩
              · show _ = _
                rw [← HDr.out, HMISS.out HF.out]
                congr 1
                all_goals rfl
              · show AllFair _
                have := fair_pushByte HFr.out (u[0].toNat : Int) HX.out
                refine (congrArg AllFair ?_).mp this
                all_goals rfl
              · show _ ≤ _
                have := HLr.out
                simp [ByteArray.size_extract] at this ⊢
                try omega
            case measure => simp [ByteArray.size_extract]; omega
        · obtain ⟨g, cap, hv8, hg1, hg2, hc1, hc2⟩ := HTr.out.shape (by simp)
          subst hv8
          obtain ⟨d0, d1, d2⟩ := HTr.out.cells l.length (by simp)
          simp only [List.getElem_concat_length, List.length_append, List.length_singleton] at d0 d1 d2 HTr HLr hc1 ⊢
          obtain ⟨da, dc, hdu⟩ : ∃ da dc, du = .slice da t.data.length dc := by
            rcases own_shape (HTr.out.data (t, du) (by simp)) with ⟨h, hz⟩ | ⟨g, c2, h, _⟩
            · exact ⟨none, 0, by simp only at h hz; rw [h, hz]; rfl⟩
            · exact ⟨_, c2, h⟩
          subst hdu
          have hfair := (fair_snoc.1 (by have := HFr.out; rw [List.map_append] at this; exact this)).2
          have hmB : t.data.length ≤ 255 := hfair.2.1
          have hcb0 : 0 ≤ t.count := hfair.2.2.2.2.1
          have hcb1 : t.count ≤ 255 := hfair.2.2.2.2.2
          have hbb0 : 0 ≤ t.block := hfair.2.2.1
          have hbb1 : t.block ≤ 300 := hfair.2.2.2.1
          clear hfair
          generalize hmm : t.data.length = m at *
          have HM := hide hmm
          clear hmm hc2
          generalize hL : l.length = L at *
          have HLL := hide hL
          clear hL
          have HROW : Hid (wr.ownsRow W0.heap.size 100 3 (.slice (some ⟨g, 0, none⟩) (L + 1) cap) (L + 1) (tcells (l ++ [(t, .slice da m dc)]))) := by
            have := HTr.out.row
            rw [List.length_append, List.length_singleton, HLL.out] at this
            exact this
          have hLn : L ≤ 300 := by have := HLr.out; omega
          by_cases hq1 : t.count = 0
          · by_cases hq2 : m < 255
            · have HDAT : Hid (wr.ownsRow W0.heap.size 5 1 (.slice da m dc) m (u8s t.data)) := by
                have := HTr.out.data (t, .slice da m dc) (by simp)
                simp only [HM.out] at this
                exact this
              have HOFF : Hid ((Value.slice da m dc).ownBlock ≠ some g) := fun e => HTr.out.off (t, .slice da m dc) (by simp) g e rfl
              have hwL : IntKind.i64.wrap (L : Int) = (L : Int) := by rw [IntKind.wrap_i64]; omega
              have hL0 : (0 : Int) ≤ (L : Int) := by omega
              have hL1 : (L : Int) < (L : Int) + 1 := by omega
              have hu0 : (0 : Int) < (u.size : Int) := by omega
              have hfz := own_frozen HROW.out
              clear HPL
              go_wp2_with fail
              have hfa : ∀ o, (wr.alloc o).frozen? ⟨g, L * 3 + 2, none⟩ = false := fun o => own_frozen (HROW.out.alloc o) _
              go_region_law
                ((refine step_append_lies _ (by rfl) _ _ _ (by rfl) W0.heap.size 5 j0 _ 1 1 Tryz.underlying38 hj y0 y1 y2 rfl (by omega) (.slice da m dc) m (u8s t.data) (by rfl) ((HDAT.out.alloc _).drew) ⟨wr.heap.size, 0, none⟩ 1 1 [.int .u8 (u[0].toNat : Int)] (by rfl) (by rfl) (World.news_of_block (cs := #[.int .u8 (u[0].toNat : Int)]) (t := 5) (fr := (0, 0)) (heap_alloc_new wr _)) (by simp [Value.oneCell']) (by omega) (by unfold maxLen; omega) (by omega) (by have := HBr.out.size; simp; omega) (wr.heap.size + 1) (by simp) ?_; intro g3 c3 w3 hown3 hgrow hat hlt3; have hx3 := (hgrow.cell_far ⟨g, L * 3 + 2, none⟩ (by simp; omega) (Ne.symm HOFF.out)).trans (show _ = some (Value.slice da m dc) by go_keep); have hf3 := (hgrow.frozen_far ⟨g, L * 3 + 2, none⟩ (by simp; omega) (Ne.symm HOFF.out)).trans (hfa _)))
              all_goals
                have HGW : Hid (wr.grownBy w3 (Value.slice da m dc).ownBlock) := (grown_drew (World.grownBy_alloc wr _ _)).trans hgrow
                have HB3 : Hid (Below W0.heap.size W0 (w3.setCell ⟨g, L * 3 + 2, none⟩ (.slice (some ⟨g3, 0, none⟩) (m + 1) c3))) := (HBr.out.grown HGW.out HBr.out.size (fun k hk => (HDAT.out.lt k hk).1)).setCell (p := ⟨g, L * 3 + 2, none⟩) hg1 _
                have HT3 : Hid (TokRow (w3.setCell ⟨g, L * 3 + 2, none⟩ (.slice (some ⟨g3, 0, none⟩) (m + 1) c3)) W0.heap.size (.slice (some ⟨g, 0, none⟩) (L + 1) cap) (l ++ [(⟨t.block, t.count, t.data ++ [(u[0].toNat : Int)]⟩, .slice (some ⟨g3, 0, none⟩) (m + 1) c3)])) := by
                  have h1 := HTr.out
                  rw [← HLL.out] at h1
                  have h2 := h1.setData (w1 := w3) (t.data ++ [(u[0].toNat : Int)]) (.slice (some ⟨g3, 0, none⟩) (m + 1) c3) (by
                    have h3 := hown3
                    have e : u8s t.data ++ [Value.int .u8 (u[0].toNat : Int)] = u8s (t.data ++ [(u[0].toNat : Int)]) := by simp [u8s]
                    rw [List.length_append, List.length_singleton, HM.out, ← e]
                    exact h3) HGW.out (hat.elim (fun h => .inl h.symm) (fun h => .inr ⟨g3, by omega, rfl⟩))
                  rw [HLL.out] at h2
                  exact h2
                clear hown3 hgrow hat hlt3 hx3 hf3
                go_wp2_with fail
                go_roundw
                case rel =>
                  refine ⟨_, _, rfl, by simp [ByteArray.size_extract]; omega, HT3.out, ?_, ?_, ?_, HB3.out⟩
                  · show _ = _
                    rw [← HDr.out, HMISS.out HF.out]
                    congr 1
                    rw [List.map_append, List.map_append]
                    exact ((pushByte_snoc _ _ _).trans (if_pos (show t.count = 0 ∧ t.data.length < 255 from ⟨hq1, by rw [HM.out]; exact hq2⟩))).symm
                  · show AllFair _
                    have := fair_pushByte HFr.out (u[0].toNat : Int) HX.out
                    refine (congrArg AllFair ?_).mp this
                    rw [List.map_append, List.map_append]
                    exact (pushByte_snoc _ _ _).trans (if_pos (show t.count = 0 ∧ t.data.length < 255 from ⟨hq1, by rw [HM.out]; exact hq2⟩))
                  · show _ ≤ _
                    have := HLr.out
                    have hll := HLL.out
                    simp [ByteArray.size_extract] at this ⊢
                    try omega
                case measure => simp [ByteArray.size_extract]; omega
            · go_wp2_with (at_builtin; refine wpList_append_own_at _ rfl (.tmp 66) (.tmp 71) 96 rfl W0.heap.size 100 i0 (.agg #[.int .i64 0, .int .i64 0, .slice none 0 0]) 3 40 Tryz.underlying96 hi z0 z1 z2 rfl (by decide) _ (L + 1) (tcells (l ++ [(t, .slice da m dc)])) rfl ((HROW.out.alloc _).alloc _) ⟨wr.heap.size + 1, 0, none⟩ 1 1 [.int .i64 0, .int .i64 0, .slice (some ⟨wr.heap.size, 0, none⟩) 1 1] rfl rfl ?ka ?kb ?kc ?kd ?ke ?kf)
              case ka =>
                intro j x hj
                match j, hj with
                | 0, hj => simp at hj; subst hj; simp [Addr.add]
                | 1, hj => simp at hj; subst hj; simp [Addr.add]
                | 2, hj => simp at hj; subst hj; simp [Addr.add]
              case kb => intro x hx; simp at hx; rcases hx with rfl | rfl <;> rfl
              case kc =>
                have := HLr.out
                try simp at this
                unfold maxLen; omega
              case kd =>
                have := HLr.out
                try simp at this
                omega
              case ke => have := HBr.out.size; simp; omega
              case kf =>
                intro v' w3 hown3 hgrow3 _ hloc3
                have hpush := HTr.out.pushNew (t := ⟨0, 0, [(u[0].toNat : Int)]⟩) (u := .slice (some ⟨wr.heap.size, 0, none⟩) 1 1) HBr.out.size ((Below.refl _ _).alloc (Nat.le_refl _) _) (one_new wr _) (by first | exact hown3 | (rw [List.length_append, List.length_singleton, HLL.out]; exact hown3)) hgrow3 (by simpa using hloc3)
                have HT3 := hide hpush.1
                have HB3 : Hid (Below W0.heap.size W0 w3) := HBr.out.trans hpush.2
                clear hpush hown3 hgrow3 hloc3
                go_wp2_with fail
                go_roundw
                case rel =>
                  refine ⟨_, _, rfl, by simp [ByteArray.size_extract]; omega, HT3.out, ?_, ?_, ?_, HB3.out⟩
                  · show _ = _
                    rw [← HDr.out, HMISS.out HF.out]
                    congr 1
                    rw [List.map_append, List.map_append]; exact ((pushByte_snoc _ _ _).trans (if_neg (by have := HM.out; show ¬ (t.count = 0 ∧ t.data.length < 255); omega))).symm
                  · show AllFair _
                    have := fair_pushByte HFr.out (u[0].toNat : Int) HX.out
                    refine (congrArg AllFair ?_).mp this
                    symm
                    rw [List.map_append, List.map_append]; exact ((pushByte_snoc _ _ _).trans (if_neg (by have := HM.out; show ¬ (t.count = 0 ∧ t.data.length < 255); omega))).symm
                  · show _ ≤ _
                    have := HLr.out
                    have hll := HLL.out
                    simp [ByteArray.size_extract] at this ⊢
                    try omega
                case measure => simp [ByteArray.size_extract]; omega
          · go_wp2_with (at_builtin; refine wpList_append_own_at _ rfl (.tmp 66) (.tmp 71) 96 rfl W0.heap.size 100 i0 (.agg #[.int .i64 0, .int .i64 0, .slice none 0 0]) 3 40 Tryz.underlying96 hi z0 z1 z2 rfl (by decide) _ (L + 1) (tcells (l ++ [(t, .slice da m dc)])) rfl ((HROW.out.alloc _).alloc _) ⟨wr.heap.size + 1, 0, none⟩ 1 1 [.int .i64 0, .int .i64 0, .slice (some ⟨wr.heap.size, 0, none⟩) 1 1] rfl rfl ?ka ?kb ?kc ?kd ?ke ?kf)
            case ka =>
              intro j x hj
              match j, hj with
              | 0, hj => simp at hj; subst hj; simp [Addr.add]
              | 1, hj => simp at hj; subst hj; simp [Addr.add]
              | 2, hj => simp at hj; subst hj; simp [Addr.add]
            case kb => intro x hx; simp at hx; rcases hx with rfl | rfl <;> rfl
            case kc =>
              have := HLr.out
              try simp at this
              unfold maxLen; omega
            case kd =>
              have := HLr.out
              try simp at this
              omega
            case ke => have := HBr.out.size; simp; omega
            case kf =>
              intro v' w3 hown3 hgrow3 _ hloc3
              have hpush := HTr.out.pushNew (t := ⟨0, 0, [(u[0].toNat : Int)]⟩) (u := .slice (some ⟨wr.heap.size, 0, none⟩) 1 1) HBr.out.size ((Below.refl _ _).alloc (Nat.le_refl _) _) (one_new wr _) (by first | exact hown3 | (rw [List.length_append, List.length_singleton, HLL.out]; exact hown3)) hgrow3 (by simpa using hloc3)
              have HT3 := hide hpush.1
              have HB3 : Hid (Below W0.heap.size W0 w3) := HBr.out.trans hpush.2
              clear hpush hown3 hgrow3 hloc3
              go_wp2_with fail
              go_roundw
              case rel =>
                refine ⟨_, _, rfl, by simp [ByteArray.size_extract]; omega, HT3.out, ?_, ?_, ?_, HB3.out⟩
                · show _ = _
                  rw [← HDr.out, HMISS.out HF.out]
                  congr 1
                  rw [List.map_append, List.map_append]; exact ((pushByte_snoc _ _ _).trans (if_neg (by have := HM.out; show ¬ (t.count = 0 ∧ t.data.length < 255); omega))).symm
                · show AllFair _
                  have := fair_pushByte HFr.out (u[0].toNat : Int) HX.out
                  refine (congrArg AllFair ?_).mp this
                  symm
                  rw [List.map_append, List.map_append]; exact ((pushByte_snoc _ _ _).trans (if_neg (by have := HM.out; show ¬ (t.count = 0 ∧ t.data.length < 255); omega))).symm
                · show _ ≤ _
                  have := HLr.out
                  have hll := HLL.out
                  simp [ByteArray.size_extract] at this ⊢
                  try omega
              case measure => simp [ByteArray.size_extract]; omega

      · have hex : (u.extract 0 B).size = B := by simp [ByteArray.size_extract]; omega
        have hnx : nums (u.extract 0 B) = (nums u).take B := by rw [nums_extract]; simp
        have hpl := HPL.out _ bv ts (u.extract 0 B) wr hex (ownsRow_below HO.out HBr.out) HT.out
        rw [hnx] at hpl
        clear hex hnx
        cases hf : findBlk (nums s) B ((nums u).take B) with
        | none =>
          have HF := hide hf
          have HP : Hid (Calls Tryz.prog 57 #[bv, .string (u.extract 0 B)] wr fun e w' => e = .returned (.int .i64 (-1)) ∧ w' = wr) := by
            rw [hf] at hpl; exact hpl
          clear hf hpl
          rcases snoc_cases ps with rfl | ⟨l, ⟨t, du⟩, rfl⟩
          · obtain ⟨va, cap, rfl⟩ : ∃ va cap, u8 = .slice va 0 cap := by
              rcases HTr.out.row.2 with ⟨h, _⟩ | ⟨g, c2, cur, h, _⟩
              · exact ⟨_, _, h⟩
              · exact ⟨_, _, h⟩
            go_wp2_with fail
            refine HP.out.mono ?_
            rintro e w9 ⟨rfl, hw9⟩
            obtain rfl := hw9.symm
            go_wp2_with (at_builtin; refine wpList_append_own_at _ rfl (.tmp 66) (.tmp 71) 96 rfl W0.heap.size 100 i0 (.agg #[.int .i64 0, .int .i64 0, .slice none 0 0]) 3 40 Tryz.underlying96 hi z0 z1 z2 rfl (by decide) _ 0 [] rfl ((HTr.out.row.alloc _).alloc _) ⟨wr.heap.size + 1, 0, none⟩ 1 1 [.int .i64 0, .int .i64 0, .slice (some ⟨wr.heap.size, 0, none⟩) 1 1] rfl rfl ?ka ?kb ?kc ?kd ?ke ?kf)
            case ka =>
              intro j x hj
              match j, hj with
              | 0, hj => simp at hj; subst hj; simp [Addr.add]
              | 1, hj => simp at hj; subst hj; simp [Addr.add]
              | 2, hj => simp at hj; subst hj; simp [Addr.add]
            case kb => intro x hx; simp at hx; rcases hx with rfl | rfl <;> rfl
            case kc =>
              have := HLr.out
              try simp at this
              unfold maxLen; omega
            case kd =>
              have := HLr.out
              try simp at this
              omega
            case ke => have := HBr.out.size; simp; omega
            case kf =>
              intro v' w3 hown3 hgrow3 _ hloc3
              have hpush := HTr.out.pushNew (t := ⟨0, 0, [(u[0].toNat : Int)]⟩) (u := .slice (some ⟨wr.heap.size, 0, none⟩) 1 1) HBr.out.size ((Below.refl _ _).alloc (Nat.le_refl _) _) (one_new wr _) (by first | exact hown3 | (rw [List.length_append, List.length_singleton, HLL.out]; exact hown3)) hgrow3 (by simpa using hloc3)
              have HT3 := hide hpush.1
              have HB3 : Hid (Below W0.heap.size W0 w3) := HBr.out.trans hpush.2
              clear hpush hown3 hgrow3 hloc3
              go_wp2_with fail
              go_roundw
              case rel =>
                refine ⟨_, _, rfl, by simp [ByteArray.size_extract]; omega, HT3.out, ?_, ?_, ?_, HB3.out⟩
                · show _ = _
                  rw [← HDr.out, HMISS.out HF.out]
                  congr 1
                  all_goals rfl
                · show AllFair _
                  have := fair_pushByte HFr.out (u[0].toNat : Int) HX.out
                  refine (congrArg AllFair ?_).mp this
                  all_goals rfl
                · show _ ≤ _
                  have := HLr.out
                  simp [ByteArray.size_extract] at this ⊢
                  try omega
              case measure => simp [ByteArray.size_extract]; omega
          · obtain ⟨g, cap, hv8, hg1, hg2, hc1, hc2⟩ := HTr.out.shape (by simp)
            subst hv8
            obtain ⟨d0, d1, d2⟩ := HTr.out.cells l.length (by simp)
            simp only [List.getElem_concat_length, List.length_append, List.length_singleton] at d0 d1 d2 HTr HLr hc1 ⊢
            obtain ⟨da, dc, hdu⟩ : ∃ da dc, du = .slice da t.data.length dc := by
              rcases own_shape (HTr.out.data (t, du) (by simp)) with ⟨h, hz⟩ | ⟨g, c2, h, _⟩
              · exact ⟨none, 0, by simp only at h hz; rw [h, hz]; rfl⟩
              · exact ⟨_, c2, h⟩
            subst hdu
            have hfair := (fair_snoc.1 (by have := HFr.out; rw [List.map_append] at this; exact this)).2
            have hmB : t.data.length ≤ 255 := hfair.2.1
            have hcb0 : 0 ≤ t.count := hfair.2.2.2.2.1
            have hcb1 : t.count ≤ 255 := hfair.2.2.2.2.2
            have hbb0 : 0 ≤ t.block := hfair.2.2.1
            have hbb1 : t.block ≤ 300 := hfair.2.2.2.1
            clear hfair
            generalize hmm : t.data.length = m at *
            have HM := hide hmm
            clear hmm hc2
            generalize hL : l.length = L at *
            have HLL := hide hL
            clear hL
            have HROW : Hid (wr.ownsRow W0.heap.size 100 3 (.slice (some ⟨g, 0, none⟩) (L + 1) cap) (L + 1) (tcells (l ++ [(t, .slice da m dc)]))) := by
              have := HTr.out.row
              rw [List.length_append, List.length_singleton, HLL.out] at this
              exact this
            have hLn : L ≤ 300 := by have := HLr.out; omega
            by_cases hq1 : t.count = 0
            · by_cases hq2 : m < 255
              · go_wp2_with fail
                refine HP.out.mono ?_
                rintro e w9 ⟨rfl, hw9⟩
                obtain rfl := hw9.symm
                have HDAT : Hid (wr.ownsRow W0.heap.size 5 1 (.slice da m dc) m (u8s t.data)) := by
                  have := HTr.out.data (t, .slice da m dc) (by simp)
                  simp only [HM.out] at this
                  exact this
                have HOFF : Hid ((Value.slice da m dc).ownBlock ≠ some g) := fun e => HTr.out.off (t, .slice da m dc) (by simp) g e rfl
                have hwL : IntKind.i64.wrap (L : Int) = (L : Int) := by rw [IntKind.wrap_i64]; omega
                have hL0 : (0 : Int) ≤ (L : Int) := by omega
                have hL1 : (L : Int) < (L : Int) + 1 := by omega
                have hu0 : (0 : Int) < (u.size : Int) := by omega
                have hfz := own_frozen HROW.out
                clear HPL
                go_wp2_with fail
                have hfa : ∀ o, (wr.alloc o).frozen? ⟨g, L * 3 + 2, none⟩ = false := fun o => own_frozen (HROW.out.alloc o) _
                go_region_law
                  ((refine step_append_lies _ (by rfl) _ _ _ (by rfl) W0.heap.size 5 j0 _ 1 1 Tryz.underlying38 hj y0 y1 y2 rfl (by omega) (.slice da m dc) m (u8s t.data) (by rfl) ((HDAT.out.alloc _).drew) ⟨wr.heap.size, 0, none⟩ 1 1 [.int .u8 (u[0].toNat : Int)] (by rfl) (by rfl) (World.news_of_block (cs := #[.int .u8 (u[0].toNat : Int)]) (t := 5) (fr := (0, 0)) (heap_alloc_new wr _)) (by simp [Value.oneCell']) (by omega) (by unfold maxLen; omega) (by omega) (by have := HBr.out.size; simp; omega) (wr.heap.size + 1) (by simp) ?_; intro g3 c3 w3 hown3 hgrow hat hlt3; have hx3 := (hgrow.cell_far ⟨g, L * 3 + 2, none⟩ (by simp; omega) (Ne.symm HOFF.out)).trans (show _ = some (Value.slice da m dc) by go_keep); have hf3 := (hgrow.frozen_far ⟨g, L * 3 + 2, none⟩ (by simp; omega) (Ne.symm HOFF.out)).trans (hfa _)))
                all_goals
                  have HGW : Hid (wr.grownBy w3 (Value.slice da m dc).ownBlock) := (grown_drew (World.grownBy_alloc wr _ _)).trans hgrow
                  have HB3 : Hid (Below W0.heap.size W0 (w3.setCell ⟨g, L * 3 + 2, none⟩ (.slice (some ⟨g3, 0, none⟩) (m + 1) c3))) := (HBr.out.grown HGW.out HBr.out.size (fun k hk => (HDAT.out.lt k hk).1)).setCell (p := ⟨g, L * 3 + 2, none⟩) hg1 _
                  have HT3 : Hid (TokRow (w3.setCell ⟨g, L * 3 + 2, none⟩ (.slice (some ⟨g3, 0, none⟩) (m + 1) c3)) W0.heap.size (.slice (some ⟨g, 0, none⟩) (L + 1) cap) (l ++ [(⟨t.block, t.count, t.data ++ [(u[0].toNat : Int)]⟩, .slice (some ⟨g3, 0, none⟩) (m + 1) c3)])) := by
                    have h1 := HTr.out
                    rw [← HLL.out] at h1
                    have h2 := h1.setData (w1 := w3) (t.data ++ [(u[0].toNat : Int)]) (.slice (some ⟨g3, 0, none⟩) (m + 1) c3) (by
                      have h3 := hown3
                      have e : u8s t.data ++ [Value.int .u8 (u[0].toNat : Int)] = u8s (t.data ++ [(u[0].toNat : Int)]) := by simp [u8s]
                      rw [List.length_append, List.length_singleton, HM.out, ← e]
                      exact h3) HGW.out (hat.elim (fun h => .inl h.symm) (fun h => .inr ⟨g3, by omega, rfl⟩))
                    rw [HLL.out] at h2
                    exact h2
                  clear hown3 hgrow hat hlt3 hx3 hf3
                  go_wp2_with fail
                  go_roundw
                  case rel =>
                    refine ⟨_, _, rfl, by simp [ByteArray.size_extract]; omega, HT3.out, ?_, ?_, ?_, HB3.out⟩
                    · show _ = _
                      rw [← HDr.out, HMISS.out HF.out]
                      congr 1
                      rw [List.map_append, List.map_append]
                      exact ((pushByte_snoc _ _ _).trans (if_pos (show t.count = 0 ∧ t.data.length < 255 from ⟨hq1, by rw [HM.out]; exact hq2⟩))).symm
                    · show AllFair _
                      have := fair_pushByte HFr.out (u[0].toNat : Int) HX.out
                      refine (congrArg AllFair ?_).mp this
                      rw [List.map_append, List.map_append]
                      exact (pushByte_snoc _ _ _).trans (if_pos (show t.count = 0 ∧ t.data.length < 255 from ⟨hq1, by rw [HM.out]; exact hq2⟩))
                    · show _ ≤ _
                      have := HLr.out
                      have hll := HLL.out
                      simp [ByteArray.size_extract] at this ⊢
                      try omega
                  case measure => simp [ByteArray.size_extract]; omega
              · go_wp2_with fail
                refine HP.out.mono ?_
                rintro e w9 ⟨rfl, hw9⟩
                obtain rfl := hw9.symm
                go_wp2_with (at_builtin; refine wpList_append_own_at _ rfl (.tmp 66) (.tmp 71) 96 rfl W0.heap.size 100 i0 (.agg #[.int .i64 0, .int .i64 0, .slice none 0 0]) 3 40 Tryz.underlying96 hi z0 z1 z2 rfl (by decide) _ (L + 1) (tcells (l ++ [(t, .slice da m dc)])) rfl ((HROW.out.alloc _).alloc _) ⟨wr.heap.size + 1, 0, none⟩ 1 1 [.int .i64 0, .int .i64 0, .slice (some ⟨wr.heap.size, 0, none⟩) 1 1] rfl rfl ?ka ?kb ?kc ?kd ?ke ?kf)
                case ka =>
                  intro j x hj
                  match j, hj with
                  | 0, hj => simp at hj; subst hj; simp [Addr.add]
                  | 1, hj => simp at hj; subst hj; simp [Addr.add]
                  | 2, hj => simp at hj; subst hj; simp [Addr.add]
                case kb => intro x hx; simp at hx; rcases hx with rfl | rfl <;> rfl
                case kc =>
                  have := HLr.out
                  try simp at this
                  unfold maxLen; omega
                case kd =>
                  have := HLr.out
                  try simp at this
                  omega
                case ke => have := HBr.out.size; simp; omega
                case kf =>
                  intro v' w3 hown3 hgrow3 _ hloc3
                  have hpush := HTr.out.pushNew (t := ⟨0, 0, [(u[0].toNat : Int)]⟩) (u := .slice (some ⟨wr.heap.size, 0, none⟩) 1 1) HBr.out.size ((Below.refl _ _).alloc (Nat.le_refl _) _) (one_new wr _) (by first | exact hown3 | (rw [List.length_append, List.length_singleton, HLL.out]; exact hown3)) hgrow3 (by simpa using hloc3)
                  have HT3 := hide hpush.1
                  have HB3 : Hid (Below W0.heap.size W0 w3) := HBr.out.trans hpush.2
                  clear hpush hown3 hgrow3 hloc3
                  go_wp2_with fail
                  go_roundw
                  case rel =>
                    refine ⟨_, _, rfl, by simp [ByteArray.size_extract]; omega, HT3.out, ?_, ?_, ?_, HB3.out⟩
                    · show _ = _
                      rw [← HDr.out, HMISS.out HF.out]
                      congr 1
                      rw [List.map_append, List.map_append]; exact ((pushByte_snoc _ _ _).trans (if_neg (by have := HM.out; show ¬ (t.count = 0 ∧ t.data.length < 255); omega))).symm
                    · show AllFair _
                      have := fair_pushByte HFr.out (u[0].toNat : Int) HX.out
                      refine (congrArg AllFair ?_).mp this
                      symm
                      rw [List.map_append, List.map_append]; exact ((pushByte_snoc _ _ _).trans (if_neg (by have := HM.out; show ¬ (t.count = 0 ∧ t.data.length < 255); omega))).symm
                    · show _ ≤ _
                      have := HLr.out
                      have hll := HLL.out
                      simp [ByteArray.size_extract] at this ⊢
                      try omega
                  case measure => simp [ByteArray.size_extract]; omega
            · go_wp2_with fail
              refine HP.out.mono ?_
              rintro e w9 ⟨rfl, hw9⟩
              obtain rfl := hw9.symm
              go_wp2_with (at_builtin; refine wpList_append_own_at _ rfl (.tmp 66) (.tmp 71) 96 rfl W0.heap.size 100 i0 (.agg #[.int .i64 0, .int .i64 0, .slice none 0 0]) 3 40 Tryz.underlying96 hi z0 z1 z2 rfl (by decide) _ (L + 1) (tcells (l ++ [(t, .slice da m dc)])) rfl ((HROW.out.alloc _).alloc _) ⟨wr.heap.size + 1, 0, none⟩ 1 1 [.int .i64 0, .int .i64 0, .slice (some ⟨wr.heap.size, 0, none⟩) 1 1] rfl rfl ?ka ?kb ?kc ?kd ?ke ?kf)
              case ka =>
                intro j x hj
                match j, hj with
                | 0, hj => simp at hj; subst hj; simp [Addr.add]
                | 1, hj => simp at hj; subst hj; simp [Addr.add]
                | 2, hj => simp at hj; subst hj; simp [Addr.add]
              case kb => intro x hx; simp at hx; rcases hx with rfl | rfl <;> rfl
              case kc =>
                have := HLr.out
                try simp at this
                unfold maxLen; omega
              case kd =>
                have := HLr.out
                try simp at this
                omega
              case ke => have := HBr.out.size; simp; omega
              case kf =>
                intro v' w3 hown3 hgrow3 _ hloc3
                have hpush := HTr.out.pushNew (t := ⟨0, 0, [(u[0].toNat : Int)]⟩) (u := .slice (some ⟨wr.heap.size, 0, none⟩) 1 1) HBr.out.size ((Below.refl _ _).alloc (Nat.le_refl _) _) (one_new wr _) (by first | exact hown3 | (rw [List.length_append, List.length_singleton, HLL.out]; exact hown3)) hgrow3 (by simpa using hloc3)
                have HT3 := hide hpush.1
                have HB3 : Hid (Below W0.heap.size W0 w3) := HBr.out.trans hpush.2
                clear hpush hown3 hgrow3 hloc3
                go_wp2_with fail
                go_roundw
                case rel =>
                  refine ⟨_, _, rfl, by simp [ByteArray.size_extract]; omega, HT3.out, ?_, ?_, ?_, HB3.out⟩
                  · show _ = _
                    rw [← HDr.out, HMISS.out HF.out]
                    congr 1
                    rw [List.map_append, List.map_append]; exact ((pushByte_snoc _ _ _).trans (if_neg (by have := HM.out; show ¬ (t.count = 0 ∧ t.data.length < 255); omega))).symm
                  · show AllFair _
                    have := fair_pushByte HFr.out (u[0].toNat : Int) HX.out
                    refine (congrArg AllFair ?_).mp this
                    symm
                    rw [List.map_append, List.map_append]; exact ((pushByte_snoc _ _ _).trans (if_neg (by have := HM.out; show ¬ (t.count = 0 ∧ t.data.length < 255); omega))).symm
                  · show _ ≤ _
                    have := HLr.out
                    have hll := HLL.out
                    simp [ByteArray.size_extract] at this ⊢
                    try omega
                case measure => simp [ByteArray.size_extract]; omega

        | some k =>
          have HP : Hid (Calls Tryz.prog 57 #[bv, .string (u.extract 0 B)] wr fun e w' => e = .returned (.int .i64 (k : Nat)) ∧ w' = wr) := by
            rw [hf] at hpl; exact hpl
          have HHIT : Hid (∀ out, diffGo (nums s) B out (nums u) = diffGo (nums s) B (pushBlock out k) (nums (u.extract B u.size))) := by
            intro out
            rw [diffGo_hit hB1 hf, nums_extract, List.take_of_length_le (by rw [List.length_drop, nums_length]; omega)]
          have hk : k ≤ 300 := by
            have := (findBlk_some.1 hf).1
            have := Nat.div_le_self (nums s).length B
            rw [nums_length] at *
            omega
          have HK := hide hk
          clear hf hpl
          rcases snoc_cases ps with rfl | ⟨l, ⟨t, du⟩, rfl⟩
          · obtain ⟨va, cap, rfl⟩ : ∃ va cap, u8 = .slice va 0 cap := by
              rcases HTr.out.row.2 with ⟨h, _⟩ | ⟨g, c2, cur, h, _⟩
              · exact ⟨_, _, h⟩
              · exact ⟨_, _, h⟩
            go_wp2_with fail
            refine HP.out.mono ?_
            rintro e w9 ⟨rfl, hw9⟩
            obtain rfl := hw9.symm
            go_wp2_with fail
            go_quiet (fail)
            have HT4 := hide (HTr.out.below (below_drewN (Below.refl _ _) nq))
            have HB4 : Hid (Below W0.heap.size W0 (wr.drewN nq)) := below_drewN HBr.out nq
            generalize wr.drewN nq = w4 at *
            go_wp2_with (at_builtin; refine wpList_append_own_at _ rfl (.tmp 121) (.tmp 124) 96 rfl W0.heap.size 100 i0 (.agg #[.int .i64 0, .int .i64 0, .slice none 0 0]) 3 40 Tryz.underlying96 hi z0 z1 z2 rfl (by decide) _ 0 [] rfl (HT4.out.row.alloc _) ⟨w4.heap.size, 0, none⟩ 1 1 [.int .i64 k, .int .i64 1, .slice none 0 0] rfl rfl ?ka ?kb ?kc ?kd ?ke ?kf)
            case ka =>
              intro j x hj
              match j, hj with
              | 0, hj => simp at hj; subst hj; simp [Addr.add]
              | 1, hj => simp at hj; subst hj; simp [Addr.add]
              | 2, hj => simp at hj; subst hj; simp [Addr.add]
            case kb => intro x hx; simp at hx; rcases hx with rfl | rfl | rfl <;> rfl
            case kc =>
              have := HLr.out
              try simp at this
              unfold maxLen; omega
            case kd =>
              have := HLr.out
              try simp at this
              omega
            case ke => have := HB4.out.size; simp; omega
            case kf =>
              intro v' w3 hown3 hgrow3 _ hloc3
              have hpush := HT4.out.pushNew (t := ⟨k, 1, []⟩) (u := .slice none 0 0) HB4.out.size (Below.refl _ _) (World.ownsRow_nil _ _ _ _) (by first | exact hown3 | (rw [List.length_append, List.length_singleton, HLL.out]; exact hown3)) hgrow3 (by simpa using hloc3)
              have HT3 := hide hpush.1
              have HB3 : Hid (Below W0.heap.size W0 w3) := HB4.out.trans hpush.2
              clear hpush hown3 hgrow3 hloc3
              go_wp2_with fail
              go_roundw
              case rel =>
                refine ⟨_, _, rfl, by simp [ByteArray.size_extract]; omega, HT3.out, ?_, ?_, ?_, HB3.out⟩
                · show _ = _
                  rw [← HDr.out, HHIT.out]
                  congr 1
                  all_goals rfl
                · show AllFair _
                  have := fair_pushBlock HFr.out k HK.out
                  refine (congrArg AllFair ?_).mp this
                  symm
                  all_goals rfl
                · show _ ≤ _
                  have := HLr.out
                  skip
                  simp [ByteArray.size_extract] at this ⊢
                  try omega
              case measure => simp [ByteArray.size_extract]; omega
          · obtain ⟨g, cap, hv8, hg1, hg2, hc1, hc2⟩ := HTr.out.shape (by simp)
            subst hv8
            obtain ⟨d0, d1, d2⟩ := HTr.out.cells l.length (by simp)
            simp only [List.getElem_concat_length, List.length_append, List.length_singleton] at d0 d1 d2 HTr HLr hc1 ⊢
            obtain ⟨da, dc, hdu⟩ : ∃ da dc, du = .slice da t.data.length dc := by
              rcases own_shape (HTr.out.data (t, du) (by simp)) with ⟨h, hz⟩ | ⟨g, c2, h, _⟩
              · exact ⟨none, 0, by simp only at h hz; rw [h, hz]; rfl⟩
              · exact ⟨_, c2, h⟩
            subst hdu
            have hfair := (fair_snoc.1 (by have := HFr.out; rw [List.map_append] at this; exact this)).2
            have hmB : t.data.length ≤ 255 := hfair.2.1
            have hcb0 : 0 ≤ t.count := hfair.2.2.2.2.1
            have hcb1 : t.count ≤ 255 := hfair.2.2.2.2.2
            have hbb0 : 0 ≤ t.block := hfair.2.2.1
            have hbb1 : t.block ≤ 300 := hfair.2.2.2.1
            clear hfair
            generalize hmm : t.data.length = m at *
            have HM := hide hmm
            clear hmm hc2
            generalize hL : l.length = L at *
            have HLL := hide hL
            clear hL
            have HROW : Hid (wr.ownsRow W0.heap.size 100 3 (.slice (some ⟨g, 0, none⟩) (L + 1) cap) (L + 1) (tcells (l ++ [(t, .slice da m dc)]))) := by
              have := HTr.out.row
              rw [List.length_append, List.length_singleton, HLL.out] at this
              exact this
            have hLn : L ≤ 300 := by have := HLr.out; omega
            by_cases hk1 : 0 < t.count
            · by_cases hk2 : t.count < 255
              · by_cases hk3 : t.block + t.count = (k : Int)
                · go_wp2_with fail
                  refine HP.out.mono ?_
                  rintro e w9 ⟨rfl, hw9⟩
                  obtain rfl := hw9.symm
                  go_wp2_with fail
                  go_quiet (fail)
                  have HT4 := hide (HTr.out.below (below_drewN (Below.refl _ _) nq))
                  have HB4 : Hid (Below W0.heap.size W0 (wr.drewN nq)) := below_drewN HBr.out nq
                  have e1 : (wr.drewN nq).cell? ⟨g, L * 3 + 1, none⟩ = some (.int .i64 t.count) := ((below_drewN (Below.refl wr.heap.size wr) nq).cell (p := ⟨g, L * 3 + 1, none⟩) hg2).trans d1
                  have hfz := own_frozen HT4.out.row
                  clear d0 d1 d2
                  generalize wr.drewN nq = w4 at *
                  go_wp2_with fail
                  have HB3 : Hid (Below W0.heap.size W0 (w4.setCell ⟨g, L * 3 + 1, none⟩ (.int .i64 (t.count + 1)))) := HB4.out.setCell (p := ⟨g, L * 3 + 1, none⟩) hg1 _
                  have HT3 : Hid (TokRow (w4.setCell ⟨g, L * 3 + 1, none⟩ (.int .i64 (t.count + 1))) W0.heap.size (.slice (some ⟨g, 0, none⟩) (L + 1) cap) (l ++ [(⟨t.block, t.count + 1, t.data⟩, .slice da m dc)])) := by
                    have h1 := HT4.out
                    rw [← HLL.out] at h1
                    have h2 := h1.setCount (t.count + 1)
                    rw [HLL.out] at h2
                    exact h2
                  go_roundw
                  case rel =>
                    refine ⟨_, _, rfl, by simp [ByteArray.size_extract]; omega, HT3.out, ?_, ?_, ?_, HB3.out⟩
                    · show _ = _
                      rw [← HDr.out, HHIT.out]
                      congr 1
                      rw [List.map_append, List.map_append]; exact ((pushBlock_snoc _ _ _).trans (if_pos (show 0 < t.count ∧ t.count < 255 ∧ t.block + t.count = (k : Int) from ⟨hk1, hk2, hk3⟩))).symm
                    · show AllFair _
                      have := fair_pushBlock HFr.out k HK.out
                      refine (congrArg AllFair ?_).mp this
                      symm
                      rw [List.map_append, List.map_append]; exact ((pushBlock_snoc _ _ _).trans (if_pos (show 0 < t.count ∧ t.count < 255 ∧ t.block + t.count = (k : Int) from ⟨hk1, hk2, hk3⟩))).symm
                    · show _ ≤ _
                      have := HLr.out
                      have hll := HLL.out
                      simp [ByteArray.size_extract] at this ⊢
                      try omega
                  case measure => simp [ByteArray.size_extract]; omega
                · go_wp2_with fail
                  refine HP.out.mono ?_
                  rintro e w9 ⟨rfl, hw9⟩
                  obtain rfl := hw9.symm
                  go_wp2_with fail
                  go_quiet (fail)
                  have HT4 := hide (HTr.out.below (below_drewN (Below.refl _ _) nq))
                  have HB4 : Hid (Below W0.heap.size W0 (wr.drewN nq)) := below_drewN HBr.out nq
                  have HROW4 : Hid ((wr.drewN nq).ownsRow W0.heap.size 100 3 (.slice (some ⟨g, 0, none⟩) (L + 1) cap) (L + 1) (tcells (l ++ [(t, .slice da m dc)]))) := ownsRow_below HROW.out (below_drewN (Below.refl _ _) nq)
                  clear d0 d1 d2
                  generalize wr.drewN nq = w4 at *
                  go_wp2_with (at_builtin; refine wpList_append_own_at _ rfl (.tmp 121) (.tmp 124) 96 rfl W0.heap.size 100 i0 (.agg #[.int .i64 0, .int .i64 0, .slice none 0 0]) 3 40 Tryz.underlying96 hi z0 z1 z2 rfl (by decide) _ (L + 1) (tcells (l ++ [(t, .slice da m dc)])) rfl (HROW4.out.alloc _) ⟨w4.heap.size, 0, none⟩ 1 1 [.int .i64 k, .int .i64 1, .slice none 0 0] rfl rfl ?ka ?kb ?kc ?kd ?ke ?kf)
                  case ka =>
                    intro j x hj
                    match j, hj with
                    | 0, hj => simp at hj; subst hj; simp [Addr.add]
                    | 1, hj => simp at hj; subst hj; simp [Addr.add]
                    | 2, hj => simp at hj; subst hj; simp [Addr.add]
                  case kb => intro x hx; simp at hx; rcases hx with rfl | rfl | rfl <;> rfl
                  case kc =>
                    have := HLr.out
                    try simp at this
                    unfold maxLen; omega
                  case kd =>
                    have := HLr.out
                    try simp at this
                    omega
                  case ke => have := HB4.out.size; simp; omega
                  case kf =>
                    intro v' w3 hown3 hgrow3 _ hloc3
                    have hpush := HT4.out.pushNew (t := ⟨k, 1, []⟩) (u := .slice none 0 0) HB4.out.size (Below.refl _ _) (World.ownsRow_nil _ _ _ _) (by first | exact hown3 | (rw [List.length_append, List.length_singleton, HLL.out]; exact hown3)) hgrow3 (by simpa using hloc3)
                    have HT3 := hide hpush.1
                    have HB3 : Hid (Below W0.heap.size W0 w3) := HB4.out.trans hpush.2
                    clear hpush hown3 hgrow3 hloc3
                    go_wp2_with fail
                    go_roundw
                    case rel =>
                      refine ⟨_, _, rfl, by simp [ByteArray.size_extract]; omega, HT3.out, ?_, ?_, ?_, HB3.out⟩
                      · show _ = _
                        rw [← HDr.out, HHIT.out]
                        congr 1
                        rw [List.map_append, List.map_append]; exact ((pushBlock_snoc _ _ _).trans (if_neg (show ¬ (0 < t.count ∧ t.count < 255 ∧ t.block + t.count = (k : Int)) by omega))).symm
                      · show AllFair _
                        have := fair_pushBlock HFr.out k HK.out
                        refine (congrArg AllFair ?_).mp this
                        symm
                        rw [List.map_append, List.map_append]; exact ((pushBlock_snoc _ _ _).trans (if_neg (show ¬ (0 < t.count ∧ t.count < 255 ∧ t.block + t.count = (k : Int)) by omega))).symm
                      · show _ ≤ _
                        have := HLr.out
                        have hll := HLL.out
                        simp [ByteArray.size_extract] at this ⊢
                        try omega
                    case measure => simp [ByteArray.size_extract]; omega
              · have hdf : decide (t.count < 255) = false := decide_eq_false hk2
                go_wp2_with fail
                refine HP.out.mono ?_
                rintro e w9 ⟨rfl, hw9⟩
                obtain rfl := hw9.symm
                go_wp2_with fail
                go_quiet (fail)
                have HT4 := hide (HTr.out.below (below_drewN (Below.refl _ _) nq))
                have HB4 : Hid (Below W0.heap.size W0 (wr.drewN nq)) := below_drewN HBr.out nq
                have HROW4 : Hid ((wr.drewN nq).ownsRow W0.heap.size 100 3 (.slice (some ⟨g, 0, none⟩) (L + 1) cap) (L + 1) (tcells (l ++ [(t, .slice da m dc)]))) := ownsRow_below HROW.out (below_drewN (Below.refl _ _) nq)
                clear d0 d1 d2
                generalize wr.drewN nq = w4 at *
                go_wp2_with (at_builtin; refine wpList_append_own_at _ rfl (.tmp 121) (.tmp 124) 96 rfl W0.heap.size 100 i0 (.agg #[.int .i64 0, .int .i64 0, .slice none 0 0]) 3 40 Tryz.underlying96 hi z0 z1 z2 rfl (by decide) _ (L + 1) (tcells (l ++ [(t, .slice da m dc)])) rfl (HROW4.out.alloc _) ⟨w4.heap.size, 0, none⟩ 1 1 [.int .i64 k, .int .i64 1, .slice none 0 0] rfl rfl ?ka ?kb ?kc ?kd ?ke ?kf)
                case ka =>
                  intro j x hj
                  match j, hj with
                  | 0, hj => simp at hj; subst hj; simp [Addr.add]
                  | 1, hj => simp at hj; subst hj; simp [Addr.add]
                  | 2, hj => simp at hj; subst hj; simp [Addr.add]
                case kb => intro x hx; simp at hx; rcases hx with rfl | rfl | rfl <;> rfl
                case kc =>
                  have := HLr.out
                  try simp at this
                  unfold maxLen; omega
                case kd =>
                  have := HLr.out
                  try simp at this
                  omega
                case ke => have := HB4.out.size; simp; omega
                case kf =>
                  intro v' w3 hown3 hgrow3 _ hloc3
                  have hpush := HT4.out.pushNew (t := ⟨k, 1, []⟩) (u := .slice none 0 0) HB4.out.size (Below.refl _ _) (World.ownsRow_nil _ _ _ _) (by first | exact hown3 | (rw [List.length_append, List.length_singleton, HLL.out]; exact hown3)) hgrow3 (by simpa using hloc3)
                  have HT3 := hide hpush.1
                  have HB3 : Hid (Below W0.heap.size W0 w3) := HB4.out.trans hpush.2
                  clear hpush hown3 hgrow3 hloc3
                  go_wp2_with fail
                  go_roundw
                  case rel =>
                    refine ⟨_, _, rfl, by simp [ByteArray.size_extract]; omega, HT3.out, ?_, ?_, ?_, HB3.out⟩
                    · show _ = _
                      rw [← HDr.out, HHIT.out]
                      congr 1
                      rw [List.map_append, List.map_append]; exact ((pushBlock_snoc _ _ _).trans (if_neg (show ¬ (0 < t.count ∧ t.count < 255 ∧ t.block + t.count = (k : Int)) by omega))).symm
                    · show AllFair _
                      have := fair_pushBlock HFr.out k HK.out
                      refine (congrArg AllFair ?_).mp this
                      symm
                      rw [List.map_append, List.map_append]; exact ((pushBlock_snoc _ _ _).trans (if_neg (show ¬ (0 < t.count ∧ t.count < 255 ∧ t.block + t.count = (k : Int)) by omega))).symm
                    · show _ ≤ _
                      have := HLr.out
                      have hll := HLL.out
                      simp [ByteArray.size_extract] at this ⊢
                      try omega
                  case measure => simp [ByteArray.size_extract]; omega
            · have hdf : decide (0 < t.count) = false := decide_eq_false hk1
              go_wp2_with fail
              refine HP.out.mono ?_
              rintro e w9 ⟨rfl, hw9⟩
              obtain rfl := hw9.symm
              go_wp2_with fail
              go_quiet (fail)
              have HT4 := hide (HTr.out.below (below_drewN (Below.refl _ _) nq))
              have HB4 : Hid (Below W0.heap.size W0 (wr.drewN nq)) := below_drewN HBr.out nq
              have HROW4 : Hid ((wr.drewN nq).ownsRow W0.heap.size 100 3 (.slice (some ⟨g, 0, none⟩) (L + 1) cap) (L + 1) (tcells (l ++ [(t, .slice da m dc)]))) := ownsRow_below HROW.out (below_drewN (Below.refl _ _) nq)
              clear d0 d1 d2
              generalize wr.drewN nq = w4 at *
              go_wp2_with (at_builtin; refine wpList_append_own_at _ rfl (.tmp 121) (.tmp 124) 96 rfl W0.heap.size 100 i0 (.agg #[.int .i64 0, .int .i64 0, .slice none 0 0]) 3 40 Tryz.underlying96 hi z0 z1 z2 rfl (by decide) _ (L + 1) (tcells (l ++ [(t, .slice da m dc)])) rfl (HROW4.out.alloc _) ⟨w4.heap.size, 0, none⟩ 1 1 [.int .i64 k, .int .i64 1, .slice none 0 0] rfl rfl ?ka ?kb ?kc ?kd ?ke ?kf)
              case ka =>
                intro j x hj
                match j, hj with
                | 0, hj => simp at hj; subst hj; simp [Addr.add]
                | 1, hj => simp at hj; subst hj; simp [Addr.add]
                | 2, hj => simp at hj; subst hj; simp [Addr.add]
              case kb => intro x hx; simp at hx; rcases hx with rfl | rfl | rfl <;> rfl
              case kc =>
                have := HLr.out
                try simp at this
                unfold maxLen; omega
              case kd =>
                have := HLr.out
                try simp at this
                omega
              case ke => have := HB4.out.size; simp; omega
              case kf =>
                intro v' w3 hown3 hgrow3 _ hloc3
                have hpush := HT4.out.pushNew (t := ⟨k, 1, []⟩) (u := .slice none 0 0) HB4.out.size (Below.refl _ _) (World.ownsRow_nil _ _ _ _) (by first | exact hown3 | (rw [List.length_append, List.length_singleton, HLL.out]; exact hown3)) hgrow3 (by simpa using hloc3)
                have HT3 := hide hpush.1
                have HB3 : Hid (Below W0.heap.size W0 w3) := HB4.out.trans hpush.2
                clear hpush hown3 hgrow3 hloc3
                go_wp2_with fail
                go_roundw
                case rel =>
                  refine ⟨_, _, rfl, by simp [ByteArray.size_extract]; omega, HT3.out, ?_, ?_, ?_, HB3.out⟩
                  · show _ = _
                    rw [← HDr.out, HHIT.out]
                    congr 1
                    rw [List.map_append, List.map_append]; exact ((pushBlock_snoc _ _ _).trans (if_neg (show ¬ (0 < t.count ∧ t.count < 255 ∧ t.block + t.count = (k : Int)) by omega))).symm
                  · show AllFair _
                    have := fair_pushBlock HFr.out k HK.out
                    refine (congrArg AllFair ?_).mp this
                    symm
                    rw [List.map_append, List.map_append]; exact ((pushBlock_snoc _ _ _).trans (if_neg (show ¬ (0 < t.count ∧ t.count < 255 ∧ t.block + t.count = (k : Int)) by omega))).symm
                  · show _ ≤ _
                    have := HLr.out
                    have hll := HLL.out
                    simp [ByteArray.size_extract] at this ⊢
                    try omega
                case measure => simp [ByteArray.size_extract]; omega

    · go_wp2_with fail
      go_ret
      refine ⟨_, ps, rfl, HTr.out.base HBW.out.size, ?_, HBW.out.trans (HBr.out.mono HBW.out.size)⟩
      have hn : nums u = [] := List.length_eq_zero_iff.1 (by rw [nums_length]; omega)
      rw [← HDr.out, hn, diffGo_nil]
end Go.Proofs.YtbhccdedcoajmaaGreatDoor
