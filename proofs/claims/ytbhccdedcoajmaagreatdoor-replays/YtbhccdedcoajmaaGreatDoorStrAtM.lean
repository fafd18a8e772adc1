import Derived.Test.YtbhccdedcoajmaaGreatDoorTokRowM
import Derived.Lib.AppendStr
import Derived.Test.YtbhccdedcoajmaaGreatDoorMadeM
import Derived.Test.YtbhccdedcoajmaaGreatDoorMathM
import Derived.Test.YtbhccdedcoajmaaGreatDoorAsFM
namespace Go.Proofs.YtbhccdedcoajmaaGreatDoor
open Go Go.RowKit Go.Lib

theorem strCells_nums (s : ByteArray) : strCells s = u8s (nums s) := by simp [strCells, u8s, nums, Function.comp_def]

/-- where the bytes of a text that are laid behind a row lie -/
theorem str_loc {P : Program} {w : World} {base : Nat} {t u ty e : TypeId} {i : TypeInfo} (ht : P.underlying t = some (.slice e)) (hu : P.underlying u = some .string) (hi : P.info? e = some i) (hz : i.zero = some (.int .u8 0)) (hsize : i.size = 1) (hby : i.bytes = 1)
    {v : Value} {n : Nat} {xs : List Value} (hown : w.ownsRow base e 1 v n xs) {s : ByteArray} (hbytes : n + s.size ≤ 140737488355328)
    {v' : Value} {w' : World} (hr : (Builtin.append_ #[t, u] ty #[v, .string s]).run P w = .ok v' w') (hnil : v' = .slice none 0 0 ↔ v = .slice none 0 0 ∧ s.size = 0) : v'.ownBlock = v.ownBlock ∨ v'.ownBlock = some w.heap.size := by
  have hxl : xs.length = n := by simpa using hown.1
  rcases hown.2 with ⟨rfl, rfl⟩ | ⟨g, cap, cur, rfl, _, hg, hnc, _, hcs, _⟩
  · by_cases hm : s.size = 0
    · rw [hnil.2 ⟨rfl, hm⟩]; exact .inl rfl
    · have h2 := run_append_nil_string (P := P) w t u ty e i (.int .u8 0) ht hu hi hz s (by omega) (by omega) (by rw [hby]; omega)
      rw [hr] at h2
      simp only [Result.ok.injEq] at h2
      rw [h2.1]; exact .inr rfl
  · by_cases hroom : n + s.size ≤ cap
    · have h2 := run_append_room_string (P := P) w t u ty e i ht hu hi hsize g n cap cur hg s hroom (by rw [hcs]; omega)
      rw [hr] at h2
      simp only [Result.ok.injEq] at h2
      rw [h2.1]; exact .inl rfl
    · have h2 := run_append_grow_string (P := P) w t u ty e i (.int .u8 0) ht hu hi hz ⟨g, 0, none⟩ n cap xs (by rw [hsize]; omega) (hown.cells (g := g) rfl) s (by omega) (by omega) (by rw [hby]; exact growslice_fits (by omega) (by omega))
      rw [hr] at h2
      simp only [Result.ok.injEq] at h2
      rw [h2.1]; exact .inr rfl

/-- all old blocks but v's own row stand; the new row is the old one or lies in new memory -/
def Grew (w w' : World) (v v' : Value) : Prop := w.grownBy w' v.ownBlock ∧ (v'.ownBlock = v.ownBlock ∨ ∃ k, w.heap.size ≤ k ∧ v'.ownBlock = some k)
theorem Grew.refl (w : World) (v : Value) : Grew w w v v := ⟨⟨rfl, rfl, rfl, Nat.le_refl _, fun _ _ _ => rfl⟩, .inl rfl⟩
theorem Grew.trans {w w1 w2 : World} {v v1 v2 : Value} (h : Grew w w1 v v1) (k : Grew w1 w2 v1 v2) : Grew w w2 v v2 := by
  refine ⟨⟨k.1.os.trans h.1.os, k.1.tape.trans h.1.tape, k.1.output.trans h.1.output, Nat.le_trans h.1.size k.1.size, fun b hb hne => ?_⟩, ?_⟩
  · refine (k.1.block b (Nat.lt_of_lt_of_le hb h.1.size) ?_).trans (h.1.block b hb hne)
    rcases h.2 with e | ⟨j, hj, e⟩
    · rw [e]; exact hne
    · rw [e]; simp; omega
  · rcases k.2 with e | ⟨j, hj, e⟩
    · rw [e]; exact h.2
    · exact .inr ⟨j, Nat.le_trans h.1.size hj, e⟩
theorem Grew.below {w w1 w2 : World} {v v1 : Value} (hb : Below w.heap.size w w1) (h : Grew w1 w2 v v1) : Grew w w2 v v1 := by
  refine ⟨⟨h.1.os.trans hb.os, h.1.tape.trans hb.tape, h.1.output.trans hb.output, Nat.le_trans hb.size h.1.size, fun b hk hne => (h.1.block b (Nat.lt_of_lt_of_le hk hb.size) hne).trans (hb.block b hk)⟩, ?_⟩
  rcases h.2 with e | ⟨j, hj, e⟩
  · exact .inl e
  · exact .inr ⟨j, Nat.le_trans hb.size hj, e⟩
theorem Grew.cell {w w' : World} {v v' : Value} (h : Grew w w' v v') {a : Addr} {x : Value} (hc : w.cell? a = some x) (hne : ∀ k, v.ownBlock = some k → k ≠ a.block) : w'.cell? a = some x :=
  h.1.cell hc (fun e => hne a.block e.symm rfl)
theorem Grew.far {w w' : World} {v v' : Value} (h : Grew w w' v v') {b : Nat} (hb : b < w.heap.size) (hne : ∀ k, v.ownBlock = some k → k ≠ b) : ∀ k, v'.ownBlock = some k → k ≠ b := by
  intro k hk
  rcases h.2 with e | ⟨j, hj, e⟩
  · exact hne k (e ▸ hk)
  · rw [e] at hk; simp at hk; omega

theorem wpList_append_str_at {P : Program} (w : World) {ops : Array Oper} {rest : List Oper} {o : Oper} {a : Act} {Q : Exit → Act → World → Prop} (hgd : o.guard = none) (sl x : Operand) (t u : TypeId)
    (ho : o.op = .call { callee := .builtin .append, args := #[sl, x], argTypes := #[t, u] })
    (base : Nat) (e : TypeId) (i : TypeInfo) (ht : P.underlying t = some (.slice e)) (hu : P.underlying u = some .string) (hi : P.info? e = some i) (hz : i.zero = some (.int .u8 0)) (hsize : i.size = 1) (hby : i.bytes = 1)
    (v : Value) (n : Nat) (xs : List Value) (hs : a.eval sl = v) (hown : w.ownsRow base e 1 v n xs) (s : ByteArray) (hx : a.eval x = .string s) (hbytes : n + s.size ≤ 140737488355328) (hbase : base ≤ w.heap.size)
    (h : ∀ v' w', w'.ownsRow base e 1 v' (n + s.size) (xs ++ strCells s) → Grew w w' v v' → wpList P ops Q rest (a.put o.dst v') w') : wpList P ops Q (o :: rest) a w := by
  refine wpList_plain hgd fun K hK => ?_
  obtain ⟨v', w', hr, h2, h3, h4⟩ := run_append_own_string (P := P) w base t u o.type e i ht hu hi hz hsize hby v n xs hown s (by unfold maxLen; omega) hbytes hbase
  have hl := str_loc ht hu hi hz hsize hby hown hbytes hr h4
  unfold Oper.wp execOp
  simp only [ho, resolve, invoke, builtin, Sem.run_bind, Sem.run_pure, Result.andThen_ok, List.map_toArray, List.map_cons, List.map_nil, hs, hx, hr]
  exact hK _ _ (h v' w' h2 ⟨h3, hl.imp id fun e => ⟨_, Nat.le_refl _, e⟩⟩)
end Go.Proofs.YtbhccdedcoajmaaGreatDoor
namespace Go.Proofs.YtbhccdedcoajmaaGreatDoor
open Go.RowKit

theorem putN_at (v : Int) : ∀ (n k : Nat) (h : k < n), (putN n v)[k]'(by rw [putN_length]; exact h) = v / 256 ^ (n - 1 - k) % 256
  | n + 1, 0, _ => by simp [putN]
  | n + 1, k + 1, h => by
    simp only [putN, List.getElem_cons_succ]
    rw [putN_at v n k (by omega), show n - 1 - k = n + 1 - 1 - (k + 1) by omega]

set_option maxRecDepth 10000 in
set_option maxHeartbeats 1000000 in
theorem put_any (base n : Nat) (v : Value) (xs : List Int) (x : Int) (w : World) (hn : n ≤ 8) (_hx0 : 0 ≤ x) (_hx1 : x < 18446744073709551616) (hl : xs.length ≤ 1000000) (hb : base ≤ w.heap.size) (ho : w.ownsRow base 5 1 v xs.length (u8s xs)) :
    Calls Tryz.prog 41 #[v, .int .u64 x, .int .i64 n] w fun e w' => ∃ v', e = .returned v' ∧ w'.ownsRow base 5 1 v' (xs ++ putN n x).length (u8s (xs ++ putN n x)) ∧ Below base w w' ∧ Grew w w' v v' := by
  obtain ⟨j0, hj, y0, y1, y2⟩ := info_parts Tryz.info5
  have HO := hide ho
  clear ho
  have HPL := hide (putN_length n x)
  have HAT : Hid (∀ m, m < n → (putN n x).take (n - m) = (putN n x).take (n - (m + 1)) ++ [x / 256 ^ m % 256]) := by
    intro m hm
    have h := putN_at x n (n - (m + 1)) (by omega)
    rw [show n - m = (n - (m + 1)) + 1 by omega, List.take_succ_eq_append_getElem (by rw [putN_length]; omega), h, show n - 1 - (n - (m + 1)) = m by omega]
  go_enter Tryz.func41, Tryz.ntmps41
  go_wp2_with fail
  go_loopw [0, 7] (fun v0 v7 wr => ∃ m : Nat, m ≤ n ∧ v7 = .int .i64 ((m : Int) - 1) ∧ Hid (wr.ownsRow base 5 1 v0 (xs.length + (n - m)) (u8s (xs ++ (putN n x).take (n - m)))) ∧ Hid (Below base w wr) ∧ Hid (Grew w wr v v0)) (fun _ v7 _ => ((intOf v7) + 1).toNat)
  case atStart => exact ⟨n, Nat.le_refl _, rfl, (show World.ownsRow _ _ _ _ _ _ _ by have := HO.out; simpa using this), Below.refl _ _, Grew.refl _ _⟩
  case round =>
    obtain ⟨m, hm, rfl, HOr, HBr, HGr⟩ := hrel
    by_cases h0 : 0 < m
    · obtain ⟨m, rfl⟩ : ∃ k, m = k + 1 := ⟨m - 1, by omega⟩
      have hsh : (((m + 1 : Nat) : Int) - 1) = (m : Int) := by omega
      rw [hsh]
      have hpw : (2 : Int) ^ (8 * m) = 256 ^ m := by rw [Int.pow_mul]; rfl
      have HPW := hide hpw
      clear hpw
      go_wp2_with (at_builtin; refine wpList_append_own_at _ rfl (.tmp 14) (.tmp 20) 38 rfl base 5 j0 (.int .u8 0) 1 1 Tryz.underlying38 hj y0 y1 y2 rfl (by decide) _ (xs.length + (n - (m + 1))) (u8s (xs ++ (putN n x).take (n - (m + 1)))) rfl (HOr.out.alloc _) ⟨wr.heap.size, 0, none⟩ 1 1 [.int .u8 (x / 2 ^ (8 * m) % 256)] rfl rfl ?ka ?kb ?kc ?kd ?ke ?kf)
      case ka =>
        intro j y hy
        match j, hy with
        | 0, hy => simp at hy; subst hy; simp [Addr.add]
      case kb => intro y hy; simp at hy; subst hy; rfl
      case kc => unfold maxLen; omega
      case kd => omega
      case ke => have := HBr.out.size; simp; omega
      case kf =>
        intro v' w3 hown3 hgrow3 _ hloc3
        have HG3 : Hid (Grew w w3 v v') := HGr.out.trans ⟨(World.grownBy_alloc wr _ _).trans hgrow3, hloc3.imp id fun e => ⟨_, by simp, e⟩⟩
        have HB3 : Hid (Below base w w3) := (HBr.out.alloc (by have := HBr.out.size; omega) _).grown hgrow3 (by have := HBr.out.size; simp; omega) (fun j hj => (HOr.out.lt j hj).1)
        have HO3 : Hid (w3.ownsRow base 5 1 v' (xs.length + (n - m)) (u8s (xs ++ (putN n x).take (n - m)))) := by
          have h3 := hown3
          show World.ownsRow _ _ _ _ _ _ _
          rw [HAT.out m (by omega), show xs.length + (n - m) = xs.length + (n - (m + 1)) + 1 by omega, ← List.append_assoc]
          rw [HPW.out] at h3
          have e : u8s (xs ++ (putN n x).take (n - (m + 1)) ++ [x / 256 ^ m % 256]) = u8s (xs ++ (putN n x).take (n - (m + 1))) ++ [.int .u8 (x / 256 ^ m % 256)] := by simp [u8s]
          rw [e]
          exact h3
        clear hown3 hgrow3 hloc3
        go_wp2_with fail
        go_roundw
        case rel => exact ⟨m, by omega, rfl, HO3.out, HB3.out, HG3.out⟩
        case measure => simp [intOf]
    · obtain rfl : m = 0 := by omega
      go_wp2_with fail
      go_ret
      refine ⟨_, rfl, ?_, HBr.out, HGr.out⟩
      have := HOr.out
      rw [Nat.sub_zero, List.take_of_length_le (by rw [HPL.out]; omega)] at this
      rw [List.length_append, HPL.out]
      exact this
end Go.Proofs.YtbhccdedcoajmaaGreatDoor
namespace Go.Proofs.YtbhccdedcoajmaaGreatDoor
open Go.RowKit

theorem digest_bd (l : List Int) : 0 ≤ digestOf l ∧ digestOf l < 18446744073709551616 := by
  rcases snoc_cases l with rfl | ⟨i, x, rfl⟩
  · rw [digestOf_nil]; omega
  · rw [digestOf_snoc]; unfold dstep; rw [IntKind.wrap_u64]; omega

set_option maxRecDepth 10000 in
set_option maxHeartbeats 1000000 in
theorem rputEntry_any (base : Nat) (v : Value) (xs : List Int) (nm dt : ByteArray) (w : World) (hn : nm.size ≤ 255) (hd : dt.size ≤ 300) (hl : xs.length ≤ 900000) (hb : base ≤ w.heap.size) (ho : w.ownsRow base 5 1 v xs.length (u8s xs)) :
    Calls Tryz.prog 38 #[v, .agg #[.string nm, .string dt]] w fun e w' => ∃ v', e = .returned v' ∧ w'.ownsRow base 5 1 v' (xs ++ entryL ⟨nums nm, nums dt⟩).length (u8s (xs ++ entryL ⟨nums nm, nums dt⟩)) ∧ Below base w w' ∧ Grew w w' v v' := by
  obtain ⟨j0, hj, y0, y1, y2⟩ := info_parts Tryz.info5
  have HO := hide ho
  clear ho
  obtain ⟨L, hL⟩ : ∃ L, xs.length = L := ⟨_, rfl⟩
  rw [hL] at HO hl
  have HL := hide hL
  clear hL
  have HB0 : Hid (Below base w (w.alloc (.cells #[.string nm, .string dt] 54))) := (Below.refl _ _).alloc hb _
  have hk0 : (w.alloc (.cells #[.string nm, .string dt] 54)).cell? ⟨w.heap.size, 0, none⟩ = some (.string nm) := cell_new rfl rfl
  have hk1 : (w.alloc (.cells #[.string nm, .string dt] 54)).cell? ⟨w.heap.size, 1, none⟩ = some (.string dt) := cell_new rfl rfl
  have hmod : (nm.size : Int) % 256 = (nm.size : Int) := by omega
  go_enter Tryz.func38, Tryz.ntmps38
  go_wp2_with (at_builtin; refine wpList_append_own_at _ rfl (.tmp 6) (.tmp 11) 38 rfl base 5 j0 (.int .u8 0) 1 1 Tryz.underlying38 hj y0 y1 y2 rfl (by decide) _ L (u8s xs) rfl ((HO.out.alloc _).alloc _) ⟨w.heap.size + 1, 0, none⟩ 1 1 [.int .u8 (nm.size : Int)] rfl rfl ?ka ?kb ?kc ?kd ?ke ?kf)
  case ka =>
    intro j y hy
    match j, hy with
    | 0, hy => simp at hy; subst hy; simp [Addr.add]
  case kb => intro y hy; simp at hy; subst hy; rfl
  case kc => unfold maxLen; omega
  case kd => omega
  case ke => simp; omega
  case kf =>
    intro v1 w1 hown1 hgrow1 _ hloc1
    have HG1 : Hid (Grew (w.alloc (.cells #[.string nm, .string dt] 54)) w1 v v1) := ⟨(World.grownBy_alloc _ _ _).trans hgrow1, hloc1.imp id fun e => ⟨_, by simp, e⟩⟩
    have HV0 : Hid (∀ k, v.ownBlock = some k → k ≠ w.heap.size) := fun k hk => by have := (HO.out.lt k hk).2; omega
    have HV1 := hide (HG1.out.far (b := w.heap.size) (by simp) HV0.out)
    have k0 := HG1.out.cell hk0 HV0.out
    have k1 := HG1.out.cell hk1 HV0.out
    have HB1 : Hid (Below base w w1) := HB0.out.grown HG1.out.1 (by simp; omega) (fun j hj => (HO.out.lt j hj).1)
    have HO1 := hide hown1
    have hws : w.heap.size < w1.heap.size := World.block_lt_of_cell? w1 _ k0
    clear hown1 hgrow1 hloc1 hk0 hk1
    go_wp2_with (at_builtin; refine wpList_append_str_at _ rfl (.tmp 13) (.tmp 15) 38 9 rfl base 5 j0 Tryz.underlying38 Tryz.underlying9 hj y0 y1 y2 v1 (L + 1) (u8s xs ++ [Value.int .u8 (nm.size : Int)]) rfl HO1.out nm rfl (by omega) (by have := HB1.out.size; omega) ?sg)
    case sg =>
      intro v2 w2 hown2 hg2
      have HV2 := hide (hg2.far (b := w.heap.size) hws HV1.out)
      have m1 := hg2.cell k1 HV1.out
      have HB2 : Hid (Below base w w2) := HB1.out.grown hg2.1 (by have := HB1.out.size; omega) (fun j hj => (HO1.out.lt j hj).1)
      have HG2 := hide (HG1.out.trans hg2)
      have hws2 : w.heap.size < w2.heap.size := World.block_lt_of_cell? w2 _ m1
      have HO2 : Hid (w2.ownsRow base 5 1 v2 (xs ++ ((nm.size : Int) :: nums nm)).length (u8s (xs ++ ((nm.size : Int) :: nums nm)))) := by
        have h2 := hown2
        rw [strCells_nums] at h2
        have e : u8s xs ++ (Value.int .u8 (nm.size : Int) :: u8s (nums nm)) = u8s (xs ++ ((nm.size : Int) :: nums nm)) := by simp [u8s]
        rw [e] at h2
        rw [show (xs ++ ((nm.size : Int) :: nums nm)).length = L + 1 + nm.size by rw [List.length_append, List.length_cons, nums_length, HL.out]; omega]
        exact h2
      clear hown2 hg2 k0 k1 hws
      have hle2 : (xs ++ ((nm.size : Int) :: nums nm)).length ≤ 1000000 := by rw [List.length_append, List.length_cons, nums_length, HL.out]; omega
      go_wp2_with fail
      refine (put_any base 2 v2 (xs ++ ((nm.size : Int) :: nums nm)) (dt.size : Int) w2 (by omega) (by omega) (by omega) hle2 (by have := HB2.out.size; omega) HO2.out).mono ?_
      rintro e w3 ⟨v3, rfl, ho3, hb3, hg3⟩
      have n1 := hg3.cell m1 HV2.out
      have HV3 := hide (hg3.far (b := w.heap.size) hws2 HV2.out)
      have HB3 : Hid (Below base w w3) := HB2.out.trans hb3
      have HG3 := hide (HG2.out.trans hg3)
      have HO3 := hide ho3
      clear ho3 hb3 hg3 m1
      go_wp2_with fail
      refine (rdigest_any dt (by omega) _).mono ?_
      rintro e w4 ⟨rfl, hw4⟩
      obtain rfl := hw4.symm
      have hdb := digest_bd (nums dt)
      generalize hD : digestOf (nums dt) = D at *
      have HD := hide hD
      clear hD
      have hle3 : (xs ++ ((nm.size : Int) :: nums nm) ++ putN 2 (dt.size : Int)).length ≤ 1000000 := by rw [List.length_append, putN_length, List.length_append, List.length_cons, nums_length, HL.out]; omega
      go_wp2_with fail
      refine (put_any base 8 v3 (xs ++ ((nm.size : Int) :: nums nm) ++ putN 2 (dt.size : Int)) D w3 (by omega) hdb.1 hdb.2 hle3 (by have := HB3.out.size; omega) HO3.out).mono ?_
      rintro e w5 ⟨v5, rfl, ho5, hb5, hg5⟩
      have HB5 : Hid (Below base w w5) := HB3.out.trans hb5
      have HG5 : Hid (Grew w w5 v v5) := ((HG3.out.trans hg5).below ((Below.refl _ _).alloc (Nat.le_refl _) _))
      have HO5 : Hid (w5.ownsRow base 5 1 v5 (xs ++ entryL ⟨nums nm, nums dt⟩).length (u8s (xs ++ entryL ⟨nums nm, nums dt⟩))) := by
        have h5 := ho5
        have e : xs ++ ((nm.size : Int) :: nums nm) ++ putN 2 (dt.size : Int) ++ putN 8 D = xs ++ entryL ⟨nums nm, nums dt⟩ := by
          unfold entryL
          simp only [nums_length, HD.out, List.append_assoc, List.cons_append]
        rw [e] at h5
        exact h5
      clear ho5 hb5 hg5
      go_wp2_with fail
      go_ret
      exact ⟨_, rfl, HO5.out, HB5.out, HG5.out⟩
end Go.Proofs.YtbhccdedcoajmaaGreatDoor
namespace Go.Proofs.YtbhccdedcoajmaaGreatDoor
open Go.RowKit

theorem Tryz.info9 : (Tryz.prog.info? 9).map (fun i => (i.zero, i.size, i.bytes)) = some (some (.string ⟨#[]⟩), 1, 16) := by kernel_rfl

set_option maxRecDepth 10000 in
set_option maxHeartbeats 1000000 in
theorem blocks_any (s : ByteArray) (B : Nat) (w : World) (hB1 : 1 ≤ B) (hB2 : B ≤ 64) (hm : s.size ≤ 300) :
    Calls Tryz.prog 56 #[.string s, .int .i64 B] w fun e w' => ∃ (v : Value) (ts : List ByteArray), e = .returned v ∧
      w'.ownsRow w.heap.size 9 1 v (chunks s.size B) (ts.map Value.string) ∧ ts.map nums = (List.range (chunks s.size B)).map (chunk (nums s) B) ∧ Below w.heap.size w w' := by
  obtain ⟨i0, hi, z0, z1, z2⟩ := info_parts Tryz.info9
  have HIFF : Hid (∀ k, k < chunks s.size B ↔ k * B < s.size) := fun k => lt_chunks hB1
  have hcle := chunks_le (n := s.size) hB1
  have HNL := hide (nums_length s)
  generalize chunks s.size B = M at *
  go_enter Tryz.func56, Tryz.ntmps56
  go_wp2_with fail
  go_loopw [0, 5] (fun t v wr => ∃ (k : Nat) (u : ByteArray) (ts : List ByteArray), k ≤ M ∧ u.size ≤ 300 ∧ t = .string u ∧ Hid (u.size = s.size - k * B) ∧ Hid (nums u = (nums s).drop (k * B)) ∧ Hid (ts.map nums = (List.range k).map (chunk (nums s) B)) ∧
      Hid (wr.ownsRow w.heap.size 9 1 v k (ts.map Value.string)) ∧ Hid (Below w.heap.size w wr)) (fun t _ _ => match t with | .string u => u.size | _ => 0)
  case atStart => exact ⟨0, s, [], Nat.zero_le _, hm, rfl, (show s.size = s.size - 0 * B by omega), (show nums s = (nums s).drop (0 * B) by simp), rfl, World.ownsRow_nil _ _ _ _, Below.refl _ _⟩
  case round =>
    obtain ⟨k, u, ts, hk, hu, rfl, ES, EN, ET, HOr, HBr⟩ := hrel
    by_cases hlt : 0 < u.size
    · have hkM : k < M := (HIFF.out k).2 (by have := ES.out; omega)
      have hsz : w.heap.size ≤ wr.heap.size := HBr.out.size
      have HSZ := hide hsz
      have HKM := hide hkM
      clear hsz
      by_cases hle : B ≤ u.size
      · go_wp2_with (at_builtin; refine wpList_append_own _ rfl (.tmp 17) (.tmp 21) 29 rfl w.heap.size 9 i0 (.string ⟨#[]⟩) 1 16 Tryz.underlying29 hi z0 z1 z2 rfl (by decide) _ k (ts.map Value.string) rfl (HOr.out.alloc _) ⟨wr.heap.size, 0, none⟩ 1 1 [.string (u.extract 0 B)] rfl rfl ?ka ?kb ?kc ?kd ?ke ?kf)
        case ka =>
          intro j x hj
          match j, hj with
          | 0, hj => simp at hj; subst hj; simp [Addr.add]
        case kb => intro x hx; simp at hx; subst hx; rfl
        case kc => unfold maxLen; omega
        case kd => omega
        case ke => have := HSZ.out; simp; omega
        case kf =>
          intro v' w3 hown3 hgrow3 _
          have HB3 : Hid (Below w.heap.size w w3) := (HBr.out.alloc HSZ.out _).grown hgrow3 (by have := HSZ.out; simp; omega) (fun j hj => (HOr.out.lt j hj).1)
          have HO3 : Hid (w3.ownsRow w.heap.size 9 1 v' (k + 1) ((ts ++ [(u.extract 0 B)]).map Value.string)) := by
            show World.ownsRow _ _ _ _ _ _ _
            rw [List.map_append]
            exact hown3
          have ET3 : Hid ((ts ++ [(u.extract 0 B)]).map nums = (List.range (k + 1)).map (chunk (nums s) B)) := by
            show _ = _
            rw [List.map_append, ET.out, List.range_succ, List.map_append]
            have := EN.out
            have hnl := nums_length u
            congr 1
            simp only [List.map_cons, List.map_nil, chunk, ← this]
            rw [nums_extract]; simp
          clear hown3 hgrow3
          go_wp2_with fail
          go_roundw
          case rel =>
            refine ⟨k + 1, _, _, HKM.out, ?_, rfl, ?_, ?_, ET3, HO3, HB3⟩
            · simp [ByteArray.size_extract]; omega
            · show _ = _
              have := ES.out
              rw [Nat.add_mul]
              simp [ByteArray.size_extract]; omega
            · show _ = _
              have hnl := nums_length u
              rw [nums_extract, List.take_of_length_le (by rw [List.length_drop]; omega), EN.out, List.drop_drop, Nat.add_mul, Nat.one_mul]
          case measure => simp [ByteArray.size_extract]; omega
      · go_wp2_with (at_builtin; refine wpList_append_own _ rfl (.tmp 17) (.tmp 21) 29 rfl w.heap.size 9 i0 (.string ⟨#[]⟩) 1 16 Tryz.underlying29 hi z0 z1 z2 rfl (by decide) _ k (ts.map Value.string) rfl (HOr.out.alloc _) ⟨wr.heap.size, 0, none⟩ 1 1 [.string u] rfl rfl ?la ?lb ?lc ?ld ?le ?lf)
        case la =>
          intro j x hj
          match j, hj with
          | 0, hj => simp at hj; subst hj; simp [Addr.add]
        case lb => intro x hx; simp at hx; subst hx; rfl
        case lc => unfold maxLen; omega
        case ld => omega
        case le => have := HSZ.out; simp; omega
        case lf =>
          intro v' w3 hown3 hgrow3 _
          have HB3 : Hid (Below w.heap.size w w3) := (HBr.out.alloc HSZ.out _).grown hgrow3 (by have := HSZ.out; simp; omega) (fun j hj => (HOr.out.lt j hj).1)
          have HO3 : Hid (w3.ownsRow w.heap.size 9 1 v' (k + 1) ((ts ++ [u]).map Value.string)) := by
            show World.ownsRow _ _ _ _ _ _ _
            rw [List.map_append]
            exact hown3
          have ET3 : Hid ((ts ++ [u]).map nums = (List.range (k + 1)).map (chunk (nums s) B)) := by
            show _ = _
            rw [List.map_append, ET.out, List.range_succ, List.map_append]
            have := EN.out
            have hnl := nums_length u
            congr 1
            simp only [List.map_cons, List.map_nil, chunk, ← this]
            rw [List.take_of_length_le (by omega)]
          clear hown3 hgrow3
          go_wp2_with fail
          go_roundw
          case rel =>
            refine ⟨k + 1, _, _, HKM.out, ?_, rfl, ?_, ?_, ET3, HO3, HB3⟩
            · simp
            · show _ = _
              have := ES.out
              rw [Nat.add_mul]
              simp; omega
            · show _ = _
              have hnl := HNL.out
              have := ES.out
              rw [List.drop_of_length_le (by rw [hnl, Nat.add_mul]; omega)]
              rfl
          case measure => simp; omega
    · have HKM : Hid (k = M) := by
        have := (HIFF.out k).1
        have := ES.out
        show k = M
        omega
      go_wp2_with fail
      go_ret
      have hk := HKM.out
      subst hk
      exact ⟨_, ts, rfl, HOr.out, ET.out, HBr.out⟩
end Go.Proofs.YtbhccdedcoajmaaGreatDoor
namespace Go.Proofs.YtbhccdedcoajmaaGreatDoor
open Go.RowKit

theorem row_open {w : World} {base : Nat} {e : TypeId} {v : Value} {n : Nat} {xs : List Value} (h : w.ownsRow base e 1 v n xs) : ∃ va cap, v = .slice va n cap ∧ n ≤ cap ∧ ∀ k, k < n → ∃ g, va = some ⟨g, 0, none⟩ ∧ w.cell? ⟨g, k, none⟩ = xs[k]? := by
  have hx := h.1
  rcases h.2 with ⟨hv, hn⟩ | ⟨g, cap, cur, hv, hb, hg, h1, h2, h3, h4⟩
  · exact ⟨none, 0, by rw [hv, hn], by omega, fun k hk => by omega⟩
  · refine ⟨_, cap, hv, h1, fun k hk => ⟨g, rfl, ?_⟩⟩
    rw [← h4]
    simp only [World.cell?, hg]
    rw [List.getElem?_take_of_lt (by omega)]
    simp

def placeV (r : Option Nat) : Value := .int .i64 (match r with | some k => (k : Int) | none => -1)

set_option maxRecDepth 10000 in
set_option maxHeartbeats 400000 in
theorem place_ok (base B : Nat) (v : Value) (zs : List Int) (ts : List ByteArray) (s : ByteArray) (w : World) (hB1 : 1 ≤ B) (hm : zs.length ≤ 300) (hs : s.size = B)
    (ho : w.ownsRow base 9 1 v (chunks zs.length B) (ts.map Value.string)) (ht : ts.map nums = (List.range (chunks zs.length B)).map (chunk zs B)) :
    Calls Tryz.prog 57 #[v, .string s] w fun e w' => e = .returned (placeV (findBlk zs B (nums s))) ∧ w' = w := by
  obtain ⟨va, cap, rfl, hcap, hcell⟩ := row_open ho
  have hM := chunks_le (n := zs.length) hB1
  have HCELL : Hid (∀ k, k < chunks zs.length B → ∃ g t, va = some ⟨g, 0, none⟩ ∧ w.cell? ⟨g, k, none⟩ = some (.string t) ∧ nums t = chunk zs B k) := by
    intro k hk
    obtain ⟨g, hv, hc⟩ := hcell k hk
    have hlt : k < ts.length := by
      have := congrArg List.length ht
      simp at this; omega
    refine ⟨g, ts[k], hv, ?_, ?_⟩
    · rw [hc]; simp [hlt]
    · have := congrArg (fun l => l[k]?) ht
      simpa [hlt, hk] using this
  have HHIT : Hid (∀ k, k < chunks zs.length B → chunk zs B k = nums s → (∀ j, j < k → chunk zs B j ≠ nums s) → findBlk zs B (nums s) = some k) := by
    intro k hk e h
    refine findBlk_some.2 ⟨?_, e, h⟩
    have hl := chunk_length zs B k
    rw [e, nums_length, hs] at hl
    have : (k + 1) * B ≤ zs.length := by rw [Nat.add_mul]; omega
    exact (Nat.le_div_iff_mul_le hB1).2 this
  have HNO : Hid ((∀ j, j < chunks zs.length B → chunk zs B j ≠ nums s) → findBlk zs B (nums s) = none) := by
    intro h
    exact findBlk_none.2 fun j hj => h j (Nat.lt_of_lt_of_le hj (whole_le hB1))
  clear ho ht hcell
  generalize chunks zs.length B = M at *
  go_enter Tryz.func57, Tryz.ntmps57
  go_wp2_with fail
  go_loop [5] (fun i => ∃ k : Nat, k ≤ M ∧ i = .int .i64 k ∧ Hid (∀ j, j < k → chunk zs B j ≠ nums s)) (fun i => M - (intOf i).toNat)
  case atStart => exact ⟨0, Nat.zero_le _, rfl, fun j hj => by omega⟩
  case round =>
    obtain ⟨k, hk, rfl, HA⟩ := hrel
    by_cases hlt : k < M
    · obtain ⟨g, t, rfl, hc, hn⟩ := HCELL.out k hlt
      have hte := text_eq t s
      rw [hn] at hte
      by_cases hh : chunk zs B k = nums s
      · have HH := hide hh
        rw [decide_eq_true hh] at hte
        clear hh hn
        go_wp2_with fail
        go_ret
        refine ⟨?_, rfl⟩
        rw [HHIT.out k hlt HH.out HA.out]
        rfl
      · have HH := hide hh
        rw [decide_eq_false hh] at hte
        clear hh hn
        go_wp2_with fail
        go_round
        case rel =>
          refine ⟨k + 1, by omega, by go_num, fun j hj => ?_⟩
          rcases Nat.lt_or_ge j k with h | h
          · exact HA.out j h
          · obtain rfl : j = k := by omega
            exact HH.out
        case measure => simp [intOf]; omega
    · go_wp2_with fail
      go_ret
      refine ⟨?_, rfl⟩
      rw [HNO.out (fun j hj => HA.out j (by omega))]
      rfl
end Go.Proofs.YtbhccdedcoajmaaGreatDoor
