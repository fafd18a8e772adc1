import Derived.Test.YtbhccdedcoajmaaGreatDoorPReadYM
namespace Go.Proofs.YtbhccdedcoajmaaGreatDoor
open Go.RowKit

set_option maxRecDepth 10000 in
set_option maxHeartbeats 1000000 in
/-- tree.Data where data may be nil -/
theorem tdata_ag (v : Value) (fs : List (ByteArray × ByteArray)) (nm : ByteArray) (w : World) (hl : fs.length ≤ 70000) (hF : Ag w v fs) :
    Calls Tryz.prog 122 #[v, .string nm] w fun e w' => ∃ va b cp, e = .returned (.slice va (nums ((foundOf fs nm).getD ⟨#[]⟩)).length cp) ∧ DataAt w va b cp (nums ((foundOf fs nm).getD ⟨#[]⟩)) ∧ Below w.heap.size w w' := by
  obtain ⟨va, cap, rfl, hcap, hcell⟩ := hF
  have HC : Hid (∀ k (hk : k < fs.length), ∃ (g : Nat) (vo : Option Addr) (b cp : Nat), va = some ⟨g, 0, none⟩ ∧ g < w.heap.size ∧ w.cell? ⟨g, k * 2, none⟩ = some (.string fs[k].1) ∧ w.cell? ⟨g, k * 2 + 1, none⟩ = some (.slice vo (nums fs[k].2).length cp) ∧ DataAt w vo b cp (nums fs[k].2)) := by
    intro k hk
    obtain ⟨g, vo, b, cp, e, hg, c0, c1, _, hD⟩ := hcell k hk
    exact ⟨g, vo, b, cp, e, hg, c0, c1, hD⟩
  have HHIT : Hid (∀ k (hk : k < fs.length), nums fs[k].1 = nums nm → (∀ j (hj : j < fs.length), j < k → nums fs[j].1 ≠ nums nm) → foundOf fs nm = some fs[k].2) := fun k hk h hno => found_hit hk h hno
  have HNO : Hid ((∀ j (hj : j < fs.length), nums fs[j].1 ≠ nums nm) → foundOf fs nm = none) := fun h => found_no h
  have HTE : Hid (∀ k (hk : k < fs.length), (fs[k].1.toList == nm.toList) = decide (nums fs[k].1 = nums nm)) := fun k hk => text_eq _ _
  clear hcell
  go_enter Tryz.func122, Tryz.ntmps122
  go_wp2_with fail
  go_loopw [9] (fun i wr => ∃ k : Nat, k ≤ fs.length ∧ i = .int .i64 k ∧ Hid (∀ j (hj : j < fs.length), j < k → nums fs[j].1 ≠ nums nm) ∧ Hid (Below w.heap.size w wr)) (fun i _ => fs.length - (intOf i).toNat)
  case atStart => exact ⟨0, Nat.zero_le _, rfl, (fun j _ hj => by omega), Below.refl _ _⟩
  case round =>
    obtain ⟨k, hk, rfl, HA, HBr⟩ := hrel
    by_cases hlt : k < fs.length
    · obtain ⟨g, vo, b, cp, rfl, hg, c0, c1, hat⟩ := HC.out k hlt
      have d0 := (HBr.out.cell (p := ⟨g, k * 2, none⟩) hg).trans c0
      have d1 := (HBr.out.cell (p := ⟨g, k * 2 + 1, none⟩) hg).trans c1
      have hte := HTE.out k hlt
      have HIT := hide (HHIT.out k hlt)
      have HAT := hide hat
      have HNE : Hid (nums fs[k].1 ≠ nums nm → ∀ j (hj : j < fs.length), j < k + 1 → nums fs[j].1 ≠ nums nm) := by
        intro h j hj hjk
        rcases Nat.lt_or_ge j k with h' | h'
        · exact HA.out j hj h'
        · obtain rfl : j = k := by omega
          exact h
      have HB1 : Hid (∀ o, Below w.heap.size w (wr.alloc o)) := fun o => HBr.out.alloc HBr.out.size _
      clear c0 c1 hat
      generalize fs[k].1 = a at *
      generalize fs[k].2 = dt at *
      by_cases hh : nums a = nums nm
      · have HH := hide hh
        rw [decide_eq_true hh] at hte
        have HR := hide (HIT.out HH.out HA.out)
        clear hh
        go_wp2_with fail
        go_ret
        refine ⟨vo, b, cp, ?_, ?_, HB1.out _⟩
        · rw [HR.out]; rfl
        · rw [HR.out]; exact HAT.out
      · have HH := hide hh
        rw [decide_eq_false hh] at hte
        clear hh
        go_wp2_with fail
        go_roundw
        case rel => exact ⟨k + 1, by omega, by go_num, HNE.out HH.out, HB1.out _⟩
        case measure => simp [intOf]; omega
    · have HR := hide (HNO.out (fun j hj => HA.out j hj (by omega)))
      go_wp2_with fail
      go_ret
      refine ⟨none, 0, 0, ?_, ?_, HBr.out⟩
      · rw [HR.out]; rfl
      · rw [HR.out]; exact ⟨fun h => by simp [nums_empty] at h, by simp [nums_empty], fun k h => by simp [nums_empty] at h⟩

/-- what makeAll tells -/
def MakQ (fs : List (ByteArray × ByteArray)) (B : Nat) (ts : List (EntL × List Tok)) (base : Nat) (r e0 : Value) (w' : World) : Prop :=
  match makeGo fs B ts with
  | .ok l => e0 = .nilIface ∧ ∃ ps, FileRow w' base r ps ∧ ps.map (fun p => (nums p.1, nums p.2.1)) = l
  | .error n => r = .slice none 0 0 ∧ ∃ b nm, e0 = .iface 123 (.pointer (some ⟨b, 0, none⟩)) ∧ nums nm = n ∧ w'.cell? ⟨b, 0, none⟩ = some (.string nm) ∧ w'.cell? ⟨b, 1, none⟩ = some (.int .i64 11)
theorem makQ_bad {fs : List (ByteArray × ByteArray)} {B : Nat} {ts : List (EntL × List Tok)} {base b : Nat} {nm : ByteArray} {W : World} (h : makeGo fs B ts = .error (nums nm)) (c0 : W.cell? ⟨b, 0, none⟩ = some (.string nm)) (c1 : W.cell? ⟨b, 1, none⟩ = some (.int .i64 11)) : MakQ fs B ts base (.slice none 0 0) (.iface 123 (.pointer (some ⟨b, 0, none⟩))) W := by
  unfold MakQ
  rw [h]
  exact ⟨rfl, b, nm, rfl, rfl, c0, c1⟩
theorem makQ_ok {fs : List (ByteArray × ByteArray)} {B : Nat} {ts : List (EntL × List Tok)} {base : Nat} {r : Value} {W : World} {ps : List (ByteArray × ByteArray × Value)} (h : makeGo fs B ts = .ok (ps.map fun p => (nums p.1, nums p.2.1))) (hf : FileRow W base r ps) : MakQ fs B ts base r .nilIface W := by
  unfold MakQ
  rw [h]
  exact ⟨rfl, ps, hf, rfl⟩
theorem makeGo_cons (fs : List (ByteArray × ByteArray)) (B : Nat) (x : EntL × List Tok) (r : List (EntL × List Tok)) : makeGo fs B (x :: r) = match applyGo (findL (fs.map filOf) x.1.name) B [] x.2 with
    | .error _ => .error x.1.name
    | .ok d => if digestOf d = x.1.digest then (makeGo fs B r).map ((x.1.name, d) :: ·) else .error x.1.name := rfl

theorem apply_small {zs : List Int} {B : Nat} (hz : Bytes zs) : ∀ (ts : List Tok) (m d : List Int), (∀ t ∈ ts, Bytes t.data) → Bytes m → m.length ≤ 300 → applyGo zs B m ts = .ok d → Bytes d ∧ d.length ≤ 300
  | [], m, d, _, hm, hl, h => by
    simp only [applyGo, Except.ok.injEq] at h
    exact h ▸ ⟨hm, hl⟩
  | t :: ts, m, d, ht, hm, hl, h => by
    unfold applyGo at h
    split at h
    · split at h
      · cases h
      · rename_i hn
        have hp : Bytes (partT zs B t) := by
          unfold partT
          split
          · exact ht t (by simp)
          · exact (hz.drop _).take _
        refine apply_small hz ts _ d (fun u hu => ht u (by simp [hu])) (bytes_app hm hp) (by rw [List.length_append]; omega) h
    · cases h

set_option maxRecDepth 10000 in
set_option maxHeartbeats 2000000 in
theorem makeAll_any (v bv tv : Value) (fs : List (ByteArray × ByteArray)) (B : Nat) (xs : List Tg) (base : Nat) (w : World) (hB1 : 1 ≤ B) (hB2 : B ≤ 64) (hl : fs.length ≤ 70000) (hz : ∀ p ∈ fs, p.2.size ≤ 300) (hF : Ag w v fs) (hxl : xs.length ≤ 8) (hT : Tl w tv xs) (hok : ∀ x ∈ xs, TgOk w base x) (hbv : ∃ a n c, bv = .slice a n c) :
    Calls Tryz.prog 110 #[v, .agg #[.int .i64 B, bv, tv]] w fun e w' => ∃ r e0, e = .returned (.tuple #[r, e0]) ∧ MakQ fs B (xs.map tgV) w.heap.size r e0 w' ∧ Below w.heap.size w w' := by
  obtain ⟨i0, hi, z0, z1, z2⟩ := info_parts Tryz.info69
  obtain ⟨ba, bn, bc, rfl⟩ := hbv
  obtain ⟨ta, tc, rfl, htc, hcell⟩ := hT
  obtain ⟨o1, ho1⟩ : ∃ o, o = Obj.cells #[.int .i64 B, .slice ba bn bc, .slice ta xs.length tc] 110 := ⟨_, rfl⟩
  have hb1 : Below w.heap.size w (w.alloc o1) := (Below.refl _ _).alloc (Nat.le_refl _) _
  have s0 : (w.alloc o1).cell? ⟨w.heap.size, 0, none⟩ = some (.int .i64 B) := by rw [ho1]; exact cell_new rfl rfl
  have s2 : (w.alloc o1).cell? ⟨w.heap.size, 2, none⟩ = some (.slice ta xs.length tc) := by rw [ho1]; exact cell_new rfl rfl
  have HB1 := hide hb1
  have HC : Hid (∀ k (hk : k < xs.length), ∃ (g : Nat) (va : Option Addr) (vn vc : Nat), ta = some ⟨g, 0, none⟩ ∧ g < w.heap.size ∧ w.cell? ⟨g, k * 4, none⟩ = some (.string xs[k].ent.1) ∧ w.cell? ⟨g, k * 4 + 1, none⟩ = some (.int .i64 xs[k].ent.2.1) ∧ w.cell? ⟨g, k * 4 + 2, none⟩ = some (.int .u64 xs[k].ent.2.2) ∧ w.cell? ⟨g, k * 4 + 3, none⟩ = some (.slice va vn vc) ∧ xs[k].v = .slice va vn vc ∧ TgOk w base xs[k]) := by
    intro k hk
    obtain ⟨g, e, hg, c0, c1, c2, c3⟩ := hcell k hk
    have hx := hok _ (List.getElem_mem hk)
    obtain ⟨va, vn, vc, hv⟩ := row_slice hx.row.row
    exact ⟨g, va, vn, vc, e, hg, c0, c1, c2, by rw [c3, hv], hv, hx⟩
  have HDA := hide (fun nm W (hb : Below w.heap.size w W) => tdata_ag v fs nm W hl (hF.below hb))
  have HF3 : Hid (∀ nm, (nums ((foundOf fs nm).getD ⟨#[]⟩)).length ≤ 300) := by
    intro nm
    rw [nums_length]
    unfold foundOf
    cases h : fs.find? fun q => decide (nums q.1 = nums nm) with
    | none => exact Nat.zero_le _
    | some q => exact hz q (List.mem_of_find?_eq_some h)
  rw [ho1] at HB1 s0 s2
  clear hF hcell hok hb1 ho1 hz
  go_enter Tryz.func110, Tryz.ntmps110
  go_wp2_with fail
  generalize hWA : w.alloc (.cells #[.int .i64 B, .slice ba bn bc, .slice ta xs.length tc] 110) = wa at *
  clear hWA
  have hsb : w.heap.size < wa.heap.size := World.block_lt_of_cell? wa _ s0
  have S0 := hide s0
  clear s0 s2
  go_loopw [6, 14] (fun v6 v14 wr => ∃ (k : Nat) (ps : List (ByteArray × ByteArray × Value)), k ≤ xs.length ∧ v14 = .int .i64 k ∧ ps.length = k ∧ Hid (FileRow wr wa.heap.size v6 ps) ∧ Hid (makeGo fs B (xs.map tgV) = (makeGo fs B ((xs.drop k).map tgV)).map (ps.map (fun p => (nums p.1, nums p.2.1)) ++ ·)) ∧ Hid (Below wa.heap.size wa wr)) (fun _ v14 _ => xs.length - (intOf v14).toNat)
  case atStart =>
    refine ⟨0, [], Nat.zero_le _, rfl, rfl, FileRow.nil _ _, ?_, Below.refl _ _⟩
    rw [List.drop_zero]
    show _ = Except.map (fun x => [] ++ x) _
    cases makeGo fs B (xs.map tgV) <;> rfl
  case round =>
    obtain ⟨k, ps, hk, rfl, hpl, HFR, HMG, HBr⟩ := hrel
    by_cases hlt : k < xs.length
    · obtain ⟨g, va, vn, vc, rfl, hg, c0, c1, c2, c3, hxv, hxk⟩ := HC.out k hlt
      have hbw : Below w.heap.size w wr := below_all HB1.out HBr.out
      have x0 := (hbw.cell (p := ⟨g, k * 4, none⟩) hg).trans c0
      have x1 := (hbw.cell (p := ⟨g, k * 4 + 1, none⟩) hg).trans c1
      have x2 := (hbw.cell (p := ⟨g, k * 4 + 2, none⟩) hg).trans c2
      have x3 := (hbw.cell (p := ⟨g, k * 4 + 3, none⟩) hg).trans c3
      have HMG2 : Hid (makeGo fs B (xs.map tgV) = (makeGo fs B (tgV xs[k] :: (xs.drop (k + 1)).map tgV)).map (ps.map (fun p => (nums p.1, nums p.2.1)) ++ ·)) := by
        show _ = _
        rw [HMG.out, List.drop_eq_getElem_cons hlt]; rfl
      clear HMG c0 c1 c2 c3
      obtain ⟨x, hx⟩ : ∃ x, x = xs[k] := ⟨_, rfl⟩
      rw [← hx] at HMG2 x0 x1 x2 hxv hxk
      clear hx
      obtain ⟨⟨a, z, d⟩, xv, xps, xlo, xhi⟩ := x
      simp only at x0 x1 x2 hxv
      subst hxv
      obtain ⟨o, hoo⟩ : ∃ o, o = Obj.cells #[.string a, .int .i64 z, .int .u64 d, .slice va vn vc] 117 := ⟨_, rfl⟩
      have y0 : (wr.alloc o).cell? ⟨wr.heap.size, 0, none⟩ = some (.string a) := by rw [hoo]; exact cell_new rfl rfl
      have y2 : (wr.alloc o).cell? ⟨wr.heap.size, 2, none⟩ = some (.int .u64 d) := by rw [hoo]; exact cell_new rfl rfl
      have y3 : (wr.alloc o).cell? ⟨wr.heap.size, 3, none⟩ = some (.slice va vn vc) := by rw [hoo]; exact cell_new rfl rfl
      have hba : Below wr.heap.size wr (wr.alloc o) := (Below.refl _ _).alloc (Nat.le_refl _) _
      have yb : (wr.alloc o).cell? ⟨w.heap.size, 0, none⟩ = some (.int .i64 B) := ((below_all HBr.out hba).cell (p := ⟨w.heap.size, 0, none⟩) hsb).trans S0.out
      have HBA : Hid (Below wa.heap.size wa (wr.alloc o)) := below_all HBr.out hba
      have HBW : Hid (Below w.heap.size w (wr.alloc o)) := below_all hbw hba
      have HFA := hide (HFR.out.below hba)
      have HTK : Hid (TokRow (wr.alloc o) xlo (.slice va vn vc) xps) := (hxk.row.below hbw).below hba
      have HHE : Hid (xps.length ≤ 70000 ∧ ∀ p ∈ xps, Held p.1) := ⟨by have := hxk.len; simp only at this; omega, fun p hp => by
        obtain ⟨q1, q2, q3, q4, q5, q6⟩ := hxk.small p hp
        exact ⟨q1, q2, by constructor <;> omega, by constructor <;> omega⟩⟩
      have HBY : Hid (∀ p ∈ xps, Bytes p.1.data) := fun p hp => (hxk.small p hp).1
      rw [hoo] at y0 y2 y3 yb HBA HBW HFA HTK
      have hwar : wa.heap.size ≤ wr.heap.size := HBr.out.size
      clear hxk hbw hba hoo
      go_wp2_with fail
      generalize hWB : wr.alloc (.cells #[.string a, .int .i64 z, .int .u64 d, .slice va vn vc] 117) = wb at *
      clear hWB
      have hTb : wr.heap.size < wb.heap.size := World.block_lt_of_cell? wb _ y0
      have hSb : w.heap.size < wb.heap.size := World.block_lt_of_cell? wb _ yb
      have HD1 : Hid (Calls Tryz.prog 122 #[v, .string a] wb.drew fun e w' => ∃ vd b cp, e = .returned (.slice vd (nums ((foundOf fs a).getD ⟨#[]⟩)).length cp) ∧ DataAt wb.drew vd b cp (nums ((foundOf fs a).getD ⟨#[]⟩)) ∧ Below wb.drew.heap.size wb.drew w') := HDA.out a wb.drew (HBW.out.drew)
      have HFE : Hid (findL (fs.map filOf) (nums a) = nums ((foundOf fs a).getD ⟨#[]⟩)) := found_findL fs a
      have hf3 := HF3.out a
      have HZB : Hid (Bytes (nums ((foundOf fs a).getD ⟨#[]⟩))) := nums_bytes _
      have HAP : Hid (∀ (vd : Option Addr) (b cp : Nat) (W : World), Below wb.heap.size wb W → DataAt W vd b cp (nums ((foundOf fs a).getD ⟨#[]⟩)) → Calls Tryz.prog 135 #[.slice vd (nums ((foundOf fs a).getD ⟨#[]⟩)).length cp, .slice va vn vc, .int .i64 B] W fun e w' => ∃ v e0, e = .returned (.tuple #[v, e0]) ∧ Told W w' (applyGo (nums ((foundOf fs a).getD ⟨#[]⟩)) B [] (xps.map Prod.fst)) v e0 ∧ Below W.heap.size W w') := by
        intro vd b cp W hW hD
        exact apply_opt vd b 0 cp B _ hD.1 xlo _ xps W hB1 hB2 hf3 hD.2.1 hD.2.2 (HTK.out.below hW) HHE.out.1 HHE.out.2
      generalize hzs : nums ((foundOf fs a).getD ⟨#[]⟩) = zs at *
      clear hzs
      generalize hzn : zs.length = zn at *
      clear hzn
      clear x0 x1 x2 x3
      go_region_held3 (fun w' => w'.cell? ⟨wr.heap.size, 0, none⟩ = some (.string a) ∧ w'.cell? ⟨wr.heap.size, 3, none⟩ = some (.slice va vn vc) ∧ w'.cell? ⟨w.heap.size, 0, none⟩ = some (.int .i64 B))
        (first | exact ⟨y0, y3, yb⟩ | exact ⟨p0, p3, pb⟩ | exact ⟨q0, q3, qb⟩)
        ((first | (go_at_call 122; refine HD1.out.mono ?_; rintro e w2 ⟨vd, bd, cd, rfl, hD, hb2'⟩; have hb2 : Below wb.heap.size wb w2 := ((Below.refl wb.heap.size wb).drew).trans hb2'; have p0 := (hb2.cell (p := ⟨wr.heap.size, 0, none⟩) hTb).trans y0; have p3 := (hb2.cell (p := ⟨wr.heap.size, 3, none⟩) hTb).trans y3; have pb := (hb2.cell (p := ⟨w.heap.size, 0, none⟩) hSb).trans yb) | (go_at_call 135; refine (HAP.out vd bd cd w2 hb2 (hD.below hb2')).mono ?_; rintro e w3 ⟨av, e0, rfl, hTO, hb3⟩; have hb23 := below_all hb2 hb3; have q0 := (hb23.cell (p := ⟨wr.heap.size, 0, none⟩) hTb).trans y0; have q3 := (hb23.cell (p := ⟨wr.heap.size, 3, none⟩) hTb).trans y3; have qb := (hb23.cell (p := ⟨w.heap.size, 0, none⟩) hSb).trans yb)))
      have q2 := (hb23.cell (p := ⟨wr.heap.size, 2, none⟩) hTb).trans y2
      have HB3 : Hid (Below wa.heap.size wa w3) := below_all HBA.out hb23
      have HBW3 : Hid (Below w.heap.size w w3) := below_all HBW.out hb23
      have HF3' := hide (HFA.out.below hb23)
      have hw23 : wb.heap.size ≤ w2.heap.size := hb2.size
      clear p0 p3 pb q3 qb y0 y2 y3 yb hD hb2' hb2 hb3 hb23 HD1 HAP HDA
      cases hA : applyGo zs B [] (xps.map Prod.fst) with
      | error ek =>
        rw [hA] at hTO
        obtain ⟨rfl, rfl⟩ := hTO
        have HERR : Hid (makeGo fs B (xs.map tgV) = .error (nums a)) := by
          show _ = _
          rw [HMG2.out, makeGo_cons]
          show Except.map _ (match applyGo (findL (fs.map filOf) (nums a)) B [] (xps.map Prod.fst) with | .error _ => _ | .ok d => _) = _
          rw [HFE.out, hA]; rfl
        clear HMG2 hA HFE q2
        go_wp2_with fail
        go_quiet (fail)
        have HQ : Hid (Below w3.heap.size w3 (w3.drewN nq)) := below_drewN (Below.refl _ _) nq
        have p0 := (HQ.out.cell (p := ⟨wr.heap.size, 0, none⟩) (World.block_lt_of_cell? w3 _ q0)).trans q0
        have HBQ : Hid (Below w.heap.size w (w3.drewN nq)) := below_all HBW3.out HQ.out
        clear q0 HQ
        generalize w3.drewN nq = w4 at *
        go_wp2_with fail
        go_region
        go_wp2_with fail
        go_ret2
        refine ⟨_, _, rfl, makQ_bad HERR.out (by first | exact cell_new rfl rfl | (simp; done)) (by first | exact cell_new rfl rfl | (simp; done)), ?_⟩
        first
        | exact (below_all HBQ.out ((Below.refl _ _).alloc (Nat.le_refl _) _)).drew
        | exact below_all HBQ.out (((Below.refl _ _).drew).alloc (Nat.le_refl _) _)
        | exact below_all HBQ.out ((Below.refl _ _).alloc (Nat.le_refl _) _)
      | ok dd =>
        rw [hA] at hTO
        obtain ⟨hown, rfl⟩ := hTO
        obtain ⟨hdb, hdl⟩ := apply_small (HZB.out) (xps.map Prod.fst) [] dd (fun t ht => by
          obtain ⟨p, hp, rfl⟩ := List.mem_map.1 ht
          exact HBY.out p hp) (fun z hz => by cases hz) (by simp) hA
        obtain ⟨uo, ub, uc, rfl, huo, hDA⟩ := own_dataAt hown
        have HOWN := hide hown
        have HDG : Hid (∀ q, Calls Tryz.prog 124 #[.slice uo dd.length uc] (w3.drewN q) fun e w' => e = .returned (.int .u64 (digestOf dd)) ∧ w' = w3.drewN q) := fun q => digest_opt uo ub uc dd _ (by omega) hdb (hDA.below (below_drewN (Below.refl _ _) q))
        have HNB : Hid (nums (bytesOf dd) = dd) := nums_bytesOf hdb
        by_cases hdg : digestOf dd = d
        · have HSTEP : Hid (makeGo fs B (xs.map tgV) = (makeGo fs B ((xs.drop (k + 1)).map tgV)).map ((ps ++ [(a, bytesOf dd, Value.slice uo dd.length uc)]).map (fun p => (nums p.1, nums p.2.1)) ++ ·)) := by
            show _ = _
            rw [HMG2.out, makeGo_cons]
            show Except.map _ (match applyGo (findL (fs.map filOf) (nums a)) B [] (xps.map Prod.fst) with | .error _ => _ | .ok d' => if digestOf d' = d then _ else _) = _
            rw [HFE.out, hA]
            simp only
            rw [if_pos hdg]
            cases makeGo fs B ((xs.drop (k + 1)).map tgV) with
            | error n => rfl
            | ok l =>
              show Except.ok (ps.map (fun p => (nums p.1, nums p.2.1)) ++ (nums a, dd) :: l) = Except.ok ((ps ++ [(a, bytesOf dd, Value.slice uo dd.length uc)]).map (fun p => (nums p.1, nums p.2.1)) ++ l)
              rw [List.map_append, List.append_assoc]
              show _ = Except.ok (ps.map (fun p => (nums p.1, nums p.2.1)) ++ ((nums a, nums (bytesOf dd)) :: l))
              rw [HNB.out]
          subst hdg
          clear HMG2 hA HFE hown hDA huo hdb
          generalize digestOf dd = D at *
          generalize hddn : dd.length = dn at *
          have HDN := hide hddn
          clear hddn
          go_wp2_with fail
          go_quiet ((go_at_call 124; refine Calls.quiet_of_same (HDG.out _)))
          have HQ : Hid (Below w3.heap.size w3 (w3.drewN nq)) := below_drewN (Below.refl _ _) nq
          have p0 := (HQ.out.cell (p := ⟨wr.heap.size, 0, none⟩) (World.block_lt_of_cell? w3 _ q0)).trans q0
          have HBQ : Hid (Below wa.heap.size wa (w3.drewN nq)) := below_all HB3.out HQ.out
          have HFQ := hide (HF3'.out.below HQ.out)
          have HOQ := hide (ownsRow_below HOWN.out HQ.out)
          clear q0 q2 HQ HDG HF3' HOWN
          generalize w3.drewN nq = w4 at *
          go_wp2_with (at_builtin; refine wpList_append_own_at _ rfl (.tmp 47) (.tmp 53) 60 rfl wa.heap.size 69 i0 (.agg #[.string ⟨#[]⟩, .slice none 0 0]) 2 40 Tryz.underlying60 hi z0 z1 z2 rfl (by decide) _ ps.length (fcells ps) rfl (HFQ.out.row.alloc _) ⟨w4.heap.size, 0, none⟩ 1 1 [.string a, .slice uo dn uc] rfl rfl ?ka ?kb ?kc ?kd ?ke ?kf)
          case ka =>
            intro j y hy
            match j, hy with
            | 0, hy => simp at hy; subst hy; simp [Addr.add]
            | 1, hy => simp at hy; subst hy; simp [Addr.add]
          case kb => intro y hy; simp at hy; rcases hy with rfl | rfl <;> rfl
          case kc => unfold maxLen; omega
          case kd => omega
          case ke => have := HBQ.out.size; simp; omega
          case kf =>
            intro v9 w9 hown9 hgrow9 _ hloc9
            have hgg := (World.grownBy_alloc w4 (.cells #[.string a, .slice uo dn uc] 69) u6.ownBlock).trans hgrow9
            have HB9 : Hid (Below wa.heap.size wa w9) := HBQ.out.grown hgg HBQ.out.size (fun j hj => (HFR.out.row.lt j hj).1)
            have HF9 : Hid (FileRow w9 wa.heap.size v9 (ps ++ [(a, bytesOf dd, Value.slice uo dn uc)])) := by
              refine HFQ.out.push a (bytesOf dd) (.slice uo dn uc) (ownsRow_base (by rw [HNB.out, HDN.out]; exact HOQ.out) (by omega)) (fun p hp q q' hq hq' => ?_) (fun q hq e => ?_) (by rw [hpl]; exact hown9) hgg ?_
              · have h1 := ((HFR.out.data p hp).lt q hq).2
                have h2 := (HOQ.out.lt q' hq').1
                omega
              · have h1 := (HOQ.out.lt q hq).1
                have h2 := (HFR.out.row.lt q e).2
                omega
              · rcases hloc9 with h | h
                · exact .inl h
                · exact .inr ⟨_, by simp, h⟩
            clear hown9 hgrow9 hloc9 hgg p0 HFQ HOQ HBQ
            go_wp2_with fail
            go_roundw
            case rel => exact ⟨k + 1, _, by omega, by go_num, by simp [hpl], HF9.out, HSTEP.out, HB9.out⟩
            case measure => simp [intOf]; omega
        · have HERR : Hid (makeGo fs B (xs.map tgV) = .error (nums a)) := by
            show _ = _
            rw [HMG2.out, makeGo_cons]
            show Except.map _ (match applyGo (findL (fs.map filOf) (nums a)) B [] (xps.map Prod.fst) with | .error _ => _ | .ok d' => if digestOf d' = d then _ else _) = _
            rw [HFE.out, hA]
            simp only
            rw [if_neg hdg]; rfl
          clear HMG2 hA HFE hown hDA huo hdb HOWN HNB
          generalize digestOf dd = D at *
          generalize hddn : dd.length = dn at *
          clear hddn
          go_wp2_with fail
          go_quiet ((go_at_call 124; refine Calls.quiet_of_same (HDG.out _)))
          have HQ : Hid (Below w3.heap.size w3 (w3.drewN nq)) := below_drewN (Below.refl _ _) nq
          have p0 := (HQ.out.cell (p := ⟨wr.heap.size, 0, none⟩) (World.block_lt_of_cell? w3 _ q0)).trans q0
          have HBQ : Hid (Below w.heap.size w (w3.drewN nq)) := below_all HBW3.out HQ.out
          clear q0 q2 HQ HDG
          generalize w3.drewN nq = w4 at *
          go_wp2_with fail
          go_region
          go_wp2_with fail
          go_ret2
          refine ⟨_, _, rfl, makQ_bad HERR.out (by first | exact cell_new rfl rfl | (simp; done)) (by first | exact cell_new rfl rfl | (simp; done)), ?_⟩
          first
          | exact (below_all HBQ.out ((Below.refl _ _).alloc (Nat.le_refl _) _)).drew
          | exact below_all HBQ.out (((Below.refl _ _).drew).alloc (Nat.le_refl _) _)
          | exact below_all HBQ.out ((Below.refl _ _).alloc (Nat.le_refl _) _)
    · have hkn : k = xs.length := by omega
      have HOK : Hid (makeGo fs B (xs.map tgV) = .ok (ps.map fun p => (nums p.1, nums p.2.1))) := by
        show _ = _
        rw [HMG.out, hkn, List.drop_of_length_le (Nat.le_refl _)]
        show Except.ok (_ ++ []) = _
        rw [List.append_nil]
      have HB2 : Hid (Below w.heap.size w wr) := below_all HB1.out HBr.out
      clear HMG
      go_wp2_with fail
      go_ret2
      exact ⟨_, _, rfl, makQ_ok HOK.out (HFR.out.base (by omega)), HB2.out⟩
end Go.Proofs.YtbhccdedcoajmaaGreatDoor
