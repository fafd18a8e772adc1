import Derived.Test.YtbhccdedcoajmaaGreatDoorPTokenM
import Derived.Test.YtbhccdedcoajmaaGreatDoorApply
namespace Go.Proofs.YtbhccdedcoajmaaGreatDoor
open Go.RowKit

set_option maxRecDepth 10000 in
set_option maxHeartbeats 400000 in
theorem psize_any (t : Tok) (da : Option Addr) (dc m old B : Nat) (hm : t.data.length = m) (hB1 : 1 ≤ B) (hB2 : B ≤ 64) (ho : old ≤ 300) (hS : Sml t) (hf : fitsT (chunks old B) t) (w : World) :
    Calls Tryz.prog 174 #[.agg #[.int .i64 t.block, .int .i64 t.count, .slice da m dc], .int .i64 old, .int .i64 B] w fun e w' => ∃ x : Nat, e = .returned (.int .i64 x) ∧ (x : Int) = madeP old B t ∧ x ≤ 300 ∧ Below w.heap.size w w' := by
  obtain ⟨_, h255, _, _, _, _⟩ := hS
  have HB0 : Hid (∀ o, Below w.heap.size w (w.alloc o)) := fun o => (Below.refl _ _).alloc (Nat.le_refl _) _
  by_cases hz : t.count = 0
  · have HV : Hid ((m : Int) = madeP old B t ∧ m ≤ 300) := ⟨by unfold madeP; rw [if_pos hz, hm], by omega⟩
    clear hm
    go_enter Tryz.func174, Tryz.ntmps174
    go_wp2_with fail
    go_ret
    exact ⟨m, rfl, HV.out.1, HV.out.2, HB0.out _⟩
  · obtain ⟨bk, hbk⟩ : ∃ bk : Nat, t.block = bk := ⟨t.block.toNat, by omega⟩
    obtain ⟨ct, hct⟩ : ∃ ct : Nat, t.count = ct := ⟨t.count.toNat, by omega⟩
    have hle : bk + ct ≤ chunks old B := by have := (hf.2.2.2 (by omega)).2; omega
    have hM := chunks_le (n := old) hB1
    have hlt : bk * B < old := (lt_chunks hB1).1 (by omega)
    have hq : bk * B ≤ (bk + ct) * B := Nat.mul_le_mul_right _ (by omega)
    have HV : Hid (((min ((bk + ct) * B) old - bk * B : Nat) : Int) = madeP old B t ∧ min ((bk + ct) * B) old - bk * B ≤ 300) := by
      refine ⟨?_, by omega⟩
      unfold madeP
      rw [if_neg hz, hbk, hct]
      have e1 : ((bk : Int) + (ct : Int)) * (B : Int) = (((bk + ct) * B : Nat) : Int) := by simp
      have e2 : (bk : Int) * (B : Int) = ((bk * B : Nat) : Int) := by simp
      rw [e1, e2]
      omega
    have HS := hide (fun W => span_any B bk ct old (bk * B) ((bk + ct) * B) (.slice da m dc) hB1 hB2 rfl rfl (by omega) (by omega) ho W)
    have hpz : bk * B ≤ min ((bk + ct) * B) old := by omega
    have hzo : min ((bk + ct) * B) old ≤ 300 := by omega
    clear hm hf hlt hq
    rw [hbk, hct]
    have hct0 : ((ct : Int) == 0) = false := by simp; omega
    clear hbk hct hz hle
    generalize min ((bk + ct) * B) old = y at *
    generalize bk * B = x at *
    go_enter Tryz.func174, Tryz.ntmps174
    go_wp2_with fail
    refine (HS.out _).mono ?_
    rintro e w1 ⟨rfl, hb1⟩
    have HB1 : Hid (Below w.heap.size w w1) := below_all (HB0.out _) hb1
    have hsub : ((y : Int) - (x : Int)) = ((y - x : Nat) : Int) := by omega
    clear hb1
    go_wp2_with fail
    go_ret
    exact ⟨y - x, by simp, HV.out.1, HV.out.2, HB1.out⟩

/-- the tokens of a target -/
def tokensP (old B : Nat) (size : Int) (l : List Int) : Option (List Tok × List Int) :=
  (numP 2 l).bind fun q => (toksP old B q.1.toNat q.2).bind fun q2 => if (q2.1.map (madeP old B)).sum = size then some q2 else none
theorem toks_step (old B m : Nat) (l : List Int) : toksP old B (m + 1) l = (tokP old B l).bind fun q => (toksP old B m q.2).map fun q2 => (q.1 :: q2.1, q2.2) := by
  conv => lhs; unfold toksP
  simp only [Option.bind_eq_bind]
  congr 1
  funext q
  cases toksP old B m q.2 <;> rfl
theorem tok_raw (old B : Nat) {l : List Int} (hl : Bytes l) : tokP old B l = (rawP l).bind fun q => if fitsB (chunks old B) q.1 then some q else none := by
  unfold tokP rawP
  simp only [Option.bind_eq_bind]
  cases hk : numP 1 l with
  | none => rfl
  | some q =>
    simp only [Option.bind_some]
    by_cases h0 : q.1 = 0
    · rw [if_pos h0, if_pos h0]
      cases h2 : numP 1 q.2 with
      | none => rfl
      | some q2 =>
        simp only [Option.bind_some]
        by_cases h3 : 0 < q2.1
        · rw [if_pos h3]
          cases h4 : txtP q2.1.toNat q2.2 with
          | none => rfl
          | some q3 => simp [fitsB]
        · rw [if_neg h3]; rfl
    · rw [if_neg h0, if_neg h0]
      by_cases h1 : q.1 = 1
      · rw [if_pos h1, if_pos h1]
        cases h2 : numP 2 q.2 with
        | none => rfl
        | some q2 =>
          simp only [Option.bind_some]
          have hnn : 0 ≤ q2.1 := by
            have hq : Bytes q.2 := by
              unfold numP at hk
              split at hk
              · cases hk
              · cases hk
                exact hl.drop 1
            unfold numP at h2
            split at h2
            · cases h2
            · cases h2
              exact (getN_bd (hq.take 2)).1
          cases h3 : numP 1 q2.2 with
          | none => rfl
          | some q3 =>
            simp only [Option.bind_some]
            by_cases h4 : 0 < q3.1
            · rw [if_pos h4]
              simp only [Option.bind_some]
              have e : fitsB (chunks old B) ⟨q2.1, q3.1, []⟩ = decide (q2.1 + q3.1 ≤ chunks old B) := by
                unfold fitsB
                rw [if_neg (show ¬ q3.1 = 0 by omega)]
                simp [hnn, Int.le_of_lt h4]
              rw [e]
              by_cases h5 : q2.1 + q3.1 ≤ chunks old B
              · simp [h4, h5]
              · simp [h5]
            · rw [if_neg (fun h => h4 h.1), if_neg h4]; rfl
      · rw [if_neg h1, if_neg h1]; rfl

theorem TokRow.keepR {w w' : World} {base r : Nat} {v : Value} {ps : List (Tok × Value)} (h : TokRow w base v ps) (g : w.grownBy w' (some r)) (hr : r < base) : TokRow w' base v ps :=
  ⟨row_kept h.row g hr, fun p hp => row_kept (h.data p hp) g hr, h.apart, h.off⟩
/-- what reading a target's tokens leaves -/
def TksQ (w : World) (r b cap : Nat) (s : ByteArray) (ok : Bool) (p old B size : Nat) (v : Value) (w' : World) : Prop :=
  ∃ (p' : Nat) (ok' : Bool) (ps : List (Tok × Value)), PRd w' r b cap s p' ok' ∧ p' ≤ s.size ∧ TokRow w' w.heap.size v ps ∧ (∀ q ∈ ps, Sml q.1) ∧ ps.length ≤ 65535 ∧
    (ok' = true → ok = true ∧ tokensP old B size ((nums s).drop p) = some (ps.map Prod.fst, (nums s).drop p')) ∧ (ok' = false → ok = false ∨ tokensP old B size ((nums s).drop p) = none) ∧ w.grownBy w' (some r)

set_option maxRecDepth 10000 in
set_option maxHeartbeats 1000000 in
theorem ptokens_any (r b cap p old B size : Nat) (s : ByteArray) (ok : Bool) (w : World) (hs : s.size ≤ 70000) (hcap : s.size ≤ cap) (hp : p ≤ s.size) (hR : PRd w r b cap s p ok) (hbr : b ≠ r) (hb : b < w.heap.size) (hc : ∀ k (h : k < (nums s).length), w.cell? ⟨b, 0 + k, none⟩ = some (.int .u8 (nums s)[k]))
    (hok : ok = true → old ≤ 300 ∧ 1 ≤ B ∧ B ≤ 64) (hsz : size ≤ 65535) :
    Calls Tryz.prog 168 #[.pointer (some ⟨r, 0, none⟩), .int .i64 size, .int .i64 old, .int .i64 B] w fun e w' => ∃ v, e = .returned v ∧ TksQ w r b cap s ok p old B size v w' := by
  obtain ⟨i0, hi, z0, z1, z2⟩ := info_parts Tryz.info100
  have hlr := hR.lt
  have HN := hide (pnumber_any r b cap p 2 s ok w hs hcap hp (by omega) hR hbr hb hc)
  have HC := hide hc
  clear hR hc
  go_enter Tryz.func168, Tryz.ntmps168
  go_wp2_with fail
  refine HN.out.mono ?_
  rintro e w1 ⟨n, rfl, hn, _, p1, ok1, hR1, hS1, hv1, _, _, hno1, hg1⟩
  have HR1 := hide hR1
  have HG1 := hide hg1
  have hp1 := hS1.le hp
  have HP1 := hide hp1
  cases ok1 with
  | false =>
    obtain rfl : n = 0 := by have := hno1 rfl; omega
    have HNO : Hid (ok = false ∨ tokensP old B size ((nums s).drop p) = none) := by
      rcases hS1 with ⟨_, _, _, h⟩ | ⟨_, _, h | h⟩
      · cases h
      · exact .inl h
      · right
        unfold tokensP
        rw [num_no h hp]; rfl
    clear hR1 hS1 hv1 hno1 hg1 HN hp1
    go_wp2_with fail
    go_loopw [9, 10, 14] (fun v9 v10 v14 wr => v9 = .slice none 0 0 ∧ v10 = .int .i64 0 ∧ v14 = .int .i64 0 ∧ wr = w1) (fun _ _ _ _ => 0)
    case atStart => exact ⟨rfl, rfl, rfl, rfl⟩
    case round =>
      obtain ⟨rfl, rfl, rfl, rfl⟩ := hrel
      go_wp2_with fail
      refine (pmust_any r b cap p1 s _ false _ _ HR1.out).mono ?_
      rintro e w2 ⟨rfl, hR2, hg2⟩
      rw [Bool.false_and] at hR2
      have HF : Hid (TksQ w r b cap s ok p old B size (.slice none 0 0) w2) := ⟨p1, false, [], hR2, HP1.out, TokRow.nil _ _, (fun q hq => by simp at hq), by simp, (fun h => by cases h), (fun _ => HNO.out), HG1.out.trans hg2⟩
      clear hR2 hg2
      go_wp2_with fail
      go_ret
      exact ⟨_, rfl, HF.out⟩
  | true =>
    have hok1 : ok = true ∧ p + 2 ≤ s.size ∧ p1 = p + 2 := by
      rcases hS1 with ⟨h1, h2, h3, _⟩ | ⟨h, _⟩
      · exact ⟨h1, h2, h3⟩
      · cases h
    obtain ⟨ho300, hB1, hB2⟩ := hok hok1.1
    have HALL : Hid (tokensP old B size ((nums s).drop p) = (toksP old B n ((nums s).drop p1)).bind fun q2 => if (q2.1.map (madeP old B)).sum = size then some q2 else none) := by
      show _ = _
      unfold tokensP
      rw [num_at hok1.2.1, ← hv1 rfl, hok1.2.2]
      simp
    obtain ⟨rfl, _, _⟩ := hok1
    clear hR1 hS1 hv1 hno1 hg1 HN hok hp1
    go_wp2_with fail
    go_loopw [9, 10, 14] (fun v9 v10 v14 wr => ∃ (k q x : Nat) (ps : List (Tok × Value)), k ≤ n ∧ v14 = .int .i64 k ∧ v10 = .int .i64 x ∧ x ≤ 300 * k ∧ Hid (ps.length = k) ∧ Hid (q ≤ s.size) ∧ Hid (PRd wr r b cap s q true) ∧ Hid (TokRow wr w.heap.size v9 ps) ∧ Hid (∀ y ∈ ps, Sml y.1) ∧ Hid (w.grownBy wr (some r)) ∧ Hid (((ps.map Prod.fst).map (madeP old B)).sum = x) ∧
      Hid (toksP old B n ((nums s).drop p1) = (toksP old B (n - k) ((nums s).drop q)).map fun q => (ps.map Prod.fst ++ q.1, q.2))) (fun _ _ v14 _ => n - (intOf v14).toNat)
    case atStart => exact ⟨0, p1, 0, [], Nat.zero_le _, rfl, rfl, by omega, rfl, HP1.out, HR1.out, TokRow.nil _ _, (fun q hq => by simp at hq), HG1.out, (by show _ = _; simp), (by show _ = _; simp)⟩
    case round =>
      clear HR1 HG1 HP1
      obtain ⟨k, q, x, ps, hk, rfl, rfl, hx, HPL, HQ, HRr, HTr, HSr, HGr, HXr, HEr⟩ := hrel
      by_cases hlt : k < n
      · have hbw : b < wr.heap.size := Nat.lt_of_lt_of_le hb HGr.out.size
        have hwr : w.heap.size ≤ wr.heap.size := HGr.out.size
        have HTK := hide (ptoken_any r b cap q s true wr hs hcap HQ.out HRr.out hbr hbw (cells_grow hbr HGr.out HC.out))
        go_wp2_with fail
        refine HTK.out.mono ?_
        rintro e w2 ⟨t, dv, rfl, q2, ok2, hR2, hq2, hsm, hdv, hyes, hno, hg2⟩
        obtain ⟨da, dc, rfl⟩ : ∃ da dc, dv = .slice da t.data.length dc := by
          rcases own_shape hdv with ⟨h, hz⟩ | ⟨g, c, h, _⟩
          · exact ⟨none, 0, by rw [h, hz]; rfl⟩
          · exact ⟨_, c, h⟩
        obtain ⟨m, hm⟩ : ∃ m, t.data.length = m := ⟨_, rfl⟩
        rw [hm] at hdv ⊢
        have HM := hide hm
        have HFI := hide (fun W => fits_any t da dc m old B hm (by have := hsm.2.1; omega) ho300 hB1 hB2 (by have := hsm.2.2; constructor <;> omega) (by have := hsm.2.2; constructor <;> omega) W)
        have HR2 := hide hR2
        have HQ2 := hide hq2
        have HSM := hide hsm
        have HDV := hide hdv
        have HG2 := hide hg2
        have HT2 : Hid (TokRow w2 w.heap.size u9 ps) := HTr.out.keepR hg2 hlr
        have HSEM : Hid ((ok2 = true → rawP ((nums s).drop q) = some (t, (nums s).drop q2)) ∧ (ok2 = false → rawP ((nums s).drop q) = none)) := ⟨fun h => (hyes h).2, fun h => (hno h).resolve_left (by simp)⟩
        obtain ⟨o, hho⟩ : ∃ o, o = Obj.cells #[.int .i64 t.block, .int .i64 t.count, .slice da m dc] 100 := ⟨_, rfl⟩
        have hx0 : (w2.alloc o).cell? ⟨w2.heap.size, 0, none⟩ = some (.int .i64 t.block) := by rw [hho]; exact cell_new rfl rfl
        have hx1 : (w2.alloc o).cell? ⟨w2.heap.size, 1, none⟩ = some (.int .i64 t.count) := by rw [hho]; exact cell_new rfl rfl
        have hx2 : (w2.alloc o).cell? ⟨w2.heap.size, 2, none⟩ = some (.slice da m dc) := by rw [hho]; exact cell_new rfl rfl
        have HA : Hid (Below w2.heap.size w2 (w2.alloc o)) := (Below.refl _ _).alloc (Nat.le_refl _) _
        rw [hho] at hx0 hx1 hx2 HA
        clear hho hR2 hq2 hsm hdv hyes hno hg2 hm HTK
        have hw2 : wr.heap.size ≤ w2.heap.size := HG2.out.size
        go_wp2_with fail
        generalize hWA : w2.alloc (.cells #[.int .i64 t.block, .int .i64 t.count, .slice da m dc] 100) = wa at *
        clear hWA
        have hwa : w2.heap.size < wa.heap.size := World.block_lt_of_cell? wa _ hx0
        refine (HFI.out _).mono ?_
        rintro e w3 ⟨rfl, hb3⟩
        have HB3 : Hid (Below w2.heap.size w2 w3) := below_all HA.out hb3
        have hy0 := (hb3.cell (p := ⟨w2.heap.size, 0, none⟩) hwa).trans hx0
        have hy1 := (hb3.cell (p := ⟨w2.heap.size, 1, none⟩) hwa).trans hx1
        have hy2 := (hb3.cell (p := ⟨w2.heap.size, 2, none⟩) hwa).trans hx2
        have hw3 : w2.heap.size < w3.heap.size := by have := hb3.size; omega
        have HR3 := hide (HR2.out.below HB3.out)
        clear hb3 hx0 hx1 hx2
        cases hfb : fitsB (chunks old B) t with
        | false =>
          have HNONE : Hid (tokensP old B size ((nums s).drop p) = none) := by
            show _ = _
            rw [HALL.out, HEr.out, show n - k = (n - (k + 1)) + 1 by omega, toks_step, tok_raw old B ((nums_bytes s).drop q)]
            cases ok2 with
            | false => rw [HSEM.out.2 rfl]; rfl
            | true => rw [HSEM.out.1 rfl]; simp [hfb]
          clear hfb
          go_wp2_with fail
          refine (pmust_any r b cap q2 s _ ok2 false w3 HR3.out).mono ?_
          rintro e w4 ⟨rfl, hR4, hg4⟩
          rw [Bool.and_false] at hR4
          obtain ⟨ev, hev, _, _, c2, _⟩ := hR4.open
          have HF : Hid (TksQ w r b cap s true p old B size (.slice none 0 0) w4) := ⟨q2, false, [], hR4, HQ2.out, TokRow.nil _ _, (fun q hq => by simp at hq), by simp, (fun h => by cases h), (fun _ => .inr HNONE.out), ((HGr.out.trans HG2.out).trans (grown_of_below HB3.out)).trans hg4⟩
          obtain ⟨fb, rfl⟩ := hev
          clear hR4 hg4
          go_wp2_with fail
          go_ret
          exact ⟨_, rfl, HF.out⟩
        | true =>
          have HFB := hide hfb
          clear hfb
          go_wp2_with fail
          refine (pmust_any r b cap q2 s _ ok2 true w3 HR3.out).mono ?_
          rintro e w4 ⟨rfl, hR4, hg4⟩
          rw [Bool.and_true] at hR4
          obtain ⟨ev, hev, _, _, c2, _⟩ := hR4.open
          have HR4 := hide hR4
          have HG4 := hide hg4
          have hw4 : w3.heap.size ≤ w4.heap.size := hg4.size
          cases ok2 with
          | false =>
            have HNONE : Hid (tokensP old B size ((nums s).drop p) = none) := by
              show _ = _
              rw [HALL.out, HEr.out, show n - k = (n - (k + 1)) + 1 by omega, toks_step, tok_raw old B ((nums_bytes s).drop q), HSEM.out.2 rfl]; rfl
            have HF : Hid (TksQ w r b cap s true p old B size (.slice none 0 0) w4) := ⟨q2, false, [], hR4, HQ2.out, TokRow.nil _ _, (fun q hq => by simp at hq), by simp, (fun h => by cases h), (fun _ => .inr HNONE.out), ((HGr.out.trans HG2.out).trans (grown_of_below HB3.out)).trans hg4⟩
            obtain ⟨fb, rfl⟩ := hev
            clear hR4 hg4
            go_wp2_with fail
            go_ret
            exact ⟨_, rfl, HF.out⟩
          | true =>
            obtain rfl : ev = .nilIface := hev
            have hrb : r ≠ w2.heap.size := by omega
            have y0 := hg4.cell hy0 (by simp; exact Ne.symm hrb)
            have y1 := hg4.cell hy1 (by simp; exact Ne.symm hrb)
            have y2 := hg4.cell hy2 (by simp; exact Ne.symm hrb)
            have keepT : ∀ {W W' : World}, TokRow W w.heap.size u9 ps → W.grownBy W' (some r) → TokRow W' w.heap.size u9 ps := fun h g => h.keepR g hlr
            have HT4 : Hid (TokRow w4 w.heap.size u9 ps) := keepT (HT2.out.below HB3.out) hg4
            have HD4 : Hid (w4.ownsRow wr.heap.size 5 1 (.slice da m dc) m (u8s t.data)) := row_kept (ownsRow_below HDV.out HB3.out) hg4 (by omega)
            have HROW : Hid (w4.ownsRow w.heap.size 100 3 u9 k (tcells ps)) := by have := HT4.out.row; rw [HPL.out] at this; exact this
            have HE2 : Hid (toksP old B n ((nums s).drop p1) = (toksP old B (n - (k + 1)) ((nums s).drop q2)).map fun q => ((ps ++ [(t, Value.slice da m dc)]).map Prod.fst ++ q.1, q.2)) := by
              show _ = _
              rw [HEr.out, show n - k = (n - (k + 1)) + 1 by omega, toks_step, tok_raw old B ((nums_bytes s).drop q), HSEM.out.1 rfl]
              simp only [Option.bind_some, HFB.out, if_true, Option.map_map]
              congr 1
              funext q
              simp
            have hfit := fitsB_iff.1 HFB.out
            have HSI := hide (fun W => psize_any t da dc m old B HM.out hB1 hB2 ho300 HSM.out hfit W)
            clear hR4 hg4 hy0 hy1 hy2 hfit
            go_wp2_with (at_builtin; refine wpList_append_own_at _ rfl (.tmp 29) (.tmp 31) 96 rfl w.heap.size 100 i0 (.agg #[.int .i64 0, .int .i64 0, .slice none 0 0]) 3 40 Tryz.underlying96 hi z0 z1 z2 rfl (by decide) _ k (tcells ps) rfl (HROW.out.alloc _) ⟨w4.heap.size, 0, none⟩ 1 1 [.int .i64 t.block, .int .i64 t.count, .slice da m dc] rfl rfl ?ka ?kb ?kc ?kd ?ke ?kf)
            case ka =>
              intro j y hy
              match j, hy with
              | 0, hy => simp at hy; subst hy; simp [Addr.add]
              | 1, hy => simp at hy; subst hy; simp [Addr.add]
              | 2, hy => simp at hy; subst hy; simp [Addr.add]
            case kb => intro y hy; simp at hy; rcases hy with rfl | rfl | rfl <;> rfl
            case kc => unfold maxLen; omega
            case kd => omega
            case ke => simp; omega
            case kf =>
              intro v5 w5 hown5 hgrow5 _ hloc5
              have hgg := (World.grownBy_alloc w4 (.cells #[.int .i64 t.block, .int .i64 t.count, .slice da m dc] 100) u9.ownBlock).trans hgrow5
              have hrow : ∀ j, u9.ownBlock = some j → w.heap.size ≤ j ∧ j < wr.heap.size := fun j hj => HTr.out.row.lt j hj
              have HG5 : Hid (w.grownBy w5 (some r)) := grown_comp (((HGr.out.trans HG2.out).trans (grown_of_below HB3.out)).trans HG4.out) hgg (fun j hj => (hrow j hj).1)
              have HR5 : Hid (PRd w5 r b cap s q2 true) := HR4.out.grown hgg (fun e => by have := (hrow r e).1; omega)
              have HT5 : Hid (TokRow w5 w.heap.size v5 (ps ++ [(t, Value.slice da m dc)])) := by
                refine HT4.out.push t (.slice da m dc) ?_ ?_ ?_ ?_ hgg ?_
                · have := ownsRow_base HD4.out hwr
                  rw [HM.out]; exact this
                · intro y hy g g' hg1 hg2'
                  have := ((HTr.out.data y hy).lt g hg1).2
                  have := (HD4.out.lt g' hg2').1
                  omega
                · intro g hg1 hg2'
                  have := (hrow g hg2').2
                  have := (HD4.out.lt g hg1).1
                  omega
                · rw [HPL.out]; exact hown5
                · exact hloc5.imp id fun e => ⟨_, by simp, e⟩
              have hne : ∀ j, u9.ownBlock = some j → j ≠ w2.heap.size := fun j hj => by have := (hrow j hj).2; omega
              have v0 : w5.cell? ⟨w2.heap.size, 0, none⟩ = some (.int .i64 t.block) := hgg.cell y0 (fun e => hne _ e.symm rfl)
              have v1 : w5.cell? ⟨w2.heap.size, 1, none⟩ = some (.int .i64 t.count) := hgg.cell y1 (fun e => hne _ e.symm rfl)
              have v2 : w5.cell? ⟨w2.heap.size, 2, none⟩ = some (.slice da m dc) := hgg.cell y2 (fun e => hne _ e.symm rfl)
              clear hown5 hgrow5 hloc5 hgg hrow hne y0 y1 y2 c2
              go_wp2_with fail
              refine (HSI.out _).mono ?_
              rintro e w6 ⟨y, rfl, hy, hy300, hb6⟩
              have HG6 : Hid (w.grownBy w6 (some r)) := HG5.out.trans (grown_of_below hb6)
              have HR6 := hide (HR5.out.below hb6)
              have HT6 := hide (HT5.out.below hb6)
              have HX6 : Hid ((((ps ++ [(t, Value.slice da m dc)]).map Prod.fst).map (madeP old B)).sum = ((x + y : Nat) : Int)) := by
                show _ = _
                rw [List.map_append, List.map_append, List.sum_append, HXr.out]
                simp [hy]
              have HS6 : Hid (∀ y ∈ ps ++ [(t, Value.slice da m dc)], Sml y.1) := by
                intro y hy
                rcases List.mem_append.1 hy with h | h
                · exact HSr.out y h
                · simp at h; subst h; exact HSM.out
              have HP6 : Hid ((ps ++ [(t, Value.slice da m dc)]).length = k + 1) := by show _ = _; simp [HPL.out]
              clear hb6 v0 v1 v2 hy
              go_wp2_with fail
              go_roundw
              case rel => exact ⟨k + 1, q2, x + y, _, by omega, by go_num, by go_num, by omega, HP6.out, HQ2.out, HR6.out, HT6.out, HS6.out, HG6.out, HX6.out, HE2.out⟩
              case measure => simp [intOf]; omega
      · have hkn : k = n := by omega
        subst hkn
        have HTS : Hid (tokensP old B size ((nums s).drop p) = if (x : Int) = (size : Int) then some (ps.map Prod.fst, (nums s).drop q) else none) := by
          show _ = _
          rw [HALL.out, HEr.out, Nat.sub_self]
          simp [toksP, ← HXr.out]
        by_cases hxs : x = size
        · subst hxs
          go_wp2_with fail
          refine (pmust_any r b cap q s _ true true wr HRr.out).mono ?_
          rintro e w2 ⟨rfl, hR2, hg2⟩
          have HF : Hid (TksQ w r b cap s true p old B x u9 w2) := ⟨q, true, ps, hR2, HQ.out, HTr.out.keepR hg2 hlr, HSr.out, by have := HPL.out; omega, (fun _ => ⟨rfl, by rw [HTS.out]; simp⟩), (fun h => by cases h), HGr.out.trans hg2⟩
          clear hR2 hg2
          go_wp2_with fail
          go_ret
          exact ⟨_, rfl, HF.out⟩
        · have hd : ((x : Int) == (size : Int)) = false := by simp; omega
          go_wp2_with fail
          refine (pmust_any r b cap q s _ true false wr HRr.out).mono ?_
          rintro e w2 ⟨rfl, hR2, hg2⟩
          have HF : Hid (TksQ w r b cap s true p old B size u9 w2) := ⟨q, false, ps, hR2, HQ.out, HTr.out.keepR hg2 hlr, HSr.out, by have := HPL.out; omega, (fun h => by cases h), (fun _ => .inr (by rw [HTS.out, if_neg (by omega)])), HGr.out.trans hg2⟩
          clear hR2 hg2
          go_wp2_with fail
          go_ret
          exact ⟨_, rfl, HF.out⟩
end Go.Proofs.YtbhccdedcoajmaaGreatDoor
