import Derived.Test.YtbhccdedcoajmaaGreatDoorRTokM
namespace Go.Proofs.YtbhccdedcoajmaaGreatDoor
open Go.RowKit

theorem rcount_any (n B : Nat) (hB1 : 1 ≤ B) (hB2 : B ≤ 64) (hn : n ≤ 300) (w : World) :
    Calls Tryz.prog 105 #[.int .i64 n, .int .i64 B] w fun e w' => e = .returned (.int .i64 (chunks n B)) ∧ w' = w := by
  have hz : ((B : Int) == 0) = false := by simp; omega
  have hz2 : ((B : Int) = 0) = False := by simp; omega
  have h1 : IntKind.i64.wrap ((n : Int) + (B : Int)) = (n : Int) + (B : Int) := by rw [IntKind.wrap_i64]; omega
  have h2 : IntKind.i64.wrap ((n : Int) + (B : Int) - 1) = (n : Int) + (B : Int) - 1 := by rw [IntKind.wrap_i64]; omega
  have hd : ((n : Int) + (B : Int) - 1).tdiv (B : Int) = (chunks n B : Int) := by
    rw [show (n : Int) + (B : Int) - 1 = ((n + B - 1 : Nat) : Int) by omega]
    rw [Int.tdiv_eq_ediv_of_nonneg (by omega)]
    unfold chunks
    simp
  have hM := chunks_le (n := n) hB1
  have h3 : IntKind.i64.wrap (chunks n B : Int) = (chunks n B : Int) := by rw [IntKind.wrap_i64]; omega
  have h4 : ((n : Int) + (B : Int) - 1).tdiv (B : Int) = ((n : Int) + (B : Int) - 1).tdiv (B : Int) := rfl
  clear h4
  go_enter Tryz.func105, Tryz.ntmps105
  go_wp2_with fail
  go_ret
  exact ⟨by simp [*], rfl⟩
end Go.Proofs.YtbhccdedcoajmaaGreatDoor
namespace Go.Proofs.YtbhccdedcoajmaaGreatDoor
open Go.RowKit

theorem Step.stays {s : ByteArray} {p n p' : Nat} {ok' : Bool} (h : Step s false p n p' ok') : ok' = false := by
  rcases h with ⟨h, _⟩ | ⟨h, _⟩
  · cases h
  · exact h

set_option maxHeartbeats 400000 in
theorem rmade_any (old B bk ct : Nat) (hB1 : 1 ≤ B) (hB2 : B ≤ 64) (ho : old ≤ 300) (hc : 0 < ct) (hle : bk + ct ≤ chunks old B) (w : World) :
    Calls Tryz.prog 106 #[.int .i64 old, .int .i64 B, .int .i64 bk, .int .i64 ct] w fun e w' => ∃ x : Nat, e = .returned (.int .i64 x) ∧ (x : Int) = madeP old B ⟨bk, ct, []⟩ ∧ x ≤ 300 ∧ w' = w := by
  have hM := chunks_le (n := old) hB1
  have hlt : bk * B < old := (lt_chunks hB1).1 (by omega)
  have hq : bk * B ≤ (bk + ct) * B := Nat.mul_le_mul_right _ (by omega)
  have hY : (bk + ct) * B ≤ 300 * 64 := Nat.mul_le_mul (by omega) hB2
  have e1 : ((bk : Int) + (ct : Int)) * (B : Int) = (((bk + ct) * B : Nat) : Int) := by simp
  have e2 : (bk : Int) * (B : Int) = ((bk * B : Nat) : Int) := by simp
  have HV : Hid (((min ((bk + ct) * B) old - bk * B : Nat) : Int) = madeP old B ⟨bk, ct, []⟩ ∧ min ((bk + ct) * B) old - bk * B ≤ 300) := by
    refine ⟨?_, by omega⟩
    unfold madeP
    rw [if_neg (by simp; omega)]
    show _ = min (((bk : Int) + (ct : Int)) * (B : Int)) _ - (bk : Int) * (B : Int)
    rw [e1, e2]
    omega
  have h0 : IntKind.i64.wrap ((bk : Int) + (ct : Int)) = (bk : Int) + (ct : Int) := by rw [IntKind.wrap_i64]; omega
  have h1 : IntKind.i64.wrap (((bk : Int) + (ct : Int)) * (B : Int)) = (((bk + ct) * B : Nat) : Int) := by rw [e1, IntKind.wrap_i64]; omega
  have h2 : IntKind.i64.wrap ((bk : Int) * (B : Int)) = ((bk * B : Nat) : Int) := by rw [e2, IntKind.wrap_i64]; omega
  clear e1 e2
  generalize (bk + ct) * B = Y at *
  generalize bk * B = X at *
  by_cases h : old < Y
  · have hm : min Y old = old := by omega
    rw [hm] at HV
    go_enter Tryz.func106, Tryz.ntmps106
    go_wp2_with fail
    go_ret
    exact ⟨old - X, by simp; omega, HV.out.1, HV.out.2, rfl⟩
  · have hm : min Y old = Y := by omega
    rw [hm] at HV
    go_enter Tryz.func106, Tryz.ntmps106
    go_wp2_with fail
    go_ret
    exact ⟨Y - X, by simp; omega, HV.out.1, HV.out.2, rfl⟩

theorem tok_sem0 {s : ByteArray} {old B q q1 q3 q5 k2 : Nat} {ok1 ok3 ok5 : Bool} {t : List Int} (hq : q ≤ s.size) (S1 : Step s true q 1 q1 ok1) (v1 : ok1 = true → (0 : Int) = getN (((nums s).drop q).take 1)) (S3 : Step s ok1 q1 1 q3 ok3) (v3 : ok3 = true → (k2 : Int) = getN (((nums s).drop q1).take 1)) (S5 : Step s (ok3 && decide (0 < k2)) q3 k2 q5 ok5) (v5 : ok5 = true → t = ((nums s).drop q3).take k2) :
    (ok5 = true → tokP old B ((nums s).drop q) = some (⟨0, 0, t⟩, (nums s).drop q5)) ∧ (ok5 = false → tokP old B ((nums s).drop q) = none) := by
  have hq1 := S1.le hq
  have hq3 := S3.le hq1
  unfold tokP
  simp only [Option.bind_eq_bind]
  rcases S1 with ⟨_, a1, rfl, rfl⟩ | ⟨rfl, rfl, h⟩
  · rw [num_at a1, ← v1 rfl]
    simp only [Option.bind_some, if_true]
    rcases S3 with ⟨_, a3, rfl, rfl⟩ | ⟨rfl, rfl, h⟩
    · rw [num_at a3, ← v3 rfl]
      simp only [Option.bind_some, Bool.true_and] at S5 ⊢
      by_cases hk : 0 < k2
      · rw [if_pos (by omega)]
        rw [decide_eq_true hk] at S5
        simp only [Int.toNat_natCast]
        rcases S5 with ⟨_, a5, rfl, rfl⟩ | ⟨rfl, rfl, h⟩
        · rw [txt_at a5]
          exact ⟨fun _ => by rw [v5 rfl]; rfl, fun h => by cases h⟩
        · rcases h with h | h
          · cases h
          · rw [txt_no h hq3]
            exact ⟨fun h => (by cases h), fun _ => rfl⟩
      · rw [if_neg (by omega)]
        rw [decide_eq_false hk] at S5
        rw [S5.stays]
        exact ⟨fun h => (by cases h), fun _ => rfl⟩
    · rcases h with h | h
      · cases h
      · rw [num_no h hq1]
        rw [Bool.false_and] at S5
        rw [S5.stays]
        exact ⟨fun h => (by cases h), fun _ => rfl⟩
  · rcases h with h | h
    · cases h
    · rw [num_no h hq]
      obtain rfl := S3.stays
      rw [Bool.false_and] at S5
      rw [S5.stays]
      exact ⟨fun h => (by cases h), fun _ => rfl⟩
theorem tok_sem1 {s : ByteArray} {old B q q1 q3 q4 kd fr ct : Nat} {ok1 ok3 ok4 ok5 : Bool} (hq : q ≤ s.size) (hkd : kd ≠ 0) (S1 : Step s true q 1 q1 ok1) (v1 : ok1 = true → (kd : Int) = getN (((nums s).drop q).take 1)) (S3 : Step s (ok1 && decide (kd < 2)) q1 2 q3 ok3) (v3 : ok3 = true → (fr : Int) = getN (((nums s).drop q1).take 2)) (S4 : Step s ok3 q3 1 q4 ok4) (v4 : ok4 = true → (ct : Int) = getN (((nums s).drop q3).take 1))
    (h5 : ok5 = true → ok4 = true ∧ 0 < ct ∧ fr + ct ≤ chunks old B) (h5' : ok5 = false → ok4 = false ∨ ¬ (0 < ct ∧ fr + ct ≤ chunks old B)) :
    (ok5 = true → tokP old B ((nums s).drop q) = some (⟨fr, ct, []⟩, (nums s).drop q4)) ∧ (ok5 = false → tokP old B ((nums s).drop q) = none) := by
  have hq1 := S1.le hq
  have hq3 := S3.le hq1
  have off : ok4 = false → ∀ x : Option (Tok × List Int), x = none → (ok5 = true → x = some (⟨fr, ct, []⟩, (nums s).drop q4)) ∧ (ok5 = false → x = none) := fun h x hx => ⟨fun h' => (by have := (h5 h').1; rw [h] at this; cases this), fun _ => hx⟩
  unfold tokP
  simp only [Option.bind_eq_bind]
  rcases S1 with ⟨_, a1, rfl, rfl⟩ | ⟨rfl, rfl, h⟩
  · rw [num_at a1, ← v1 rfl]
    simp only [Option.bind_some, Bool.true_and] at S3 ⊢
    rw [if_neg (by omega)]
    by_cases h2 : kd < 2
    · rw [if_pos (by omega)]
      rw [decide_eq_true h2] at S3
      rcases S3 with ⟨_, a3, rfl, rfl⟩ | ⟨rfl, rfl, h⟩
      · rw [num_at a3, ← v3 rfl]
        simp only [Option.bind_some]
        rcases S4 with ⟨_, a4, rfl, rfl⟩ | ⟨rfl, rfl, h⟩
        · rw [num_at a4, ← v4 rfl]
          simp only [Option.bind_some]
          refine ⟨fun h => ?_, fun h => ?_⟩
          · have := (h5 h).2
            rw [if_pos ⟨by omega, by omega⟩]
          · have := (h5' h).resolve_left (by simp)
            rw [if_neg (fun h => this ⟨by omega, by omega⟩)]
        · refine off rfl _ ?_
          rcases h with h | h
          · cases h
          · rw [num_no h hq3]; rfl
      · refine off S4.stays _ ?_
        rcases h with h | h
        · cases h
        · rw [num_no h hq1]; rfl
    · rw [if_neg (by omega)]
      rw [decide_eq_false h2] at S3
      obtain rfl := S3.stays
      exact off S4.stays _ rfl
  · rw [Bool.false_and] at S3
    obtain rfl := S3.stays
    refine off S4.stays _ ?_
    rcases h with h | h
    · cases h
    · rw [num_no h hq]; rfl
end Go.Proofs.YtbhccdedcoajmaaGreatDoor
namespace Go.Proofs.YtbhccdedcoajmaaGreatDoor
open Go.RowKit

theorem Rd.grown {w w' : World} {r p : Nat} {s : ByteArray} {ok : Bool} {row : Option Nat} (h : Rd w r s p ok) (g : w.grownBy w' row) (hne : row ≠ some r) : Rd w' r s p ok := (g.block r (Array.getElem?_eq_some_iff.1 h).1 (Ne.symm hne)).trans h
theorem Rd.lt {w : World} {r p : Nat} {s : ByteArray} {ok : Bool} (h : Rd w r s p ok) : r < w.heap.size := (Array.getElem?_eq_some_iff.1 h).1
/-- what the reference's reading of a target's tokens leaves -/
def RTkQ (w : World) (r : Nat) (s : ByteArray) (p old B : Nat) (v : Value) (x : Nat) (w' : World) : Prop :=
  ∃ (p' : Nat) (ok' : Bool) (ps : List (Tok × Value)), Rd w' r s p' ok' ∧ p' ≤ s.size ∧ RRow w' w.heap.size v ps ∧ (∀ y ∈ ps, Bytes y.1.data) ∧ ps.length ≤ 65535 ∧ x ≤ 300 * 65535 ∧
    (ok' = true → ((numP 2 ((nums s).drop p)).bind fun q => toksP old B q.1.toNat q.2) = some (ps.map Prod.fst, (nums s).drop p') ∧ ((ps.map Prod.fst).map (madeP old B)).sum = x) ∧ (ok' = false → ((numP 2 ((nums s).drop p)).bind fun q => toksP old B q.1.toNat q.2) = none) ∧ w.grownBy w' (some r)

set_option maxRecDepth 10000 in
set_option maxHeartbeats 1000000 in
theorem rtokens_any (r p old B : Nat) (s : ByteArray) (w : World) (hs : s.size ≤ 70000) (hp : p ≤ s.size) (hR : Rd w r s p true) (ho : old ≤ 300) (hB1 : 1 ≤ B) (hB2 : B ≤ 64) :
    Calls Tryz.prog 70 #[.pointer (some ⟨r, 0, none⟩), .int .i64 old, .int .i64 B] w fun e w' => ∃ v x, e = .returned (.tuple #[v, .int .i64 ((x : Nat) : Int)]) ∧ RTkQ w r s p old B v x w' := by
  obtain ⟨i0, hi, z0, z1, z2⟩ := info_parts Tryz.info100
  have hlr := hR.lt
  have hM := chunks_le (n := old) hB1
  have HN := hide (number_any r p 2 s true w hs hp (by omega) hR)
  clear hR
  go_enter Tryz.func70, Tryz.ntmps70
  go_wp2_with fail
  refine HN.out.mono ?_
  rintro e w1 ⟨n, p1, ok1, rfl, hR1, hS1, hv1, hn0, hn1, hg1⟩
  obtain ⟨n, rfl⟩ : ∃ m : Nat, n = m := ⟨n.toNat, by omega⟩
  have hn : n < 65536 := by omega
  have HR1 := hide hR1
  have HG1 := hide hg1
  have HP1 := hide (hS1.le hp)
  obtain ⟨all, hall⟩ : ∃ all, all = (numP 2 ((nums s).drop p)).bind fun q => toksP old B q.1.toNat q.2 := ⟨_, rfl⟩
  have HST : Hid ((ok1 = true → all = (toksP old B n ((nums s).drop p1)).map fun q => ([] ++ q.1, q.2)) ∧ (ok1 = false → all = none)) := by
    rcases hS1 with ⟨_, h2, rfl, rfl⟩ | ⟨rfl, rfl, h | h⟩
    · refine ⟨fun _ => ?_, fun h => by cases h⟩
      rw [hall, num_at h2, ← hv1 rfl]
      simp
    · cases h
    · refine ⟨fun h => (by cases h), fun _ => ?_⟩
      rw [hall, num_no h hp]; rfl
  have HALL := hide hall
  clear hR1 hS1 hv1 hg1 hn0 hn1 HN hall
  go_wp2_with fail
  go_loopw [9, 10, 11] (fun v9 v10 v11 wr => ∃ (k q x : Nat) (ok : Bool) (ps : List (Tok × Value)), k ≤ n ∧ v11 = .int .u64 k ∧ v10 = .int .i64 x ∧ x ≤ 300 * k ∧ ps.length ≤ k ∧ Hid (q ≤ s.size) ∧ Hid (Rd wr r s q ok) ∧ Hid (RRow wr w.heap.size v9 ps) ∧ Hid (∀ y ∈ ps, Bytes y.1.data) ∧ Hid (w.grownBy wr (some r)) ∧
    Hid (ok = true → ((ps.map Prod.fst).map (madeP old B)).sum = x ∧ all = (toksP old B (n - k) ((nums s).drop q)).map fun q => (ps.map Prod.fst ++ q.1, q.2)) ∧ Hid (ok = false → all = none)) (fun _ _ v11 _ => n - (intOf v11).toNat)
  case atStart => exact ⟨0, p1, 0, ok1, [], Nat.zero_le _, rfl, rfl, by omega, by simp, HP1.out, HR1.out, RRow.nil _ _, (fun y hy => by simp at hy), HG1.out, (fun h => ⟨by simp, HST.out.1 h⟩), HST.out.2⟩
  case round =>
    clear HR1 HG1 HP1 HST
    obtain ⟨k, q, x, ok, ps, hk, rfl, rfl, hx, hpl, HQ, HRr, HTr, HBy, HGr, HYr, HNr⟩ := hrel
    have c2 := HRr.out.c2
    by_cases hlt : k < n
    · cases ok with
      | false =>
        have HF : Hid (RTkQ w r s p old B u9 x wr) := ⟨q, false, ps, HRr.out, HQ.out, HTr.out, HBy.out, by omega, by omega, (fun h => by cases h), (fun _ => by rw [← HALL.out]; exact HNr.out rfl), HGr.out⟩
        go_wp2_with fail
        go_ret2
        exact ⟨_, _, rfl, HF.out⟩
      | true =>
        have HY := hide (HYr.out rfl)
        have HNU := hide (number_any r q 1 s true wr hs HQ.out (by omega) HRr.out)
        clear HNr HYr
        go_wp2_with fail
        refine HNU.out.mono ?_
        rintro e w2 ⟨kd, q1, ok1, rfl, hR2, hS2, hv2, hd0, hd1, hg2⟩
        obtain ⟨kd, rfl⟩ : ∃ m : Nat, kd = m := ⟨kd.toNat, by omega⟩
        have hkd : kd < 256 := by omega
        have HR2 := hide hR2
        have HS2 := hide hS2
        have HV2 := hide hv2
        have HG2 := hide hg2
        have hq1 := hS2.le HQ.out
        clear hR2 hS2 hv2 hg2 hd0 hd1 HNU c2
        go_wp2_with fail
        refine (must_any r q1 s ok1 _ w2 HR2.out).mono ?_
        rintro e w3 ⟨rfl, hR3, hg3⟩
        have HG3 := hide (HG2.out.trans hg3)
        have HT3 : Hid (RRow w3 w.heap.size u9 ps) := HTr.out.keepR HG3.out hlr
        have HG3w : Hid (w.grownBy w3 (some r)) := HGr.out.trans HG3.out
        by_cases hz : kd = 0
        · subst hz
          have h3 : Rd w3 r s q1 ok1 := by simpa using hR3
          have HR3 := hide h3
          clear h3
          have HNU := hide (number_any r q1 1 s ok1 w3 hs hq1 (by omega) HR3.out)
          clear hR3 hg3 HR2 HG2
          go_wp2_with fail
          refine HNU.out.mono ?_
          rintro e w4 ⟨k2, q3, ok3, rfl, hR4, hS4, hv4, hd0, hd1, hg4⟩
          obtain ⟨k2, rfl⟩ : ∃ m : Nat, k2 = m := ⟨k2.toNat, by omega⟩
          have hk2 : k2 < 256 := by omega
          have HR4 := hide hR4
          have HS4 := hide hS4
          have HV4 := hide hv4
          have HG4 := hide (HG3w.out.trans hg4)
          have hwr4 : wr.heap.size ≤ w4.heap.size := Nat.le_trans HG3.out.size hg4.size
          have HT4 := hide (HT3.out.keepR hg4 hlr)
          have hq3 := hS4.le hq1
          clear hR4 hS4 hv4 hg4 hd0 hd1 HNU HR3 HG3 HG3w HT3
          go_wp2_with fail
          refine (must_any r q3 s ok3 _ w4 HR4.out).mono ?_
          rintro e w5 ⟨rfl, hR5, hg5⟩
          have h5 : Rd w5 r s q3 (ok3 && decide (0 < k2)) := by simpa using hR5
          have HR5 := hide h5
          clear h5
          have HG5 := hide (HG4.out.trans hg5)
          have hwr5 : wr.heap.size ≤ w5.heap.size := Nat.le_trans hwr4 hg5.size
          have HT5 := hide (HT4.out.keepR hg5 hlr)
          have HTX := hide (text_any r q3 k2 s _ w5 hs hq3 HR5.out)
          clear hR5 hg5 HR4 HG4 HT4
          go_wp2_with fail
          refine HTX.out.mono ?_
          rintro e w6 ⟨t, q5, ok5, rfl, hR6, hS6, hv6, ht, hg6⟩
          have HR6 := hide hR6
          have HQ5 := hide (hS6.le hq3)
          have HG6 := hide (HG5.out.trans hg6)
          have hwr6 : wr.heap.size ≤ w6.heap.size := Nat.le_trans hwr5 hg6.size
          have HT6 := hide (HT5.out.keepR hg6 hlr)
          have HSEM := hide (tok_sem0 (old := old) (B := B) HQ.out HS2.out HV2.out HS4.out HV4.out hS6 hv6)
          have hw6 : w.heap.size ≤ w6.heap.size := HG6.out.size
          obtain ⟨cp, W1, hcv, hcp, hcells, _, hsz, hbW⟩ := conv_any t w6
          have HT7 := hide (HT6.out.below hbW)
          have HROW := hide HT7.out.row
          have HG7 : Hid (w.grownBy W1 (some r)) := HG6.out.trans (grown_of_below hbW)
          have HR7 : Hid (Rd W1 r s q5 ok5) := (hbW.block r (Nat.lt_of_lt_of_le hlr hw6)).trans HR6.out
          have HDA : Hid (RDat W1 w.heap.size (.slice (some ⟨w6.heap.size, 0, none⟩) t.size cp) (nums t)) := .inr ⟨_, cp, by rw [nums_length], hw6, by omega, fun k h => by have := hcells k h; rwa [Nat.zero_add] at this⟩
          have ht2 : t.size ≤ 255 := by omega
          have HSZ := hide hsz
          clear hR6 hS6 hv6 hg6 hbW hcells HTX HR5 HG5 HT5 HT6 HR6 hsz
          go_wp2_with (at_builtin; refine wpList_append_own_at _ rfl (.tmp 50) (.tmp 54) 96 rfl w.heap.size 100 i0 (.agg #[.int .i64 0, .int .i64 0, .slice none 0 0]) 3 40 Tryz.underlying96 hi z0 z1 z2 rfl (by decide) _ ps.length (tcells ps) rfl (HROW.out.alloc _) ⟨W1.heap.size, 0, none⟩ 1 1 [.int .i64 0, .int .i64 0, .slice (some ⟨w6.heap.size, 0, none⟩) t.size cp] rfl rfl ?ka ?kb ?kc ?kd ?ke ?kf)
          case ka =>
            intro j y hy
            match j, hy with
            | 0, hy => simp at hy; subst hy; simp [Addr.add]
            | 1, hy => simp at hy; subst hy; simp [Addr.add]
            | 2, hy => simp at hy; subst hy; simp [Addr.add]
          case kb => intro y hy; simp at hy; rcases hy with rfl | rfl <;> rfl
          case kc => unfold maxLen; omega
          case kd => omega
          case ke => have := HSZ.out; simp; omega
          case kf =>
            have hsz := HSZ.out
            intro v8 w8 hown8 hgrow8 _ hloc8
            have hgg := (World.grownBy_alloc W1 (.cells #[.int .i64 0, .int .i64 0, .slice (some ⟨w6.heap.size, 0, none⟩) t.size cp] 100) u9.ownBlock).trans hgrow8
            have hrow : ∀ j, u9.ownBlock = some j → w.heap.size ≤ j ∧ j < wr.heap.size := fun j hj => HTr.out.row.lt j hj
            have HG8 : Hid (w.grownBy w8 (some r)) := grown_comp HG7.out hgg (fun j hj => (hrow j hj).1)
            have HR8 : Hid (Rd w8 r s q5 ok5) := HR7.out.grown hgg (fun e => by have := (hrow r e).1; omega)
            have HT8 : Hid (RRow w8 w.heap.size v8 (ps ++ [(⟨0, 0, nums t⟩, Value.slice (some ⟨w6.heap.size, 0, none⟩) t.size cp)])) := by
              refine HT7.out.push ⟨0, 0, nums t⟩ _ HDA.out ?_ hown8 hgg ?_
              · intro g hg1 hg2'
                have := (hrow g hg2').2
                obtain rfl : w6.heap.size = g := by simpa [Value.ownBlock] using hg1
                omega
              · exact hloc8.imp id fun e => ⟨_, by simp, e⟩
            have HBy8 : Hid (∀ y ∈ ps ++ [((⟨0, 0, nums t⟩ : Tok), Value.slice (some ⟨w6.heap.size, 0, none⟩) t.size cp)], Bytes y.1.data) := by
              intro y hy
              rcases List.mem_append.1 hy with h | h
              · exact HBy.out y h
              · simp at h; subst h; exact nums_bytes t
            have HY8 : Hid (ok5 = true → (((ps ++ [((⟨0, 0, nums t⟩ : Tok), Value.slice (some ⟨w6.heap.size, 0, none⟩) t.size cp)]).map Prod.fst).map (madeP old B)).sum = ((x + t.size : Nat) : Int) ∧ all = (toksP old B (n - (k + 1)) ((nums s).drop q5)).map fun q => ((ps ++ [((⟨0, 0, nums t⟩ : Tok), Value.slice (some ⟨w6.heap.size, 0, none⟩) t.size cp)]).map Prod.fst ++ q.1, q.2)) := by
              intro h
              constructor
              · rw [List.map_append, List.map_append, List.sum_append, HY.out.1]
                simp [madeP, nums_length]
              · rw [HY.out.2, show n - k = (n - (k + 1)) + 1 by omega, toks_step, HSEM.out.1 h]
                simp only [Option.bind_some, Option.map_map]
                congr 1
                funext q
                simp
            have HN8 : Hid (ok5 = false → all = none) := by
              intro h
              rw [HY.out.2, show n - k = (n - (k + 1)) + 1 by omega, toks_step, HSEM.out.2 h]; rfl
            clear hown8 hgrow8 hloc8 hgg hrow
            go_wp2_with fail
            go_roundw
            case rel => exact ⟨k + 1, q5, x + t.size, ok5, _, by omega, by go_num, by go_num, by omega, (by simp; omega), HQ5.out, HR8.out, HT8.out, HBy8.out, HG8.out, HY8.out, HN8.out⟩
            case measure => simp [intOf]; omega
        · have hz' : ((kd : Int) == 0) = false := by simp; omega
          have h3 : Rd w3 r s q1 (ok1 && decide (kd < 2)) := by
            have e : decide ((kd : Int) < 2) = decide (kd < 2) := by simp; omega
            rw [← e]; exact hR3
          have HR3 := hide h3
          have HNU := hide (number_any r q1 2 s _ w3 hs hq1 (by omega) HR3.out)
          clear hR3 hg3 HR2 HG2 h3
          go_wp2_with fail
          refine HNU.out.mono ?_
          rintro e w4 ⟨fr, q3, ok3, rfl, hR4, hS4, hv4, hd0, hd1, hg4⟩
          obtain ⟨fr, rfl⟩ : ∃ m : Nat, fr = m := ⟨fr.toNat, by omega⟩
          have hfr : fr < 65536 := by omega
          have HR4 := hide hR4
          have HS4 := hide hS4
          have HV4 := hide hv4
          have HG4 := hide (HG3w.out.trans hg4)
          have hwr4 : wr.heap.size ≤ w4.heap.size := Nat.le_trans HG3.out.size hg4.size
          have HT4 := hide (HT3.out.keepR hg4 hlr)
          have hq3 := hS4.le hq1
          have HNV := hide (number_any r q3 1 s _ w4 hs hq3 (by omega) HR4.out)
          clear hR4 hS4 hv4 hg4 hd0 hd1 HNU HR3 HG3 HG3w HT3
          go_wp2_with fail
          refine HNV.out.mono ?_
          rintro e w5 ⟨ct, q4, ok4, rfl, hR5, hS5, hv5, hd0, hd1, hg5⟩
          obtain ⟨ct, rfl⟩ : ∃ m : Nat, ct = m := ⟨ct.toNat, by omega⟩
          have hct : ct < 256 := by omega
          have HR5 := hide hR5
          have HS5 := hide hS5
          have HV5 := hide hv5
          have HG5 := hide (HG4.out.trans hg5)
          have hwr5 : wr.heap.size ≤ w5.heap.size := Nat.le_trans hwr4 hg5.size
          have HT5 := hide (HT4.out.keepR hg5 hlr)
          have HQ4 := hide (hS5.le hq3)
          have HCO := hide (rcount_any old B hB1 hB2 ho w5)
          clear hR5 hS5 hv5 hg5 hd0 hd1 HNV HR4 HG4 HT4
          go_wp2_with fail
          refine HCO.out.mono ?_
          rintro e w6 ⟨rfl, hw6⟩
          obtain rfl := hw6.symm
          have hwf : IntKind.i64.wrap ((fr : Int) + (ct : Int)) = (fr : Int) + (ct : Int) := by rw [IntKind.wrap_i64]; omega
          obtain ⟨C, hC⟩ : ∃ C, chunks old B = C := ⟨_, rfl⟩
          rw [hC] at hM ⊢
          by_cases hc0 : 0 < ct
          all_goals
            go_wp2_with fail
            refine (must_any r q4 s ok4 _ w5 HR5.out).mono ?_
            rintro e w7 ⟨rfl, hR7, hg7⟩
            obtain ⟨ok5, h7, h5, h5'⟩ : ∃ ok5, Rd w7 r s q4 ok5 ∧ (ok5 = true → ok4 = true ∧ 0 < ct ∧ fr + ct ≤ chunks old B) ∧ (ok5 = false → ok4 = false ∨ ¬ (0 < ct ∧ fr + ct ≤ chunks old B)) := by
              refine ⟨_, hR7, fun h => ?_, fun h => ?_⟩
              · first
                | (simp at h; exact ⟨h.1, hc0, by rw [hC]; omega⟩)
                | (simp at h; done)
              · cases ok4 with
                | false => exact .inl rfl
                | true =>
                  right
                  simp at h
                  rw [hC]
                  omega
            have HSEM := hide (tok_sem1 (old := old) (B := B) HQ.out hz HS2.out HV2.out HS4.out HV4.out HS5.out HV5.out h5 h5')
            have HR7 := hide h7
            have c2 := h7.c2
            have HG7 := hide (HG5.out.trans hg7)
            have hwr7 : wr.heap.size ≤ w7.heap.size := Nat.le_trans hwr5 hg7.size
            have HT7 := hide (HT5.out.keepR hg7 hlr)
            clear hR7 hg7 h7 h5'
            cases ok5 with
            | false =>
              have HN8 : Hid (all = none) := by
                show _ = _
                rw [HY.out.2, show n - k = (n - (k + 1)) + 1 by omega, toks_step, HSEM.out.2 rfl]; rfl
              clear h5 HSEM
              go_wp2_with fail
              go_roundw
              case rel => exact ⟨k + 1, q4, x, false, ps, by omega, by go_num, by go_num, by omega, by omega, HQ4.out, HR7.out, HT7.out, HBy.out, HG7.out, (fun h => by cases h), (fun _ => HN8.out)⟩
              case measure => simp [intOf]; omega
            | true =>
              obtain ⟨_, g0, g1⟩ := h5 rfl
              have HTO := hide (HSEM.out.1 rfl)
              clear HSEM
              try (exact absurd g0 hc0)
              all_goals
                have HMA := hide (rmade_any old B fr ct hB1 hB2 ho g0 g1 w7)
                have HROW := hide HT7.out.row
                clear h5
                go_wp2_with fail
                refine HMA.out.mono ?_
                rintro e w8 ⟨y, rfl, hy, hy300, hw8⟩
                obtain rfl := hw8.symm
                have HYY := hide hy
                clear hy HMA c2
                go_wp2_with (at_builtin; refine wpList_append_own_at _ rfl (.tmp 92) (.tmp 96) 96 rfl w.heap.size 100 i0 (.agg #[.int .i64 0, .int .i64 0, .slice none 0 0]) 3 40 Tryz.underlying96 hi z0 z1 z2 rfl (by decide) _ ps.length (tcells ps) rfl (HROW.out.alloc _) ⟨w7.heap.size, 0, none⟩ 1 1 [.int .i64 fr, .int .i64 ct, .slice none 0 0] rfl rfl ?ka ?kb ?kc ?kd ?ke ?kf)
                case ka =>
                  intro j y hy
                  match j, hy with
                  | 0, hy => simp at hy; subst hy; simp [Addr.add]
                  | 1, hy => simp at hy; subst hy; simp [Addr.add]
                  | 2, hy => simp at hy; subst hy; simp [Addr.add]
                case kb => intro y hy; simp at hy; rcases hy with rfl | rfl | rfl <;> rfl
                case kc => unfold maxLen; omega
                case kd => omega
                case ke => have := HG7.out.size; simp; omega
                case kf =>
                  intro v8 w8 hown8 hgrow8 _ hloc8
                  have hgg := (World.grownBy_alloc w7 (.cells #[.int .i64 fr, .int .i64 ct, .slice none 0 0] 100) u9.ownBlock).trans hgrow8
                  have hrow : ∀ j, u9.ownBlock = some j → w.heap.size ≤ j ∧ j < wr.heap.size := fun j hj => HTr.out.row.lt j hj
                  have HG8 : Hid (w.grownBy w8 (some r)) := grown_comp HG7.out hgg (fun j hj => (hrow j hj).1)
                  have HR8 : Hid (Rd w8 r s q4 true) := HR7.out.grown hgg (fun e => by have := (hrow r e).1; omega)
                  have HT8 : Hid (RRow w8 w.heap.size v8 (ps ++ [(⟨fr, ct, []⟩, Value.slice none 0 0)])) := by
                    refine HT7.out.push ⟨fr, ct, []⟩ _ (.inl ⟨rfl, rfl⟩) ?_ hown8 hgg ?_
                    · intro g hg1
                      cases hg1
                    · exact hloc8.imp id fun e => ⟨_, by simp, e⟩
                  have HBy8 : Hid (∀ y ∈ ps ++ [((⟨fr, ct, []⟩ : Tok), Value.slice none 0 0)], Bytes y.1.data) := by
                    intro y hy
                    rcases List.mem_append.1 hy with h | h
                    · exact HBy.out y h
                    · simp at h; subst h; exact fun z hz => by cases hz
                  have HY8 : Hid ((((ps ++ [((⟨fr, ct, []⟩ : Tok), Value.slice none 0 0)]).map Prod.fst).map (madeP old B)).sum = ((x + y : Nat) : Int) ∧ all = (toksP old B (n - (k + 1)) ((nums s).drop q4)).map fun q => ((ps ++ [((⟨fr, ct, []⟩ : Tok), Value.slice none 0 0)]).map Prod.fst ++ q.1, q.2)) := by
                    constructor
                    · rw [List.map_append, List.map_append, List.sum_append, HY.out.1]
                      simp [HYY.out]
                    · rw [HY.out.2, show n - k = (n - (k + 1)) + 1 by omega, toks_step, HTO.out]
                      simp only [Option.bind_some, Option.map_map]
                      congr 1
                      funext q
                      simp
                  clear hown8 hgrow8 hloc8 hgg hrow
                  go_wp2_with fail
                  go_roundw
                  case rel => exact ⟨k + 1, q4, x + y, true, _, by omega, by go_num, by go_num, by omega, (by simp; omega), HQ4.out, HR8.out, HT8.out, HBy8.out, HG8.out, (fun _ => HY8.out), (fun h => by cases h)⟩
                  case measure => simp [intOf]; omega
    · have hkn : k = n := by omega
      subst hkn
      have HF : Hid (RTkQ w r s p old B u9 x wr) := ⟨q, ok, ps, HRr.out, HQ.out, HTr.out, HBy.out, by omega, by omega, (fun h => ⟨by rw [← HALL.out, (HYr.out h).2, Nat.sub_self]; simp [toksP], (HYr.out h).1⟩), (fun h => by rw [← HALL.out]; exact HNr.out h), HGr.out⟩
      go_wp2_with fail
      go_ret2
      exact ⟨_, _, rfl, HF.out⟩
end Go.Proofs.YtbhccdedcoajmaaGreatDoor
