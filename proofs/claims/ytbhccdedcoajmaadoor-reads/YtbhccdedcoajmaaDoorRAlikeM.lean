import Derived.Test.YtbhccdedcoajmaaDoorRTok
import Derived.Test.YtbhccdedcoajmaaDoorRefApply
namespace Go.Proofs.YtbhccdedcoajmaaDoor
open Go.RowKit

theorem rcount_any (n B : Nat) (hB1 : 1 ≤ B) (hB2 : B ≤ 64) (hn : n ≤ 300) (w : World) :
    Calls Tryd.prog 60 #[.int .i64 n, .int .i64 B] w fun e w' => e = .returned (.int .i64 (chunks n B)) ∧ w' = w := by
  have hz : ((B : Int) == 0) = false := by simp; omega
  have hz2 : ((B : Int) = 0) = False := by simp; omega
  have h1 : IntKind.i64.wrap ((n : Int) + (B : Int)) = (n : Int) + (B : Int) := by rw [IntKind.wrap_i64]; omega
  have h2 : IntKind.i64.wrap ((n : Int) + (B : Int) - 1) = (n : Int) + (B : Int) - 1 := by rw [IntKind.wrap_i64]; omega
  have hd : ((n : Int) + (B : Int) - 1).tdiv (B : Int) = (chunks n B : Int) := by
    rw [show (n : Int) + (B : Int) - 1 = ((n + B - 1 : Nat) : Int) by omega]
    rw [Int.tdiv_eq_ediv_of_nonneg (by omega)]
    unfold chunks
    simp
  have hM := chunks_le (n := n) hB1
  have h3 : IntKind.i64.wrap (chunks n B : Int) = (chunks n B : Int) := by rw [IntKind.wrap_i64]; omega
  have h4 : ((n : Int) + (B : Int) - 1).tdiv (B : Int) = ((n : Int) + (B : Int) - 1).tdiv (B : Int) := rfl
  clear h4
  go_enter Tryd.func60, Tryd.ntmps60
  go_wp2_with fail
  go_ret
  exact ⟨by simp [*], rfl⟩
set_option maxRecDepth 10000 in
set_option maxHeartbeats 1000000 in
theorem alike_read (base lo hi : Nat) (v v' : Value) (ps : List (Tok × Value)) (w : World) (hT : TokRow w base v ps) (hU : RT w lo hi v' (ps.map Prod.fst)) (hb : ∀ p ∈ ps, Bytes p.1.data) (hl : ps.length ≤ 70000) :
    Calls Tryd.prog 20 #[v, v'] w fun e w' => e = .returned (.bool true) ∧ Below w.heap.size w w' := by
  obtain ⟨va, cap, rfl, hcap, hcell⟩ := hT.opened
  obtain ⟨va', cap', rfl, hcap', _⟩ := hU.2 w hU.1 (fun _ _ _ => rfl)
  rw [List.length_map] at hcap' ⊢
  have HC : Hid (∀ i, i < ps.length → ∀ W, Below w.heap.size w W → ∃ (g g' : Nat) (x y : Int) (u u' : Value) (s : ByteArray), va = some ⟨g, 0, none⟩ ∧ va' = some ⟨g', 0, none⟩ ∧ W.cell? ⟨g, i * 3, none⟩ = some (.int .i64 x) ∧ W.cell? ⟨g, i * 3 + 1, none⟩ = some (.int .i64 y) ∧ W.cell? ⟨g, i * 3 + 2, none⟩ = some u ∧
      W.cell? ⟨g', i * 3, none⟩ = some (.int .i64 x) ∧ W.cell? ⟨g', i * 3 + 1, none⟩ = some (.int .i64 y) ∧ W.cell? ⟨g', i * 3 + 2, none⟩ = some u' ∧ (∀ W', Below W.heap.size W W' → (convert 25 9 u).run Tryd.prog W' = .ok (.string s) W') ∧ (∀ W', Below W.heap.size W W' → (convert 25 9 u').run Tryd.prog W' = .ok (.string s) W')) := by
    intro i hi W hb0
    obtain ⟨g, hv, _, hg, c0, c1, c2⟩ := hcell i hi
    have hW : ∀ W', Below w.heap.size w W' → ∃ g' u', va' = some ⟨g', 0, none⟩ ∧ W'.cell? ⟨g', i * 3, none⟩ = some (.int .i64 ps[i].1.block) ∧ W'.cell? ⟨g', i * 3 + 1, none⟩ = some (.int .i64 ps[i].1.count) ∧ W'.cell? ⟨g', i * 3 + 2, none⟩ = some u' ∧ (convert 25 9 u').run Tryd.prog W' = .ok (.string (bytesOf ps[i].1.data)) W' := by
      intro W' h'
      obtain ⟨va2, cap2, e1, _, h3⟩ := hU.2 W' (Nat.le_trans hU.1 h'.size) (fun k _ h2 => h'.block k (Nat.lt_of_lt_of_le h2 hU.1))
      obtain ⟨g', u', e2, r0, r1, r2, r3⟩ := h3 i (by rw [List.length_map]; exact hi)
      simp only [List.getElem_map] at r0 r1 r3
      simp only [Value.slice.injEq] at e1
      exact ⟨g', u', by rw [e1.1, e2], r0, r1, r2, r3⟩
    obtain ⟨g', u', hv', d0, d1, d2, _⟩ := hW W hb0
    have hby := hb ps[i] (List.getElem_mem hi)
    refine ⟨g, g', ps[i].1.block, ps[i].1.count, ps[i].2, u', bytesOf ps[i].1.data, hv, hv', (hb0.cell (p := ⟨g, _, none⟩) hg).trans c0, (hb0.cell (p := ⟨g, _, none⟩) hg).trans c1, (hb0.cell (p := ⟨g, _, none⟩) hg).trans c2, d0, d1, d2, fun W' h' => ?_, fun W' h' => ?_⟩
    · exact conv_own hby (ownsRow_below (hT.data _ (List.getElem_mem hi)) (below_all hb0 h'))
    · obtain ⟨g2, u2, f1, _, _, f2, f3⟩ := hW W' (below_all hb0 h')
      have hg'' : g2 = g' := by rw [hv'] at f1; simpa using f1.symm
      subst hg''
      have hlt : g2 < W.heap.size := World.block_lt_of_cell? W _ d2
      have : u2 = u' := by
        have := (h'.cell (p := ⟨g2, i * 3 + 2, none⟩) hlt).symm.trans f2
        rw [d2] at this
        exact (Option.some.inj this).symm
      rw [← this]; exact f3
  clear hcell hT hU hb
  generalize ps.length = n at *
  go_enter Tryd.func20, Tryd.ntmps20
  go_wp2_with fail
  go_loopw [5] (fun i wr => ∃ k : Nat, k ≤ n ∧ i = .int .i64 k ∧ Hid (Below w.heap.size w wr)) (fun i _ => n - (intOf i).toNat)
  case atStart => exact ⟨0, Nat.zero_le _, rfl, Below.refl _ _⟩
  case round =>
    obtain ⟨k, hk, rfl, HBr⟩ := hrel
    by_cases hlt : k < n
    · obtain ⟨g, g', x, y, u, u', s, rfl, rfl, c0, c1, c2, d0, d1, d2, hcv, hcv'⟩ := HC.out k hlt wr HBr.out
      have hv1 : ∀ q, (convert 25 9 u).run Tryd.prog (wr.drewN q) = .ok (.string s) (wr.drewN q) := fun q => hcv _ (below_drewN (Below.refl _ _) q)
      have hv2 : ∀ q, (convert 25 9 u').run Tryd.prog (wr.drewN q) = .ok (.string s) (wr.drewN q) := fun q => hcv' _ (below_drewN (Below.refl _ _) q)
      clear hcv hcv'
      go_wp2_with fail
      go_quiet (fail)
      go_wp2_with fail
      go_roundw
      case rel => exact ⟨k + 1, by omega, by go_num, below_drewN HBr.out _⟩
      case measure => simp [intOf]; omega
    · go_wp2_with fail
      go_ret
      exact ⟨rfl, HBr.out⟩
end Go.Proofs.YtbhccdedcoajmaaDoor
namespace Go.Proofs.YtbhccdedcoajmaaDoor
open Go.RowKit

theorem Step.stays {s : ByteArray} {p n p' : Nat} {ok' : Bool} (h : Step s false p n p' ok') : ok' = false := by
  rcases h with ⟨h, _⟩ | ⟨h, _⟩
  · cases h
  · exact h

set_option maxHeartbeats 400000 in
theorem rmade_any (old B bk ct : Nat) (hB1 : 1 ≤ B) (hB2 : B ≤ 64) (ho : old ≤ 300) (hc : 0 < ct) (hle : bk + ct ≤ chunks old B) (w : World) :
    Calls Tryd.prog 61 #[.int .i64 old, .int .i64 B, .int .i64 bk, .int .i64 ct] w fun e w' => ∃ x : Nat, e = .returned (.int .i64 x) ∧ (x : Int) = madeP old B ⟨bk, ct, []⟩ ∧ x ≤ 300 ∧ w' = w := by
  have hM := chunks_le (n := old) hB1
  have hlt : bk * B < old := (lt_chunks hB1).1 (by omega)
  have hq : bk * B ≤ (bk + ct) * B := Nat.mul_le_mul_right _ (by omega)
  have hY : (bk + ct) * B ≤ 300 * 64 := Nat.mul_le_mul (by omega) hB2
  have e1 : ((bk : Int) + (ct : Int)) * (B : Int) = (((bk + ct) * B : Nat) : Int) := by simp
  have e2 : (bk : Int) * (B : Int) = ((bk * B : Nat) : Int) := by simp
  have HV : Hid (((min ((bk + ct) * B) old - bk * B : Nat) : Int) = madeP old B ⟨bk, ct, []⟩ ∧ min ((bk + ct) * B) old - bk * B ≤ 300) := by
    refine ⟨?_, by omega⟩
    unfold madeP
    rw [if_neg (by simp; omega)]
    show _ = min (((bk : Int) + (ct : Int)) * (B : Int)) _ - (bk : Int) * (B : Int)
    rw [e1, e2]
    omega
  have h0 : IntKind.i64.wrap ((bk : Int) + (ct : Int)) = (bk : Int) + (ct : Int) := by rw [IntKind.wrap_i64]; omega
  have h1 : IntKind.i64.wrap (((bk : Int) + (ct : Int)) * (B : Int)) = (((bk + ct) * B : Nat) : Int) := by rw [e1, IntKind.wrap_i64]; omega
  have h2 : IntKind.i64.wrap ((bk : Int) * (B : Int)) = ((bk * B : Nat) : Int) := by rw [e2, IntKind.wrap_i64]; omega
  clear e1 e2
  generalize (bk + ct) * B = Y at *
  generalize bk * B = X at *
  by_cases h : old < Y
  · have hm : min Y old = old := by omega
    rw [hm] at HV
    go_enter Tryd.func61, Tryd.ntmps61
    go_wp2_with fail
    go_ret
    exact ⟨old - X, by simp; omega, HV.out.1, HV.out.2, rfl⟩
  · have hm : min Y old = Y := by omega
    rw [hm] at HV
    go_enter Tryd.func61, Tryd.ntmps61
    go_wp2_with fail
    go_ret
    exact ⟨Y - X, by simp; omega, HV.out.1, HV.out.2, rfl⟩

theorem tok_sem0 {s : ByteArray} {old B q q1 q3 q5 k2 : Nat} {ok1 ok3 ok5 : Bool} {t : List Int} (hq : q ≤ s.size) (S1 : Step s true q 1 q1 ok1) (v1 : ok1 = true → (0 : Int) = getN (((nums s).drop q).take 1)) (S3 : Step s ok1 q1 1 q3 ok3) (v3 : ok3 = true → (k2 : Int) = getN (((nums s).drop q1).take 1)) (S5 : Step s (ok3 && decide (0 < k2)) q3 k2 q5 ok5) (v5 : ok5 = true → t = ((nums s).drop q3).take k2) :
    (ok5 = true → tokP old B ((nums s).drop q) = some (⟨0, 0, t⟩, (nums s).drop q5)) ∧ (ok5 = false → tokP old B ((nums s).drop q) = none) := by
  have hq1 := S1.le hq
  have hq3 := S3.le hq1
  unfold tokP
  simp only [Option.bind_eq_bind]
  rcases S1 with ⟨_, a1, rfl, rfl⟩ | ⟨rfl, rfl, h⟩
  · rw [num_at a1, ← v1 rfl]
    simp only [Option.bind_some, if_true]
    rcases S3 with ⟨_, a3, rfl, rfl⟩ | ⟨rfl, rfl, h⟩
    · rw [num_at a3, ← v3 rfl]
      simp only [Option.bind_some, Bool.true_and] at S5 ⊢
      by_cases hk : 0 < k2
      · rw [if_pos (by omega)]
        rw [decide_eq_true hk] at S5
        simp only [Int.toNat_natCast]
        rcases S5 with ⟨_, a5, rfl, rfl⟩ | ⟨rfl, rfl, h⟩
        · rw [txt_at a5]
          exact ⟨fun _ => by rw [v5 rfl]; rfl, fun h => by cases h⟩
        · rcases h with h | h
          · cases h
          · rw [txt_no h hq3]
            exact ⟨fun h => (by cases h), fun _ => rfl⟩
      · rw [if_neg (by omega)]
        rw [decide_eq_false hk] at S5
        rw [S5.stays]
        exact ⟨fun h => (by cases h), fun _ => rfl⟩
    · rcases h with h | h
      · cases h
      · rw [num_no h hq1]
        rw [Bool.false_and] at S5
        rw [S5.stays]
        exact ⟨fun h => (by cases h), fun _ => rfl⟩
  · rcases h with h | h
    · cases h
    · rw [num_no h hq]
      obtain rfl := S3.stays
      rw [Bool.false_and] at S5
      rw [S5.stays]
      exact ⟨fun h => (by cases h), fun _ => rfl⟩
theorem tok_sem1 {s : ByteArray} {old B q q1 q3 q4 kd fr ct : Nat} {ok1 ok3 ok4 ok5 : Bool} (hq : q ≤ s.size) (hkd : kd ≠ 0) (S1 : Step s true q 1 q1 ok1) (v1 : ok1 = true → (kd : Int) = getN (((nums s).drop q).take 1)) (S3 : Step s (ok1 && decide (kd < 2)) q1 2 q3 ok3) (v3 : ok3 = true → (fr : Int) = getN (((nums s).drop q1).take 2)) (S4 : Step s ok3 q3 1 q4 ok4) (v4 : ok4 = true → (ct : Int) = getN (((nums s).drop q3).take 1))
    (h5 : ok5 = true → ok4 = true ∧ 0 < ct ∧ fr + ct ≤ chunks old B) (h5' : ok5 = false → ok4 = false ∨ ¬ (0 < ct ∧ fr + ct ≤ chunks old B)) :
    (ok5 = true → tokP old B ((nums s).drop q) = some (⟨fr, ct, []⟩, (nums s).drop q4)) ∧ (ok5 = false → tokP old B ((nums s).drop q) = none) := by
  have hq1 := S1.le hq
  have hq3 := S3.le hq1
  have off : ok4 = false → ∀ x : Option (Tok × List Int), x = none → (ok5 = true → x = some (⟨fr, ct, []⟩, (nums s).drop q4)) ∧ (ok5 = false → x = none) := fun h x hx => ⟨fun h' => (by have := (h5 h').1; rw [h] at this; cases this), fun _ => hx⟩
  unfold tokP
  simp only [Option.bind_eq_bind]
  rcases S1 with ⟨_, a1, rfl, rfl⟩ | ⟨rfl, rfl, h⟩
  · rw [num_at a1, ← v1 rfl]
    simp only [Option.bind_some, Bool.true_and] at S3 ⊢
    rw [if_neg (by omega)]
    by_cases h2 : kd < 2
    · rw [if_pos (by omega)]
      rw [decide_eq_true h2] at S3
      rcases S3 with ⟨_, a3, rfl, rfl⟩ | ⟨rfl, rfl, h⟩
      · rw [num_at a3, ← v3 rfl]
        simp only [Option.bind_some]
        rcases S4 with ⟨_, a4, rfl, rfl⟩ | ⟨rfl, rfl, h⟩
        · rw [num_at a4, ← v4 rfl]
          simp only [Option.bind_some]
          refine ⟨fun h => ?_, fun h => ?_⟩
          · have := (h5 h).2
            rw [if_pos ⟨by omega, by omega⟩]
          · have := (h5' h).resolve_left (by simp)
            rw [if_neg (fun h => this ⟨by omega, by omega⟩)]
        · refine off rfl _ ?_
          rcases h with h | h
          · cases h
          · rw [num_no h hq3]; rfl
      · refine off S4.stays _ ?_
        rcases h with h | h
        · cases h
        · rw [num_no h hq1]; rfl
    · rw [if_neg (by omega)]
      rw [decide_eq_false h2] at S3
      obtain rfl := S3.stays
      exact off S4.stays _ rfl
  · rw [Bool.false_and] at S3
    obtain rfl := S3.stays
    refine off S4.stays _ ?_
    rcases h with h | h
    · cases h
    · rw [num_no h hq]; rfl
end Go.Proofs.YtbhccdedcoajmaaDoor
