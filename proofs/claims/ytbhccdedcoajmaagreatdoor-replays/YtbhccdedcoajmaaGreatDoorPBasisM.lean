import Derived.Test.YtbhccdedcoajmaaGreatDoorPTreeM
namespace Go.Proofs.YtbhccdedcoajmaaGreatDoor
open Go.RowKit

def filesP (l : List Int) : Option (Nat × List Int) := (numP 1 l).bind fun q => if q.1 ≤ 8 then some (q.1.toNat, q.2) else none
/-- what reading the number of files leaves -/
def FilQ (w : World) (r b cap : Nat) (s : ByteArray) (ok : Bool) (p n : Nat) (w' : World) : Prop :=
  ∃ (p' : Nat) (ok' : Bool), PRd w' r b cap s p' ok' ∧ p' ≤ s.size ∧ n ≤ 8 ∧ (ok' = true → ok = true ∧ filesP ((nums s).drop p) = some (n, (nums s).drop p')) ∧ (ok' = false → n = 0 ∧ (ok = false ∨ filesP ((nums s).drop p) = none)) ∧ w.grownBy w' (some r)
theorem files_sem {s : ByteArray} {ok ok1 : Bool} {p p1 v : Nat} (hp : p ≤ s.size) (S1 : Step s ok p 1 p1 ok1) (v1 : ok1 = true → (v : Int) = getN (((nums s).drop p).take 1)) :
    ((ok1 && decide (v ≤ 8)) = true → ok = true ∧ filesP ((nums s).drop p) = some (v, (nums s).drop p1)) ∧ ((ok1 && decide (v ≤ 8)) = false → ok = false ∨ filesP ((nums s).drop p) = none) := by
  unfold filesP
  rcases S1 with ⟨rfl, a1, rfl, rfl⟩ | ⟨rfl, rfl, a1⟩
  · rw [num_at a1, ← v1 rfl]
    simp only [Option.bind_some, Bool.true_and, Int.toNat_natCast]
    by_cases h : v ≤ 8
    · rw [if_pos (by omega)]
      exact ⟨fun _ => by simp, fun h' => by rw [decide_eq_true h] at h'; cases h'⟩
    · rw [if_neg (by omega)]
      exact ⟨fun h' => (by rw [decide_eq_false h] at h'; cases h'), fun _ => (by simp)⟩
  · refine ⟨fun h => by simp at h, fun _ => ?_⟩
    rcases a1 with rfl | a1
    · exact .inl rfl
    · right
      rw [num_no a1 hp]; rfl

set_option maxRecDepth 10000 in
set_option maxHeartbeats 1000000 in
theorem pfiles_any (r b cap p : Nat) (s : ByteArray) (ok : Bool) (w : World) (hs : s.size ≤ 70000) (hcap : s.size ≤ cap) (hp : p ≤ s.size) (hR : PRd w r b cap s p ok) (hbr : b ≠ r) (hb : b < w.heap.size) (hc : ∀ k (h : k < (nums s).length), w.cell? ⟨b, 0 + k, none⟩ = some (.int .u8 (nums s)[k])) :
    Calls Tryz.prog 166 #[.pointer (some ⟨r, 0, none⟩)] w fun e w' => ∃ n : Nat, e = .returned (.int .i64 n) ∧ FilQ w r b cap s ok p n w' := by
  have HN := hide (pnumber_any r b cap p 1 s ok w hs hcap hp (by omega) hR hbr hb hc)
  clear hR hc
  go_enter Tryz.func166, Tryz.ntmps166
  go_wp2_with fail
  refine HN.out.mono ?_
  rintro e w1 ⟨v, rfl, _, hv, p1, ok1, hR1, hS1, hv1, _, _, _, hg1⟩
  have hv := hv (by first | rfl | trivial)
  have HR1 := hide hR1
  have HG1 := hide hg1
  have HP1 := hide (hS1.le hp)
  have HSEM := hide (files_sem hp hS1 hv1)
  clear hR1 hS1 hv1 hg1 HN
  by_cases h8 : v ≤ 8
  · have hd : decide ((v : Int) ≤ 8) = true := decide_eq_true (by omega)
    have hd1 : (v : Int) ≤ 8 := by omega
    rw [decide_eq_true h8, Bool.and_true] at HSEM
    go_wp2_with fail
    refine (pmust_any r b cap p1 s _ ok1 true w1 HR1.out).mono ?_
    rintro e w2 ⟨rfl, hR2, hg2⟩
    rw [Bool.and_true] at hR2
    obtain ⟨ev, hev, _, _, c2, _⟩ := hR2.open
    have HR2 := hide hR2
    have HG2 := hide (HG1.out.trans hg2)
    clear hR2 hg2
    cases ok1 with
    | true =>
      obtain rfl : ev = .nilIface := hev
      go_wp2_with fail
      go_ret
      exact ⟨v, rfl, p1, true, HR2.out, HP1.out, h8, (fun _ => HSEM.out.1 (by first | rfl | trivial)), (fun h => by cases h), HG2.out⟩
    | false =>
      obtain ⟨fb, rfl⟩ := hev
      go_wp2_with fail
      go_ret
      exact ⟨0, rfl, p1, false, HR2.out, HP1.out, by omega, (fun h => by cases h), (fun _ => ⟨rfl, HSEM.out.2 (by first | rfl | trivial)⟩), HG2.out⟩
  · have hd : decide ((v : Int) ≤ 8) = false := decide_eq_false (by omega)
    have hd1 : 8 < (v : Int) := by omega
    rw [decide_eq_false h8, Bool.and_false] at HSEM
    go_wp2_with fail
    refine (pmust_any r b cap p1 s _ ok1 false w1 HR1.out).mono ?_
    rintro e w2 ⟨rfl, hR2, hg2⟩
    rw [Bool.and_false] at hR2
    obtain ⟨ev, hev, _, _, c2, _⟩ := hR2.open
    have HR2 := hide hR2
    have HG2 := hide (HG1.out.trans hg2)
    clear hR2 hg2
    obtain ⟨fb, rfl⟩ := hev
    go_wp2_with fail
    go_ret
    exact ⟨0, rfl, p1, false, HR2.out, HP1.out, by omega, (fun h => by cases h), (fun _ => ⟨rfl, HSEM.out.2 (by first | rfl | trivial)⟩), HG2.out⟩

theorem row_kept {w w' : World} {base r : Nat} {e : TypeId} {size : Nat} {v : Value} {n : Nat} {xs : List Value} (h : w.ownsRow base e size v n xs) (hg : w.grownBy w' (some r)) (hr : r < base) : w'.ownsRow base e size v n xs := by
  refine h.kept hg ?_
  cases hv : v.ownBlock with
  | none => exact .inl rfl
  | some k =>
    refine .inr fun e => ?_
    have := (h.lt k hv).1
    have : k = r := by simpa using e
    omega
theorem grown_comp {w w1 w2 : World} {r : Nat} {row : Option Nat} (h : w.grownBy w1 (some r)) (g : w1.grownBy w2 row) (hrow : ∀ k, row = some k → w.heap.size ≤ k) : w.grownBy w2 (some r) :=
  ⟨g.os.trans h.os, g.tape.trans h.tape, g.output.trans h.output, Nat.le_trans h.size g.size, fun k hk hne => (g.block k (Nat.lt_of_lt_of_le hk h.size) (fun e => by have := hrow k e.symm; omega)).trans (h.block k hk hne)⟩
theorem PRd.grown {w w' : World} {r b cap p : Nat} {s : ByteArray} {ok : Bool} {row : Option Nat} (h : PRd w r b cap s p ok) (g : w.grownBy w' row) (hne : row ≠ some r) : PRd w' r b cap s p ok := by
  obtain ⟨ev, h1, h2⟩ := h
  exact ⟨ev, h1, (g.block r (Array.getElem?_eq_some_iff.1 h2).1 (Ne.symm hne)).trans h2⟩

def entV (e : ByteArray × Nat × Int) : EntL := ⟨nums e.1, e.2.1, e.2.2⟩
def entCells (es : List (ByteArray × Nat × Int)) : List Value := es.flatMap fun e => [.string e.1, .int .i64 e.2.1, .int .u64 e.2.2]
theorem entCells_snoc (es : List (ByteArray × Nat × Int)) (e : ByteArray × Nat × Int) : entCells (es ++ [e]) = entCells es ++ [.string e.1, .int .i64 e.2.1, .int .u64 e.2.2] := by simp [entCells]
theorem entCells_at : ∀ (es : List (ByteArray × Nat × Int)) (i : Nat) (hi : i < es.length), (entCells es)[i * 3]? = some (.string es[i].1) ∧ (entCells es)[i * 3 + 1]? = some (.int .i64 es[i].2.1) ∧ (entCells es)[i * 3 + 2]? = some (.int .u64 es[i].2.2)
  | e :: es, 0, _ => by simp [entCells]
  | e :: es, i + 1, h => by
    have := entCells_at es i (by simpa using h)
    have e' : entCells (e :: es) = .string e.1 :: .int .i64 e.2.1 :: .int .u64 e.2.2 :: entCells es := by simp [entCells]
    rw [e', show (i + 1) * 3 = i * 3 + 1 + 1 + 1 by omega]
    simpa using this
theorem Tryz.info115 : (Tryz.prog.info? 115).map (fun i => (i.zero, i.size, i.bytes)) = some (some (.agg #[.string ⟨#[]⟩, .int .i64 0, .int .u64 0]), 3, 32) := by kernel_rfl

/-- what reading a basis leaves -/
def BasQ (w : World) (r b cap : Nat) (s : ByteArray) (ok : Bool) (p : Nat) (v : Value) (w' : World) : Prop :=
  ∃ (p' : Nat) (ok' : Bool) (es : List (ByteArray × Nat × Int)), PRd w' r b cap s p' ok' ∧ p' ≤ s.size ∧ es.length ≤ 8 ∧ w'.ownsRow w.heap.size 115 3 v es.length (entCells es) ∧
    (ok' = true → ok = true ∧ ((filesP ((nums s).drop p)).bind fun q => basisP q.1 false [] q.2) = some (es.map entV, (nums s).drop p')) ∧ (ok' = false → ok = false ∨ ((filesP ((nums s).drop p)).bind fun q => basisP q.1 false [] q.2) = none) ∧ w.grownBy w' (some r)
theorem basis_step (m : Nat) (last l : List Int) : basisP (m + 1) false last l = (entryP false last l).bind fun q => (basisP m false q.1.name q.2).map fun q2 => (q.1 :: q2.1, q2.2) := by
  conv => lhs; unfold basisP
  simp only [Option.bind_eq_bind]
  congr 1
  funext q
  cases basisP m false q.1.name q.2 <;> rfl

set_option maxRecDepth 10000 in
set_option maxHeartbeats 2000000 in
theorem pbasis_any (r b cap p : Nat) (s : ByteArray) (ok : Bool) (w : World) (hs : s.size ≤ 70000) (hcap : s.size ≤ cap) (hp : p ≤ s.size) (hR : PRd w r b cap s p ok) (hbr : b ≠ r) (hb : b < w.heap.size) (hc : ∀ k (h : k < (nums s).length), w.cell? ⟨b, 0 + k, none⟩ = some (.int .u8 (nums s)[k])) :
    Calls Tryz.prog 154 #[.pointer (some ⟨r, 0, none⟩)] w fun e w' => ∃ v, e = .returned v ∧ BasQ w r b cap s ok p v w' := by
  obtain ⟨i0, hi, z0, z1, z2⟩ := info_parts Tryz.info115
  have hlr := hR.lt
  have HF := hide (pfiles_any r b cap p s ok w hs hcap hp hR hbr hb hc)
  have HC := hide hc
  clear hR hc
  go_enter Tryz.func154, Tryz.ntmps154
  go_wp2_with fail
  refine HF.out.mono ?_
  rintro e w1 ⟨n, rfl, p1, ok1, hR1, hp1, hn8, hyes, hno, hg1⟩
  have HR1 := hide hR1
  have HG1 := hide hg1
  have HP1 := hide hp1
  obtain ⟨all, hall⟩ : ∃ all, all = ((filesP ((nums s).drop p)).bind fun q => basisP q.1 false [] q.2) := ⟨_, rfl⟩
  have HST : Hid ((ok1 = true → ok = true ∧ all = (basisP n false [] ((nums s).drop p1)).map fun q => ([] ++ q.1, q.2)) ∧ (ok1 = false → ok = false ∨ all = none)) := by
    refine ⟨fun h => ⟨(hyes h).1, ?_⟩, fun h => (hno h).2.imp id fun e => by rw [hall, e]; rfl⟩
    rw [hall, (hyes h).2]
    simp
  clear hR1 hg1 hyes hno hp1 HF
  have HALL := hide hall
  clear hall
  go_wp2_with fail
  go_loopw [3, 4, 8] (fun v3 v4 v8 wr => ∃ (k q : Nat) (okr : Bool) (es : List (ByteArray × Nat × Int)) (last : ByteArray), k ≤ n ∧ v8 = .int .i64 k ∧ v4 = .string last ∧ Hid (es.length = k) ∧ Hid (q ≤ s.size) ∧ Hid (PRd wr r b cap s q okr) ∧ Hid (wr.ownsRow w.heap.size 115 3 v3 k (entCells es)) ∧ Hid (w.grownBy wr (some r)) ∧
    Hid ((okr = true → ok = true ∧ all = (basisP (n - k) false (nums last) ((nums s).drop q)).map fun q => (es.map entV ++ q.1, q.2)) ∧ (okr = false → ok = false ∨ all = none))) (fun _ _ v8 _ => n - (intOf v8).toNat)
  case atStart => exact ⟨0, p1, ok1, [], ⟨#[]⟩, Nat.zero_le _, rfl, rfl, rfl, HP1.out, HR1.out, World.ownsRow_nil _ _ _ _, HG1.out, HST.out⟩
  case round =>
    clear HR1 HG1 HP1 HST
    obtain ⟨k, q, okr, es, last, hk, rfl, rfl, HEL, HQ, HRr, HOr, HGr, HSr⟩ := hrel
    by_cases hlt : k < n
    · have hbr2 : b < wr.heap.size := Nat.lt_of_lt_of_le hb HGr.out.size
      have HEN := hide (pentry_any r b cap q s last okr wr hs hcap HQ.out HRr.out hbr hbr2 (cells_grow hbr HGr.out HC.out))
      go_wp2_with fail
      refine HEN.out.mono ?_
      rintro e w2 ⟨t, z, dg, rfl, q2, ok2, hR2, hq2, ht, hz, hd0, hd1, hyes, hno, hg2⟩
      have HR2 := hide hR2
      have HQ2 := hide hq2
      have HG2 := hide hg2
      have HO2 := hide (row_kept HOr.out hg2 hlr)
      have HS2 : Hid ((ok2 = true → ok = true ∧ all = (basisP (n - (k + 1)) false (nums t) ((nums s).drop q2)).map fun q => ((es ++ [(t, z, dg)]).map entV ++ q.1, q.2)) ∧ (ok2 = false → ok = false ∨ all = none)) := by
        refine ⟨fun h => ?_, fun h => ?_⟩
        · obtain ⟨h1, h2⟩ := hyes h
          obtain ⟨h3, h4⟩ := HSr.out.1 h1
          refine ⟨h3, ?_⟩
          rw [h4, show n - k = (n - (k + 1)) + 1 by omega, basis_step, h2]
          simp only [Option.bind_some, Option.map_map]
          congr 1
          funext q
          simp [entV]
        · rcases hno h with h1 | h1
          · exact HSr.out.2 h1
          · cases okr with
            | false => exact HSr.out.2 rfl
            | true =>
              obtain ⟨h3, h4⟩ := HSr.out.1 rfl
              right
              rw [h4, show n - k = (n - (k + 1)) + 1 by omega, basis_step, h1]; rfl
      have hsz2 : w.heap.size ≤ w2.heap.size := Nat.le_trans HGr.out.size hg2.size
      have HEL1 : Hid (es.length = k) := HEL.out
      clear hR2 hq2 hg2 hyes hno HEN HRr HSr
      go_wp2_with (at_builtin; refine wpList_append_own_at _ rfl (.tmp 13) (.tmp 15) 107 rfl w.heap.size 115 i0 (.agg #[.string ⟨#[]⟩, .int .i64 0, .int .u64 0]) 3 32 Tryz.underlying107 hi z0 z1 z2 rfl (by decide) _ k (entCells es) rfl ((HO2.out.alloc _).alloc _) ⟨w2.heap.size + 1, 0, none⟩ 1 1 [.string t, .int .i64 z, .int .u64 dg] rfl rfl ?ka ?kb ?kc ?kd ?ke ?kf)
      case ka =>
        intro j y hy
        match j, hy with
        | 0, hy => simp at hy; subst hy; simp [Addr.add]
        | 1, hy => simp at hy; subst hy; simp [Addr.add]
        | 2, hy => simp at hy; subst hy; simp [Addr.add]
      case kb => intro y hy; simp at hy; rcases hy with rfl | rfl | rfl <;> rfl
      case kc => unfold maxLen; omega
      case kd => omega
      case ke => simp; omega
      case kf =>
        intro v3 w3 hown3 hgrow3 _ _
        have hgg := ((World.grownBy_alloc w2 (.cells #[.string t, .int .i64 z, .int .u64 dg] 115) u3.ownBlock).trans (World.grownBy_alloc _ _ _)).trans hgrow3
        have hrow : ∀ j, u3.ownBlock = some j → w.heap.size ≤ j := fun j hj => (HOr.out.lt j hj).1
        have HG3 : Hid (w.grownBy w3 (some r)) := grown_comp (HGr.out.trans HG2.out) hgg hrow
        have HR3 : Hid (PRd w3 r b cap s q2 ok2) := HR2.out.grown hgg (fun e => by have := hrow r e; omega)
        have HO3 : Hid (w3.ownsRow w.heap.size 115 3 v3 (k + 1) (entCells (es ++ [(t, z, dg)]))) := by rw [entCells_snoc]; exact hown3
        have HEL3 : Hid ((es ++ [(t, z, dg)]).length = k + 1) := by show _ = _; simp [HEL1.out]
        have k0 : w3.cell? ⟨w2.heap.size, 0, none⟩ = some (.string t) := by
          refine hgrow3.cell ?_ (fun e => ?_)
          · rw [World.cell?_alloc_lt _ _ _ (by simp)]; exact cell_new rfl rfl
          · have := (HO2.out.lt _ e.symm).2; simp at this
        clear hown3 hgrow3 hgg hrow
        go_wp2_with fail
        go_roundw
        case rel => exact ⟨k + 1, q2, ok2, _, t, by omega, by go_num, rfl, HEL3.out, HQ2.out, HR3.out, HO3.out, HG3.out, HS2.out⟩
        case measure => simp [intOf]; omega
    · have hkn : k = n := by omega
      subst hkn
      have HF1 : Hid ((okr = true → ok = true ∧ all = some (es.map entV, (nums s).drop q)) ∧ (okr = false → ok = false ∨ all = none)) := by
        refine ⟨fun h => ⟨(HSr.out.1 h).1, ?_⟩, HSr.out.2⟩
        rw [(HSr.out.1 h).2, Nat.sub_self]
        simp [basisP]
      go_wp2_with fail
      go_ret
      refine ⟨_, rfl, q, okr, es, HRr.out, HQ.out, ?_, ?_, ?_, ?_, HGr.out⟩
      · have := HEL.out; omega
      · rw [HEL.out]; exact HOr.out
      · rw [← HALL.out]; exact HF1.out.1
      · rw [← HALL.out]; exact HF1.out.2
end Go.Proofs.YtbhccdedcoajmaaGreatDoor
namespace Go.Proofs.YtbhccdedcoajmaaGreatDoor
open Go.RowKit

/-- a token as it stands, its blocks not held against a basis -/
def rawP (l : List Int) : Option (Tok × List Int) :=
  (numP 1 l).bind fun q => if q.1 = 0 then (numP 1 q.2).bind fun q2 => (if 0 < q2.1 then (txtP q2.1.toNat q2.2).bind fun q3 => some (⟨0, 0, q3.1⟩, q3.2) else none)
    else if q.1 = 1 then (numP 2 q.2).bind fun q2 => (numP 1 q2.2).bind fun q3 => (if 0 < q3.1 then some (⟨q2.1, q3.1, []⟩, q3.2) else none) else none
theorem Step.off {s : ByteArray} {ok' : Bool} {p n p' : Nat} (h : Step s false p n p' ok') : ok' = false ∧ p' = p := by
  rcases h with ⟨h, _⟩ | ⟨h, h2, _⟩
  · cases h
  · exact ⟨h, h2⟩

theorem raw0 {s : ByteArray} {ok ok1 ok2 ok4 : Bool} {p p1 p2 p4 k : Nat} {t : List Int} (hp : p ≤ s.size) (S1 : Step s ok p 1 p1 ok1) (v1 : ok1 = true → (0 : Int) = getN (((nums s).drop p).take 1))
    (S2 : Step s ok1 p1 1 p2 ok2) (v2 : ok2 = true → (k : Int) = getN (((nums s).drop p1).take 1)) (S4 : Step s (ok2 && decide (0 < k)) p2 k p4 ok4) (v4 : ok4 = true → t = ((nums s).drop p2).take k) :
    (ok4 = true → ok = true ∧ rawP ((nums s).drop p) = some (⟨0, 0, t⟩, (nums s).drop p4)) ∧ (ok4 = false → ok = false ∨ rawP ((nums s).drop p) = none) := by
  unfold rawP
  rcases S1 with ⟨rfl, a1, rfl, rfl⟩ | ⟨rfl, rfl, a1⟩
  · rw [num_at a1, ← v1 rfl]
    simp only [Option.bind_some, if_true]
    rcases S2 with ⟨_, a2, rfl, rfl⟩ | ⟨rfl, rfl, a2⟩
    · rw [num_at a2, ← v2 rfl]
      simp only [Option.bind_some, Bool.true_and, Int.toNat_natCast] at S4 ⊢
      by_cases h0 : 0 < k
      · rw [if_pos (by omega)]
        rw [decide_eq_true h0] at S4
        rcases S4 with ⟨_, a4, rfl, rfl⟩ | ⟨rfl, rfl, a4⟩
        · rw [txt_at a4, ← v4 rfl]
          simp
        · rw [txt_no (by simpa using a4) (by omega)]
          simp
      · rw [if_neg (by omega)]
        rw [decide_eq_false h0] at S4
        obtain ⟨rfl, _⟩ := S4.off
        simp
    · rw [Bool.false_and] at S4
      obtain ⟨rfl, _⟩ := S4.off
      rw [num_no (by simpa using a2) (by omega)]
      simp
  · obtain ⟨rfl, _⟩ := S2.off
    rw [Bool.false_and] at S4
    obtain ⟨rfl, _⟩ := S4.off
    refine ⟨fun h => (by cases h), fun _ => ?_⟩
    rcases a1 with rfl | a1
    · exact .inl rfl
    · right
      rw [num_no a1 hp]; rfl
theorem raw1 {s : ByteArray} {ok ok1 ok2 ok3 : Bool} {p p1 p2 p3 bk k : Nat} (hp : p ≤ s.size) (S1 : Step s ok p 1 p1 ok1) (v1 : ok1 = true → (1 : Int) = getN (((nums s).drop p).take 1))
    (S2 : Step s ok1 p1 2 p2 ok2) (v2 : ok2 = true → (bk : Int) = getN (((nums s).drop p1).take 2)) (S3 : Step s ok2 p2 1 p3 ok3) (v3 : ok3 = true → (k : Int) = getN (((nums s).drop p2).take 1)) :
    ((ok3 && decide (0 < k)) = true → ok = true ∧ rawP ((nums s).drop p) = some (⟨bk, k, []⟩, (nums s).drop p3)) ∧ ((ok3 && decide (0 < k)) = false → ok = false ∨ rawP ((nums s).drop p) = none) := by
  unfold rawP
  rcases S1 with ⟨rfl, a1, rfl, rfl⟩ | ⟨rfl, rfl, a1⟩
  · rw [num_at a1, ← v1 rfl]
    simp only [Option.bind_some, if_true, show ((1 : Int) = 0) = False by simp, if_false]
    rcases S2 with ⟨_, a2, rfl, rfl⟩ | ⟨rfl, rfl, a2⟩
    · rw [num_at a2, ← v2 rfl]
      simp only [Option.bind_some]
      rcases S3 with ⟨_, a3, rfl, rfl⟩ | ⟨rfl, rfl, a3⟩
      · rw [num_at a3, ← v3 rfl]
        simp only [Option.bind_some, Bool.true_and]
        by_cases h0 : 0 < k
        · rw [if_pos (by omega)]
          simp [h0]
        · rw [if_neg (by omega)]
          simp [h0]
      · rw [num_no (by simpa using a3) (by omega)]
        simp
    · obtain ⟨rfl, _⟩ := S3.off
      rw [num_no (by simpa using a2) (by omega)]
      simp
  · obtain ⟨rfl, _⟩ := S2.off
    obtain ⟨rfl, _⟩ := S3.off
    refine ⟨fun h => (by cases h), fun _ => ?_⟩
    rcases a1 with rfl | a1
    · exact .inl rfl
    · right
      rw [num_no a1 hp]; rfl
theorem raw2 {s : ByteArray} {ok ok1 : Bool} {p p1 v : Nat} (hp : p ≤ s.size) (hv : 2 ≤ v) (S1 : Step s ok p 1 p1 ok1) (v1 : ok1 = true → (v : Int) = getN (((nums s).drop p).take 1)) : ok = false ∨ rawP ((nums s).drop p) = none := by
  unfold rawP
  rcases S1 with ⟨rfl, a1, rfl, rfl⟩ | ⟨rfl, rfl, a1⟩
  · right
    rw [num_at a1, ← v1 rfl]
    simp only [Option.bind_some]
    rw [if_neg (by omega), if_neg (by omega)]
  · rcases a1 with rfl | a1
    · exact .inl rfl
    · right
      rw [num_no a1 hp]; rfl

theorem Tryz.noBytes (w : World) : (binOp BinOp.eql 38 (.slice none 0 0) (.slice none 0 0)).run Tryz.prog w = .ok (.bool true) w := by kernel_rfl
set_option maxRecDepth 10000 in
set_option maxHeartbeats 400000 in
theorem clone_nil (w : World) : Calls Tryz.prog 85 #[.slice none 0 0] w fun e w' => e = .returned (.slice none 0 0) ∧ w' = w := by
  have hnil := Tryz.noBytes
  go_enter Tryz.func85, Tryz.ntmps85
  go_wp2_with fail
  go_ret
  exact ⟨rfl, rfl⟩

/-- bounds of a token as it is read -/
def Sml (t : Tok) : Prop := Bytes t.data ∧ t.data.length ≤ 255 ∧ 0 ≤ t.block ∧ t.block ≤ 65535 ∧ 0 ≤ t.count ∧ t.count ≤ 255
/-- what reading a token leaves -/
def TokQ (w : World) (r b cap : Nat) (s : ByteArray) (ok : Bool) (p : Nat) (t : Tok) (dv : Value) (w' : World) : Prop :=
  ∃ (p' : Nat) (ok' : Bool), PRd w' r b cap s p' ok' ∧ p' ≤ s.size ∧ Sml t ∧ w'.ownsRow w.heap.size 5 1 dv t.data.length (u8s t.data) ∧ (ok' = true → ok = true ∧ rawP ((nums s).drop p) = some (t, (nums s).drop p')) ∧ (ok' = false → ok = false ∨ rawP ((nums s).drop p) = none) ∧ w.grownBy w' (some r)
theorem own_set {w : World} {base base2 : Nat} {v : Value} {zs : List Int} (h : w.ownsRow base2 5 1 v zs.length (u8s zs)) {g : Nat} (hg : g < base2) (hb : base ≤ base2) (x y z : Value) :
    (((w.setCell ⟨g, 0, none⟩ x).setCell ⟨g, 1, none⟩ y).setCell ⟨g, 2, none⟩ z).ownsRow base 5 1 v zs.length (u8s zs) := by
  have hne : v.ownBlock = none ∨ v.ownBlock ≠ some g := by
    cases hv : v.ownBlock with
    | none => exact .inl rfl
    | some k =>
      refine .inr fun e => ?_
      have := (h.lt k hv).1
      have : k = g := by simpa using e
      omega
  exact ownsRow_base (((h.kept (setCell_grown _) hne).kept (setCell_grown _) hne).kept (setCell_grown _) hne) hb
theorem PRd.set3 {w : World} {r b cap p g : Nat} {s : ByteArray} {ok : Bool} (h : PRd w r b cap s p ok) (hlr : r < g) (x y z : Value) : PRd (((w.setCell ⟨g, 0, none⟩ x).setCell ⟨g, 1, none⟩ y).setCell ⟨g, 2, none⟩ z) r b cap s p ok := by
  obtain ⟨ev, h1, h2⟩ := h
  exact ⟨ev, h1, ((Below.heap_setCell _ _ _ _ (Nat.ne_of_lt hlr)).trans ((Below.heap_setCell _ _ _ _ (Nat.ne_of_lt hlr)).trans ((Below.heap_setCell _ _ _ _ (Nat.ne_of_lt hlr)).trans h2)))⟩
end Go.Proofs.YtbhccdedcoajmaaGreatDoor
