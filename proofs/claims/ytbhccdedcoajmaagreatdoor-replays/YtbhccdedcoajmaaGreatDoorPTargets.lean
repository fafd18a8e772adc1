import Derived.Test.YtbhccdedcoajmaaGreatDoorPTokens
import Derived.Test.YtbhccdedcoajmaaGreatDoorFairM
namespace Go.Proofs.YtbhccdedcoajmaaGreatDoor
open Go.RowKit

/-- a list of entries in memory, to be read -/
def El (w : World) (v : Value) (es : List (ByteArray × Nat × Int)) : Prop :=
  ∃ va cap, v = .slice va es.length cap ∧ es.length ≤ cap ∧ ∀ i (hi : i < es.length), ∃ g, va = some ⟨g, 0, none⟩ ∧ g < w.heap.size ∧ w.cell? ⟨g, i * 3, none⟩ = some (.string es[i].1) ∧ w.cell? ⟨g, i * 3 + 1, none⟩ = some (.int .i64 es[i].2.1) ∧ w.cell? ⟨g, i * 3 + 2, none⟩ = some (.int .u64 es[i].2.2)
theorem El.below {w w' : World} {v : Value} {es : List (ByteArray × Nat × Int)} (h : El w v es) (hb : Below w.heap.size w w') : El w' v es := by
  obtain ⟨va, cap, h1, h2, h3⟩ := h
  refine ⟨va, cap, h1, h2, fun i hi => ?_⟩
  obtain ⟨g, e, hg, c0, c1, c2⟩ := h3 i hi
  exact ⟨g, e, Nat.lt_of_lt_of_le hg hb.size, (hb.cell (p := ⟨g, _, none⟩) hg).trans c0, (hb.cell (p := ⟨g, _, none⟩) hg).trans c1, (hb.cell (p := ⟨g, _, none⟩) hg).trans c2⟩
theorem El_of_row {w : World} {base : Nat} {v : Value} {es : List (ByteArray × Nat × Int)} (h : w.ownsRow base 115 3 v es.length (entCells es)) : El w v es := by
  rcases h.2 with ⟨hv, h0⟩ | ⟨g, cap, cur, hv, _, hg, h1, _⟩
  · exact ⟨none, 0, by rw [hv, h0], by omega, fun i hi => by omega⟩
  · have hlt : g < w.heap.size := (Array.getElem?_eq_some_iff.1 hg).1
    refine ⟨some ⟨g, 0, none⟩, cap, hv, h1, fun i hi => ⟨g, rfl, hlt, ?_, ?_, ?_⟩⟩
    · have := h.cells (g := g) (by rw [hv]; rfl) (i * 3) _ (entCells_at es i hi).1
      rw [add_at] at this; exact this
    · have := h.cells (g := g) (by rw [hv]; rfl) (i * 3 + 1) _ (entCells_at es i hi).2.1
      rw [add_at] at this; exact this
    · have := h.cells (g := g) (by rw [hv]; rfl) (i * 3 + 2) _ (entCells_at es i hi).2.2
      rw [add_at] at this; exact this

/-- the size of the first entry of a name -/
def sizeF (es : List (ByteArray × Nat × Int)) (nm : ByteArray) : Nat := ((es.find? fun e => decide (nums e.1 = nums nm)).map fun e => e.2.1).getD 0
theorem sizeF_hit {es : List (ByteArray × Nat × Int)} {nm : ByteArray} {k : Nat} (hk : k < es.length) (h : nums es[k].1 = nums nm) (hno : ∀ j (hj : j < es.length), j < k → nums es[j].1 ≠ nums nm) : sizeF es nm = es[k].2.1 := by
  unfold sizeF
  have : es.find? (fun e => decide (nums e.1 = nums nm)) = some es[k] := by
    rw [List.find?_eq_some_iff_getElem]
    exact ⟨by simpa using h, k, hk, rfl, fun j hj => by simpa using hno j (by omega) hj⟩
  rw [this]; rfl
theorem sizeF_no {es : List (ByteArray × Nat × Int)} {nm : ByteArray} (hno : ∀ j (hj : j < es.length), nums es[j].1 ≠ nums nm) : sizeF es nm = 0 := by
  unfold sizeF
  have : es.find? (fun e => decide (nums e.1 = nums nm)) = none := by
    rw [List.find?_eq_none]
    intro p hp
    obtain ⟨k, hk, rfl⟩ := List.getElem_of_mem hp
    simpa using hno k hk
  rw [this]; rfl
theorem sizeF_le {es : List (ByteArray × Nat × Int)} (nm : ByteArray) {c : Nat} (h : ∀ e ∈ es, e.2.1 ≤ c) : sizeF es nm ≤ c := by
  unfold sizeF
  cases hf : es.find? fun e => decide (nums e.1 = nums nm) with
  | none => exact Nat.zero_le _
  | some e => exact h e (List.mem_of_find?_eq_some hf)
theorem fold_first (nm : List Int) : ∀ (es : List (ByteArray × Nat × Int)) (z : Int), es.Pairwise (fun a b => nums a.1 ≠ nums b.1) → (es.map entV).foldl (fun z e => if e.name = nm then e.size else z) z = match es.find? (fun e => decide (nums e.1 = nm)) with | some e => ((e.2.1 : Nat) : Int) | none => z
  | [], z, _ => rfl
  | e :: es, z, h => by
    rw [List.pairwise_cons] at h
    rw [List.map_cons, List.foldl_cons, fold_first nm es _ h.2]
    by_cases he : nums e.1 = nm
    · rw [List.find?_cons_of_pos (by simpa using he)]
      have hno : es.find? (fun e => decide (nums e.1 = nm)) = none := by
        rw [List.find?_eq_none]
        intro x hx
        have := h.1 x hx
        simp only [decide_eq_true_eq]
        exact fun e2 => this (he.trans e2.symm)
      rw [hno]
      simp [entV, he]
    · rw [List.find?_cons_of_neg (by simpa using he)]
      simp [entV, he]
theorem sizeOfL_first {es : List (ByteArray × Nat × Int)} (h : es.Pairwise fun a b => nums a.1 ≠ nums b.1) (nm : ByteArray) : sizeOfL (es.map entV) (nums nm) = (sizeF es nm : Int) := by
  unfold sizeOfL sizeF
  rw [fold_first (nums nm) es 0 h]
  cases es.find? fun e => decide (nums e.1 = nums nm) <;> rfl

set_option maxRecDepth 10000 in
set_option maxHeartbeats 400000 in
theorem psizeOf_any (v : Value) (es : List (ByteArray × Nat × Int)) (nm : ByteArray) (w : World) (hl : es.length ≤ 70000) (hE : El w v es) :
    Calls Tryz.prog 169 #[v, .string nm] w fun e w' => e = .returned (.int .i64 (sizeF es nm : Nat)) ∧ Below w.heap.size w w' := by
  obtain ⟨va, cap, rfl, hcap, hcell⟩ := hE
  have HC : Hid (∀ k (hk : k < es.length), ∃ (g : Nat), va = some ⟨g, 0, none⟩ ∧ g < w.heap.size ∧ w.cell? ⟨g, k * 3, none⟩ = some (.string es[k].1) ∧ w.cell? ⟨g, k * 3 + 1, none⟩ = some (.int .i64 es[k].2.1) ∧ w.cell? ⟨g, k * 3 + 2, none⟩ = some (.int .u64 es[k].2.2)) := hcell
  have HHIT : Hid (∀ k (hk : k < es.length), nums es[k].1 = nums nm → (∀ j (hj : j < es.length), j < k → nums es[j].1 ≠ nums nm) → sizeF es nm = es[k].2.1) := fun k hk h hno => sizeF_hit hk h hno
  have HNO : Hid ((∀ j (hj : j < es.length), nums es[j].1 ≠ nums nm) → sizeF es nm = 0) := fun h => sizeF_no h
  have HTE : Hid (∀ k (hk : k < es.length), (es[k].1.toList == nm.toList) = decide (nums es[k].1 = nums nm)) := fun k hk => text_eq _ _
  clear hcell
  go_enter Tryz.func169, Tryz.ntmps169
  go_wp2_with fail
  go_loopw [9] (fun i wr => ∃ k : Nat, k ≤ es.length ∧ i = .int .i64 k ∧ Hid (∀ j (hj : j < es.length), j < k → nums es[j].1 ≠ nums nm) ∧ Hid (Below w.heap.size w wr)) (fun i _ => es.length - (intOf i).toNat)
  case atStart => exact ⟨0, Nat.zero_le _, rfl, (fun j _ hj => by omega), Below.refl _ _⟩
  case round =>
    obtain ⟨k, hk, rfl, HA, HBr⟩ := hrel
    by_cases hlt : k < es.length
    · obtain ⟨g, rfl, hg, c0, c1, c2⟩ := HC.out k hlt
      have d0 := (HBr.out.cell (p := ⟨g, k * 3, none⟩) hg).trans c0
      have d1 := (HBr.out.cell (p := ⟨g, k * 3 + 1, none⟩) hg).trans c1
      have d2 := (HBr.out.cell (p := ⟨g, k * 3 + 2, none⟩) hg).trans c2
      have hte := HTE.out k hlt
      have HIT := hide (HHIT.out k hlt)
      have HNE : Hid (nums es[k].1 ≠ nums nm → ∀ j (hj : j < es.length), j < k + 1 → nums es[j].1 ≠ nums nm) := by
        intro h j hj hjk
        rcases Nat.lt_or_ge j k with h' | h'
        · exact HA.out j hj h'
        · obtain rfl : j = k := by omega
          exact h
      have HB1 : Hid (∀ o, Below w.heap.size w (wr.alloc o)) := fun o => HBr.out.alloc HBr.out.size _
      clear c0 c1 c2
      generalize es[k].1 = a at *
      generalize es[k].2.1 = z at *
      generalize es[k].2.2 = d at *
      by_cases hh : nums a = nums nm
      · have HR := hide (HIT.out hh HA.out)
        rw [decide_eq_true hh] at hte
        clear hh HIT HNE
        go_wp2_with fail
        go_ret
        exact ⟨by rw [HR.out]; rfl, HB1.out _⟩
      · have HH := hide hh
        rw [decide_eq_false hh] at hte
        clear hh HIT
        go_wp2_with fail
        go_roundw
        case rel => exact ⟨k + 1, by omega, by go_num, HNE.out HH.out, HB1.out _⟩
        case measure => simp [intOf]; omega
    · have HR := hide (HNO.out (fun j hj => HA.out j hj (by omega)))
      go_wp2_with fail
      go_ret
      exact ⟨by rw [HR.out]; rfl, HBr.out⟩

/-- a target in memory: its entry, its tokens' row, where that lies -/
structure Tg where
  ent : ByteArray × Nat × Int
  v : Value
  ps : List (Tok × Value)
  lo : Nat
  hi : Nat
def tgV (x : Tg) : EntL × List Tok := (entV x.ent, x.ps.map Prod.fst)
def tgCells (xs : List Tg) : List Value := xs.flatMap fun x => [.string x.ent.1, .int .i64 x.ent.2.1, .int .u64 x.ent.2.2, x.v]
theorem tgCells_snoc (xs : List Tg) (x : Tg) : tgCells (xs ++ [x]) = tgCells xs ++ [.string x.ent.1, .int .i64 x.ent.2.1, .int .u64 x.ent.2.2, x.v] := by simp [tgCells]
theorem tgCells_at : ∀ (xs : List Tg) (i : Nat) (hi : i < xs.length), (tgCells xs)[i * 4]? = some (.string xs[i].ent.1) ∧ (tgCells xs)[i * 4 + 1]? = some (.int .i64 xs[i].ent.2.1) ∧ (tgCells xs)[i * 4 + 2]? = some (.int .u64 xs[i].ent.2.2) ∧ (tgCells xs)[i * 4 + 3]? = some xs[i].v
  | x :: xs, 0, _ => by simp [tgCells]
  | x :: xs, i + 1, h => by
    have := tgCells_at xs i (by simpa using h)
    have e' : tgCells (x :: xs) = .string x.ent.1 :: .int .i64 x.ent.2.1 :: .int .u64 x.ent.2.2 :: x.v :: tgCells xs := by simp [tgCells]
    rw [e', show (i + 1) * 4 = i * 4 + 1 + 1 + 1 + 1 by omega]
    simpa using this
/-- a target's tokens lie in their own stretch of memory -/
structure TgOk (w : World) (base : Nat) (x : Tg) : Prop where
  low : base ≤ x.lo
  row : TokRow w x.lo x.v x.ps
  b1 : ∀ k, x.v.ownBlock = some k → x.lo ≤ k ∧ k < x.hi
  b2 : ∀ p ∈ x.ps, ∀ k, p.2.ownBlock = some k → x.lo ≤ k ∧ k < x.hi
  high : x.hi ≤ w.heap.size
  small : ∀ p ∈ x.ps, Sml p.1
  len : x.ps.length ≤ 65535
theorem TgOk.below {w w' : World} {base : Nat} {x : Tg} (h : TgOk w base x) (hb : Below w.heap.size w w') : TgOk w' base x := ⟨h.low, h.row.below hb, h.b1, h.b2, Nat.le_trans h.high hb.size, h.small, h.len⟩
theorem TgOk.keepR {w w' : World} {base r : Nat} {x : Tg} (h : TgOk w base x) (g : w.grownBy w' (some r)) (hr : r < base) : TgOk w' base x := ⟨h.low, h.row.keepR g (Nat.lt_of_lt_of_le hr h.low), h.b1, h.b2, Nat.le_trans h.high g.size, h.small, h.len⟩
theorem TgOk.grew {w w' : World} {base : Nat} {x : Tg} {v : Value} (h : TgOk w base x) (hrow : ∀ k, v.ownBlock = some k → k < x.lo ∨ x.hi ≤ k) (g : w.grownBy w' v.ownBlock) : TgOk w' base x := ⟨h.low, h.row.grew h.b1 h.b2 hrow g, h.b1, h.b2, Nat.le_trans h.high g.size, h.small, h.len⟩

theorem Tryz.info117 : (Tryz.prog.info? 117).map (fun i => (i.zero, i.size, i.bytes)) = some (some (.agg #[.string ⟨#[]⟩, .int .i64 0, .int .u64 0, .slice none 0 0]), 4, 56) := by kernel_rfl
theorem targets_step (bas : List EntL) (B m : Nat) (last l : List Int) : targetsP bas B (m + 1) false last l = (entryP false last l).bind fun q => (tokensP (sizeOfL bas q.1.name).toNat B q.1.size q.2).bind fun q2 => (targetsP bas B m false q.1.name q2.2).map fun q3 => ((q.1, q2.1) :: q3.1, q3.2) := by
  conv => lhs; unfold targetsP
  simp only [Option.bind_eq_bind]
  congr 1
  funext q
  unfold tokensP
  cases numP 2 q.2 with
  | none => rfl
  | some q1 =>
    simp only [Option.bind_some]
    cases toksP (sizeOfL bas q.1.name).toNat B q1.1.toNat q1.2 with
    | none => rfl
    | some q2 =>
      simp only [Option.bind_some]
      split
      · simp only [Option.bind_some]
        cases targetsP bas B m false q.1.name q2.2 <;> rfl
      · rfl

/-- what reading the targets leaves -/
def TgtQ (w : World) (r b cap : Nat) (s : ByteArray) (ok : Bool) (p B : Nat) (bas : List EntL) (v : Value) (w' : World) : Prop :=
  ∃ (p' : Nat) (ok' : Bool) (xs : List Tg), PRd w' r b cap s p' ok' ∧ p' ≤ s.size ∧ xs.length ≤ 8 ∧ w'.ownsRow w.heap.size 117 4 v xs.length (tgCells xs) ∧ (∀ x ∈ xs, TgOk w' w.heap.size x) ∧ xs.Pairwise (fun x y => x.hi ≤ y.lo) ∧ (∀ x ∈ xs, ∀ k, v.ownBlock = some k → k < x.lo ∨ x.hi ≤ k) ∧
    (ok' = true → ok = true ∧ ((filesP ((nums s).drop p)).bind fun q => targetsP bas B q.1 false [] q.2) = some (xs.map tgV, (nums s).drop p')) ∧ (ok' = false → ok = false ∨ ((filesP ((nums s).drop p)).bind fun q => targetsP bas B q.1 false [] q.2) = none) ∧ w.grownBy w' (some r)

set_option maxRecDepth 10000 in
set_option maxHeartbeats 1000000 in
theorem ptargets_any (r b cap p B : Nat) (s : ByteArray) (ok : Bool) (bv : Value) (es : List (ByteArray × Nat × Int)) (w : World) (hs : s.size ≤ 70000) (hcap : s.size ≤ cap) (hp : p ≤ s.size) (hR : PRd w r b cap s p ok) (hbr : b ≠ r) (hb : b < w.heap.size) (hc : ∀ k (h : k < (nums s).length), w.cell? ⟨b, 0 + k, none⟩ = some (.int .u8 (nums s)[k]))
    (hE : ∀ W, w.grownBy W (some r) → El W bv es) (hel : es.length ≤ 8) (hok : ok = true → (∀ e ∈ es, e.2.1 ≤ 300) ∧ (es.Pairwise fun a b => nums a.1 ≠ nums b.1) ∧ 1 ≤ B ∧ B ≤ 64) :
    Calls Tryz.prog 155 #[.pointer (some ⟨r, 0, none⟩), bv, .int .i64 B] w fun e w' => ∃ v, e = .returned v ∧ TgtQ w r b cap s ok p B (es.map entV) v w' := by
  obtain ⟨i0, hi, z0, z1, z2⟩ := info_parts Tryz.info117
  have hlr := hR.lt
  have HF := hide (pfiles_any r b cap p s ok w hs hcap hp hR hbr hb hc)
  have HC := hide hc
  have HE := hide hE
  have HOK := hide hok
  clear hR hc hE hok
  go_enter Tryz.func155, Tryz.ntmps155
  go_wp2_with fail
  refine HF.out.mono ?_
  rintro e w1 ⟨n, rfl, p1, ok1, hR1, hp1, hn8, hyes, hno, hg1⟩
  have HR1 := hide hR1
  have HG1 := hide hg1
  have HP1 := hide hp1
  obtain ⟨all, hall⟩ : ∃ all, all = ((filesP ((nums s).drop p)).bind fun q => targetsP (es.map entV) B q.1 false [] q.2) := ⟨_, rfl⟩
  have HST : Hid ((ok1 = true → ok = true ∧ all = (targetsP (es.map entV) B n false [] ((nums s).drop p1)).map fun q => ([] ++ q.1, q.2)) ∧ (ok1 = false → ok = false ∨ all = none)) := by
    refine ⟨fun h => ⟨(hyes h).1, ?_⟩, fun h => (hno h).2.imp id fun e => by rw [hall, e]; rfl⟩
    rw [hall, (hyes h).2]
    simp
  clear hR1 hg1 hyes hno hp1 HF
  have HALL := hide hall
  clear hall
  go_wp2_with fail
  go_loopw [7, 8, 13] (fun v7 v8 v13 wr => ∃ (k q : Nat) (okr : Bool) (xs : List Tg) (last : ByteArray), k ≤ n ∧ v13 = .int .i64 k ∧ v8 = .string last ∧ Hid (xs.length = k) ∧ Hid (q ≤ s.size) ∧ Hid (PRd wr r b cap s q okr) ∧ Hid (wr.ownsRow w.heap.size 117 4 v7 k (tgCells xs)) ∧ Hid (w.grownBy wr (some r)) ∧
    Hid ((∀ x ∈ xs, TgOk wr w.heap.size x) ∧ xs.Pairwise (fun x y => x.hi ≤ y.lo) ∧ (∀ x ∈ xs, ∀ k, v7.ownBlock = some k → k < x.lo ∨ x.hi ≤ k)) ∧
    Hid ((okr = true → ok = true ∧ all = (targetsP (es.map entV) B (n - k) false (nums last) ((nums s).drop q)).map fun q => (xs.map tgV ++ q.1, q.2)) ∧ (okr = false → ok = false ∨ all = none))) (fun _ _ v13 _ => n - (intOf v13).toNat)
  case atStart => exact ⟨0, p1, ok1, [], ⟨#[]⟩, Nat.zero_le _, rfl, rfl, rfl, HP1.out, HR1.out, World.ownsRow_nil _ _ _ _, HG1.out, ⟨fun x hx => by simp at hx, List.Pairwise.nil, fun x hx => by simp at hx⟩, HST.out⟩
  case round =>
    clear HR1 HG1 HP1 HST
    obtain ⟨k, q, okr, xs, last, hk, rfl, rfl, HXL, HQ, HRr, HOr, HGr, HXr, HSr⟩ := hrel
    by_cases hlt : k < n
    · have hbw : b < wr.heap.size := Nat.lt_of_lt_of_le hb HGr.out.size
      have hwr : w.heap.size ≤ wr.heap.size := HGr.out.size
      have HEN := hide (pentry_any r b cap q s last okr wr hs hcap HQ.out HRr.out hbr hbw (cells_grow hbr HGr.out HC.out))
      go_wp2_with fail
      refine HEN.out.mono ?_
      rintro e w2 ⟨t, z, dg, rfl, q2, ok2, hR2, hq2, ht, hz, hd0, hd1, hyes, hno, hg2⟩
      have HR2 := hide hR2
      have HQ2 := hide hq2
      have HG2 : Hid (w.grownBy w2 (some r)) := HGr.out.trans hg2
      have HG2r := hide hg2
      have HENT : Hid ((ok2 = true → okr = true ∧ entryP false (nums last) ((nums s).drop q) = some (⟨nums t, z, dg⟩, (nums s).drop q2)) ∧ (ok2 = false → okr = false ∨ entryP false (nums last) ((nums s).drop q) = none)) := ⟨hyes, hno⟩
      have hw2 : wr.heap.size ≤ w2.heap.size := hg2.size
      clear hR2 hq2 hg2 hyes hno HEN
      have HOK2 : Hid (ok2 = true → ok = true) := fun h => (HSr.out.1 (HENT.out.1 h).1).1
      obtain ⟨o, hho⟩ : ∃ o, o = Obj.cells #[.string t, .int .i64 z, .int .u64 dg] 115 := ⟨_, rfl⟩
      have hx0 : (w2.alloc o).cell? ⟨w2.heap.size, 0, none⟩ = some (.string t) := by rw [hho]; exact cell_new rfl rfl
      have hx1 : (w2.alloc o).cell? ⟨w2.heap.size, 1, none⟩ = some (.int .i64 z) := by rw [hho]; exact cell_new rfl rfl
      have hx2 : (w2.alloc o).cell? ⟨w2.heap.size, 2, none⟩ = some (.int .u64 dg) := by rw [hho]; exact cell_new rfl rfl
      have HA : Hid (Below w2.heap.size w2 (w2.alloc o).drew) := ((Below.refl _ _).alloc (Nat.le_refl _) _).drew
      have HWL : Hid (w2.heap.size < (w2.alloc o).drew.heap.size) := by show _ < _; simp
      rw [hho] at hx0 hx1 hx2 HA HWL
      clear hho
      have HSZ : Hid (∀ W, Below w2.heap.size w2 W → Calls Tryz.prog 169 #[bv, .string t] W fun e w' => e = .returned (.int .i64 (sizeF es t : Nat)) ∧ Below W.heap.size W w') := fun W hb' => psizeOf_any bv es t W (by omega) (HE.out W (HG2.out.trans (grown_of_below hb')))
      have HTK : Hid (∀ W, Below w2.heap.size w2 W → Calls Tryz.prog 168 #[.pointer (some ⟨r, 0, none⟩), .int .i64 z, .int .i64 (sizeF es t : Nat), .int .i64 B] W fun e w' => ∃ v, e = .returned v ∧ TksQ W r b cap s ok2 q2 (sizeF es t) B z v w') := by
        intro W hb'
        have hgW : w.grownBy W (some r) := HG2.out.trans (grown_of_below hb')
        exact ptokens_any r b cap q2 (sizeF es t) B z s ok2 W hs hcap HQ2.out (HR2.out.below hb') hbr (Nat.lt_of_lt_of_le hb hgW.size) (cells_grow hbr hgW HC.out) (fun h => ⟨sizeF_le t (HOK.out (HOK2.out h)).1, (HOK.out (HOK2.out h)).2.2.1, (HOK.out (HOK2.out h)).2.2.2⟩) hz
      have hrw : r ≠ w2.heap.size := by omega
      go_wp2_with fail
      generalize hWA : w2.alloc (.cells #[.string t, .int .i64 z, .int .u64 dg] 115) = wa at *
      clear hWA
      go_region_held3 (fun w' => w'.cell? ⟨w2.heap.size, 0, none⟩ = some (.string t) ∧ w'.cell? ⟨w2.heap.size, 1, none⟩ = some (.int .i64 z) ∧ w'.cell? ⟨w2.heap.size, 2, none⟩ = some (.int .u64 dg))
        (first | exact ⟨hx0, hx1, hx2⟩ | exact ⟨y0, y1, y2⟩ | exact ⟨v0, v1, v2⟩)
        ((first | (go_at_call 169; refine (HSZ.out _ HA.out).mono ?_; rintro e w3 ⟨rfl, hb3⟩; have y0 := (hb3.cell (p := ⟨w2.heap.size, 0, none⟩) HWL.out).trans hx0; have y1 := (hb3.cell (p := ⟨w2.heap.size, 1, none⟩) HWL.out).trans hx1; have y2 := (hb3.cell (p := ⟨w2.heap.size, 2, none⟩) HWL.out).trans hx2) | (go_at_call 168; refine (HTK.out _ (below_all HA.out hb3)).mono ?_; rintro e w4 ⟨tv, rfl, q4, ok4, ps, hR4, hq4, hT4, hS4, hl4, hyes4, hno4, hg4⟩; have v0 := hg4.cell y0 (by simp; exact Ne.symm hrw); have v1 := hg4.cell y1 (by simp; exact Ne.symm hrw); have v2 := hg4.cell y2 (by simp; exact Ne.symm hrw))))
      obtain ⟨ta, tn, tc, rfl⟩ : ∃ ta tn tc, tv = .slice ta tn tc := by
        rcases hT4.row.2 with ⟨h, _⟩ | ⟨g, c, cur, h, _⟩
        · exact ⟨_, _, _, h⟩
        · exact ⟨_, _, _, h⟩
      have hB23 := below_all HA.out hb3
      have HG4 : Hid (w.grownBy w4 (some r)) := (HG2.out.trans (grown_of_below hB23)).trans hg4
      have hw3 : w2.heap.size < w3.heap.size := Nat.lt_of_lt_of_le HWL.out hb3.size
      have hw4 : w3.heap.size ≤ w4.heap.size := hg4.size
      have HR4 := hide hR4
      have HQ4 := hide hq4
      have HO4 : Hid (w4.ownsRow w.heap.size 117 4 u7 k (tgCells xs)) := row_kept (ownsRow_below (row_kept HOr.out HG2r.out hlr) hB23) hg4 hlr
      have HX4 : Hid (∀ x ∈ xs, TgOk w4 w.heap.size x) := fun x hx => (((HXr.out.1 x hx).keepR HG2r.out hlr).below hB23).keepR hg4 hlr
      have HTG : Hid (TgOk w4 w.heap.size ⟨(t, z, dg), .slice ta tn tc, ps, w3.heap.size, w4.heap.size⟩) := ⟨by show _ ≤ w3.heap.size; omega, hT4, hT4.row.lt, fun p hp => (hT4.data p hp).lt, Nat.le_refl _, hS4, hl4⟩
      have HS4 : Hid ((ok4 = true → ok = true ∧ all = (targetsP (es.map entV) B (n - (k + 1)) false (nums t) ((nums s).drop q4)).map fun q => ((xs ++ [(⟨(t, z, dg), .slice ta tn tc, ps, w3.heap.size, w4.heap.size⟩ : Tg)]).map tgV ++ q.1, q.2)) ∧ (ok4 = false → ok = false ∨ all = none)) := by
        have hsf : ok = true → (sizeOfL (es.map entV) (nums t)).toNat = sizeF es t := fun h => by rw [sizeOfL_first (HOK.out h).2.1]; rfl
        refine ⟨fun h => ?_, fun h => ?_⟩
        · obtain ⟨h1, h2⟩ := hyes4 h
          obtain ⟨h3, h4⟩ := HENT.out.1 h1
          obtain ⟨h5, h6⟩ := HSr.out.1 h3
          refine ⟨h5, ?_⟩
          rw [h6, show n - k = (n - (k + 1)) + 1 by omega, targets_step, h4]
          simp only [Option.bind_some]
          rw [hsf h5, h2]
          simp only [Option.bind_some, Option.map_map]
          congr 1
          funext q
          simp [tgV, entV]
        · rcases hno4 h with h1 | h1
          · rcases HENT.out.2 h1 with h2 | h2
            · exact HSr.out.2 h2
            · cases okr with
              | false => exact HSr.out.2 rfl
              | true =>
                obtain ⟨h5, h6⟩ := HSr.out.1 rfl
                right
                rw [h6, show n - k = (n - (k + 1)) + 1 by omega, targets_step, h2]; rfl
          · cases hk2 : ok2 with
            | false =>
              rcases HENT.out.2 hk2 with h2 | h2
              · exact HSr.out.2 h2
              · cases okr with
                | false => exact HSr.out.2 rfl
                | true =>
                  obtain ⟨h5, h6⟩ := HSr.out.1 rfl
                  right
                  rw [h6, show n - k = (n - (k + 1)) + 1 by omega, targets_step, h2]; rfl
            | true =>
              obtain ⟨h3, h4⟩ := HENT.out.1 hk2
              obtain ⟨h5, h6⟩ := HSr.out.1 h3
              right
              rw [h6, show n - k = (n - (k + 1)) + 1 by omega, targets_step, h4]
              simp only [Option.bind_some]
              rw [hsf h5, h1]; rfl
      clear hR4 hq4 hT4 hS4 hl4 hyes4 hno4 hg4 hb3 hB23 y0 y1 y2 hx0 hx1 hx2
      have hrow : ∀ j, u7.ownBlock = some j → w.heap.size ≤ j ∧ j < wr.heap.size := fun j hj => HOr.out.lt j hj
      have HROW := hide hrow
      clear hrow
      go_wp2_with (at_builtin; refine wpList_append_own_at _ rfl (.tmp 27) (.tmp 31) 108 rfl w.heap.size 117 i0 (.agg #[.string ⟨#[]⟩, .int .i64 0, .int .u64 0, .slice none 0 0]) 4 56 Tryz.underlying108 hi z0 z1 z2 rfl (by decide) _ k (tgCells xs) rfl (HO4.out.alloc _) ⟨w4.heap.size, 0, none⟩ 1 1 [.string t, .int .i64 z, .int .u64 dg, .slice ta tn tc] rfl rfl ?ka ?kb ?kc ?kd ?ke ?kf)
      case ka =>
        intro j y hy
        match j, hy with
        | 0, hy => simp at hy; subst hy; simp [Addr.add]
        | 1, hy => simp at hy; subst hy; simp [Addr.add]
        | 2, hy => simp at hy; subst hy; simp [Addr.add]
        | 3, hy => simp at hy; subst hy; simp [Addr.add]
      case kb => intro y hy; simp at hy; rcases hy with rfl | rfl | rfl | rfl <;> rfl
      case kc => unfold maxLen; omega
      case kd => omega
      case ke => simp; omega
      case kf =>
        intro v5 w5 hown5 hgrow5 _ hloc5
        have hgg := (World.grownBy_alloc w4 (.cells #[.string t, .int .i64 z, .int .u64 dg, .slice ta tn tc] 117) u7.ownBlock).trans hgrow5
        have HG5 : Hid (w.grownBy w5 (some r)) := grown_comp HG4.out hgg (fun j hj => (HROW.out j hj).1)
        have HR5 : Hid (PRd w5 r b cap s q4 ok4) := HR4.out.grown hgg (fun e => by have := (HROW.out r e).1; omega)
        have HO5 : Hid (w5.ownsRow w.heap.size 117 4 v5 (k + 1) (tgCells (xs ++ [(⟨(t, z, dg), .slice ta tn tc, ps, w3.heap.size, w4.heap.size⟩ : Tg)]))) := by rw [tgCells_snoc]; exact hown5
        have hat : v5.ownBlock = u7.ownBlock ∨ v5.ownBlock = some (w4.heap.size + 1) := by simpa using hloc5
        have HX5 : Hid ((∀ x ∈ xs ++ [(⟨(t, z, dg), .slice ta tn tc, ps, w3.heap.size, w4.heap.size⟩ : Tg)], TgOk w5 w.heap.size x) ∧ (xs ++ [(⟨(t, z, dg), .slice ta tn tc, ps, w3.heap.size, w4.heap.size⟩ : Tg)]).Pairwise (fun x y => x.hi ≤ y.lo) ∧ (∀ x ∈ xs ++ [(⟨(t, z, dg), .slice ta tn tc, ps, w3.heap.size, w4.heap.size⟩ : Tg)], ∀ k, v5.ownBlock = some k → k < x.lo ∨ x.hi ≤ k)) := by
          refine ⟨fun x hx => ?_, ?_, fun x hx j hj => ?_⟩
          · rcases List.mem_append.1 hx with h | h
            · exact (HX4.out x h).grew (HXr.out.2.2 x h) hgg
            · simp at h; subst h
              exact HTG.out.grew (fun j hj => .inl (by have := (HROW.out j hj).2; show j < w3.heap.size; omega)) hgg
          · rw [List.pairwise_append]
            refine ⟨HXr.out.2.1, List.pairwise_singleton _ _, fun x hx y hy => ?_⟩
            simp at hy; subst hy
            have := (HXr.out.1 x hx).high
            show x.hi ≤ w3.heap.size
            omega
          · rcases List.mem_append.1 hx with h | h
            · rcases hat with e | e
              · exact HXr.out.2.2 x h j (e ▸ hj)
              · right
                have : w4.heap.size + 1 = j := by rw [e] at hj; simpa using hj
                have := (HX4.out x h).high
                omega
            · simp at h; subst h
              rcases hat with e | e
              · left
                have := (HROW.out j (e ▸ hj)).2
                show j < w3.heap.size
                omega
              · right
                have : w4.heap.size + 1 = j := by rw [e] at hj; simpa using hj
                show w4.heap.size ≤ j
                omega
        have HXL5 : Hid ((xs ++ [(⟨(t, z, dg), .slice ta tn tc, ps, w3.heap.size, w4.heap.size⟩ : Tg)]).length = k + 1) := by show _ = _; simp [HXL.out]
        have k0 : w5.cell? ⟨w2.heap.size, 0, none⟩ = some (.string t) := hgg.cell v0 (fun e => by have := (HROW.out _ e.symm).2; simp at this; omega)
        clear hown5 hgrow5 hloc5 hgg hat v0 v1 v2
        go_wp2_with fail
        go_roundw
        case rel => exact ⟨k + 1, q4, ok4, _, t, by omega, by go_num, rfl, HXL5.out, HQ4.out, HR5.out, HO5.out, HG5.out, HX5.out, HS4.out⟩
        case measure => simp [intOf]; omega
    · have hkn : k = n := by omega
      subst hkn
      have HF1 : Hid ((okr = true → ok = true ∧ all = some (xs.map tgV, (nums s).drop q)) ∧ (okr = false → ok = false ∨ all = none)) := by
        refine ⟨fun h => ⟨(HSr.out.1 h).1, ?_⟩, HSr.out.2⟩
        rw [(HSr.out.1 h).2, Nat.sub_self]
        simp [targetsP]
      go_wp2_with fail
      go_ret
      refine ⟨_, rfl, q, okr, xs, HRr.out, HQ.out, ?_, ?_, HXr.out.1, HXr.out.2.1, HXr.out.2.2, ?_, ?_, HGr.out⟩
      · have := HXL.out; omega
      · rw [HXL.out]; exact HOr.out
      · rw [← HALL.out]; exact HF1.out.1
      · rw [← HALL.out]; exact HF1.out.2
end Go.Proofs.YtbhccdedcoajmaaGreatDoor
