import Derived.Test.YtbhccdedcoajmaaDoorAlike
namespace Go.Proofs.YtbhccdedcoajmaaDoor
open Go.RowKit

def Full (w : World) (u : Value) (x : Int) : Prop := ∀ g n c, u = .slice (some ⟨g, 0, none⟩) n c → ∃ cs : Array Value, w.heap[g]? = some (.cells cs 5 (0, 0)) ∧ cs.size = c ∧ ∀ k, k < c → cs[k]? = some (.int .u8 x)
/-- the data of the first i tokens has been written -/
structure Wrote (w wr : World) (ps : List (Tok × Value)) (i : Nat) : Prop where
  os : wr.os = w.os
  tape : wr.tape = w.tape
  output : wr.output = w.output
  size : w.heap.size ≤ wr.heap.size
  other : ∀ b, b < w.heap.size → (∀ j (h : j < ps.length), j < i → ps[j].2.ownBlock ≠ some b) → wr.heap[b]? = w.heap[b]?
  full : ∀ j (h : j < ps.length), j < i → Full wr ps[j].2 ((j : Int) % 256)
theorem grownBy_refl (w : World) (row : Option Nat) : w.grownBy w row := ⟨rfl, rfl, rfl, Nat.le_refl _, fun _ _ _ => rfl⟩
theorem Wrote.start (w : World) (ps : List (Tok × Value)) : Wrote w w ps 0 := ⟨rfl, rfl, rfl, Nat.le_refl _, fun _ _ _ => rfl, fun _ _ h => by omega⟩
theorem Full.same {w w' : World} {u : Value} {x : Int} (h : Full w u x) (hs : ∀ g, u.ownBlock = some g → w'.heap[g]? = w.heap[g]?) : Full w' u x := by
  intro g n c e
  obtain ⟨cs, h1, h2⟩ := h g n c e
  exact ⟨cs, (hs g (by rw [e]; rfl)).trans h1, h2⟩
theorem Wrote.below {w wr wr' : World} {base : Nat} {v : Value} {ps : List (Tok × Value)} {i : Nat} (hT : TokRow w base v ps) (h : Wrote w wr ps i) (hb : Below wr.heap.size wr wr') : Wrote w wr' ps i :=
  ⟨hb.os.trans h.os, hb.tape.trans h.tape, hb.output.trans h.output, Nat.le_trans h.size hb.size, fun b h1 h2 => (hb.block b (Nat.lt_of_lt_of_le h1 h.size)).trans (h.other b h1 h2),
    fun j hj h1 => (h.full j hj h1).same fun g hg => hb.block g (Nat.lt_of_lt_of_le ((hT.data _ (List.getElem_mem hj)).lt g hg).2 h.size)⟩
theorem apart_at {ps : List (Tok × Value)} (h : ps.Pairwise fun p q => ∀ g g', p.2.ownBlock = some g → q.2.ownBlock = some g' → g < g') {i j : Nat} (hi : i < ps.length) (hj : j < ps.length) (hij : i ≠ j) {g : Nat} (e : ps[i].2.ownBlock = some g) : ps[j].2.ownBlock ≠ some g := by
  rw [List.pairwise_iff_getElem] at h
  intro e'
  rcases Nat.lt_or_ge i j with hlt | hge
  · have := h i j hi hj hlt g g e e'; omega
  · have := h j i hj hi (by omega) g g e' e; omega
theorem Wrote.next {w wr wr' : World} {base : Nat} {v : Value} {ps : List (Tok × Value)} {i : Nat} (hT : TokRow w base v ps) (h : Wrote w wr ps i) (hi : i < ps.length) {row : Option Nat} (hg : wr.grownBy wr' row) (hrow : row = none ∨ row = ps[i].2.ownBlock) (hf : Full wr' ps[i].2 ((i : Int) % 256)) : Wrote w wr' ps (i + 1) := by
  refine ⟨hg.os.trans h.os, hg.tape.trans h.tape, hg.output.trans h.output, Nat.le_trans h.size hg.size, fun b h1 h2 => ?_, fun j hj h1 => ?_⟩
  · rw [hg.block b (Nat.lt_of_lt_of_le h1 h.size) ?_]
    · exact h.other b h1 fun j hj hji => h2 j hj (by omega)
    · have := h2 i hi (by omega)
      rcases hrow with e | e
      · rw [e]; simp
      · rw [e]; exact fun e' => this e'.symm
  · rcases Nat.lt_or_ge j i with hlt | hge
    · refine (h.full j hj hlt).same fun g hgj => ?_
      refine hg.block g (Nat.lt_of_lt_of_le ((hT.data _ (List.getElem_mem hj)).lt g hgj).2 h.size) ?_
      rcases hrow with e | e
      · rw [e]; simp
      · rw [e]; exact fun e' => apart_at hT.apart hj hi (by omega) hgj e'.symm
    · obtain rfl : j = i := by omega
      exact hf
/-- the row itself still stands -/
theorem Wrote.row {w wr : World} {base : Nat} {v : Value} {ps : List (Tok × Value)} {i : Nat} (hT : TokRow w base v ps) (h : Wrote w wr ps i) {g : Nat} (hg : v.ownBlock = some g) (hlt : g < w.heap.size) : wr.heap[g]? = w.heap[g]? :=
  h.other g hlt fun _ hj _ e => hT.off _ (List.getElem_mem hj) g e hg
theorem Wrote.end_ {w wr : World} {base : Nat} {v : Value} {ps : List (Tok × Value)} {i : Nat} (hT : TokRow w base v ps) (hbase : base ≤ w.heap.size) (h : Wrote w wr ps i) : Below base w wr := by
  refine ⟨h.os, h.tape, h.output, h.size, fun k hk => ?_⟩
  exact h.other k (by omega) fun j hj _ e => by have := ((hT.data _ (List.getElem_mem hj)).lt k e).1; omega

set_option maxRecDepth 10000 in
set_option maxHeartbeats 1000000 in
theorem written_ok (base : Nat) (v : Value) (ps : List (Tok × Value)) (w : World) (hbase : base ≤ w.heap.size) (hT : TokRow w base v ps) (hl : ps.length ≤ 70000) :
    Calls Tryd.prog 21 #[v] w fun e w' => e = .returned (.bool true) ∧ Below base w w' := by
  obtain ⟨va, cap, rfl, hcap, hcell⟩ := hT.opened
  -- the data's slice of token i, in whatever world the row still stands
  have HC : Hid (∀ (i : Nat), i < ps.length → ∀ (wr : World) (q : Nat), Wrote w wr ps q → ∃ (g : Nat) (u : Value), va = some ⟨g, 0, none⟩ ∧ wr.cell? ⟨g, i * 3 + 2, none⟩ = some u ∧ ps[i]?.map Prod.snd = some u) := by
    intro i hi wr q hW
    obtain ⟨g, hv, hb, hlt, c0, c1, c2⟩ := hcell i hi
    refine ⟨g, ps[i].2, hv, ?_, by simp [hi]⟩
    rw [← c2]
    exact World.cell?_of_block (hW.row hT (by rw [hv]; rfl) hlt)
  have HD : Hid (∀ (i : Nat) (u : Value), ps[i]?.map Prod.snd = some u → i < ps.length ∧ (u = .slice none 0 0 ∨ ∃ (g m c : Nat) (cur : Array Value), u = .slice (some ⟨g, 0, none⟩) m c ∧ m ≤ c ∧ c ≤ 9223372036854775807 ∧ w.heap[g]? = some (.cells cur 5 (0, 0)) ∧ cur.size = c)) := by
    intro i u e
    have hi : i < ps.length := by
      rcases Nat.lt_or_ge i ps.length with h | h
      · exact h
      · rw [List.getElem?_eq_none h] at e; cases e
    refine ⟨hi, ?_⟩
    rw [List.getElem?_eq_getElem hi] at e
    simp only [Option.map_some, Option.some.injEq] at e
    subst e
    rcases (hT.data _ (List.getElem_mem hi)).2 with ⟨h, _⟩ | ⟨g, c, cur, h, _, hg, h1, h2, h3, _⟩
    · exact .inl h
    · exact .inr ⟨g, _, c, cur, h, h1, by simpa [maxLen] using h2, hg, by rw [h3, Nat.mul_one]⟩
  have HNX : Hid (∀ (i : Nat) (u : Value) (wr wr' : World) (row : Option Nat), ps[i]?.map Prod.snd = some u → Wrote w wr ps i → wr.grownBy wr' row → (row = none ∨ row = u.ownBlock) → Full wr' u ((i : Int) % 256) → Wrote w wr' ps (i + 1)) := by
    intro i u wr wr' row e hW hg hrow hf
    have hi := (HD.out i u e).1
    rw [List.getElem?_eq_getElem hi] at e
    simp only [Option.map_some, Option.some.injEq] at e
    subst e
    exact hW.next hT hi hg hrow hf
  have HBL : Hid (∀ wr wr' i, Wrote w wr ps i → Below wr.heap.size wr wr' → Wrote w wr' ps i) := fun wr wr' i h hb => h.below hT hb
  have HFL : Hid (∀ (i : Nat) (u : Value) (wr : World), ps[i]?.map Prod.snd = some u → Wrote w wr ps ps.length → Full wr u ((i : Int) % 256)) := by
    intro i u wr e hW
    have hi := (HD.out i u e).1
    rw [List.getElem?_eq_getElem hi] at e
    simp only [Option.map_some, Option.some.injEq] at e
    subst e
    exact hW.full i hi hi
  have HSAME : Hid (∀ (i : Nat) (u : Value) (wr : World) (g m c : Nat), ps[i]?.map Prod.snd = some u → u = .slice (some ⟨g, 0, none⟩) m c → Wrote w wr ps i → wr.heap[g]? = w.heap[g]?) := by
    intro i u wr g m c e eu hW
    have hi := (HD.out i u e).1
    rw [List.getElem?_eq_getElem hi] at e
    simp only [Option.map_some, Option.some.injEq] at e
    subst e
    have ho : ps[i].2.ownBlock = some g := by rw [eu]; rfl
    exact hW.other g ((hT.data _ (List.getElem_mem hi)).lt g ho).2 fun j hj hji => apart_at hT.apart hi hj (by omega) ho
  have HEND : Hid (∀ wr, Wrote w wr ps ps.length → Below base w wr) := fun wr h => h.end_ hT hbase
  clear hcell hT
  generalize ps.length = n at *
  go_enter Tryd.func21, Tryd.ntmps21
  go_wp2_with fail
  go_loopw [3] (fun i wr => ∃ k : Nat, k ≤ n ∧ i = .int .i64 k ∧ Hid (Wrote w wr ps k)) (fun i _ => n - (intOf i).toNat)
  case atStart => exact ⟨0, Nat.zero_le _, rfl, Wrote.start _ _⟩
  case round =>
    obtain ⟨i, hi, rfl, HW⟩ := hrel
    by_cases hlt : i < n
    · obtain ⟨g0, u, rfl, hc, hu⟩ := HC.out i hlt wr i HW.out
      have HU := hide hu
      clear hu
      rcases (HD.out i u HU.out).2 with rfl | ⟨g, m, c, cur, rfl, hmc, hcl, hcur, hcs⟩
      · go_wp2_with fail
        go_quiet (fail)
        have HW1 := hide (HBL.out _ _ _ HW.out (below_drewN (Below.refl _ _) nq))
        clear HW hc
        generalize wr.drewN nq = w1 at *
        go_wp2_with fail
        go_loopw [5] (fun k w2 => k = .int .i64 0 ∧ Hid (w2 = w1)) (fun _ _ => 0)
        case atStart => exact ⟨rfl, (rfl : _ = _)⟩
        case round =>
          obtain ⟨rfl, HE⟩ := hrel
          obtain rfl := HE.out.symm
          go_wp2_with fail
          go_roundw
          case rel => exact ⟨i + 1, by omega, by go_num, HNX.out i _ _ _ none HU.out HW1.out (grownBy_of_below (Below.refl _ _)) (.inl rfl) (fun g n c e => by cases e)⟩
          case measure => simp [intOf]; omega
      · go_wp2_with fail
        go_quiet (fail)
        have HW1 := hide (HBL.out _ _ _ HW.out (below_drewN (Below.refl _ _) nq))
        have HCUR : Hid ((wr.drewN nq).heap[g]? = some (.cells cur 5 (0, 0))) := by
          have := HSAME.out i _ _ g m c HU.out rfl HW1.out
          rw [hcur] at this
          exact this
        clear HW hc hcur
        generalize wr.drewN nq = w1 at *
        go_wp2_with fail
        go_loopw [5] (fun kv w2 => ∃ k : Nat, k ≤ c ∧ kv = .int .i64 k ∧ Hid (w1.grownBy w2 (some g)) ∧ Hid (∃ cs : Array Value, w2.heap[g]? = some (.cells cs 5 (0, 0)) ∧ cs.size = c ∧ ∀ q, q < k → cs[q]? = some (.int .u8 ((i : Int) % 256)))) (fun kv _ => c - (intOf kv).toNat)
        case atStart => exact ⟨0, Nat.zero_le _, rfl, grownBy_refl _ _, ⟨cur, HCUR.out, hcs, fun q hq => by omega⟩⟩
        case round =>
          obtain ⟨k, hk, rfl, HG, HCS⟩ := hrel
          by_cases hkc : k < c
          · obtain ⟨cs, hg, hsz, hall⟩ := HCS.out
            obtain ⟨x0, hcell⟩ : ∃ x0, wr.cell? ⟨g, k, none⟩ = some x0 := ⟨_, cell_row hg (Array.getElem?_eq_getElem (show k < cs.size by omega))⟩
            have hfz : wr.frozen? ⟨g, k, none⟩ = false := frozen_of_row _ _ _ _ _ hg
            have HGG := hide hg
            have HSZ := hide hsz
            have HALL := hide hall
            clear hg hsz hall HCS
            go_wp2_with fail
            go_roundw
            case rel =>
              refine ⟨k + 1, by omega, by go_num, HG.out.trans (setCell_grown _), ⟨cs.set! k (.int .u8 ((i : Int) % 256)), ?_, by simpa using HSZ.out, fun q hq => ?_⟩⟩
              · exact heap_setCell_same _ _ _ _ _ _ HGG.out
              · have := HSZ.out
                rcases Nat.lt_or_ge q k with h | h
                · rw [← HALL.out q h]; simp [show k ≠ q by omega]
                · obtain rfl : q = k := by omega
                  simp [show q < cs.size by omega]
            case measure => simp [intOf]; omega
          · go_wp2_with fail
            go_roundw
            case rel =>
              refine ⟨i + 1, by omega, by go_num, HNX.out i _ _ _ (some g) HU.out HW1.out HG.out (.inr rfl) (fun g' n' c' e => ?_)⟩
              simp only [Value.slice.injEq, Option.some.injEq, Addr.mk.injEq] at e
              obtain ⟨⟨rfl, _⟩, _, rfl⟩ := e
              obtain ⟨cs, h1, h2, h3⟩ := HCS.out
              exact ⟨cs, h1, h2, fun q hq => h3 q (by omega)⟩
            case measure => simp [intOf]; omega
    · have hin : i = n := by omega
      have HWN : Hid (Wrote w wr ps n) := hin ▸ HW.out
      clear hin HW
      generalize wr = w1 at *
      go_wp2_with fail
      go_loopw [6] (fun j w2 => ∃ k : Nat, k ≤ n ∧ j = .int .i64 k ∧ Hid (Wrote w w2 ps n)) (fun j _ => n - (intOf j).toNat)
      case atStart => exact ⟨0, Nat.zero_le _, rfl, HWN.out⟩
      case round =>
        obtain ⟨j, hj, rfl, HW⟩ := hrel
        by_cases hjt : j < n
        · obtain ⟨g0, u, rfl, hc, hu⟩ := HC.out j hjt wr n HW.out
          have HU := hide hu
          clear hu
          rcases (HD.out j u HU.out).2 with rfl | ⟨g, m, c, cur, rfl, hmc, hcl, hcur, hcs⟩
          · go_wp2_with fail
            go_quiet (fail)
            have HW1 := hide (HBL.out _ _ _ HW.out (below_drewN (Below.refl _ _) nq))
            clear HW hc
            generalize wr.drewN nq = w3 at *
            go_wp2_with fail
            go_loopw [8] (fun k w2 => k = .int .i64 0 ∧ Hid (w2 = w3)) (fun _ _ => 0)
            case atStart => exact ⟨rfl, (rfl : _ = _)⟩
            case round =>
              obtain ⟨rfl, HE⟩ := hrel
              obtain rfl := HE.out.symm
              go_wp2_with fail
              go_roundw
              case rel => exact ⟨j + 1, by omega, by go_num, HW1.out⟩
              case measure => simp [intOf]; omega
          · go_wp2_with fail
            go_quiet (fail)
            have HW1 := hide (HBL.out _ _ _ HW.out (below_drewN (Below.refl _ _) nq))
            have HFU := hide (HFL.out j _ _ HU.out HW1.out)
            clear HW hc hcur
            generalize wr.drewN nq = w3 at *
            go_wp2_with fail
            go_loopw [8] (fun kv w2 => ∃ k : Nat, k ≤ c ∧ kv = .int .i64 k ∧ Hid (w2 = w3)) (fun kv _ => c - (intOf kv).toNat)
            case atStart => exact ⟨0, Nat.zero_le _, rfl, (rfl : _ = _)⟩
            case round =>
              obtain ⟨k, hk, rfl, HE⟩ := hrel
              obtain rfl := HE.out.symm
              by_cases hkc : k < c
              · obtain ⟨cs, hg, hsz, hall⟩ := HFU.out g m c rfl
                have hcell := cell_row hg (hall k hkc)
                clear hg hsz hall
                go_wp2_with fail
                go_roundw
                case rel => exact ⟨k + 1, by omega, by go_num, trivial⟩
                case measure => simp [intOf]; omega
              · go_wp2_with fail
                go_roundw
                case rel => exact ⟨j + 1, by omega, by go_num, HW1.out⟩
                case measure => simp [intOf]; omega
        · go_wp2_with fail
          go_ret
          exact ⟨rfl, HEND.out _ HW.out⟩
end Go.Proofs.YtbhccdedcoajmaaDoor
