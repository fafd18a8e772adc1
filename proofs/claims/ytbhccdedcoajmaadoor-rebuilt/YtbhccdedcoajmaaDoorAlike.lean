import Derived.Test.YtbhccdedcoajmaaDoorConv
import Derived.Deep.QuietTactic
import Derived.BigQuiet
import Derived.Test.YtbhccdedcoajmaaDoorMade
namespace Go.Proofs.YtbhccdedcoajmaaDoor
open Go.RowKit

theorem TokRow.opened {w : World} {base : Nat} {v : Value} {ps : List (Tok × Value)} (h : TokRow w base v ps) : ∃ va cap, v = .slice va ps.length cap ∧ ps.length ≤ cap ∧ ∀ i (hi : i < ps.length), ∃ g, va = some ⟨g, 0, none⟩ ∧ base ≤ g ∧ g < w.heap.size ∧ w.cell? ⟨g, i * 3, none⟩ = some (.int .i64 ps[i].1.block) ∧ w.cell? ⟨g, i * 3 + 1, none⟩ = some (.int .i64 ps[i].1.count) ∧ w.cell? ⟨g, i * 3 + 2, none⟩ = some ps[i].2 := by
  rcases Nat.eq_zero_or_pos ps.length with h0 | h0
  · rcases h.row.2 with ⟨hv, _⟩ | ⟨g, cap, cur, hv, _, _, h1, _⟩
    · exact ⟨none, 0, by rw [hv, h0], by omega, fun i hi => by omega⟩
    · exact ⟨_, cap, hv, h1, fun i hi => by omega⟩
  · obtain ⟨g, cap, rfl, hb, hl, h1, _⟩ := h.shape h0
    refine ⟨_, cap, rfl, h1, fun i hi => ⟨g, rfl, hb, hl, h.cells i hi⟩⟩

set_option maxRecDepth 10000 in
set_option maxHeartbeats 1000000 in
theorem alike_ok (base base' : Nat) (v v' : Value) (ps qs : List (Tok × Value)) (w : World) (hT : TokRow w base v ps) (hU : TokRow w base' v' qs) (he : ps.map Prod.fst = qs.map Prod.fst) (hb : ∀ p ∈ ps, Bytes p.1.data) (hl : ps.length ≤ 70000) :
    Calls Tryd.prog 20 #[v, v'] w fun e w' => e = .returned (.bool true) ∧ Below w.heap.size w w' := by
  obtain ⟨va, cap, rfl, hcap, hcell⟩ := hT.opened
  obtain ⟨va', cap', rfl, hcap', hcell'⟩ := hU.opened
  have hlen : ps.length = qs.length := by have := congrArg List.length he; simpa using this
  have HC : Hid (∀ i, i < ps.length → ∀ W, Below w.heap.size w W → ∃ (g g' : Nat) (x y : Int) (u u' : Value) (s : ByteArray), va = some ⟨g, 0, none⟩ ∧ va' = some ⟨g', 0, none⟩ ∧ W.cell? ⟨g, i * 3, none⟩ = some (.int .i64 x) ∧ W.cell? ⟨g, i * 3 + 1, none⟩ = some (.int .i64 y) ∧ W.cell? ⟨g, i * 3 + 2, none⟩ = some u ∧
      W.cell? ⟨g', i * 3, none⟩ = some (.int .i64 x) ∧ W.cell? ⟨g', i * 3 + 1, none⟩ = some (.int .i64 y) ∧ W.cell? ⟨g', i * 3 + 2, none⟩ = some u' ∧ (∀ W', Below W.heap.size W W' → (convert 25 9 u).run Tryd.prog W' = .ok (.string s) W') ∧ (∀ W', Below W.heap.size W W' → (convert 25 9 u').run Tryd.prog W' = .ok (.string s) W')) := by
    intro i hi W hb0
    obtain ⟨g, hv, _, hg, c0, c1, c2⟩ := hcell i hi
    obtain ⟨g', hv', _, hg', d0, d1, d2⟩ := hcell' i (by omega)
    have e := congrArg (fun l => l[i]?) he
    simp only [List.getElem?_map, List.getElem?_eq_getElem hi, List.getElem?_eq_getElem (show i < qs.length by omega), Option.map_some, Option.some.injEq] at e
    have hby := hb ps[i] (List.getElem_mem hi)
    refine ⟨g, g', ps[i].1.block, ps[i].1.count, ps[i].2, (qs[i]'(by omega)).2, bytesOf ps[i].1.data, hv, hv', (hb0.cell (p := ⟨g, _, none⟩) hg).trans c0, (hb0.cell (p := ⟨g, _, none⟩) hg).trans c1, (hb0.cell (p := ⟨g, _, none⟩) hg).trans c2, ?_, ?_, (hb0.cell (p := ⟨g', _, none⟩) hg').trans d2, fun W' h' => ?_, fun W' h' => ?_⟩
    · rw [e]; exact (hb0.cell (p := ⟨g', _, none⟩) hg').trans d0
    · rw [e]; exact (hb0.cell (p := ⟨g', _, none⟩) hg').trans d1
    · exact conv_own hby (ownsRow_below (hT.data _ (List.getElem_mem hi)) (below_all hb0 h'))
    · rw [e] at hby ⊢
      exact conv_own hby (ownsRow_below (hU.data _ (List.getElem_mem (by omega))) (below_all hb0 h'))
  clear hcell hcell' hT hU hb he
  rw [← hlen] at hcap' ⊢
  generalize ps.length = n at *
  clear hlen
  go_enter Tryd.func20, Tryd.ntmps20
  go_wp2_with fail
  go_loopw [5] (fun i wr => ∃ k : Nat, k ≤ n ∧ i = .int .i64 k ∧ Hid (Below w.heap.size w wr)) (fun i _ => n - (intOf i).toNat)
  case atStart => exact ⟨0, Nat.zero_le _, rfl, Below.refl _ _⟩
  case round =>
    obtain ⟨k, hk, rfl, HBr⟩ := hrel
    by_cases hlt : k < n
    · obtain ⟨g, g', x, y, u, u', s, rfl, rfl, c0, c1, c2, d0, d1, d2, hcv, hcv'⟩ := HC.out k hlt wr HBr.out
      have hv1 : ∀ q, (convert 25 9 u).run Tryd.prog (wr.drewN q) = .ok (.string s) (wr.drewN q) := fun q => hcv _ (below_drewN (Below.refl _ _) q)
      have hv2 : ∀ q, (convert 25 9 u').run Tryd.prog (wr.drewN q) = .ok (.string s) (wr.drewN q) := fun q => hcv' _ (below_drewN (Below.refl _ _) q)
      clear hcv hcv'
      go_wp2_with fail
      go_quiet (fail)
      go_wp2_with fail
      go_roundw
      case rel => exact ⟨k + 1, by omega, by go_num, below_drewN HBr.out _⟩
      case measure => simp [intOf]; omega
    · go_wp2_with fail
      go_ret
      exact ⟨rfl, HBr.out⟩
end Go.Proofs.YtbhccdedcoajmaaDoor
