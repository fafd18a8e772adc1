import Derived.Test.YtbhccdedcoajmabDoorConv
import Derived.Deep.QuietTactic
import Derived.BigQuiet
import Derived.Test.YtbhccdedcoajmabDoorMade
namespace Go.Proofs.YtbhccdedcoajmabDoor
open Go.RowKit

theorem TokRow.opened {w : World} {base : Nat} {v : Value} {ps : List (Tok × Value)} (h : TokRow w base v ps) : ∃ va cap, v = .slice va ps.length cap ∧ ps.length ≤ cap ∧ ∀ i (hi : i < ps.length), ∃ g, va = some ⟨g, 0, none⟩ ∧ base ≤ g ∧ g < w.heap.size ∧ w.cell? ⟨g, i * 3, none⟩ = some (.int .i64 ps[i].1.block) ∧ w.cell? ⟨g, i * 3 + 1, none⟩ = some (.int .i64 ps[i].1.count) ∧ w.cell? ⟨g, i * 3 + 2, none⟩ = some ps[i].2 := by
  rcases Nat.eq_zero_or_pos ps.length with h0 | h0
  · rcases h.row.2 with ⟨hv, _⟩ | ⟨g, cap, cur, hv, _, _, h1, _⟩
    · exact ⟨none, 0, by rw [hv, h0], by omega, fun i hi => by omega⟩
    · exact ⟨_, cap, hv, h1, fun i hi => by omega⟩
  · obtain ⟨g, cap, rfl, hb, hl, h1, _⟩ := h.shape h0
    refine ⟨_, cap, rfl, h1, fun i hi => ⟨g, rfl, hb, hl, h.cells i hi⟩⟩

end Go.Proofs.YtbhccdedcoajmabDoor
