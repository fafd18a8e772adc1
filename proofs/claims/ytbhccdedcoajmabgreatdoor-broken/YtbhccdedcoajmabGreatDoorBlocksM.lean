import Derived.Test.YtbhccdedcoajmabGreatDoorMathM
import Derived.Test.YtbhccdedcoajmabGreatDoorToldM
import Derived.Test.YtbhccdedcoajmabGreatDoorConvM
import Derived.Test.YtbhccdedcoajmabGreatDoorMade
namespace Go.Proofs.YtbhccdedcoajmabGreatDoor
open Go.RowKit

theorem Tryz.info9 : (Tryz.prog.info? 9).map (fun i => (i.zero, i.size, i.bytes)) = some (some (.string ⟨#[]⟩), 1, 16) := by kernel_rfl

end Go.Proofs.YtbhccdedcoajmabGreatDoor
namespace Go.Proofs.YtbhccdedcoajmabGreatDoor
open Go.RowKit

theorem row_open {w : World} {base : Nat} {e : TypeId} {v : Value} {n : Nat} {xs : List Value} (h : w.ownsRow base e 1 v n xs) : ∃ va cap, v = .slice va n cap ∧ n ≤ cap ∧ ∀ k, k < n → ∃ g, va = some ⟨g, 0, none⟩ ∧ w.cell? ⟨g, k, none⟩ = xs[k]? := by
  have hx := h.1
  rcases h.2 with ⟨hv, hn⟩ | ⟨g, cap, cur, hv, hb, hg, h1, h2, h3, h4⟩
  · exact ⟨none, 0, by rw [hv, hn], by omega, fun k hk => by omega⟩
  · refine ⟨_, cap, hv, h1, fun k hk => ⟨g, rfl, ?_⟩⟩
    rw [← h4]
    simp only [World.cell?, hg]
    rw [List.getElem?_take_of_lt (by omega)]
    simp

def placeV (r : Option Nat) : Value := .int .i64 (match r with | some k => (k : Int) | none => -1)

end Go.Proofs.YtbhccdedcoajmabGreatDoor
