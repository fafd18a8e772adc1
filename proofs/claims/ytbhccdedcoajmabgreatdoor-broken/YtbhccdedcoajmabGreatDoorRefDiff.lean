import Derived.Test.YtbhccdedcoajmabGreatDoorBlocksM
import Derived.Deep.QuietTactic
import Derived.BigQuiet
import Derived.Deep.RegionHeld3
import Derived.Deep.AppendLies
import Derived.Deep.RegionLaw
namespace Go.Proofs.YtbhccdedcoajmabGreatDoor
open Go.RowKit

theorem nums_cons (u : ByteArray) (h : 0 < u.size) : nums u = (u[0].toNat : Int) :: nums (u.extract 1 u.size) := by
  rw [nums_extract]
  have hl := nums_length u
  have := nums_at u 0 h
  rw [← this]
  rw [List.take_of_length_le (by rw [List.length_drop]; omega)]
  rw [← List.drop_eq_getElem_cons (by omega)]
  rfl
theorem grown_drew {w w' : World} {r : Option Nat} (h : w.grownBy w' r) : w.grownBy w'.drew r := ⟨h.os, h.tape, h.output, h.size, h.block⟩
theorem one_new (w : World) (x : Int) : (w.alloc (.cells #[.int .u8 x] 5)).ownsRow w.heap.size 5 1 (.slice (some ⟨w.heap.size, 0, none⟩) 1 1) 1 (u8s [x]) :=
  ⟨rfl, .inr ⟨w.heap.size, 1, #[.int .u8 x], rfl, Nat.le_refl _, heap_alloc_new _ _, Nat.le_refl _, by decide, rfl, rfl⟩⟩

end Go.Proofs.YtbhccdedcoajmabGreatDoor
