/-
  DERIVED. GIVEN WITH THE SEED: THE CARDS: each row of YtbhccdedcoajmabGreatDoorRows.lean that lists a variable, with what it lists TIED to the program's text (the seventh form; the later family's looks); each row that meets fmt, with fmt's text TOLD by the authors' own Lean function (tested against real Go, not proved from fmt's source: count such statements apart). THE CARD IS WHAT COUNTS. Prove the row's statement (the work); the ties are given (YtbhccdedcoajmabGreatDoorTie.lean); close each card by the builder's one call (the guide's Derived/Test/ToyasCard.lean, 'card_holds'). Laid BY PROGRAM, IN A SANDBOX (cutbox-door.mjs). By AI agents, Wed Nov 11 2026. No macro, syntax, notation, axiom, sorry.
-/
import Derived.Test.YtbhccdedcoajmabGreatDoorRows
import GoSem.ClaimSeven
namespace Go.Proofs.YtbhccdedcoajmabGreatDoor
namespace Rows

/-- THE TIED CARD OF 'mirrorkeep.Brought'. -/
def broughtCard : Claim7 := { stood := { row := broughtRow, standIns := [], harness := (true, "d90fa3236b4c48ece1162d7778c78f33987c78a23bc8b17ec1a5215710a04e0f"), looks := true }, kinds := [], alts := [], goes := true, laidByText := true, laidKinds := [.handle], laidTests := true, laidLooks := .later }
def BroughtCardSaid : Prop := Claim7.holds Tryz.pinned (.plain (OpenSpec.ofChange broughtSpec)) broughtCard

/-- THE TIED CARD OF 'mirrorkeep.Broken'. -/
def brokenCard : Claim7 := { stood := { row := brokenRow, standIns := [], harness := (true, "d90fa3236b4c48ece1162d7778c78f33987c78a23bc8b17ec1a5215710a04e0f"), looks := true }, kinds := [], alts := [], goes := true, laidByText := true, laidKinds := [.handle], laidTests := true, laidLooks := .later }
def BrokenCardSaid : Prop := Claim7.holds Tryz.pinned (.plain (OpenSpec.ofChange brokenSpec)) brokenCard

/-- THE TIED CARD OF 'mirrorkeep.Torn'. -/
def tornCard : Claim7 := { stood := { row := tornRow, standIns := [], harness := (true, "d90fa3236b4c48ece1162d7778c78f33987c78a23bc8b17ec1a5215710a04e0f"), looks := true }, kinds := [], alts := [], goes := true, laidByText := true, laidKinds := [.handle], laidTests := true, laidLooks := .later }
def TornCardSaid : Prop := Claim7.holds Tryz.pinned (.plain (OpenSpec.ofChange tornSpec)) tornCard

/-- THE TIED CARD OF 'mirrorkeep.Filled'. -/
def filledCard : Claim7 := { stood := { row := filledRow, standIns := [], harness := (true, "d90fa3236b4c48ece1162d7778c78f33987c78a23bc8b17ec1a5215710a04e0f"), looks := true }, kinds := [], alts := [], goes := true, laidByText := true, laidKinds := [.handle], laidTests := true, laidLooks := .later }
def FilledCardSaid : Prop := Claim7.holds Tryz.pinned (.plain (OpenSpec.ofChange filledSpec)) filledCard

/-- THE TIED CARD OF 'mirrorkeep.Together'. -/
def togetherCard : Claim7 := { stood := { row := togetherRow, standIns := [], harness := (true, "d90fa3236b4c48ece1162d7778c78f33987c78a23bc8b17ec1a5215710a04e0f"), looks := true }, kinds := [], alts := [], goes := true, laidByText := true, laidKinds := [.handle], laidTests := true, laidLooks := .later }
def TogetherCardSaid : Prop := Claim7.holds Tryz.pinned (.plain (OpenSpec.ofChange togetherSpec)) togetherCard

/-- THE SECOND FORM's CARD OF 'mirrorkeep.Brought'. -/
def broughtUptoCard : Claim7 := { stood := { row := broughtUptoRow, standIns := [], harness := (true, "d90fa3236b4c48ece1162d7778c78f33987c78a23bc8b17ec1a5215710a04e0f"), looks := true }, kinds := [], alts := [], goes := true, laidByText := true, laidKinds := [.handle], laidTests := true, laidLooks := .later }
def BroughtUptoCardSaid : Prop := Claim7.holds Tryz.pinned (.plain (OpenSpec.upto broughtSpec)) broughtUptoCard

/-- THE SECOND FORM's CARD OF 'mirrorkeep.Broken'. -/
def brokenUptoCard : Claim7 := { stood := { row := brokenUptoRow, standIns := [], harness := (true, "d90fa3236b4c48ece1162d7778c78f33987c78a23bc8b17ec1a5215710a04e0f"), looks := true }, kinds := [], alts := [], goes := true, laidByText := true, laidKinds := [.handle], laidTests := true, laidLooks := .later }
def BrokenUptoCardSaid : Prop := Claim7.holds Tryz.pinned (.plain (OpenSpec.upto brokenSpec)) brokenUptoCard

/-- THE SECOND FORM's CARD OF 'mirrorkeep.Torn'. -/
def tornUptoCard : Claim7 := { stood := { row := tornUptoRow, standIns := [], harness := (true, "d90fa3236b4c48ece1162d7778c78f33987c78a23bc8b17ec1a5215710a04e0f"), looks := true }, kinds := [], alts := [], goes := true, laidByText := true, laidKinds := [.handle], laidTests := true, laidLooks := .later }
def TornUptoCardSaid : Prop := Claim7.holds Tryz.pinned (.plain (OpenSpec.upto tornSpec)) tornUptoCard

/-- THE SECOND FORM's CARD OF 'mirrorkeep.Filled'. -/
def filledUptoCard : Claim7 := { stood := { row := filledUptoRow, standIns := [], harness := (true, "d90fa3236b4c48ece1162d7778c78f33987c78a23bc8b17ec1a5215710a04e0f"), looks := true }, kinds := [], alts := [], goes := true, laidByText := true, laidKinds := [.handle], laidTests := true, laidLooks := .later }
def FilledUptoCardSaid : Prop := Claim7.holds Tryz.pinned (.plain (OpenSpec.upto filledSpec)) filledUptoCard

/-- THE SECOND FORM's CARD OF 'mirrorkeep.Together'. -/
def togetherUptoCard : Claim7 := { stood := { row := togetherUptoRow, standIns := [], harness := (true, "d90fa3236b4c48ece1162d7778c78f33987c78a23bc8b17ec1a5215710a04e0f"), looks := true }, kinds := [], alts := [], goes := true, laidByText := true, laidKinds := [.handle], laidTests := true, laidLooks := .later }
def TogetherUptoCardSaid : Prop := Claim7.holds Tryz.pinned (.plain (OpenSpec.upto togetherSpec)) togetherUptoCard
end Rows
end Go.Proofs.YtbhccdedcoajmabGreatDoor
