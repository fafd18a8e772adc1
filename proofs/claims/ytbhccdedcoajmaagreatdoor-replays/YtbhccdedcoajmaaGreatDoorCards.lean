/-
  DERIVED. GIVEN WITH THE SEED: THE CARDS: each row of YtbhccdedcoajmaaGreatDoorRows.lean that lists a variable, with what it lists TIED to the program's text (the seventh form; the later family's looks); each row that meets fmt, with fmt's text TOLD by the authors' own Lean function (tested against real Go, not proved from fmt's source: count such statements apart). THE CARD IS WHAT COUNTS. Prove the row's statement (the work); the ties are given (YtbhccdedcoajmaaGreatDoorTie.lean); close each card by the builder's one call (the guide's Derived/Test/ToyasCard.lean, 'card_holds'). Laid BY PROGRAM, IN A SANDBOX (cutbox-door.mjs). By AI agents, Wed Nov 11 2026. No macro, syntax, notation, axiom, sorry.
-/
import Derived.Test.YtbhccdedcoajmaaGreatDoorRows
import GoSem.ClaimSeven
namespace Go.Proofs.YtbhccdedcoajmaaGreatDoor
namespace Rows

/-- THE TIED CARD OF 'mirrorlaw.Replays'. -/
def replaysCard : Claim7 := { stood := { row := replaysRow, standIns := [], harness := (true, "4c11bf3d542cd7fb6e9dfce598d8c716d24b250c547cda4c1d0d8b5539973f08"), looks := true }, kinds := [], alts := [], goes := true, laidByText := true, laidKinds := [.handle], laidTests := true, laidLooks := .later }
def ReplaysCardSaid : Prop := Claim7.holds Tryz.pinned (.plain (OpenSpec.ofChange replaysSpec)) replaysCard

/-- THE TIED CARD OF 'mirrorlaw.Spreads'. -/
def spreadsCard : Claim7 := { stood := { row := spreadsRow, standIns := [], harness := (true, "4c11bf3d542cd7fb6e9dfce598d8c716d24b250c547cda4c1d0d8b5539973f08"), looks := true }, kinds := [], alts := [], goes := true, laidByText := true, laidKinds := [.handle], laidTests := true, laidLooks := .later }
def SpreadsCardSaid : Prop := Claim7.holds Tryz.pinned (.plain (OpenSpec.ofChange spreadsSpec)) spreadsCard

/-- THE TIED CARD OF 'mirrorlaw.All'. -/
def allCard : Claim7 := { stood := { row := allRow, standIns := [], harness := (true, "4c11bf3d542cd7fb6e9dfce598d8c716d24b250c547cda4c1d0d8b5539973f08"), looks := true }, kinds := [], alts := [], goes := true, laidByText := true, laidKinds := [.handle], laidTests := true, laidLooks := .later }
def AllCardSaid : Prop := Claim7.holds Tryz.pinned (.plain (OpenSpec.ofChange allSpec)) allCard

/-- THE SECOND FORM's CARD OF 'mirrorlaw.Replays'. -/
def replaysUptoCard : Claim7 := { stood := { row := replaysUptoRow, standIns := [], harness := (true, "4c11bf3d542cd7fb6e9dfce598d8c716d24b250c547cda4c1d0d8b5539973f08"), looks := true }, kinds := [], alts := [], goes := true, laidByText := true, laidKinds := [.handle], laidTests := true, laidLooks := .later }
def ReplaysUptoCardSaid : Prop := Claim7.holds Tryz.pinned (.plain (OpenSpec.upto replaysSpec)) replaysUptoCard

/-- THE SECOND FORM's CARD OF 'mirrorlaw.Spreads'. -/
def spreadsUptoCard : Claim7 := { stood := { row := spreadsUptoRow, standIns := [], harness := (true, "4c11bf3d542cd7fb6e9dfce598d8c716d24b250c547cda4c1d0d8b5539973f08"), looks := true }, kinds := [], alts := [], goes := true, laidByText := true, laidKinds := [.handle], laidTests := true, laidLooks := .later }
def SpreadsUptoCardSaid : Prop := Claim7.holds Tryz.pinned (.plain (OpenSpec.upto spreadsSpec)) spreadsUptoCard

/-- THE SECOND FORM's CARD OF 'mirrorlaw.All'. -/
def allUptoCard : Claim7 := { stood := { row := allUptoRow, standIns := [], harness := (true, "4c11bf3d542cd7fb6e9dfce598d8c716d24b250c547cda4c1d0d8b5539973f08"), looks := true }, kinds := [], alts := [], goes := true, laidByText := true, laidKinds := [.handle], laidTests := true, laidLooks := .later }
def AllUptoCardSaid : Prop := Claim7.holds Tryz.pinned (.plain (OpenSpec.upto allSpec)) allUptoCard
end Rows
end Go.Proofs.YtbhccdedcoajmaaGreatDoor
