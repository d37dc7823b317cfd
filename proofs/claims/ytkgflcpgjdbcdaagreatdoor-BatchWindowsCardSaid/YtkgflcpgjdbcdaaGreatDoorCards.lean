/-
  DERIVED. GIVEN WITH THE SEED: THE CARDS: each row of YtkgflcpgjdbcdaaGreatDoorRows.lean that lists a variable, with what it lists TIED to the program's text (the seventh form; the later family's looks); each row that meets fmt, with fmt's text TOLD by the authors' own Lean function (tested against real Go, not proved from fmt's source: count such statements apart). THE CARD IS WHAT COUNTS. Prove the row's statement (the work); the ties are given (YtkgflcpgjdbcdaaGreatDoorTie.lean); close each card by the builder's one call (the guide's Derived/Test/ToyasCard.lean, 'card_holds'). Laid BY PROGRAM, IN A SANDBOX (cutbox-door.mjs). By AI agents, Wed Nov 11 2026. No macro, syntax, notation, axiom, sorry.
-/
import Derived.Test.YtkgflcpgjdbcdaaGreatDoorRows
import GoSem.ClaimSeven
namespace Go.Proofs.YtkgflcpgjdbcdaaGreatDoor
namespace Rows

/-- THE TIED CARD OF 'waterwheellaw10.BatchWindows'. -/
def batchWindowsCard : Claim7 := { stood := { row := batchWindowsRow, standIns := [], harness := (true, "bcf56498f3f9a79790f427a2dc0653ed5cd55956cdfe323f8c0af2f330684945"), looks := false }, kinds := [], alts := [], laidByText := true, laidKinds := [.data], laidTests := true, laidLooks := .later }
def BatchWindowsCardSaid : Prop := Claim7.holds Tryz.pinned (.plain (OpenSpec.ofChange batchWindowsSpec)) batchWindowsCard

/-- THE SECOND FORM's CARD OF 'waterwheellaw10.BatchWindows'. -/
def batchWindowsUptoCard : Claim7 := { stood := { row := batchWindowsUptoRow, standIns := [], harness := (true, "bcf56498f3f9a79790f427a2dc0653ed5cd55956cdfe323f8c0af2f330684945"), looks := false }, kinds := [], alts := [], laidByText := true, laidKinds := [.data], laidTests := true, laidLooks := .later }
def BatchWindowsUptoCardSaid : Prop := Claim7.holds Tryz.pinned (.plain (OpenSpec.upto batchWindowsSpec)) batchWindowsUptoCard
end Rows
end Go.Proofs.YtkgflcpgjdbcdaaGreatDoor
