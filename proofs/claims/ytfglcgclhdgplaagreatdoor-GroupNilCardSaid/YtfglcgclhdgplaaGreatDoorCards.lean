/-
  DERIVED. GIVEN WITH THE SEED: THE CARDS: each row of YtfglcgclhdgplaaGreatDoorRows.lean that lists a variable, with what it lists TIED to the program's text (the seventh form; the later family's looks); each row that meets fmt, with fmt's text TOLD by the authors' own Lean function (tested against real Go, not proved from fmt's source: count such statements apart). THE CARD IS WHAT COUNTS. Prove the row's statement (the work); the ties are given (YtfglcgclhdgplaaGreatDoorTie.lean); close each card by the builder's one call (the guide's Derived/Test/ToyasCard.lean, 'card_holds'). Laid BY PROGRAM, IN A SANDBOX (cutbox-door.mjs). By AI agents, Wed Nov 11 2026. No macro, syntax, notation, axiom, sorry.
-/
import Derived.Test.YtfglcgclhdgplaaGreatDoorRows
import GoSem.ClaimSeven
namespace Go.Proofs.YtfglcgclhdgplaaGreatDoor
namespace Rows

/-- THE TIED CARD OF 'waterwheellaw15.GroupNames'. -/
def groupNamesCard : Claim7 := { stood := { row := groupNamesRow, standIns := [], harness := (true, "49b0af92253ea1ae9b18b3de155ad5722a9e892abb9294aa55d6b349a6d6d763"), looks := true }, kinds := [], alts := [], laidByText := true, laidKinds := [.data], laidTests := true, laidLooks := .later }
def GroupNamesCardSaid : Prop := Claim7.holds Tryz.pinned (.plain (OpenSpec.ofChange groupNamesSpec)) groupNamesCard

/-- THE TIED CARD OF 'waterwheellaw15.GroupChanges'. -/
def groupChangesCard : Claim7 := { stood := { row := groupChangesRow, standIns := [], harness := (true, "49b0af92253ea1ae9b18b3de155ad5722a9e892abb9294aa55d6b349a6d6d763"), looks := true }, kinds := [], alts := [], laidByText := true, laidKinds := [.data], laidTests := true, laidLooks := .later }
def GroupChangesCardSaid : Prop := Claim7.holds Tryz.pinned (.plain (OpenSpec.ofChange groupChangesSpec)) groupChangesCard

/-- THE TIED CARD OF 'waterwheellaw15.GroupScript'. -/
def groupScriptCard : Claim7 := { stood := { row := groupScriptRow, standIns := [], harness := (true, "49b0af92253ea1ae9b18b3de155ad5722a9e892abb9294aa55d6b349a6d6d763"), looks := true }, kinds := [], alts := [], laidByText := true, laidKinds := [.data], laidTests := true, laidLooks := .later }
def GroupScriptCardSaid : Prop := Claim7.holds Tryz.pinned (.plain (OpenSpec.ofChange groupScriptSpec)) groupScriptCard

/-- THE TIED CARD OF 'waterwheellaw15.GroupNil'. -/
def groupNilCard : Claim7 := { stood := { row := groupNilRow, standIns := [], harness := (true, "49b0af92253ea1ae9b18b3de155ad5722a9e892abb9294aa55d6b349a6d6d763"), looks := true }, kinds := [], alts := [], laidByText := true, laidKinds := [.data], laidTests := true, laidLooks := .later }
def GroupNilCardSaid : Prop := Claim7.holds Tryz.pinned (.plain (OpenSpec.ofChange groupNilSpec)) groupNilCard

/-- THE TIED CARD OF 'waterwheellaw15.GroupSame'. -/
def groupSameCard : Claim7 := { stood := { row := groupSameRow, standIns := [], harness := (true, "49b0af92253ea1ae9b18b3de155ad5722a9e892abb9294aa55d6b349a6d6d763"), looks := true }, kinds := [], alts := [], laidByText := true, laidKinds := [.data], laidTests := true, laidLooks := .later }
def GroupSameCardSaid : Prop := Claim7.holds Tryz.pinned (.plain (OpenSpec.ofChange groupSameSpec)) groupSameCard

/-- THE TIED CARD OF 'waterwheellaw15.GroupMerges'. -/
def groupMergesCard : Claim7 := { stood := { row := groupMergesRow, standIns := [], harness := (true, "49b0af92253ea1ae9b18b3de155ad5722a9e892abb9294aa55d6b349a6d6d763"), looks := true }, kinds := [], alts := [], laidByText := true, laidKinds := [.data], laidTests := true, laidLooks := .later }
def GroupMergesCardSaid : Prop := Claim7.holds Tryz.pinned (.plain (OpenSpec.ofChange groupMergesSpec)) groupMergesCard

/-- THE SECOND FORM's CARD OF 'waterwheellaw15.GroupNames'. -/
def groupNamesUptoCard : Claim7 := { stood := { row := groupNamesUptoRow, standIns := [], harness := (true, "49b0af92253ea1ae9b18b3de155ad5722a9e892abb9294aa55d6b349a6d6d763"), looks := true }, kinds := [], alts := [], laidByText := true, laidKinds := [.data], laidTests := true, laidLooks := .later }
def GroupNamesUptoCardSaid : Prop := Claim7.holds Tryz.pinned (.plain (OpenSpec.upto groupNamesSpec)) groupNamesUptoCard

/-- THE SECOND FORM's CARD OF 'waterwheellaw15.GroupChanges'. -/
def groupChangesUptoCard : Claim7 := { stood := { row := groupChangesUptoRow, standIns := [], harness := (true, "49b0af92253ea1ae9b18b3de155ad5722a9e892abb9294aa55d6b349a6d6d763"), looks := true }, kinds := [], alts := [], laidByText := true, laidKinds := [.data], laidTests := true, laidLooks := .later }
def GroupChangesUptoCardSaid : Prop := Claim7.holds Tryz.pinned (.plain (OpenSpec.upto groupChangesSpec)) groupChangesUptoCard

/-- THE SECOND FORM's CARD OF 'waterwheellaw15.GroupScript'. -/
def groupScriptUptoCard : Claim7 := { stood := { row := groupScriptUptoRow, standIns := [], harness := (true, "49b0af92253ea1ae9b18b3de155ad5722a9e892abb9294aa55d6b349a6d6d763"), looks := true }, kinds := [], alts := [], laidByText := true, laidKinds := [.data], laidTests := true, laidLooks := .later }
def GroupScriptUptoCardSaid : Prop := Claim7.holds Tryz.pinned (.plain (OpenSpec.upto groupScriptSpec)) groupScriptUptoCard

/-- THE SECOND FORM's CARD OF 'waterwheellaw15.GroupNil'. -/
def groupNilUptoCard : Claim7 := { stood := { row := groupNilUptoRow, standIns := [], harness := (true, "49b0af92253ea1ae9b18b3de155ad5722a9e892abb9294aa55d6b349a6d6d763"), looks := true }, kinds := [], alts := [], laidByText := true, laidKinds := [.data], laidTests := true, laidLooks := .later }
def GroupNilUptoCardSaid : Prop := Claim7.holds Tryz.pinned (.plain (OpenSpec.upto groupNilSpec)) groupNilUptoCard

/-- THE SECOND FORM's CARD OF 'waterwheellaw15.GroupSame'. -/
def groupSameUptoCard : Claim7 := { stood := { row := groupSameUptoRow, standIns := [], harness := (true, "49b0af92253ea1ae9b18b3de155ad5722a9e892abb9294aa55d6b349a6d6d763"), looks := true }, kinds := [], alts := [], laidByText := true, laidKinds := [.data], laidTests := true, laidLooks := .later }
def GroupSameUptoCardSaid : Prop := Claim7.holds Tryz.pinned (.plain (OpenSpec.upto groupSameSpec)) groupSameUptoCard

/-- THE SECOND FORM's CARD OF 'waterwheellaw15.GroupMerges'. -/
def groupMergesUptoCard : Claim7 := { stood := { row := groupMergesUptoRow, standIns := [], harness := (true, "49b0af92253ea1ae9b18b3de155ad5722a9e892abb9294aa55d6b349a6d6d763"), looks := true }, kinds := [], alts := [], laidByText := true, laidKinds := [.data], laidTests := true, laidLooks := .later }
def GroupMergesUptoCardSaid : Prop := Claim7.holds Tryz.pinned (.plain (OpenSpec.upto groupMergesSpec)) groupMergesUptoCard
end Rows
end Go.Proofs.YtfglcgclhdgplaaGreatDoor
