/-
  DERIVED. GIVEN WITH THE SEED: THE CARDS: each row of YthfkiedcjmeheaaGreatDoorRows.lean that lists a variable, with what it lists TIED to the program's text (the seventh form; the later family's looks); each row that meets fmt, with fmt's text TOLD by the authors' own Lean function (tested against real Go, not proved from fmt's source: count such statements apart). THE CARD IS WHAT COUNTS. Prove the row's statement (the work); the ties are given (YthfkiedcjmeheaaGreatDoorTie.lean); close each card by the builder's one call (the guide's Derived/Test/ToyasCard.lean, 'card_holds'). Laid BY PROGRAM, IN A SANDBOX (cutbox-door.mjs). By AI agents, Wed Nov 11 2026. No macro, syntax, notation, axiom, sorry.
-/
import Derived.Test.YthfkiedcjmeheaaGreatDoorRows
import GoSem.ClaimSeven
namespace Go.Proofs.YthfkiedcjmeheaaGreatDoor
namespace Rows

/-- THE TIED CARD OF 'waterwheellaw10.BatchNames'. -/
def batchNamesCard : Claim7 := { stood := { row := batchNamesRow, standIns := [], harness := (true, "84ccf8d8bb3b28f041e5520c544fdb4c828e9bab7dd6ce5bb4a4d68b90d1faf3"), looks := false }, kinds := [], alts := [], laidByText := true, laidKinds := [.data], laidTests := true, laidLooks := .later }
def BatchNamesCardSaid : Prop := Claim7.holds Tryz.pinned (.plain (OpenSpec.ofChange batchNamesSpec)) batchNamesCard

/-- THE TIED CARD OF 'waterwheellaw10.BatchEval'. -/
def batchEvalCard : Claim7 := { stood := { row := batchEvalRow, standIns := [], harness := (true, "84ccf8d8bb3b28f041e5520c544fdb4c828e9bab7dd6ce5bb4a4d68b90d1faf3"), looks := false }, kinds := [], alts := [], laidByText := true, laidKinds := [.data], laidTests := true, laidLooks := .later }
def BatchEvalCardSaid : Prop := Claim7.holds Tryz.pinned (.plain (OpenSpec.ofChange batchEvalSpec)) batchEvalCard

/-- THE TIED CARD OF 'waterwheellaw10.BatchWindows'. -/
def batchWindowsCard : Claim7 := { stood := { row := batchWindowsRow, standIns := [], harness := (true, "84ccf8d8bb3b28f041e5520c544fdb4c828e9bab7dd6ce5bb4a4d68b90d1faf3"), looks := false }, kinds := [], alts := [], laidByText := true, laidKinds := [.data], laidTests := true, laidLooks := .later }
def BatchWindowsCardSaid : Prop := Claim7.holds Tryz.pinned (.plain (OpenSpec.ofChange batchWindowsSpec)) batchWindowsCard

/-- THE TIED CARD OF 'waterwheellaw10.BatchGroups'. -/
def batchGroupsCard : Claim7 := { stood := { row := batchGroupsRow, standIns := [], harness := (true, "84ccf8d8bb3b28f041e5520c544fdb4c828e9bab7dd6ce5bb4a4d68b90d1faf3"), looks := false }, kinds := [], alts := [], laidByText := true, laidKinds := [.data], laidTests := true, laidLooks := .later }
def BatchGroupsCardSaid : Prop := Claim7.holds Tryz.pinned (.plain (OpenSpec.ofChange batchGroupsSpec)) batchGroupsCard

/-- THE SECOND FORM's CARD OF 'waterwheellaw10.BatchNames'. -/
def batchNamesUptoCard : Claim7 := { stood := { row := batchNamesUptoRow, standIns := [], harness := (true, "84ccf8d8bb3b28f041e5520c544fdb4c828e9bab7dd6ce5bb4a4d68b90d1faf3"), looks := false }, kinds := [], alts := [], laidByText := true, laidKinds := [.data], laidTests := true, laidLooks := .later }
def BatchNamesUptoCardSaid : Prop := Claim7.holds Tryz.pinned (.plain (OpenSpec.upto batchNamesSpec)) batchNamesUptoCard

/-- THE SECOND FORM's CARD OF 'waterwheellaw10.BatchEval'. -/
def batchEvalUptoCard : Claim7 := { stood := { row := batchEvalUptoRow, standIns := [], harness := (true, "84ccf8d8bb3b28f041e5520c544fdb4c828e9bab7dd6ce5bb4a4d68b90d1faf3"), looks := false }, kinds := [], alts := [], laidByText := true, laidKinds := [.data], laidTests := true, laidLooks := .later }
def BatchEvalUptoCardSaid : Prop := Claim7.holds Tryz.pinned (.plain (OpenSpec.upto batchEvalSpec)) batchEvalUptoCard

/-- THE SECOND FORM's CARD OF 'waterwheellaw10.BatchWindows'. -/
def batchWindowsUptoCard : Claim7 := { stood := { row := batchWindowsUptoRow, standIns := [], harness := (true, "84ccf8d8bb3b28f041e5520c544fdb4c828e9bab7dd6ce5bb4a4d68b90d1faf3"), looks := false }, kinds := [], alts := [], laidByText := true, laidKinds := [.data], laidTests := true, laidLooks := .later }
def BatchWindowsUptoCardSaid : Prop := Claim7.holds Tryz.pinned (.plain (OpenSpec.upto batchWindowsSpec)) batchWindowsUptoCard

/-- THE SECOND FORM's CARD OF 'waterwheellaw10.BatchGroups'. -/
def batchGroupsUptoCard : Claim7 := { stood := { row := batchGroupsUptoRow, standIns := [], harness := (true, "84ccf8d8bb3b28f041e5520c544fdb4c828e9bab7dd6ce5bb4a4d68b90d1faf3"), looks := false }, kinds := [], alts := [], laidByText := true, laidKinds := [.data], laidTests := true, laidLooks := .later }
def BatchGroupsUptoCardSaid : Prop := Claim7.holds Tryz.pinned (.plain (OpenSpec.upto batchGroupsSpec)) batchGroupsUptoCard
end Rows
end Go.Proofs.YthfkiedcjmeheaaGreatDoor
