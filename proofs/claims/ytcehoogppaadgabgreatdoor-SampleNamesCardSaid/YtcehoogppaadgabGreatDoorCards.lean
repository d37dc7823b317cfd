/-
  DERIVED. GIVEN WITH THE SEED: THE CARDS: each row of YtcehoogppaadgabGreatDoorRows.lean that lists a variable, with what it lists TIED to the program's text (the seventh form; the later family's looks); each row that meets fmt, with fmt's text TOLD by the authors' own Lean function (tested against real Go, not proved from fmt's source: count such statements apart). THE CARD IS WHAT COUNTS. Prove the row's statement (the work); the ties are given (YtcehoogppaadgabGreatDoorTie.lean); close each card by the builder's one call (the guide's Derived/Test/ToyasCard.lean, 'card_holds'). Laid BY PROGRAM, IN A SANDBOX (cutbox-door.mjs). By AI agents, Wed Nov 11 2026. No macro, syntax, notation, axiom, sorry.
-/
import Derived.Test.YtcehoogppaadgabGreatDoorRows
import GoSem.ClaimSeven
namespace Go.Proofs.YtcehoogppaadgabGreatDoor
namespace Rows

/-- THE TIED CARD OF 'waterwheellaw04.SampleNames'. -/
def sampleNamesCard : Claim7 := { stood := { row := sampleNamesRow, standIns := [], harness := (true, "25d62d32720bdd150bfe5bba8eb3b25b389b00b55f8d9b70451d3bbc5ca07f3d"), looks := false }, kinds := [], alts := [], laidByText := true, laidKinds := [.data, .data, .data], laidTests := true, laidLooks := .later }
def SampleNamesCardSaid : Prop := Claim7.holds Tryz.pinned (.plain (OpenSpec.ofChange sampleNamesSpec)) sampleNamesCard

/-- THE TIED CARD OF 'waterwheellaw04.SampleCalls'. -/
def sampleCallsCard : Claim7 := { stood := { row := sampleCallsRow, standIns := [], harness := (true, "25d62d32720bdd150bfe5bba8eb3b25b389b00b55f8d9b70451d3bbc5ca07f3d"), looks := false }, kinds := [], alts := [], laidByText := true, laidKinds := [.data, .data, .data], laidTests := true, laidLooks := .later }
def SampleCallsCardSaid : Prop := Claim7.holds Tryz.pinned (.plain (OpenSpec.ofChange sampleCallsSpec)) sampleCallsCard

/-- THE TIED CARD OF 'waterwheellaw04.SampleVectors'. -/
def sampleVectorsCard : Claim7 := { stood := { row := sampleVectorsRow, standIns := [], harness := (true, "25d62d32720bdd150bfe5bba8eb3b25b389b00b55f8d9b70451d3bbc5ca07f3d"), looks := false }, kinds := [], alts := [], laidByText := true, laidKinds := [.data, .data, .data], laidTests := true, laidLooks := .later }
def SampleVectorsCardSaid : Prop := Claim7.holds Tryz.pinned (.plain (OpenSpec.ofChange sampleVectorsSpec)) sampleVectorsCard

/-- THE TIED CARD OF 'waterwheellaw04.SampleBack'. -/
def sampleBackCard : Claim7 := { stood := { row := sampleBackRow, standIns := [], harness := (true, "25d62d32720bdd150bfe5bba8eb3b25b389b00b55f8d9b70451d3bbc5ca07f3d"), looks := false }, kinds := [], alts := [], laidByText := true, laidKinds := [.data, .data, .data], laidTests := true, laidLooks := .later }
def SampleBackCardSaid : Prop := Claim7.holds Tryz.pinned (.plain (OpenSpec.ofChange sampleBackSpec)) sampleBackCard

/-- THE SECOND FORM's CARD OF 'waterwheellaw04.SampleNames'. -/
def sampleNamesUptoCard : Claim7 := { stood := { row := sampleNamesUptoRow, standIns := [], harness := (true, "25d62d32720bdd150bfe5bba8eb3b25b389b00b55f8d9b70451d3bbc5ca07f3d"), looks := false }, kinds := [], alts := [], laidByText := true, laidKinds := [.data, .data, .data], laidTests := true, laidLooks := .later }
def SampleNamesUptoCardSaid : Prop := Claim7.holds Tryz.pinned (.plain (OpenSpec.upto sampleNamesSpec)) sampleNamesUptoCard

/-- THE SECOND FORM's CARD OF 'waterwheellaw04.SampleCalls'. -/
def sampleCallsUptoCard : Claim7 := { stood := { row := sampleCallsUptoRow, standIns := [], harness := (true, "25d62d32720bdd150bfe5bba8eb3b25b389b00b55f8d9b70451d3bbc5ca07f3d"), looks := false }, kinds := [], alts := [], laidByText := true, laidKinds := [.data, .data, .data], laidTests := true, laidLooks := .later }
def SampleCallsUptoCardSaid : Prop := Claim7.holds Tryz.pinned (.plain (OpenSpec.upto sampleCallsSpec)) sampleCallsUptoCard

/-- THE SECOND FORM's CARD OF 'waterwheellaw04.SampleVectors'. -/
def sampleVectorsUptoCard : Claim7 := { stood := { row := sampleVectorsUptoRow, standIns := [], harness := (true, "25d62d32720bdd150bfe5bba8eb3b25b389b00b55f8d9b70451d3bbc5ca07f3d"), looks := false }, kinds := [], alts := [], laidByText := true, laidKinds := [.data, .data, .data], laidTests := true, laidLooks := .later }
def SampleVectorsUptoCardSaid : Prop := Claim7.holds Tryz.pinned (.plain (OpenSpec.upto sampleVectorsSpec)) sampleVectorsUptoCard

/-- THE SECOND FORM's CARD OF 'waterwheellaw04.SampleBack'. -/
def sampleBackUptoCard : Claim7 := { stood := { row := sampleBackUptoRow, standIns := [], harness := (true, "25d62d32720bdd150bfe5bba8eb3b25b389b00b55f8d9b70451d3bbc5ca07f3d"), looks := false }, kinds := [], alts := [], laidByText := true, laidKinds := [.data, .data, .data], laidTests := true, laidLooks := .later }
def SampleBackUptoCardSaid : Prop := Claim7.holds Tryz.pinned (.plain (OpenSpec.upto sampleBackSpec)) sampleBackUptoCard
end Rows
end Go.Proofs.YtcehoogppaadgabGreatDoor
