/-
  DERIVED. GIVEN WITH THE SEED: THE CARDS: each row of YtejnaedignfmoaaGreatDoorRows.lean that lists a variable, with what it lists TIED to the program's text (the seventh form; the later family's looks); each row that meets fmt, with fmt's text TOLD by the authors' own Lean function (tested against real Go, not proved from fmt's source: count such statements apart). THE CARD IS WHAT COUNTS. Prove the row's statement (the work); the ties are given (YtejnaedignfmoaaGreatDoorTie.lean); close each card by the builder's one call (the guide's Derived/Test/ToyasCard.lean, 'card_holds'). Laid BY PROGRAM, IN A SANDBOX (cutbox-door.mjs). By AI agents, Wed Nov 11 2026. No macro, syntax, notation, axiom, sorry.
-/
import Derived.Test.YtejnaedignfmoaaGreatDoorRows
import GoSem.ClaimSeven
namespace Go.Proofs.YtejnaedignfmoaaGreatDoor
namespace Rows

/-- THE TIED CARD OF 'waterwheellaw21.FlowNames'. -/
def flowNamesCard : Claim7 := { stood := { row := flowNamesRow, standIns := [], harness := (true, "83d9399d23a38804d2988014d5b923d4d689d6ae1c9fe3b6a6776fe4d777e9b0"), looks := true }, kinds := [], alts := [], laidByText := true, laidKinds := [.data, .data, .data, .data, .data, .data], laidTests := true, laidLooks := .later }
def FlowNamesCardSaid : Prop := Claim7.holds Tryz.pinned (.plain (OpenSpec.ofChange flowNamesSpec)) flowNamesCard

/-- THE TIED CARD OF 'waterwheellaw21.FlowNil'. -/
def flowNilCard : Claim7 := { stood := { row := flowNilRow, standIns := [], harness := (true, "83d9399d23a38804d2988014d5b923d4d689d6ae1c9fe3b6a6776fe4d777e9b0"), looks := true }, kinds := [], alts := [], laidByText := true, laidKinds := [.data, .data, .data, .data, .data, .data], laidTests := true, laidLooks := .later }
def FlowNilCardSaid : Prop := Claim7.holds Tryz.pinned (.plain (OpenSpec.ofChange flowNilSpec)) flowNilCard

/-- THE SECOND FORM's CARD OF 'waterwheellaw21.FlowNames'. -/
def flowNamesUptoCard : Claim7 := { stood := { row := flowNamesUptoRow, standIns := [], harness := (true, "83d9399d23a38804d2988014d5b923d4d689d6ae1c9fe3b6a6776fe4d777e9b0"), looks := true }, kinds := [], alts := [], laidByText := true, laidKinds := [.data, .data, .data, .data, .data, .data], laidTests := true, laidLooks := .later }
def FlowNamesUptoCardSaid : Prop := Claim7.holds Tryz.pinned (.plain (OpenSpec.upto flowNamesSpec)) flowNamesUptoCard

/-- THE SECOND FORM's CARD OF 'waterwheellaw21.FlowNil'. -/
def flowNilUptoCard : Claim7 := { stood := { row := flowNilUptoRow, standIns := [], harness := (true, "83d9399d23a38804d2988014d5b923d4d689d6ae1c9fe3b6a6776fe4d777e9b0"), looks := true }, kinds := [], alts := [], laidByText := true, laidKinds := [.data, .data, .data, .data, .data, .data], laidTests := true, laidLooks := .later }
def FlowNilUptoCardSaid : Prop := Claim7.holds Tryz.pinned (.plain (OpenSpec.upto flowNilSpec)) flowNilUptoCard
end Rows
end Go.Proofs.YtejnaedignfmoaaGreatDoor
