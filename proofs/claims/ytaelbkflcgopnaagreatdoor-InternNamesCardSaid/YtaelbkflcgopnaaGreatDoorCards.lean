/-
  DERIVED. GIVEN WITH THE SEED: THE CARDS: each row of YtaelbkflcgopnaaGreatDoorRows.lean that lists a variable, with what it lists TIED to the program's text (the seventh form; the later family's looks); each row that meets fmt, with fmt's text TOLD by the authors' own Lean function (tested against real Go, not proved from fmt's source: count such statements apart). THE CARD IS WHAT COUNTS. Prove the row's statement (the work); the ties are given (YtaelbkflcgopnaaGreatDoorTie.lean); close each card by the builder's one call (the guide's Derived/Test/ToyasCard.lean, 'card_holds'). Laid BY PROGRAM, IN A SANDBOX (cutbox-door.mjs). By AI agents, Wed Nov 11 2026. No macro, syntax, notation, axiom, sorry.
-/
import Derived.Test.YtaelbkflcgopnaaGreatDoorRows
import GoSem.ClaimSeven
namespace Go.Proofs.YtaelbkflcgopnaaGreatDoor
namespace Rows

/-- THE TIED CARD OF 'waterwheellaw12.InternNames'. -/
def internNamesCard : Claim7 := { stood := { row := internNamesRow, standIns := [], harness := (true, "3a8c3193495dc5eaa27a76b25af864e6684841c9d3506ade5c55b7302e80136f"), looks := false }, kinds := [], alts := [], laidByText := true, laidKinds := [.data], laidTests := true, laidLooks := .later }
def InternNamesCardSaid : Prop := Claim7.holds Tryz.pinned (.plain (OpenSpec.ofChange internNamesSpec)) internNamesCard

/-- THE TIED CARD OF 'waterwheellaw12.InternScript'. -/
def internScriptCard : Claim7 := { stood := { row := internScriptRow, standIns := [], harness := (true, "3a8c3193495dc5eaa27a76b25af864e6684841c9d3506ade5c55b7302e80136f"), looks := false }, kinds := [], alts := [], laidByText := true, laidKinds := [.data], laidTests := true, laidLooks := .later }
def InternScriptCardSaid : Prop := Claim7.holds Tryz.pinned (.plain (OpenSpec.ofChange internScriptSpec)) internScriptCard

/-- THE TIED CARD OF 'waterwheellaw12.InternNil'. -/
def internNilCard : Claim7 := { stood := { row := internNilRow, standIns := [], harness := (true, "3a8c3193495dc5eaa27a76b25af864e6684841c9d3506ade5c55b7302e80136f"), looks := false }, kinds := [], alts := [], laidByText := true, laidKinds := [.data], laidTests := true, laidLooks := .later }
def InternNilCardSaid : Prop := Claim7.holds Tryz.pinned (.plain (OpenSpec.ofChange internNilSpec)) internNilCard

/-- THE TIED CARD OF 'waterwheellaw12.InternKeeps'. -/
def internKeepsCard : Claim7 := { stood := { row := internKeepsRow, standIns := [], harness := (true, "3a8c3193495dc5eaa27a76b25af864e6684841c9d3506ade5c55b7302e80136f"), looks := false }, kinds := [], alts := [], laidByText := true, laidKinds := [.data], laidTests := true, laidLooks := .later }
def InternKeepsCardSaid : Prop := Claim7.holds Tryz.pinned (.plain (OpenSpec.ofChange internKeepsSpec)) internKeepsCard

/-- THE TIED CARD OF 'waterwheellaw12.InternOrders'. -/
def internOrdersCard : Claim7 := { stood := { row := internOrdersRow, standIns := [], harness := (true, "3a8c3193495dc5eaa27a76b25af864e6684841c9d3506ade5c55b7302e80136f"), looks := false }, kinds := [], alts := [], laidByText := true, laidKinds := [.data], laidTests := true, laidLooks := .later }
def InternOrdersCardSaid : Prop := Claim7.holds Tryz.pinned (.plain (OpenSpec.ofChange internOrdersSpec)) internOrdersCard

/-- THE SECOND FORM's CARD OF 'waterwheellaw12.InternNames'. -/
def internNamesUptoCard : Claim7 := { stood := { row := internNamesUptoRow, standIns := [], harness := (true, "3a8c3193495dc5eaa27a76b25af864e6684841c9d3506ade5c55b7302e80136f"), looks := false }, kinds := [], alts := [], laidByText := true, laidKinds := [.data], laidTests := true, laidLooks := .later }
def InternNamesUptoCardSaid : Prop := Claim7.holds Tryz.pinned (.plain (OpenSpec.upto internNamesSpec)) internNamesUptoCard

/-- THE SECOND FORM's CARD OF 'waterwheellaw12.InternScript'. -/
def internScriptUptoCard : Claim7 := { stood := { row := internScriptUptoRow, standIns := [], harness := (true, "3a8c3193495dc5eaa27a76b25af864e6684841c9d3506ade5c55b7302e80136f"), looks := false }, kinds := [], alts := [], laidByText := true, laidKinds := [.data], laidTests := true, laidLooks := .later }
def InternScriptUptoCardSaid : Prop := Claim7.holds Tryz.pinned (.plain (OpenSpec.upto internScriptSpec)) internScriptUptoCard

/-- THE SECOND FORM's CARD OF 'waterwheellaw12.InternNil'. -/
def internNilUptoCard : Claim7 := { stood := { row := internNilUptoRow, standIns := [], harness := (true, "3a8c3193495dc5eaa27a76b25af864e6684841c9d3506ade5c55b7302e80136f"), looks := false }, kinds := [], alts := [], laidByText := true, laidKinds := [.data], laidTests := true, laidLooks := .later }
def InternNilUptoCardSaid : Prop := Claim7.holds Tryz.pinned (.plain (OpenSpec.upto internNilSpec)) internNilUptoCard

/-- THE SECOND FORM's CARD OF 'waterwheellaw12.InternKeeps'. -/
def internKeepsUptoCard : Claim7 := { stood := { row := internKeepsUptoRow, standIns := [], harness := (true, "3a8c3193495dc5eaa27a76b25af864e6684841c9d3506ade5c55b7302e80136f"), looks := false }, kinds := [], alts := [], laidByText := true, laidKinds := [.data], laidTests := true, laidLooks := .later }
def InternKeepsUptoCardSaid : Prop := Claim7.holds Tryz.pinned (.plain (OpenSpec.upto internKeepsSpec)) internKeepsUptoCard

/-- THE SECOND FORM's CARD OF 'waterwheellaw12.InternOrders'. -/
def internOrdersUptoCard : Claim7 := { stood := { row := internOrdersUptoRow, standIns := [], harness := (true, "3a8c3193495dc5eaa27a76b25af864e6684841c9d3506ade5c55b7302e80136f"), looks := false }, kinds := [], alts := [], laidByText := true, laidKinds := [.data], laidTests := true, laidLooks := .later }
def InternOrdersUptoCardSaid : Prop := Claim7.holds Tryz.pinned (.plain (OpenSpec.upto internOrdersSpec)) internOrdersUptoCard
end Rows
end Go.Proofs.YtaelbkflcgopnaaGreatDoor
