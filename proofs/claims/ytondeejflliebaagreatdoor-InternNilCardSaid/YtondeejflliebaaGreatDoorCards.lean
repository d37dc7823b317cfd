/-
  DERIVED. GIVEN WITH THE SEED: THE CARDS: each row of YtondeejflliebaaGreatDoorRows.lean that lists a variable, with what it lists TIED to the program's text (the seventh form; the later family's looks); each row that meets fmt, with fmt's text TOLD by the authors' own Lean function (tested against real Go, not proved from fmt's source: count such statements apart). THE CARD IS WHAT COUNTS. Prove the row's statement (the work); the ties are given (YtondeejflliebaaGreatDoorTie.lean); close each card by the builder's one call (the guide's Derived/Test/ToyasCard.lean, 'card_holds'). Laid BY PROGRAM, IN A SANDBOX (cutbox-door.mjs). By AI agents, Wed Nov 11 2026. No macro, syntax, notation, axiom, sorry.
-/
import Derived.Test.YtondeejflliebaaGreatDoorRows
import GoSem.ClaimSeven
namespace Go.Proofs.YtondeejflliebaaGreatDoor
namespace Rows

/-- THE TIED CARD OF 'waterwheellaw12.InternNil'. -/
def internNilCard : Claim7 := { stood := { row := internNilRow, standIns := [], harness := (true, "2e4122626a92aa92e629dbc67a59948648b22bbe0c3bddb63d08ac1f41cad742"), looks := false }, kinds := [], alts := [], laidByText := true, laidKinds := [.data], laidTests := true, laidLooks := .later }
def InternNilCardSaid : Prop := Claim7.holds Tryz.pinned (.plain (OpenSpec.ofChange internNilSpec)) internNilCard

/-- THE SECOND FORM's CARD OF 'waterwheellaw12.InternNil'. -/
def internNilUptoCard : Claim7 := { stood := { row := internNilUptoRow, standIns := [], harness := (true, "2e4122626a92aa92e629dbc67a59948648b22bbe0c3bddb63d08ac1f41cad742"), looks := false }, kinds := [], alts := [], laidByText := true, laidKinds := [.data], laidTests := true, laidLooks := .later }
def InternNilUptoCardSaid : Prop := Claim7.holds Tryz.pinned (.plain (OpenSpec.upto internNilSpec)) internNilUptoCard
end Rows
end Go.Proofs.YtondeejflliebaaGreatDoor
