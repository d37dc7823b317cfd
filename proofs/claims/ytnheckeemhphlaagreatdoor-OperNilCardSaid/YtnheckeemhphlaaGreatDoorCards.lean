/-
  DERIVED. GIVEN WITH THE SEED: THE CARDS: each row of YtnheckeemhphlaaGreatDoorRows.lean that lists a variable, with what it lists TIED to the program's text (the seventh form; the later family's looks); each row that meets fmt, with fmt's text TOLD by the authors' own Lean function (tested against real Go, not proved from fmt's source: count such statements apart). THE CARD IS WHAT COUNTS. Prove the row's statement (the work); the ties are given (YtnheckeemhphlaaGreatDoorTie.lean); close each card by the builder's one call (the guide's Derived/Test/ToyasCard.lean, 'card_holds'). Laid BY PROGRAM, IN A SANDBOX (cutbox-door.mjs). By AI agents, Wed Nov 11 2026. No macro, syntax, notation, axiom, sorry.
-/
import Derived.Test.YtnheckeemhphlaaGreatDoorRows
import GoSem.ClaimSeven
namespace Go.Proofs.YtnheckeemhphlaaGreatDoor
namespace Rows

/-- THE TIED CARD OF 'waterwheellaw18.OperNil'. -/
def operNilCard : Claim7 := { stood := { row := operNilRow, standIns := [], harness := (true, "df04955a0396ba2b94ef8d7c184c455cf0c48c4deb1b00ecdadc416f696cdcbd"), looks := true }, kinds := [], alts := [], laidByText := true, laidKinds := [.data], laidTests := true, laidLooks := .later }
def OperNilCardSaid : Prop := Claim7.holds Tryz.pinned (.plain (OpenSpec.ofChange operNilSpec)) operNilCard

/-- THE TIED CARD OF 'waterwheellaw18.OperMerges'. -/
def operMergesCard : Claim7 := { stood := { row := operMergesRow, standIns := [], harness := (true, "df04955a0396ba2b94ef8d7c184c455cf0c48c4deb1b00ecdadc416f696cdcbd"), looks := true }, kinds := [], alts := [], laidByText := true, laidKinds := [.data], laidTests := true, laidLooks := .later }
def OperMergesCardSaid : Prop := Claim7.holds Tryz.pinned (.plain (OpenSpec.ofChange operMergesSpec)) operMergesCard

/-- THE SECOND FORM's CARD OF 'waterwheellaw18.OperNil'. -/
def operNilUptoCard : Claim7 := { stood := { row := operNilUptoRow, standIns := [], harness := (true, "df04955a0396ba2b94ef8d7c184c455cf0c48c4deb1b00ecdadc416f696cdcbd"), looks := true }, kinds := [], alts := [], laidByText := true, laidKinds := [.data], laidTests := true, laidLooks := .later }
def OperNilUptoCardSaid : Prop := Claim7.holds Tryz.pinned (.plain (OpenSpec.upto operNilSpec)) operNilUptoCard

/-- THE SECOND FORM's CARD OF 'waterwheellaw18.OperMerges'. -/
def operMergesUptoCard : Claim7 := { stood := { row := operMergesUptoRow, standIns := [], harness := (true, "df04955a0396ba2b94ef8d7c184c455cf0c48c4deb1b00ecdadc416f696cdcbd"), looks := true }, kinds := [], alts := [], laidByText := true, laidKinds := [.data], laidTests := true, laidLooks := .later }
def OperMergesUptoCardSaid : Prop := Claim7.holds Tryz.pinned (.plain (OpenSpec.upto operMergesSpec)) operMergesUptoCard
end Rows
end Go.Proofs.YtnheckeemhphlaaGreatDoor
