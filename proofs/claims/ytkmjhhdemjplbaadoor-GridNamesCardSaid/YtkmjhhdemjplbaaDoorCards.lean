/-
  DERIVED. GIVEN WITH THE SEED: THE CARDS: each row of YtkmjhhdemjplbaaDoorRows.lean that lists a variable, with what it lists TIED to the program's text (the seventh form; the later family's looks); each row that meets fmt, with fmt's text TOLD by the authors' own Lean function (tested against real Go, not proved from fmt's source: count such statements apart). THE CARD IS WHAT COUNTS. Prove the row's statement (the work); the ties are given (YtkmjhhdemjplbaaDoorTie.lean); close each card by the builder's one call (the guide's Derived/Test/ToyasCard.lean, 'card_holds'). Laid BY PROGRAM, IN A SANDBOX (cutbox-door.mjs). By AI agents, Wed Nov 11 2026. No macro, syntax, notation, axiom, sorry.
-/
import Derived.Test.YtkmjhhdemjplbaaDoorRows
import GoSem.ClaimSeven
namespace Go.Proofs.YtkmjhhdemjplbaaDoor
namespace Rows

/-- THE TIED CARD OF 'waterwheellaw09.GridNames'. -/
def gridNamesCard : Claim7 := { stood := { row := gridNamesRow, standIns := [], harness := (true, "26ba882e01d46d06df25cb83f94fd99c638d4c88de5d53769510652d7105374a"), looks := false }, kinds := [], alts := [], laidByText := true, laidKinds := [.data], laidTests := true, laidLooks := .later }
def GridNamesCardSaid : Prop := Claim7.holds Tryd.pinned (.plain (OpenSpec.ofChange gridNamesSpec)) gridNamesCard

/-- THE TIED CARD OF 'waterwheellaw09.GridCalls'. -/
def gridCallsCard : Claim7 := { stood := { row := gridCallsRow, standIns := [], harness := (true, "26ba882e01d46d06df25cb83f94fd99c638d4c88de5d53769510652d7105374a"), looks := false }, kinds := [], alts := [], laidByText := true, laidKinds := [.data], laidTests := true, laidLooks := .later }
def GridCallsCardSaid : Prop := Claim7.holds Tryd.pinned (.plain (OpenSpec.ofChange gridCallsSpec)) gridCallsCard

/-- THE TIED CARD OF 'waterwheellaw09.GridNeeds'. -/
def gridNeedsCard : Claim7 := { stood := { row := gridNeedsRow, standIns := [], harness := (true, "26ba882e01d46d06df25cb83f94fd99c638d4c88de5d53769510652d7105374a"), looks := false }, kinds := [], alts := [], laidByText := true, laidKinds := [.data], laidTests := true, laidLooks := .later }
def GridNeedsCardSaid : Prop := Claim7.holds Tryd.pinned (.plain (OpenSpec.ofChange gridNeedsSpec)) gridNeedsCard

/-- THE TIED CARD OF 'waterwheellaw09.GridSteps'. -/
def gridStepsCard : Claim7 := { stood := { row := gridStepsRow, standIns := [], harness := (true, "26ba882e01d46d06df25cb83f94fd99c638d4c88de5d53769510652d7105374a"), looks := false }, kinds := [], alts := [], laidByText := true, laidKinds := [.data], laidTests := true, laidLooks := .later }
def GridStepsCardSaid : Prop := Claim7.holds Tryd.pinned (.plain (OpenSpec.ofChange gridStepsSpec)) gridStepsCard

/-- THE SECOND FORM's CARD OF 'waterwheellaw09.GridNames'. -/
def gridNamesUptoCard : Claim7 := { stood := { row := gridNamesUptoRow, standIns := [], harness := (true, "26ba882e01d46d06df25cb83f94fd99c638d4c88de5d53769510652d7105374a"), looks := false }, kinds := [], alts := [], laidByText := true, laidKinds := [.data], laidTests := true, laidLooks := .later }
def GridNamesUptoCardSaid : Prop := Claim7.holds Tryd.pinned (.plain (OpenSpec.upto gridNamesSpec)) gridNamesUptoCard

/-- THE SECOND FORM's CARD OF 'waterwheellaw09.GridCalls'. -/
def gridCallsUptoCard : Claim7 := { stood := { row := gridCallsUptoRow, standIns := [], harness := (true, "26ba882e01d46d06df25cb83f94fd99c638d4c88de5d53769510652d7105374a"), looks := false }, kinds := [], alts := [], laidByText := true, laidKinds := [.data], laidTests := true, laidLooks := .later }
def GridCallsUptoCardSaid : Prop := Claim7.holds Tryd.pinned (.plain (OpenSpec.upto gridCallsSpec)) gridCallsUptoCard

/-- THE SECOND FORM's CARD OF 'waterwheellaw09.GridNeeds'. -/
def gridNeedsUptoCard : Claim7 := { stood := { row := gridNeedsUptoRow, standIns := [], harness := (true, "26ba882e01d46d06df25cb83f94fd99c638d4c88de5d53769510652d7105374a"), looks := false }, kinds := [], alts := [], laidByText := true, laidKinds := [.data], laidTests := true, laidLooks := .later }
def GridNeedsUptoCardSaid : Prop := Claim7.holds Tryd.pinned (.plain (OpenSpec.upto gridNeedsSpec)) gridNeedsUptoCard

/-- THE SECOND FORM's CARD OF 'waterwheellaw09.GridSteps'. -/
def gridStepsUptoCard : Claim7 := { stood := { row := gridStepsUptoRow, standIns := [], harness := (true, "26ba882e01d46d06df25cb83f94fd99c638d4c88de5d53769510652d7105374a"), looks := false }, kinds := [], alts := [], laidByText := true, laidKinds := [.data], laidTests := true, laidLooks := .later }
def GridStepsUptoCardSaid : Prop := Claim7.holds Tryd.pinned (.plain (OpenSpec.upto gridStepsSpec)) gridStepsUptoCard
end Rows
end Go.Proofs.YtkmjhhdemjplbaaDoor
