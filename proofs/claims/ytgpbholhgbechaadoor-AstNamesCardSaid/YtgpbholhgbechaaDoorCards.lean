/-
  DERIVED. GIVEN WITH THE SEED: THE CARDS: each row of YtgpbholhgbechaaDoorRows.lean that lists a variable, with what it lists TIED to the program's text (the seventh form; the later family's looks); each row that meets fmt, with fmt's text TOLD by the authors' own Lean function (tested against real Go, not proved from fmt's source: count such statements apart). THE CARD IS WHAT COUNTS. Prove the row's statement (the work); the ties are given (YtgpbholhgbechaaDoorTie.lean); close each card by the builder's one call (the guide's Derived/Test/ToyasCard.lean, 'card_holds'). Laid BY PROGRAM, IN A SANDBOX (cutbox-door.mjs). By AI agents, Wed Nov 11 2026. No macro, syntax, notation, axiom, sorry.
-/
import Derived.Test.YtgpbholhgbechaaDoorRows
import GoSem.ClaimSeven
namespace Go.Proofs.YtgpbholhgbechaaDoor
namespace Rows

/-- THE TIED CARD OF 'waterwheellaw06.AstNames'. -/
def astNamesCard : Claim7 := { stood := { row := astNamesRow, standIns := [], harness := (true, "5e6ce4dfa3ba3c6c722d4d7f28fb1d00916a731ceada4a4ea9604f7a012713c9"), looks := false }, kinds := [], alts := [], laidByText := true, laidKinds := [.data], laidTests := true, laidLooks := .later }
def AstNamesCardSaid : Prop := Claim7.holds Tryd.pinned (.plain (OpenSpec.ofChange astNamesSpec)) astNamesCard

/-- THE TIED CARD OF 'waterwheellaw06.AstCalls'. -/
def astCallsCard : Claim7 := { stood := { row := astCallsRow, standIns := [], harness := (true, "5e6ce4dfa3ba3c6c722d4d7f28fb1d00916a731ceada4a4ea9604f7a012713c9"), looks := false }, kinds := [], alts := [], laidByText := true, laidKinds := [.data], laidTests := true, laidLooks := .later }
def AstCallsCardSaid : Prop := Claim7.holds Tryd.pinned (.plain (OpenSpec.ofChange astCallsSpec)) astCallsCard

/-- THE TIED CARD OF 'waterwheellaw06.AstWalks'. -/
def astWalksCard : Claim7 := { stood := { row := astWalksRow, standIns := [], harness := (true, "5e6ce4dfa3ba3c6c722d4d7f28fb1d00916a731ceada4a4ea9604f7a012713c9"), looks := false }, kinds := [], alts := [], laidByText := true, laidKinds := [.data], laidTests := true, laidLooks := .later }
def AstWalksCardSaid : Prop := Claim7.holds Tryd.pinned (.plain (OpenSpec.ofChange astWalksSpec)) astWalksCard

/-- THE TIED CARD OF 'waterwheellaw06.AstCopy'. -/
def astCopyCard : Claim7 := { stood := { row := astCopyRow, standIns := [], harness := (true, "5e6ce4dfa3ba3c6c722d4d7f28fb1d00916a731ceada4a4ea9604f7a012713c9"), looks := false }, kinds := [], alts := [], laidByText := true, laidKinds := [.data], laidTests := true, laidLooks := .later }
def AstCopyCardSaid : Prop := Claim7.holds Tryd.pinned (.plain (OpenSpec.ofChange astCopySpec)) astCopyCard

/-- THE TIED CARD OF 'waterwheellaw06.AstGrows'. -/
def astGrowsCard : Claim7 := { stood := { row := astGrowsRow, standIns := [], harness := (true, "5e6ce4dfa3ba3c6c722d4d7f28fb1d00916a731ceada4a4ea9604f7a012713c9"), looks := false }, kinds := [], alts := [], laidByText := true, laidKinds := [.data], laidTests := true, laidLooks := .later }
def AstGrowsCardSaid : Prop := Claim7.holds Tryd.pinned (.plain (OpenSpec.ofChange astGrowsSpec)) astGrowsCard

/-- THE SECOND FORM's CARD OF 'waterwheellaw06.AstNames'. -/
def astNamesUptoCard : Claim7 := { stood := { row := astNamesUptoRow, standIns := [], harness := (true, "5e6ce4dfa3ba3c6c722d4d7f28fb1d00916a731ceada4a4ea9604f7a012713c9"), looks := false }, kinds := [], alts := [], laidByText := true, laidKinds := [.data], laidTests := true, laidLooks := .later }
def AstNamesUptoCardSaid : Prop := Claim7.holds Tryd.pinned (.plain (OpenSpec.upto astNamesSpec)) astNamesUptoCard

/-- THE SECOND FORM's CARD OF 'waterwheellaw06.AstCalls'. -/
def astCallsUptoCard : Claim7 := { stood := { row := astCallsUptoRow, standIns := [], harness := (true, "5e6ce4dfa3ba3c6c722d4d7f28fb1d00916a731ceada4a4ea9604f7a012713c9"), looks := false }, kinds := [], alts := [], laidByText := true, laidKinds := [.data], laidTests := true, laidLooks := .later }
def AstCallsUptoCardSaid : Prop := Claim7.holds Tryd.pinned (.plain (OpenSpec.upto astCallsSpec)) astCallsUptoCard

/-- THE SECOND FORM's CARD OF 'waterwheellaw06.AstWalks'. -/
def astWalksUptoCard : Claim7 := { stood := { row := astWalksUptoRow, standIns := [], harness := (true, "5e6ce4dfa3ba3c6c722d4d7f28fb1d00916a731ceada4a4ea9604f7a012713c9"), looks := false }, kinds := [], alts := [], laidByText := true, laidKinds := [.data], laidTests := true, laidLooks := .later }
def AstWalksUptoCardSaid : Prop := Claim7.holds Tryd.pinned (.plain (OpenSpec.upto astWalksSpec)) astWalksUptoCard

/-- THE SECOND FORM's CARD OF 'waterwheellaw06.AstCopy'. -/
def astCopyUptoCard : Claim7 := { stood := { row := astCopyUptoRow, standIns := [], harness := (true, "5e6ce4dfa3ba3c6c722d4d7f28fb1d00916a731ceada4a4ea9604f7a012713c9"), looks := false }, kinds := [], alts := [], laidByText := true, laidKinds := [.data], laidTests := true, laidLooks := .later }
def AstCopyUptoCardSaid : Prop := Claim7.holds Tryd.pinned (.plain (OpenSpec.upto astCopySpec)) astCopyUptoCard

/-- THE SECOND FORM's CARD OF 'waterwheellaw06.AstGrows'. -/
def astGrowsUptoCard : Claim7 := { stood := { row := astGrowsUptoRow, standIns := [], harness := (true, "5e6ce4dfa3ba3c6c722d4d7f28fb1d00916a731ceada4a4ea9604f7a012713c9"), looks := false }, kinds := [], alts := [], laidByText := true, laidKinds := [.data], laidTests := true, laidLooks := .later }
def AstGrowsUptoCardSaid : Prop := Claim7.holds Tryd.pinned (.plain (OpenSpec.upto astGrowsSpec)) astGrowsUptoCard
end Rows
end Go.Proofs.YtgpbholhgbechaaDoor
