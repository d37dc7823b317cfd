/-
  DERIVED. GIVEN WITH THE SEED: THE CARDS: each row of YtjboijmajphelaaGreatDoorRows.lean that lists a variable, with what it lists TIED to the program's text (the seventh form; the later family's looks); each row that meets fmt, with fmt's text TOLD by the authors' own Lean function (tested against real Go, not proved from fmt's source: count such statements apart). THE CARD IS WHAT COUNTS. Prove the row's statement (the work); the ties are given (YtjboijmajphelaaGreatDoorTie.lean); close each card by the builder's one call (the guide's Derived/Test/ToyasCard.lean, 'card_holds'). Laid BY PROGRAM, IN A SANDBOX (cutbox-door.mjs). By AI agents, Wed Nov 11 2026. No macro, syntax, notation, axiom, sorry.
-/
import Derived.Test.YtjboijmajphelaaGreatDoorRows
import GoSem.ClaimSeven
namespace Go.Proofs.YtjboijmajphelaaGreatDoor
namespace Rows

/-- THE TIED CARD OF 'waterwheellaw16.JoinNames'. -/
def joinNamesCard : Claim7 := { stood := { row := joinNamesRow, standIns := [], harness := (true, "4483014b9188c1261b331cb7a45cc7f7654d41be9b99b3eb37d46412a0ade2b7"), looks := true }, kinds := [], alts := [], laidByText := true, laidKinds := [.data], laidTests := true, laidLooks := .later }
def JoinNamesCardSaid : Prop := Claim7.holds Tryz.pinned (.plain (OpenSpec.ofChange joinNamesSpec)) joinNamesCard

/-- THE TIED CARD OF 'waterwheellaw16.JoinScript'. -/
def joinScriptCard : Claim7 := { stood := { row := joinScriptRow, standIns := [], harness := (true, "4483014b9188c1261b331cb7a45cc7f7654d41be9b99b3eb37d46412a0ade2b7"), looks := true }, kinds := [], alts := [], laidByText := true, laidKinds := [.data], laidTests := true, laidLooks := .later }
def JoinScriptCardSaid : Prop := Claim7.holds Tryz.pinned (.plain (OpenSpec.ofChange joinScriptSpec)) joinScriptCard

/-- THE TIED CARD OF 'waterwheellaw16.JoinNil'. -/
def joinNilCard : Claim7 := { stood := { row := joinNilRow, standIns := [], harness := (true, "4483014b9188c1261b331cb7a45cc7f7654d41be9b99b3eb37d46412a0ade2b7"), looks := true }, kinds := [], alts := [], laidByText := true, laidKinds := [.data], laidTests := true, laidLooks := .later }
def JoinNilCardSaid : Prop := Claim7.holds Tryz.pinned (.plain (OpenSpec.ofChange joinNilSpec)) joinNilCard

/-- THE TIED CARD OF 'waterwheellaw16.JoinSame'. -/
def joinSameCard : Claim7 := { stood := { row := joinSameRow, standIns := [], harness := (true, "4483014b9188c1261b331cb7a45cc7f7654d41be9b99b3eb37d46412a0ade2b7"), looks := true }, kinds := [], alts := [], laidByText := true, laidKinds := [.data], laidTests := true, laidLooks := .later }
def JoinSameCardSaid : Prop := Claim7.holds Tryz.pinned (.plain (OpenSpec.ofChange joinSameSpec)) joinSameCard

/-- THE TIED CARD OF 'waterwheellaw16.JoinTurns'. -/
def joinTurnsCard : Claim7 := { stood := { row := joinTurnsRow, standIns := [], harness := (true, "4483014b9188c1261b331cb7a45cc7f7654d41be9b99b3eb37d46412a0ade2b7"), looks := true }, kinds := [], alts := [], laidByText := true, laidKinds := [.data], laidTests := true, laidLooks := .later }
def JoinTurnsCardSaid : Prop := Claim7.holds Tryz.pinned (.plain (OpenSpec.ofChange joinTurnsSpec)) joinTurnsCard

/-- THE SECOND FORM's CARD OF 'waterwheellaw16.JoinNames'. -/
def joinNamesUptoCard : Claim7 := { stood := { row := joinNamesUptoRow, standIns := [], harness := (true, "4483014b9188c1261b331cb7a45cc7f7654d41be9b99b3eb37d46412a0ade2b7"), looks := true }, kinds := [], alts := [], laidByText := true, laidKinds := [.data], laidTests := true, laidLooks := .later }
def JoinNamesUptoCardSaid : Prop := Claim7.holds Tryz.pinned (.plain (OpenSpec.upto joinNamesSpec)) joinNamesUptoCard

/-- THE SECOND FORM's CARD OF 'waterwheellaw16.JoinScript'. -/
def joinScriptUptoCard : Claim7 := { stood := { row := joinScriptUptoRow, standIns := [], harness := (true, "4483014b9188c1261b331cb7a45cc7f7654d41be9b99b3eb37d46412a0ade2b7"), looks := true }, kinds := [], alts := [], laidByText := true, laidKinds := [.data], laidTests := true, laidLooks := .later }
def JoinScriptUptoCardSaid : Prop := Claim7.holds Tryz.pinned (.plain (OpenSpec.upto joinScriptSpec)) joinScriptUptoCard

/-- THE SECOND FORM's CARD OF 'waterwheellaw16.JoinNil'. -/
def joinNilUptoCard : Claim7 := { stood := { row := joinNilUptoRow, standIns := [], harness := (true, "4483014b9188c1261b331cb7a45cc7f7654d41be9b99b3eb37d46412a0ade2b7"), looks := true }, kinds := [], alts := [], laidByText := true, laidKinds := [.data], laidTests := true, laidLooks := .later }
def JoinNilUptoCardSaid : Prop := Claim7.holds Tryz.pinned (.plain (OpenSpec.upto joinNilSpec)) joinNilUptoCard

/-- THE SECOND FORM's CARD OF 'waterwheellaw16.JoinSame'. -/
def joinSameUptoCard : Claim7 := { stood := { row := joinSameUptoRow, standIns := [], harness := (true, "4483014b9188c1261b331cb7a45cc7f7654d41be9b99b3eb37d46412a0ade2b7"), looks := true }, kinds := [], alts := [], laidByText := true, laidKinds := [.data], laidTests := true, laidLooks := .later }
def JoinSameUptoCardSaid : Prop := Claim7.holds Tryz.pinned (.plain (OpenSpec.upto joinSameSpec)) joinSameUptoCard

/-- THE SECOND FORM's CARD OF 'waterwheellaw16.JoinTurns'. -/
def joinTurnsUptoCard : Claim7 := { stood := { row := joinTurnsUptoRow, standIns := [], harness := (true, "4483014b9188c1261b331cb7a45cc7f7654d41be9b99b3eb37d46412a0ade2b7"), looks := true }, kinds := [], alts := [], laidByText := true, laidKinds := [.data], laidTests := true, laidLooks := .later }
def JoinTurnsUptoCardSaid : Prop := Claim7.holds Tryz.pinned (.plain (OpenSpec.upto joinTurnsSpec)) joinTurnsUptoCard
end Rows
end Go.Proofs.YtjboijmajphelaaGreatDoor
