/-
  NARROWER THAN 'FOR EVERY INPUT', by the rows' own cells (each row's printed sentence says how): JoinNames: laid · JoinScript: laid · JoinNil: laid · JoinSame: laid · JoinTurns: laid.
  DERIVED. THE GIVEN ROWS OF THIS SEAT. 5 by the template 'for every input the law returns true; each argument reads behind the call as it read before'; 0 by the template 'total and deterministic' (their statements: YtjboijmajphelaaGreatDoorTotals.lean).
  GIVEN WITH THE SEED: the statements are not yours to turn. If you find one false, say at which input.
  Laid BY PROGRAM, IN A SANDBOX (cutbox-rows.mjs): the forced cells as the released guide's own fill.sh prints them over the translation 3c476922113f9034… (all of the seat's roots in one cut). By AI agents, Wed Nov 11 2026. No macro, syntax, notation, axiom, sorry.
-/
import Derived.Test.YtjboijmajphelaaGreatDoorChecked
import GoSem.Claim
import GoSem.ClaimJoined
import GoSem.ClaimMapViews
import Derived.JoinedTies
import Derived.KernelRfl
namespace Go.Proofs.YtjboijmajphelaaGreatDoor
/- THE CELL 'sum', in the pinned program and in every row, IS THE sha256 OF THE DUMP (.gsa) THAT YtjboijmajphelaaGreatDoorProg.lean LOADS. Nothing in Lean hashes anything: it is a label: what it is worth is what the hold of that sum in a sandbox is worth. -/
noncomputable def Tryz.pinned : Pinned := { name := "ytjboijmajphelaagreatdoor", sum := "3c476922113f9034c8958b36913c871f5f179fd101613e9f6d3ff77f9d3cc348", checked := Tryz.checked }
namespace Rows
def none {H : Type} : Left H := { results := [], args := [] }

/- WHAT THE LISTED PACKAGE-LEVEL VARIABLES READ AS WHEN THE CALL BEGINS. Each datum BY PROGRAM (the guide's laid-datum.mjs) off the statement by which the dump's own 'gosem.cut.vars' lays the variable. In a bare row this is a premise. The card (YtjboijmajphelaaGreatDoorCards.lean) ties it to the program's text. -/
def laid_waterwheel_ast_shapes {H : Type} : DataW H := .agg [.agg [.agg [.lit (.int .i64 0), .lit (.int .i64 0)], .agg [.lit (.int .i64 0), .lit (.int .i64 0)], .agg [.lit (.int .i64 0), .lit (.int .i64 0)], .lit (.bool false), .lit (.bool false), .lit (.int .i64 0), .lit (.int .i64 0)], .agg [.agg [.lit (.int .i64 1), .lit (.int .i64 6)], .agg [.lit (.int .i64 0), .lit (.int .i64 0)], .agg [.lit (.int .i64 1), .lit (.int .i64 1073741824)], .lit (.bool false), .lit (.bool true), .lit (.int .i64 0), .lit (.int .i64 0)], .agg [.agg [.lit (.int .i64 1), .lit (.int .i64 4)], .agg [.lit (.int .i64 0), .lit (.int .i64 0)], .agg [.lit (.int .i64 0), .lit (.int .i64 0)], .lit (.bool false), .lit (.bool false), .lit (.int .i64 8), .lit (.int .i64 1)], .agg [.agg [.lit (.int .i64 0), .lit (.int .i64 0)], .agg [.lit (.int .i64 1), .lit (.int .i64 3)], .agg [.lit (.int .i64 0), .lit (.int .i64 0)], .lit (.bool false), .lit (.bool false), .lit (.int .i64 8), .lit (.int .i64 2)], .agg [.agg [.lit (.int .i64 0), .lit (.int .i64 0)], .agg [.lit (.int .i64 1), .lit (.int .i64 3)], .agg [.lit (.int .i64 0), .lit (.int .i64 0)], .lit (.bool true), .lit (.bool false), .lit (.int .i64 0), .lit (.int .i64 1)], .agg [.agg [.lit (.int .i64 0), .lit (.int .i64 0)], .agg [.lit (.int .i64 4), .lit (.int .i64 9)], .agg [.lit (.int .i64 0), .lit (.int .i64 0)], .lit (.bool true), .lit (.bool false), .lit (.int .i64 0), .lit (.int .i64 1)]]

/-- 'waterwheellaw16.JoinNames': WHATEVER THE INPUT: true; the input reads as it did. -/
def joinNamesSpec : ChangeSpec := { name := "joinNames", fn := fun _ => fun
  | [] => { results := [.lit (.bool true)], args := [] }
  | _ => none }
def joinNamesRow : OpenClaim := { program := "ytjboijmajphelaagreatdoor", sum := "3c476922113f9034c8958b36913c871f5f179fd101613e9f6d3ff77f9d3cc348", func := "waterwheel/waterwheellaw16.JoinNames", spec := "joinNames", inPlace := ["internal/bytealg.abigen_runtime_cmpstring", "math/bits.Add64", "math/bits.Sub64", "internal/abi.NoEscape", "maps.clone"], unfollowed := true, recurses := true, named := ["waterwheel/ast.shapes"], apart := false, laid := [("waterwheel/ast.shapes", laid_waterwheel_ast_shapes)] }
def JoinNamesSaid : Prop := joinNamesRow.holds Tryz.pinned (OpenSpec.ofChange joinNamesSpec)

/-- ITS FALSE NEIGHBOUR: 'it returns false'. Refute it at one input. -/
def joinNamesWrong : ChangeSpec := { name := "joinNames", fn := fun _ => fun
  | [] => { results := [.lit (.bool false)], args := [] }
  | _ => none }
def JoinNamesWrongFalsely : Prop := joinNamesRow.holds Tryz.pinned (OpenSpec.ofChange joinNamesWrong)

/-- 'waterwheellaw16.JoinScript': WHATEVER THE INPUT: true; the input reads as it did. -/
def joinScriptSpec : ChangeSpec := { name := "joinScript", fn := fun _ => fun
  | [d1, d2, d3, d4] => { results := [.lit (.bool true)], args := [d1, d2, d3, d4] }
  | _ => none }
def joinScriptRow : OpenClaim := { program := "ytjboijmajphelaagreatdoor", sum := "3c476922113f9034c8958b36913c871f5f179fd101613e9f6d3ff77f9d3cc348", func := "waterwheel/waterwheellaw16.JoinScript", spec := "joinScript", inPlace := ["internal/bytealg.abigen_runtime_cmpstring", "math/bits.Add64", "math/bits.Sub64", "internal/abi.NoEscape", "maps.clone"], unfollowed := true, recurses := true, named := ["waterwheel/ast.shapes"], apart := false, laid := [("waterwheel/ast.shapes", laid_waterwheel_ast_shapes)] }
def JoinScriptSaid : Prop := joinScriptRow.holds Tryz.pinned (OpenSpec.ofChange joinScriptSpec)

/-- ITS FALSE NEIGHBOUR: 'it returns false'. Refute it at one input. -/
def joinScriptWrong : ChangeSpec := { name := "joinScript", fn := fun _ => fun
  | [d1, d2, d3, d4] => { results := [.lit (.bool false)], args := [d1, d2, d3, d4] }
  | _ => none }
def JoinScriptWrongFalsely : Prop := joinScriptRow.holds Tryz.pinned (OpenSpec.ofChange joinScriptWrong)

/-- 'waterwheellaw16.JoinNil': WHATEVER THE INPUT: true; the input reads as it did. -/
def joinNilSpec : ChangeSpec := { name := "joinNil", fn := fun _ => fun
  | [d] => { results := [.lit (.bool true)], args := [d] }
  | _ => none }
def joinNilRow : OpenClaim := { program := "ytjboijmajphelaagreatdoor", sum := "3c476922113f9034c8958b36913c871f5f179fd101613e9f6d3ff77f9d3cc348", func := "waterwheel/waterwheellaw16.JoinNil", spec := "joinNil", inPlace := ["internal/bytealg.abigen_runtime_cmpstring", "math/bits.Add64", "math/bits.Sub64", "internal/abi.NoEscape", "maps.clone"], unfollowed := true, recurses := true, named := ["waterwheel/ast.shapes"], apart := false, laid := [("waterwheel/ast.shapes", laid_waterwheel_ast_shapes)] }
def JoinNilSaid : Prop := joinNilRow.holds Tryz.pinned (OpenSpec.ofChange joinNilSpec)

/-- ITS FALSE NEIGHBOUR: 'it returns false'. Refute it at one input. -/
def joinNilWrong : ChangeSpec := { name := "joinNil", fn := fun _ => fun
  | [d] => { results := [.lit (.bool false)], args := [d] }
  | _ => none }
def JoinNilWrongFalsely : Prop := joinNilRow.holds Tryz.pinned (OpenSpec.ofChange joinNilWrong)

/-- 'waterwheellaw16.JoinSame': WHATEVER THE INPUT: true; the input reads as it did. -/
def joinSameSpec : ChangeSpec := { name := "joinSame", fn := fun _ => fun
  | [d1, d2, d3, d4] => { results := [.lit (.bool true)], args := [d1, d2, d3, d4] }
  | _ => none }
def joinSameRow : OpenClaim := { program := "ytjboijmajphelaagreatdoor", sum := "3c476922113f9034c8958b36913c871f5f179fd101613e9f6d3ff77f9d3cc348", func := "waterwheel/waterwheellaw16.JoinSame", spec := "joinSame", inPlace := ["internal/bytealg.abigen_runtime_cmpstring", "math/bits.Add64", "math/bits.Sub64", "internal/abi.NoEscape", "maps.clone"], unfollowed := true, recurses := true, named := ["waterwheel/ast.shapes"], apart := false, laid := [("waterwheel/ast.shapes", laid_waterwheel_ast_shapes)] }
def JoinSameSaid : Prop := joinSameRow.holds Tryz.pinned (OpenSpec.ofChange joinSameSpec)

/-- ITS FALSE NEIGHBOUR: 'it returns false'. Refute it at one input. -/
def joinSameWrong : ChangeSpec := { name := "joinSame", fn := fun _ => fun
  | [d1, d2, d3, d4] => { results := [.lit (.bool false)], args := [d1, d2, d3, d4] }
  | _ => none }
def JoinSameWrongFalsely : Prop := joinSameRow.holds Tryz.pinned (OpenSpec.ofChange joinSameWrong)

/-- 'waterwheellaw16.JoinTurns': WHATEVER THE INPUT: true; the input reads as it did. -/
def joinTurnsSpec : ChangeSpec := { name := "joinTurns", fn := fun _ => fun
  | [d1, d2, d3] => { results := [.lit (.bool true)], args := [d1, d2, d3] }
  | _ => none }
def joinTurnsRow : OpenClaim := { program := "ytjboijmajphelaagreatdoor", sum := "3c476922113f9034c8958b36913c871f5f179fd101613e9f6d3ff77f9d3cc348", func := "waterwheel/waterwheellaw16.JoinTurns", spec := "joinTurns", inPlace := ["internal/bytealg.abigen_runtime_cmpstring", "math/bits.Add64", "math/bits.Sub64", "internal/abi.NoEscape", "maps.clone"], unfollowed := true, recurses := true, named := ["waterwheel/ast.shapes"], apart := false, laid := [("waterwheel/ast.shapes", laid_waterwheel_ast_shapes)] }
def JoinTurnsSaid : Prop := joinTurnsRow.holds Tryz.pinned (OpenSpec.ofChange joinTurnsSpec)

/-- ITS FALSE NEIGHBOUR: 'it returns false'. Refute it at one input. -/
def joinTurnsWrong : ChangeSpec := { name := "joinTurns", fn := fun _ => fun
  | [d1, d2, d3] => { results := [.lit (.bool false)], args := [d1, d2, d3] }
  | _ => none }
def JoinTurnsWrongFalsely : Prop := joinTurnsRow.holds Tryz.pinned (OpenSpec.ofChange joinTurnsWrong)

/- THE SECOND FORM. 'bulk': how many values and letters a reading holds, each counted each time it is reached (what is shared counts as often as it is met; a slice's spare places count too). A statement '..UptoSaid' is the law's where the arguments, and the package variables that the reading takes, are together of bulk at most 1048576: NARROWER than '..Said'. Prove '..Said' where nothing that the law and all that it calls make is longer than what came in: it says more and counts as full. Else prove '..UptoSaid'. A law counts once. -/
mutual
def uptoBulk {H : Type} : DataW H → Nat
  | .lit (.string bytes) => bytes.length + 1
  | .lit _ => 1
  | .nil => 1
  | .ptr d => uptoBulk d + 1
  | .slice elems spare => uptoBulkAll elems + uptoBulkAll spare + 1
  | .agg parts => uptoBulkAll parts + 1
  | .iface _ d => uptoBulk d + 1
  | .map entries => uptoBulkEntries entries + 1
  | .held _ => 1
def uptoBulkAll {H : Type} : List (DataW H) → Nat
  | [] => 0
  | d :: r => uptoBulk d + uptoBulkAll r
def uptoBulkEntries {H : Type} : List (Lit × DataW H) → Nat
  | [] => 0
  | x :: r => uptoBulkEntry x + uptoBulkEntries r
def uptoBulkEntry {H : Type} : Lit × DataW H → Nat
  | (.string bytes, d) => bytes.length + uptoBulk d + 1
  | (_, d) => uptoBulk d + 1
 end
def uptoSmall : (H : Type) → List (DataW H) → Bool := fun _ ds => decide (uptoBulkAll ds ≤ 1048576)
def OpenSpec.upto (s : _root_.Go.ChangeSpec) : _root_.Go.OpenSpec := { _root_.Go.OpenSpec.ofChange s with cond := some uptoSmall }

/-- 'waterwheellaw16.JoinNames', WHERE WHAT IT READS IS OF BULK AT MOST 1048576: true; the input reads as it did. -/
def joinNamesUptoRow : OpenClaim := { program := "ytjboijmajphelaagreatdoor", sum := "3c476922113f9034c8958b36913c871f5f179fd101613e9f6d3ff77f9d3cc348", func := "waterwheel/waterwheellaw16.JoinNames", spec := "joinNames", inPlace := ["internal/bytealg.abigen_runtime_cmpstring", "math/bits.Add64", "math/bits.Sub64", "internal/abi.NoEscape", "maps.clone"], unfollowed := true, recurses := true, named := ["waterwheel/ast.shapes"], apart := false, laid := [("waterwheel/ast.shapes", laid_waterwheel_ast_shapes)], narrowed := true }
def JoinNamesUptoSaid : Prop := joinNamesUptoRow.holds Tryz.pinned (OpenSpec.upto joinNamesSpec)

/-- 'waterwheellaw16.JoinScript', WHERE WHAT IT READS IS OF BULK AT MOST 1048576: true; the input reads as it did. -/
def joinScriptUptoRow : OpenClaim := { program := "ytjboijmajphelaagreatdoor", sum := "3c476922113f9034c8958b36913c871f5f179fd101613e9f6d3ff77f9d3cc348", func := "waterwheel/waterwheellaw16.JoinScript", spec := "joinScript", inPlace := ["internal/bytealg.abigen_runtime_cmpstring", "math/bits.Add64", "math/bits.Sub64", "internal/abi.NoEscape", "maps.clone"], unfollowed := true, recurses := true, named := ["waterwheel/ast.shapes"], apart := false, laid := [("waterwheel/ast.shapes", laid_waterwheel_ast_shapes)], narrowed := true }
def JoinScriptUptoSaid : Prop := joinScriptUptoRow.holds Tryz.pinned (OpenSpec.upto joinScriptSpec)

/-- 'waterwheellaw16.JoinNil', WHERE WHAT IT READS IS OF BULK AT MOST 1048576: true; the input reads as it did. -/
def joinNilUptoRow : OpenClaim := { program := "ytjboijmajphelaagreatdoor", sum := "3c476922113f9034c8958b36913c871f5f179fd101613e9f6d3ff77f9d3cc348", func := "waterwheel/waterwheellaw16.JoinNil", spec := "joinNil", inPlace := ["internal/bytealg.abigen_runtime_cmpstring", "math/bits.Add64", "math/bits.Sub64", "internal/abi.NoEscape", "maps.clone"], unfollowed := true, recurses := true, named := ["waterwheel/ast.shapes"], apart := false, laid := [("waterwheel/ast.shapes", laid_waterwheel_ast_shapes)], narrowed := true }
def JoinNilUptoSaid : Prop := joinNilUptoRow.holds Tryz.pinned (OpenSpec.upto joinNilSpec)

/-- 'waterwheellaw16.JoinSame', WHERE WHAT IT READS IS OF BULK AT MOST 1048576: true; the input reads as it did. -/
def joinSameUptoRow : OpenClaim := { program := "ytjboijmajphelaagreatdoor", sum := "3c476922113f9034c8958b36913c871f5f179fd101613e9f6d3ff77f9d3cc348", func := "waterwheel/waterwheellaw16.JoinSame", spec := "joinSame", inPlace := ["internal/bytealg.abigen_runtime_cmpstring", "math/bits.Add64", "math/bits.Sub64", "internal/abi.NoEscape", "maps.clone"], unfollowed := true, recurses := true, named := ["waterwheel/ast.shapes"], apart := false, laid := [("waterwheel/ast.shapes", laid_waterwheel_ast_shapes)], narrowed := true }
def JoinSameUptoSaid : Prop := joinSameUptoRow.holds Tryz.pinned (OpenSpec.upto joinSameSpec)

/-- 'waterwheellaw16.JoinTurns', WHERE WHAT IT READS IS OF BULK AT MOST 1048576: true; the input reads as it did. -/
def joinTurnsUptoRow : OpenClaim := { program := "ytjboijmajphelaagreatdoor", sum := "3c476922113f9034c8958b36913c871f5f179fd101613e9f6d3ff77f9d3cc348", func := "waterwheel/waterwheellaw16.JoinTurns", spec := "joinTurns", inPlace := ["internal/bytealg.abigen_runtime_cmpstring", "math/bits.Add64", "math/bits.Sub64", "internal/abi.NoEscape", "maps.clone"], unfollowed := true, recurses := true, named := ["waterwheel/ast.shapes"], apart := false, laid := [("waterwheel/ast.shapes", laid_waterwheel_ast_shapes)], narrowed := true }
def JoinTurnsUptoSaid : Prop := joinTurnsUptoRow.holds Tryz.pinned (OpenSpec.upto joinTurnsSpec)

end Rows
end Go.Proofs.YtjboijmajphelaaGreatDoor
