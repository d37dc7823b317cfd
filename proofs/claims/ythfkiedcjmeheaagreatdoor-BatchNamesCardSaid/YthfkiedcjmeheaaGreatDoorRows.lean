/-
  NARROWER THAN 'FOR EVERY INPUT', by the rows' own cells (each row's printed sentence says how): BatchNames: laid · BatchEval: loops, laid · BatchWindows: laid · BatchGroups: laid.
  DERIVED. THE GIVEN ROWS OF THIS SEAT. 4 by the template 'for every input the law returns true; each argument reads behind the call as it read before'; 0 by the template 'total and deterministic' (their statements: YthfkiedcjmeheaaGreatDoorTotals.lean).
  GIVEN WITH THE SEED: the statements are not yours to turn. If you find one false, say at which input.
  Laid BY PROGRAM, IN A SANDBOX (cutbox-rows.mjs): the forced cells as the released guide's own fill.sh prints them over the translation 7f77807b91e5d99a… (all of the seat's roots in one cut). By AI agents, Wed Nov 11 2026. No macro, syntax, notation, axiom, sorry.
-/
import Derived.Test.YthfkiedcjmeheaaGreatDoorChecked
import GoSem.Claim
import GoSem.ClaimJoined
import GoSem.ClaimMapViews
import Derived.JoinedTies
import Derived.KernelRfl
namespace Go.Proofs.YthfkiedcjmeheaaGreatDoor
/- THE CELL 'sum', in the pinned program and in every row, IS THE sha256 OF THE DUMP (.gsa) THAT YthfkiedcjmeheaaGreatDoorProg.lean LOADS. Nothing in Lean hashes anything: it is a label: what it is worth is what the hold of that sum in a sandbox is worth. -/
noncomputable def Tryz.pinned : Pinned := { name := "ythfkiedcjmeheaagreatdoor", sum := "7f77807b91e5d99ae569616b98e1df4a8918966424c17b46c1c1363c9552cf4b", checked := Tryz.checked }
namespace Rows
def none {H : Type} : Left H := { results := [], args := [] }

/- WHAT THE LISTED PACKAGE-LEVEL VARIABLES READ AS WHEN THE CALL BEGINS. Each datum BY PROGRAM (the guide's laid-datum.mjs) off the statement by which the dump's own 'gosem.cut.vars' lays the variable. In a bare row this is a premise. The card (YthfkiedcjmeheaaGreatDoorCards.lean) ties it to the program's text. -/
def laid_waterwheel_ast_shapes {H : Type} : DataW H := .agg [.agg [.agg [.lit (.int .i64 0), .lit (.int .i64 0)], .agg [.lit (.int .i64 0), .lit (.int .i64 0)], .agg [.lit (.int .i64 0), .lit (.int .i64 0)], .lit (.bool false), .lit (.bool false), .lit (.int .i64 0), .lit (.int .i64 0)], .agg [.agg [.lit (.int .i64 1), .lit (.int .i64 6)], .agg [.lit (.int .i64 0), .lit (.int .i64 0)], .agg [.lit (.int .i64 1), .lit (.int .i64 1073741824)], .lit (.bool false), .lit (.bool true), .lit (.int .i64 0), .lit (.int .i64 0)], .agg [.agg [.lit (.int .i64 1), .lit (.int .i64 4)], .agg [.lit (.int .i64 0), .lit (.int .i64 0)], .agg [.lit (.int .i64 0), .lit (.int .i64 0)], .lit (.bool false), .lit (.bool false), .lit (.int .i64 8), .lit (.int .i64 1)], .agg [.agg [.lit (.int .i64 0), .lit (.int .i64 0)], .agg [.lit (.int .i64 1), .lit (.int .i64 3)], .agg [.lit (.int .i64 0), .lit (.int .i64 0)], .lit (.bool false), .lit (.bool false), .lit (.int .i64 8), .lit (.int .i64 2)], .agg [.agg [.lit (.int .i64 0), .lit (.int .i64 0)], .agg [.lit (.int .i64 1), .lit (.int .i64 3)], .agg [.lit (.int .i64 0), .lit (.int .i64 0)], .lit (.bool true), .lit (.bool false), .lit (.int .i64 0), .lit (.int .i64 1)], .agg [.agg [.lit (.int .i64 0), .lit (.int .i64 0)], .agg [.lit (.int .i64 4), .lit (.int .i64 9)], .agg [.lit (.int .i64 0), .lit (.int .i64 0)], .lit (.bool true), .lit (.bool false), .lit (.int .i64 0), .lit (.int .i64 1)]]

/-- 'waterwheellaw10.BatchNames': WHATEVER THE INPUT: true; the input reads as it did. -/
def batchNamesSpec : ChangeSpec := { name := "batchNames", fn := fun _ => fun
  | [] => { results := [.lit (.bool true)], args := [] }
  | _ => none }
def batchNamesRow : OpenClaim := { program := "ythfkiedcjmeheaagreatdoor", sum := "7f77807b91e5d99ae569616b98e1df4a8918966424c17b46c1c1363c9552cf4b", func := "waterwheel/waterwheellaw10.BatchNames", spec := "batchNames", inPlace := ["internal/bytealg.abigen_runtime_cmpstring", "math/bits.Add64", "math/bits.Sub64"], unfollowed := true, recurses := true, named := ["waterwheel/ast.shapes"], apart := false, laid := [("waterwheel/ast.shapes", laid_waterwheel_ast_shapes)] }
def BatchNamesSaid : Prop := batchNamesRow.holds Tryz.pinned (OpenSpec.ofChange batchNamesSpec)

/-- ITS FALSE NEIGHBOUR: 'it returns false'. Refute it at one input. -/
def batchNamesWrong : ChangeSpec := { name := "batchNames", fn := fun _ => fun
  | [] => { results := [.lit (.bool false)], args := [] }
  | _ => none }
def BatchNamesWrongFalsely : Prop := batchNamesRow.holds Tryz.pinned (OpenSpec.ofChange batchNamesWrong)

/-- 'waterwheellaw10.BatchEval': WHATEVER THE INPUT: true; the input reads as it did. -/
def batchEvalSpec : ChangeSpec := { name := "batchEval", fn := fun _ => fun
  | [d1, d2, d3, d4] => { results := [.lit (.bool true)], args := [d1, d2, d3, d4] }
  | _ => none }
def batchEvalRow : OpenClaim := { program := "ythfkiedcjmeheaagreatdoor", sum := "7f77807b91e5d99ae569616b98e1df4a8918966424c17b46c1c1363c9552cf4b", func := "waterwheel/waterwheellaw10.BatchEval", spec := "batchEval", inPlace := ["internal/bytealg.abigen_runtime_cmpstring", "math/bits.Add64", "math/bits.Sub64"], unfollowed := true, recurses := true, named := ["waterwheel/ast.shapes"], loops := true, apart := false, laid := [("waterwheel/ast.shapes", laid_waterwheel_ast_shapes)] }
def BatchEvalSaid : Prop := batchEvalRow.holds Tryz.pinned (OpenSpec.ofChange batchEvalSpec)

/-- ITS FALSE NEIGHBOUR: 'it returns false'. Refute it at one input. -/
def batchEvalWrong : ChangeSpec := { name := "batchEval", fn := fun _ => fun
  | [d1, d2, d3, d4] => { results := [.lit (.bool false)], args := [d1, d2, d3, d4] }
  | _ => none }
def BatchEvalWrongFalsely : Prop := batchEvalRow.holds Tryz.pinned (OpenSpec.ofChange batchEvalWrong)

/-- 'waterwheellaw10.BatchWindows': WHATEVER THE INPUT: true; the input reads as it did. -/
def batchWindowsSpec : ChangeSpec := { name := "batchWindows", fn := fun _ => fun
  | [d1, d2] => { results := [.lit (.bool true)], args := [d1, d2] }
  | _ => none }
def batchWindowsRow : OpenClaim := { program := "ythfkiedcjmeheaagreatdoor", sum := "7f77807b91e5d99ae569616b98e1df4a8918966424c17b46c1c1363c9552cf4b", func := "waterwheel/waterwheellaw10.BatchWindows", spec := "batchWindows", inPlace := ["internal/bytealg.abigen_runtime_cmpstring", "math/bits.Add64", "math/bits.Sub64"], unfollowed := true, recurses := true, named := ["waterwheel/ast.shapes"], apart := false, laid := [("waterwheel/ast.shapes", laid_waterwheel_ast_shapes)] }
def BatchWindowsSaid : Prop := batchWindowsRow.holds Tryz.pinned (OpenSpec.ofChange batchWindowsSpec)

/-- ITS FALSE NEIGHBOUR: 'it returns false'. Refute it at one input. -/
def batchWindowsWrong : ChangeSpec := { name := "batchWindows", fn := fun _ => fun
  | [d1, d2] => { results := [.lit (.bool false)], args := [d1, d2] }
  | _ => none }
def BatchWindowsWrongFalsely : Prop := batchWindowsRow.holds Tryz.pinned (OpenSpec.ofChange batchWindowsWrong)

/-- 'waterwheellaw10.BatchGroups': WHATEVER THE INPUT: true; the input reads as it did. -/
def batchGroupsSpec : ChangeSpec := { name := "batchGroups", fn := fun _ => fun
  | [d1, d2] => { results := [.lit (.bool true)], args := [d1, d2] }
  | _ => none }
def batchGroupsRow : OpenClaim := { program := "ythfkiedcjmeheaagreatdoor", sum := "7f77807b91e5d99ae569616b98e1df4a8918966424c17b46c1c1363c9552cf4b", func := "waterwheel/waterwheellaw10.BatchGroups", spec := "batchGroups", inPlace := ["internal/bytealg.abigen_runtime_cmpstring", "math/bits.Add64", "math/bits.Sub64"], unfollowed := true, recurses := true, named := ["waterwheel/ast.shapes"], apart := false, laid := [("waterwheel/ast.shapes", laid_waterwheel_ast_shapes)] }
def BatchGroupsSaid : Prop := batchGroupsRow.holds Tryz.pinned (OpenSpec.ofChange batchGroupsSpec)

/-- ITS FALSE NEIGHBOUR: 'it returns false'. Refute it at one input. -/
def batchGroupsWrong : ChangeSpec := { name := "batchGroups", fn := fun _ => fun
  | [d1, d2] => { results := [.lit (.bool false)], args := [d1, d2] }
  | _ => none }
def BatchGroupsWrongFalsely : Prop := batchGroupsRow.holds Tryz.pinned (OpenSpec.ofChange batchGroupsWrong)

/- THE SECOND FORM. 'bulk': how many values and letters a reading holds, each counted each time it is reached (what is shared counts as often as it is met; a slice's spare places count too). A statement '..UptoSaid' is the law's where the arguments, and the package variables that the reading takes, are together of bulk at most 1048576: NARROWER than '..Said'. Prove '..Said' where nothing that the law and all that it calls make is longer than what came in: it says more and counts as full. Else prove '..UptoSaid'. A law counts once. -/
mutual
def uptoBulk {H : Type} : DataW H → Nat
  | .lit (.string bytes) => bytes.length + 1
  | .lit _ => 1
  | .nil => 1
  | .ptr d => uptoBulk d + 1
  | .slice elems spare => uptoBulkAll elems + uptoBulkAll spare + 1
  | .agg parts => uptoBulkAll parts + 1
  | .iface _ d => uptoBulk d + 1
  | .map entries => uptoBulkEntries entries + 1
  | .held _ => 1
def uptoBulkAll {H : Type} : List (DataW H) → Nat
  | [] => 0
  | d :: r => uptoBulk d + uptoBulkAll r
def uptoBulkEntries {H : Type} : List (Lit × DataW H) → Nat
  | [] => 0
  | x :: r => uptoBulkEntry x + uptoBulkEntries r
def uptoBulkEntry {H : Type} : Lit × DataW H → Nat
  | (.string bytes, d) => bytes.length + uptoBulk d + 1
  | (_, d) => uptoBulk d + 1
 end
def uptoSmall : (H : Type) → List (DataW H) → Bool := fun _ ds => decide (uptoBulkAll ds ≤ 1048576)
def OpenSpec.upto (s : _root_.Go.ChangeSpec) : _root_.Go.OpenSpec := { _root_.Go.OpenSpec.ofChange s with cond := some uptoSmall }

/-- 'waterwheellaw10.BatchNames', WHERE WHAT IT READS IS OF BULK AT MOST 1048576: true; the input reads as it did. -/
def batchNamesUptoRow : OpenClaim := { program := "ythfkiedcjmeheaagreatdoor", sum := "7f77807b91e5d99ae569616b98e1df4a8918966424c17b46c1c1363c9552cf4b", func := "waterwheel/waterwheellaw10.BatchNames", spec := "batchNames", inPlace := ["internal/bytealg.abigen_runtime_cmpstring", "math/bits.Add64", "math/bits.Sub64"], unfollowed := true, recurses := true, named := ["waterwheel/ast.shapes"], apart := false, laid := [("waterwheel/ast.shapes", laid_waterwheel_ast_shapes)], narrowed := true }
def BatchNamesUptoSaid : Prop := batchNamesUptoRow.holds Tryz.pinned (OpenSpec.upto batchNamesSpec)

/-- 'waterwheellaw10.BatchEval', WHERE WHAT IT READS IS OF BULK AT MOST 1048576: true; the input reads as it did. -/
def batchEvalUptoRow : OpenClaim := { program := "ythfkiedcjmeheaagreatdoor", sum := "7f77807b91e5d99ae569616b98e1df4a8918966424c17b46c1c1363c9552cf4b", func := "waterwheel/waterwheellaw10.BatchEval", spec := "batchEval", inPlace := ["internal/bytealg.abigen_runtime_cmpstring", "math/bits.Add64", "math/bits.Sub64"], unfollowed := true, recurses := true, named := ["waterwheel/ast.shapes"], loops := true, apart := false, laid := [("waterwheel/ast.shapes", laid_waterwheel_ast_shapes)], narrowed := true }
def BatchEvalUptoSaid : Prop := batchEvalUptoRow.holds Tryz.pinned (OpenSpec.upto batchEvalSpec)

/-- 'waterwheellaw10.BatchWindows', WHERE WHAT IT READS IS OF BULK AT MOST 1048576: true; the input reads as it did. -/
def batchWindowsUptoRow : OpenClaim := { program := "ythfkiedcjmeheaagreatdoor", sum := "7f77807b91e5d99ae569616b98e1df4a8918966424c17b46c1c1363c9552cf4b", func := "waterwheel/waterwheellaw10.BatchWindows", spec := "batchWindows", inPlace := ["internal/bytealg.abigen_runtime_cmpstring", "math/bits.Add64", "math/bits.Sub64"], unfollowed := true, recurses := true, named := ["waterwheel/ast.shapes"], apart := false, laid := [("waterwheel/ast.shapes", laid_waterwheel_ast_shapes)], narrowed := true }
def BatchWindowsUptoSaid : Prop := batchWindowsUptoRow.holds Tryz.pinned (OpenSpec.upto batchWindowsSpec)

/-- 'waterwheellaw10.BatchGroups', WHERE WHAT IT READS IS OF BULK AT MOST 1048576: true; the input reads as it did. -/
def batchGroupsUptoRow : OpenClaim := { program := "ythfkiedcjmeheaagreatdoor", sum := "7f77807b91e5d99ae569616b98e1df4a8918966424c17b46c1c1363c9552cf4b", func := "waterwheel/waterwheellaw10.BatchGroups", spec := "batchGroups", inPlace := ["internal/bytealg.abigen_runtime_cmpstring", "math/bits.Add64", "math/bits.Sub64"], unfollowed := true, recurses := true, named := ["waterwheel/ast.shapes"], apart := false, laid := [("waterwheel/ast.shapes", laid_waterwheel_ast_shapes)], narrowed := true }
def BatchGroupsUptoSaid : Prop := batchGroupsUptoRow.holds Tryz.pinned (OpenSpec.upto batchGroupsSpec)

end Rows
end Go.Proofs.YthfkiedcjmeheaaGreatDoor
