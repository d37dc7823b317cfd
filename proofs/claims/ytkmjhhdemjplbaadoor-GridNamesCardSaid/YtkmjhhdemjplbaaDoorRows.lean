/-
  NARROWER THAN 'FOR EVERY INPUT', by the rows' own cells (each row's printed sentence says how): GridNames: laid · GridCalls: loops, laid · GridNeeds: loops, laid · GridSteps: loops, laid.
  DERIVED. THE GIVEN ROWS OF THIS SEAT. 4 by the template 'for every input the law returns true; each argument reads behind the call as it read before'; 0 by the template 'total and deterministic' (their statements: YtkmjhhdemjplbaaDoorTotals.lean).
  GIVEN WITH THE SEED: the statements are not yours to turn. If you find one false, say at which input.
  Laid BY PROGRAM, IN A SANDBOX (cutbox-rows.mjs): the forced cells as the released guide's own fill.sh prints them over the translation b8e7ccf33b62f5ad… (all of the seat's roots in one cut). By AI agents, Wed Nov 11 2026. No macro, syntax, notation, axiom, sorry.
-/
import Derived.Test.YtkmjhhdemjplbaaDoorChecked
import GoSem.Claim
import GoSem.ClaimJoined
import GoSem.ClaimMapViews
import Derived.JoinedTies
import Derived.KernelRfl
namespace Go.Proofs.YtkmjhhdemjplbaaDoor
/- THE CELL 'sum', in the pinned program and in every row, IS THE sha256 OF THE DUMP (.gsa) THAT YtkmjhhdemjplbaaDoorProg.lean LOADS. Nothing in Lean hashes anything: it is a label: what it is worth is what the hold of that sum in a sandbox is worth. -/
noncomputable def Tryd.pinned : Pinned := { name := "ytkmjhhdemjplbaadoor", sum := "b8e7ccf33b62f5adcc4635c747c973ae79181ba5687704a4ecd7f472178f11e8", checked := Tryd.checked }
namespace Rows
def none {H : Type} : Left H := { results := [], args := [] }

/- WHAT THE LISTED PACKAGE-LEVEL VARIABLES READ AS WHEN THE CALL BEGINS. Each datum BY PROGRAM (the guide's laid-datum.mjs) off the statement by which the dump's own 'gosem.cut.vars' lays the variable. In a bare row this is a premise. The card (YtkmjhhdemjplbaaDoorCards.lean) ties it to the program's text. -/
def laid_waterwheel_ast_shapes {H : Type} : DataW H := .agg [.agg [.agg [.lit (.int .i64 0), .lit (.int .i64 0)], .agg [.lit (.int .i64 0), .lit (.int .i64 0)], .agg [.lit (.int .i64 0), .lit (.int .i64 0)], .lit (.bool false), .lit (.bool false), .lit (.int .i64 0), .lit (.int .i64 0)], .agg [.agg [.lit (.int .i64 1), .lit (.int .i64 6)], .agg [.lit (.int .i64 0), .lit (.int .i64 0)], .agg [.lit (.int .i64 1), .lit (.int .i64 1073741824)], .lit (.bool false), .lit (.bool true), .lit (.int .i64 0), .lit (.int .i64 0)], .agg [.agg [.lit (.int .i64 1), .lit (.int .i64 4)], .agg [.lit (.int .i64 0), .lit (.int .i64 0)], .agg [.lit (.int .i64 0), .lit (.int .i64 0)], .lit (.bool false), .lit (.bool false), .lit (.int .i64 8), .lit (.int .i64 1)], .agg [.agg [.lit (.int .i64 0), .lit (.int .i64 0)], .agg [.lit (.int .i64 1), .lit (.int .i64 3)], .agg [.lit (.int .i64 0), .lit (.int .i64 0)], .lit (.bool false), .lit (.bool false), .lit (.int .i64 8), .lit (.int .i64 2)], .agg [.agg [.lit (.int .i64 0), .lit (.int .i64 0)], .agg [.lit (.int .i64 1), .lit (.int .i64 3)], .agg [.lit (.int .i64 0), .lit (.int .i64 0)], .lit (.bool true), .lit (.bool false), .lit (.int .i64 0), .lit (.int .i64 1)], .agg [.agg [.lit (.int .i64 0), .lit (.int .i64 0)], .agg [.lit (.int .i64 4), .lit (.int .i64 9)], .agg [.lit (.int .i64 0), .lit (.int .i64 0)], .lit (.bool true), .lit (.bool false), .lit (.int .i64 0), .lit (.int .i64 1)]]

/-- 'waterwheellaw09.GridNames': WHATEVER THE INPUT: true; the input reads as it did. -/
def gridNamesSpec : ChangeSpec := { name := "gridNames", fn := fun _ => fun
  | [] => { results := [.lit (.bool true)], args := [] }
  | _ => none }
def gridNamesRow : OpenClaim := { program := "ytkmjhhdemjplbaadoor", sum := "b8e7ccf33b62f5adcc4635c747c973ae79181ba5687704a4ecd7f472178f11e8", func := "waterwheel/waterwheellaw09.GridNames", spec := "gridNames", unfollowed := true, recurses := true, named := ["waterwheel/ast.shapes"], apart := false, laid := [("waterwheel/ast.shapes", laid_waterwheel_ast_shapes)] }
def GridNamesSaid : Prop := gridNamesRow.holds Tryd.pinned (OpenSpec.ofChange gridNamesSpec)

/-- ITS FALSE NEIGHBOUR: 'it returns false'. Refute it at one input. -/
def gridNamesWrong : ChangeSpec := { name := "gridNames", fn := fun _ => fun
  | [] => { results := [.lit (.bool false)], args := [] }
  | _ => none }
def GridNamesWrongFalsely : Prop := gridNamesRow.holds Tryd.pinned (OpenSpec.ofChange gridNamesWrong)

/-- 'waterwheellaw09.GridCalls': WHATEVER THE INPUT: true; the input reads as it did. -/
def gridCallsSpec : ChangeSpec := { name := "gridCalls", fn := fun _ => fun
  | [d1, d2, d3, d4, d5, d6, d7, d8] => { results := [.lit (.bool true)], args := [d1, d2, d3, d4, d5, d6, d7, d8] }
  | _ => none }
def gridCallsRow : OpenClaim := { program := "ytkmjhhdemjplbaadoor", sum := "b8e7ccf33b62f5adcc4635c747c973ae79181ba5687704a4ecd7f472178f11e8", func := "waterwheel/waterwheellaw09.GridCalls", spec := "gridCalls", unfollowed := true, recurses := true, named := ["waterwheel/ast.shapes"], loops := true, apart := false, laid := [("waterwheel/ast.shapes", laid_waterwheel_ast_shapes)] }
def GridCallsSaid : Prop := gridCallsRow.holds Tryd.pinned (OpenSpec.ofChange gridCallsSpec)

/-- ITS FALSE NEIGHBOUR: 'it returns false'. Refute it at one input. -/
def gridCallsWrong : ChangeSpec := { name := "gridCalls", fn := fun _ => fun
  | [d1, d2, d3, d4, d5, d6, d7, d8] => { results := [.lit (.bool false)], args := [d1, d2, d3, d4, d5, d6, d7, d8] }
  | _ => none }
def GridCallsWrongFalsely : Prop := gridCallsRow.holds Tryd.pinned (OpenSpec.ofChange gridCallsWrong)

/-- 'waterwheellaw09.GridNeeds': WHATEVER THE INPUT: true; the input reads as it did. -/
def gridNeedsSpec : ChangeSpec := { name := "gridNeeds", fn := fun _ => fun
  | [d1, d2, d3, d4, d5] => { results := [.lit (.bool true)], args := [d1, d2, d3, d4, d5] }
  | _ => none }
def gridNeedsRow : OpenClaim := { program := "ytkmjhhdemjplbaadoor", sum := "b8e7ccf33b62f5adcc4635c747c973ae79181ba5687704a4ecd7f472178f11e8", func := "waterwheel/waterwheellaw09.GridNeeds", spec := "gridNeeds", unfollowed := true, recurses := true, named := ["waterwheel/ast.shapes"], loops := true, apart := false, laid := [("waterwheel/ast.shapes", laid_waterwheel_ast_shapes)] }
def GridNeedsSaid : Prop := gridNeedsRow.holds Tryd.pinned (OpenSpec.ofChange gridNeedsSpec)

/-- ITS FALSE NEIGHBOUR: 'it returns false'. Refute it at one input. -/
def gridNeedsWrong : ChangeSpec := { name := "gridNeeds", fn := fun _ => fun
  | [d1, d2, d3, d4, d5] => { results := [.lit (.bool false)], args := [d1, d2, d3, d4, d5] }
  | _ => none }
def GridNeedsWrongFalsely : Prop := gridNeedsRow.holds Tryd.pinned (OpenSpec.ofChange gridNeedsWrong)

/-- 'waterwheellaw09.GridSteps': WHATEVER THE INPUT: true; the input reads as it did. -/
def gridStepsSpec : ChangeSpec := { name := "gridSteps", fn := fun _ => fun
  | [d1, d2, d3, d4, d5, d6, d7] => { results := [.lit (.bool true)], args := [d1, d2, d3, d4, d5, d6, d7] }
  | _ => none }
def gridStepsRow : OpenClaim := { program := "ytkmjhhdemjplbaadoor", sum := "b8e7ccf33b62f5adcc4635c747c973ae79181ba5687704a4ecd7f472178f11e8", func := "waterwheel/waterwheellaw09.GridSteps", spec := "gridSteps", unfollowed := true, recurses := true, named := ["waterwheel/ast.shapes"], loops := true, apart := false, laid := [("waterwheel/ast.shapes", laid_waterwheel_ast_shapes)] }
def GridStepsSaid : Prop := gridStepsRow.holds Tryd.pinned (OpenSpec.ofChange gridStepsSpec)

/-- ITS FALSE NEIGHBOUR: 'it returns false'. Refute it at one input. -/
def gridStepsWrong : ChangeSpec := { name := "gridSteps", fn := fun _ => fun
  | [d1, d2, d3, d4, d5, d6, d7] => { results := [.lit (.bool false)], args := [d1, d2, d3, d4, d5, d6, d7] }
  | _ => none }
def GridStepsWrongFalsely : Prop := gridStepsRow.holds Tryd.pinned (OpenSpec.ofChange gridStepsWrong)

/- THE SECOND FORM. 'bulk': how many values and letters a reading holds, each counted each time it is reached (what is shared counts as often as it is met; a slice's spare places count too). A statement '..UptoSaid' is the law's where the arguments, and the package variables that the reading takes, are together of bulk at most 1048576: NARROWER than '..Said'. Prove '..Said' where nothing that the law and all that it calls make is longer than what came in: it says more and counts as full. Else prove '..UptoSaid'. A law counts once. -/
mutual
def uptoBulk {H : Type} : DataW H → Nat
  | .lit (.string bytes) => bytes.length + 1
  | .lit _ => 1
  | .nil => 1
  | .ptr d => uptoBulk d + 1
  | .slice elems spare => uptoBulkAll elems + uptoBulkAll spare + 1
  | .agg parts => uptoBulkAll parts + 1
  | .iface _ d => uptoBulk d + 1
  | .map entries => uptoBulkEntries entries + 1
  | .held _ => 1
def uptoBulkAll {H : Type} : List (DataW H) → Nat
  | [] => 0
  | d :: r => uptoBulk d + uptoBulkAll r
def uptoBulkEntries {H : Type} : List (Lit × DataW H) → Nat
  | [] => 0
  | x :: r => uptoBulkEntry x + uptoBulkEntries r
def uptoBulkEntry {H : Type} : Lit × DataW H → Nat
  | (.string bytes, d) => bytes.length + uptoBulk d + 1
  | (_, d) => uptoBulk d + 1
 end
def uptoSmall : (H : Type) → List (DataW H) → Bool := fun _ ds => decide (uptoBulkAll ds ≤ 1048576)
def OpenSpec.upto (s : _root_.Go.ChangeSpec) : _root_.Go.OpenSpec := { _root_.Go.OpenSpec.ofChange s with cond := some uptoSmall }

/-- 'waterwheellaw09.GridNames', WHERE WHAT IT READS IS OF BULK AT MOST 1048576: true; the input reads as it did. -/
def gridNamesUptoRow : OpenClaim := { program := "ytkmjhhdemjplbaadoor", sum := "b8e7ccf33b62f5adcc4635c747c973ae79181ba5687704a4ecd7f472178f11e8", func := "waterwheel/waterwheellaw09.GridNames", spec := "gridNames", unfollowed := true, recurses := true, named := ["waterwheel/ast.shapes"], apart := false, laid := [("waterwheel/ast.shapes", laid_waterwheel_ast_shapes)], narrowed := true }
def GridNamesUptoSaid : Prop := gridNamesUptoRow.holds Tryd.pinned (OpenSpec.upto gridNamesSpec)

/-- 'waterwheellaw09.GridCalls', WHERE WHAT IT READS IS OF BULK AT MOST 1048576: true; the input reads as it did. -/
def gridCallsUptoRow : OpenClaim := { program := "ytkmjhhdemjplbaadoor", sum := "b8e7ccf33b62f5adcc4635c747c973ae79181ba5687704a4ecd7f472178f11e8", func := "waterwheel/waterwheellaw09.GridCalls", spec := "gridCalls", unfollowed := true, recurses := true, named := ["waterwheel/ast.shapes"], loops := true, apart := false, laid := [("waterwheel/ast.shapes", laid_waterwheel_ast_shapes)], narrowed := true }
def GridCallsUptoSaid : Prop := gridCallsUptoRow.holds Tryd.pinned (OpenSpec.upto gridCallsSpec)

/-- 'waterwheellaw09.GridNeeds', WHERE WHAT IT READS IS OF BULK AT MOST 1048576: true; the input reads as it did. -/
def gridNeedsUptoRow : OpenClaim := { program := "ytkmjhhdemjplbaadoor", sum := "b8e7ccf33b62f5adcc4635c747c973ae79181ba5687704a4ecd7f472178f11e8", func := "waterwheel/waterwheellaw09.GridNeeds", spec := "gridNeeds", unfollowed := true, recurses := true, named := ["waterwheel/ast.shapes"], loops := true, apart := false, laid := [("waterwheel/ast.shapes", laid_waterwheel_ast_shapes)], narrowed := true }
def GridNeedsUptoSaid : Prop := gridNeedsUptoRow.holds Tryd.pinned (OpenSpec.upto gridNeedsSpec)

/-- 'waterwheellaw09.GridSteps', WHERE WHAT IT READS IS OF BULK AT MOST 1048576: true; the input reads as it did. -/
def gridStepsUptoRow : OpenClaim := { program := "ytkmjhhdemjplbaadoor", sum := "b8e7ccf33b62f5adcc4635c747c973ae79181ba5687704a4ecd7f472178f11e8", func := "waterwheel/waterwheellaw09.GridSteps", spec := "gridSteps", unfollowed := true, recurses := true, named := ["waterwheel/ast.shapes"], loops := true, apart := false, laid := [("waterwheel/ast.shapes", laid_waterwheel_ast_shapes)], narrowed := true }
def GridStepsUptoSaid : Prop := gridStepsUptoRow.holds Tryd.pinned (OpenSpec.upto gridStepsSpec)

end Rows
end Go.Proofs.YtkmjhhdemjplbaaDoor
