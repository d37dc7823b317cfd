/-
  NARROWER THAN 'FOR EVERY INPUT', by the rows' own cells (each row's printed sentence says how): InternNames: laid · InternScript: loops, laid · InternNil: laid · InternKeeps: laid · InternOrders: laid.
  DERIVED. THE GIVEN ROWS OF THIS SEAT. 5 by the template 'for every input the law returns true; each argument reads behind the call as it read before'; 0 by the template 'total and deterministic' (their statements: YtaelbkflcgopnaaGreatDoorTotals.lean).
  GIVEN WITH THE SEED: the statements are not yours to turn. If you find one false, say at which input.
  Laid BY PROGRAM, IN A SANDBOX (cutbox-rows.mjs): the forced cells as the released guide's own fill.sh prints them over the translation 5eb3ea3decee19eb… (all of the seat's roots in one cut). By AI agents, Wed Nov 11 2026. No macro, syntax, notation, axiom, sorry.
-/
import Derived.Test.YtaelbkflcgopnaaGreatDoorChecked
import GoSem.Claim
import GoSem.ClaimJoined
import GoSem.ClaimMapViews
import Derived.JoinedTies
import Derived.KernelRfl
namespace Go.Proofs.YtaelbkflcgopnaaGreatDoor
/- THE CELL 'sum', in the pinned program and in every row, IS THE sha256 OF THE DUMP (.gsa) THAT YtaelbkflcgopnaaGreatDoorProg.lean LOADS. Nothing in Lean hashes anything: it is a label: what it is worth is what the hold of that sum in a sandbox is worth. -/
noncomputable def Tryz.pinned : Pinned := { name := "ytaelbkflcgopnaagreatdoor", sum := "5eb3ea3decee19ebfc14067a06af289d61d37640c91dba9a6a7b1c3a14aea029", checked := Tryz.checked }
namespace Rows
def none {H : Type} : Left H := { results := [], args := [] }

/- WHAT THE LISTED PACKAGE-LEVEL VARIABLES READ AS WHEN THE CALL BEGINS. Each datum BY PROGRAM (the guide's laid-datum.mjs) off the statement by which the dump's own 'gosem.cut.vars' lays the variable. In a bare row this is a premise. The card (YtaelbkflcgopnaaGreatDoorCards.lean) ties it to the program's text. -/
def laid_waterwheel_ast_shapes {H : Type} : DataW H := .agg [.agg [.agg [.lit (.int .i64 0), .lit (.int .i64 0)], .agg [.lit (.int .i64 0), .lit (.int .i64 0)], .agg [.lit (.int .i64 0), .lit (.int .i64 0)], .lit (.bool false), .lit (.bool false), .lit (.int .i64 0), .lit (.int .i64 0)], .agg [.agg [.lit (.int .i64 1), .lit (.int .i64 6)], .agg [.lit (.int .i64 0), .lit (.int .i64 0)], .agg [.lit (.int .i64 1), .lit (.int .i64 1073741824)], .lit (.bool false), .lit (.bool true), .lit (.int .i64 0), .lit (.int .i64 0)], .agg [.agg [.lit (.int .i64 1), .lit (.int .i64 4)], .agg [.lit (.int .i64 0), .lit (.int .i64 0)], .agg [.lit (.int .i64 0), .lit (.int .i64 0)], .lit (.bool false), .lit (.bool false), .lit (.int .i64 8), .lit (.int .i64 1)], .agg [.agg [.lit (.int .i64 0), .lit (.int .i64 0)], .agg [.lit (.int .i64 1), .lit (.int .i64 3)], .agg [.lit (.int .i64 0), .lit (.int .i64 0)], .lit (.bool false), .lit (.bool false), .lit (.int .i64 8), .lit (.int .i64 2)], .agg [.agg [.lit (.int .i64 0), .lit (.int .i64 0)], .agg [.lit (.int .i64 1), .lit (.int .i64 3)], .agg [.lit (.int .i64 0), .lit (.int .i64 0)], .lit (.bool true), .lit (.bool false), .lit (.int .i64 0), .lit (.int .i64 1)], .agg [.agg [.lit (.int .i64 0), .lit (.int .i64 0)], .agg [.lit (.int .i64 4), .lit (.int .i64 9)], .agg [.lit (.int .i64 0), .lit (.int .i64 0)], .lit (.bool true), .lit (.bool false), .lit (.int .i64 0), .lit (.int .i64 1)]]

/-- 'waterwheellaw12.InternNames': WHATEVER THE INPUT: true; the input reads as it did. -/
def internNamesSpec : ChangeSpec := { name := "internNames", fn := fun _ => fun
  | [] => { results := [.lit (.bool true)], args := [] }
  | _ => none }
def internNamesRow : OpenClaim := { program := "ytaelbkflcgopnaagreatdoor", sum := "5eb3ea3decee19ebfc14067a06af289d61d37640c91dba9a6a7b1c3a14aea029", func := "waterwheel/waterwheellaw12.InternNames", spec := "internNames", inPlace := ["internal/bytealg.abigen_runtime_cmpstring"], unfollowed := true, recurses := true, named := ["waterwheel/ast.shapes"], apart := false, laid := [("waterwheel/ast.shapes", laid_waterwheel_ast_shapes)] }
def InternNamesSaid : Prop := internNamesRow.holds Tryz.pinned (OpenSpec.ofChange internNamesSpec)

/-- ITS FALSE NEIGHBOUR: 'it returns false'. Refute it at one input. -/
def internNamesWrong : ChangeSpec := { name := "internNames", fn := fun _ => fun
  | [] => { results := [.lit (.bool false)], args := [] }
  | _ => none }
def InternNamesWrongFalsely : Prop := internNamesRow.holds Tryz.pinned (OpenSpec.ofChange internNamesWrong)

/-- 'waterwheellaw12.InternScript': WHATEVER THE INPUT: true; the input reads as it did. -/
def internScriptSpec : ChangeSpec := { name := "internScript", fn := fun _ => fun
  | [d1, d2, d3, d4, d5, d6] => { results := [.lit (.bool true)], args := [d1, d2, d3, d4, d5, d6] }
  | _ => none }
def internScriptRow : OpenClaim := { program := "ytaelbkflcgopnaagreatdoor", sum := "5eb3ea3decee19ebfc14067a06af289d61d37640c91dba9a6a7b1c3a14aea029", func := "waterwheel/waterwheellaw12.InternScript", spec := "internScript", inPlace := ["internal/bytealg.abigen_runtime_cmpstring"], unfollowed := true, recurses := true, named := ["waterwheel/ast.shapes"], loops := true, apart := false, laid := [("waterwheel/ast.shapes", laid_waterwheel_ast_shapes)] }
def InternScriptSaid : Prop := internScriptRow.holds Tryz.pinned (OpenSpec.ofChange internScriptSpec)

/-- ITS FALSE NEIGHBOUR: 'it returns false'. Refute it at one input. -/
def internScriptWrong : ChangeSpec := { name := "internScript", fn := fun _ => fun
  | [d1, d2, d3, d4, d5, d6] => { results := [.lit (.bool false)], args := [d1, d2, d3, d4, d5, d6] }
  | _ => none }
def InternScriptWrongFalsely : Prop := internScriptRow.holds Tryz.pinned (OpenSpec.ofChange internScriptWrong)

/-- 'waterwheellaw12.InternNil': WHATEVER THE INPUT: true; the input reads as it did. -/
def internNilSpec : ChangeSpec := { name := "internNil", fn := fun _ => fun
  | [d1, d2] => { results := [.lit (.bool true)], args := [d1, d2] }
  | _ => none }
def internNilRow : OpenClaim := { program := "ytaelbkflcgopnaagreatdoor", sum := "5eb3ea3decee19ebfc14067a06af289d61d37640c91dba9a6a7b1c3a14aea029", func := "waterwheel/waterwheellaw12.InternNil", spec := "internNil", inPlace := ["internal/bytealg.abigen_runtime_cmpstring"], unfollowed := true, recurses := true, named := ["waterwheel/ast.shapes"], apart := false, laid := [("waterwheel/ast.shapes", laid_waterwheel_ast_shapes)] }
def InternNilSaid : Prop := internNilRow.holds Tryz.pinned (OpenSpec.ofChange internNilSpec)

/-- ITS FALSE NEIGHBOUR: 'it returns false'. Refute it at one input. -/
def internNilWrong : ChangeSpec := { name := "internNil", fn := fun _ => fun
  | [d1, d2] => { results := [.lit (.bool false)], args := [d1, d2] }
  | _ => none }
def InternNilWrongFalsely : Prop := internNilRow.holds Tryz.pinned (OpenSpec.ofChange internNilWrong)

/-- 'waterwheellaw12.InternKeeps': WHATEVER THE INPUT: true; the input reads as it did. -/
def internKeepsSpec : ChangeSpec := { name := "internKeeps", fn := fun _ => fun
  | [d1, d2, d3, d4] => { results := [.lit (.bool true)], args := [d1, d2, d3, d4] }
  | _ => none }
def internKeepsRow : OpenClaim := { program := "ytaelbkflcgopnaagreatdoor", sum := "5eb3ea3decee19ebfc14067a06af289d61d37640c91dba9a6a7b1c3a14aea029", func := "waterwheel/waterwheellaw12.InternKeeps", spec := "internKeeps", inPlace := ["internal/bytealg.abigen_runtime_cmpstring"], unfollowed := true, recurses := true, named := ["waterwheel/ast.shapes"], apart := false, laid := [("waterwheel/ast.shapes", laid_waterwheel_ast_shapes)] }
def InternKeepsSaid : Prop := internKeepsRow.holds Tryz.pinned (OpenSpec.ofChange internKeepsSpec)

/-- ITS FALSE NEIGHBOUR: 'it returns false'. Refute it at one input. -/
def internKeepsWrong : ChangeSpec := { name := "internKeeps", fn := fun _ => fun
  | [d1, d2, d3, d4] => { results := [.lit (.bool false)], args := [d1, d2, d3, d4] }
  | _ => none }
def InternKeepsWrongFalsely : Prop := internKeepsRow.holds Tryz.pinned (OpenSpec.ofChange internKeepsWrong)

/-- 'waterwheellaw12.InternOrders': WHATEVER THE INPUT: true; the input reads as it did. -/
def internOrdersSpec : ChangeSpec := { name := "internOrders", fn := fun _ => fun
  | [d] => { results := [.lit (.bool true)], args := [d] }
  | _ => none }
def internOrdersRow : OpenClaim := { program := "ytaelbkflcgopnaagreatdoor", sum := "5eb3ea3decee19ebfc14067a06af289d61d37640c91dba9a6a7b1c3a14aea029", func := "waterwheel/waterwheellaw12.InternOrders", spec := "internOrders", inPlace := ["internal/bytealg.abigen_runtime_cmpstring"], unfollowed := true, recurses := true, named := ["waterwheel/ast.shapes"], apart := false, laid := [("waterwheel/ast.shapes", laid_waterwheel_ast_shapes)] }
def InternOrdersSaid : Prop := internOrdersRow.holds Tryz.pinned (OpenSpec.ofChange internOrdersSpec)

/-- ITS FALSE NEIGHBOUR: 'it returns false'. Refute it at one input. -/
def internOrdersWrong : ChangeSpec := { name := "internOrders", fn := fun _ => fun
  | [d] => { results := [.lit (.bool false)], args := [d] }
  | _ => none }
def InternOrdersWrongFalsely : Prop := internOrdersRow.holds Tryz.pinned (OpenSpec.ofChange internOrdersWrong)

/- THE SECOND FORM. 'bulk': how many values and letters a reading holds, each counted each time it is reached (what is shared counts as often as it is met; a slice's spare places count too). A statement '..UptoSaid' is the law's where the arguments, and the package variables that the reading takes, are together of bulk at most 1048576: NARROWER than '..Said'. Prove '..Said' where nothing that the law and all that it calls make is longer than what came in: it says more and counts as full. Else prove '..UptoSaid'. A law counts once. -/
mutual
def uptoBulk {H : Type} : DataW H → Nat
  | .lit (.string bytes) => bytes.length + 1
  | .lit _ => 1
  | .nil => 1
  | .ptr d => uptoBulk d + 1
  | .slice elems spare => uptoBulkAll elems + uptoBulkAll spare + 1
  | .agg parts => uptoBulkAll parts + 1
  | .iface _ d => uptoBulk d + 1
  | .map entries => uptoBulkEntries entries + 1
  | .held _ => 1
def uptoBulkAll {H : Type} : List (DataW H) → Nat
  | [] => 0
  | d :: r => uptoBulk d + uptoBulkAll r
def uptoBulkEntries {H : Type} : List (Lit × DataW H) → Nat
  | [] => 0
  | x :: r => uptoBulkEntry x + uptoBulkEntries r
def uptoBulkEntry {H : Type} : Lit × DataW H → Nat
  | (.string bytes, d) => bytes.length + uptoBulk d + 1
  | (_, d) => uptoBulk d + 1
 end
def uptoSmall : (H : Type) → List (DataW H) → Bool := fun _ ds => decide (uptoBulkAll ds ≤ 1048576)
def OpenSpec.upto (s : _root_.Go.ChangeSpec) : _root_.Go.OpenSpec := { _root_.Go.OpenSpec.ofChange s with cond := some uptoSmall }

/-- 'waterwheellaw12.InternNames', WHERE WHAT IT READS IS OF BULK AT MOST 1048576: true; the input reads as it did. -/
def internNamesUptoRow : OpenClaim := { program := "ytaelbkflcgopnaagreatdoor", sum := "5eb3ea3decee19ebfc14067a06af289d61d37640c91dba9a6a7b1c3a14aea029", func := "waterwheel/waterwheellaw12.InternNames", spec := "internNames", inPlace := ["internal/bytealg.abigen_runtime_cmpstring"], unfollowed := true, recurses := true, named := ["waterwheel/ast.shapes"], apart := false, laid := [("waterwheel/ast.shapes", laid_waterwheel_ast_shapes)], narrowed := true }
def InternNamesUptoSaid : Prop := internNamesUptoRow.holds Tryz.pinned (OpenSpec.upto internNamesSpec)

/-- 'waterwheellaw12.InternScript', WHERE WHAT IT READS IS OF BULK AT MOST 1048576: true; the input reads as it did. -/
def internScriptUptoRow : OpenClaim := { program := "ytaelbkflcgopnaagreatdoor", sum := "5eb3ea3decee19ebfc14067a06af289d61d37640c91dba9a6a7b1c3a14aea029", func := "waterwheel/waterwheellaw12.InternScript", spec := "internScript", inPlace := ["internal/bytealg.abigen_runtime_cmpstring"], unfollowed := true, recurses := true, named := ["waterwheel/ast.shapes"], loops := true, apart := false, laid := [("waterwheel/ast.shapes", laid_waterwheel_ast_shapes)], narrowed := true }
def InternScriptUptoSaid : Prop := internScriptUptoRow.holds Tryz.pinned (OpenSpec.upto internScriptSpec)

/-- 'waterwheellaw12.InternNil', WHERE WHAT IT READS IS OF BULK AT MOST 1048576: true; the input reads as it did. -/
def internNilUptoRow : OpenClaim := { program := "ytaelbkflcgopnaagreatdoor", sum := "5eb3ea3decee19ebfc14067a06af289d61d37640c91dba9a6a7b1c3a14aea029", func := "waterwheel/waterwheellaw12.InternNil", spec := "internNil", inPlace := ["internal/bytealg.abigen_runtime_cmpstring"], unfollowed := true, recurses := true, named := ["waterwheel/ast.shapes"], apart := false, laid := [("waterwheel/ast.shapes", laid_waterwheel_ast_shapes)], narrowed := true }
def InternNilUptoSaid : Prop := internNilUptoRow.holds Tryz.pinned (OpenSpec.upto internNilSpec)

/-- 'waterwheellaw12.InternKeeps', WHERE WHAT IT READS IS OF BULK AT MOST 1048576: true; the input reads as it did. -/
def internKeepsUptoRow : OpenClaim := { program := "ytaelbkflcgopnaagreatdoor", sum := "5eb3ea3decee19ebfc14067a06af289d61d37640c91dba9a6a7b1c3a14aea029", func := "waterwheel/waterwheellaw12.InternKeeps", spec := "internKeeps", inPlace := ["internal/bytealg.abigen_runtime_cmpstring"], unfollowed := true, recurses := true, named := ["waterwheel/ast.shapes"], apart := false, laid := [("waterwheel/ast.shapes", laid_waterwheel_ast_shapes)], narrowed := true }
def InternKeepsUptoSaid : Prop := internKeepsUptoRow.holds Tryz.pinned (OpenSpec.upto internKeepsSpec)

/-- 'waterwheellaw12.InternOrders', WHERE WHAT IT READS IS OF BULK AT MOST 1048576: true; the input reads as it did. -/
def internOrdersUptoRow : OpenClaim := { program := "ytaelbkflcgopnaagreatdoor", sum := "5eb3ea3decee19ebfc14067a06af289d61d37640c91dba9a6a7b1c3a14aea029", func := "waterwheel/waterwheellaw12.InternOrders", spec := "internOrders", inPlace := ["internal/bytealg.abigen_runtime_cmpstring"], unfollowed := true, recurses := true, named := ["waterwheel/ast.shapes"], apart := false, laid := [("waterwheel/ast.shapes", laid_waterwheel_ast_shapes)], narrowed := true }
def InternOrdersUptoSaid : Prop := internOrdersUptoRow.holds Tryz.pinned (OpenSpec.upto internOrdersSpec)

end Rows
end Go.Proofs.YtaelbkflcgopnaaGreatDoor
