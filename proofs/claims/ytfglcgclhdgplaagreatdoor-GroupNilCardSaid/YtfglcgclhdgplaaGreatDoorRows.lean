/-
  NARROWER THAN 'FOR EVERY INPUT', by the rows' own cells (each row's printed sentence says how): GroupNames: laid · GroupChanges: laid · GroupScript: laid · GroupNil: laid · GroupSame: laid · GroupMerges: laid.
  DERIVED. THE GIVEN ROWS OF THIS SEAT. 6 by the template 'for every input the law returns true; each argument reads behind the call as it read before'; 0 by the template 'total and deterministic' (their statements: YtfglcgclhdgplaaGreatDoorTotals.lean).
  GIVEN WITH THE SEED: the statements are not yours to turn. If you find one false, say at which input.
  Laid BY PROGRAM, IN A SANDBOX (cutbox-rows.mjs): the forced cells as the released guide's own fill.sh prints them over the translation dcb1da1cc2fee088… (all of the seat's roots in one cut). By AI agents, Wed Nov 11 2026. No macro, syntax, notation, axiom, sorry.
-/
import Derived.Test.YtfglcgclhdgplaaGreatDoorChecked
import GoSem.Claim
import GoSem.ClaimJoined
import GoSem.ClaimMapViews
import Derived.JoinedTies
import Derived.KernelRfl
namespace Go.Proofs.YtfglcgclhdgplaaGreatDoor
/- THE CELL 'sum', in the pinned program and in every row, IS THE sha256 OF THE DUMP (.gsa) THAT YtfglcgclhdgplaaGreatDoorProg.lean LOADS. Nothing in Lean hashes anything: it is a label: what it is worth is what the hold of that sum in a sandbox is worth. -/
noncomputable def Tryz.pinned : Pinned := { name := "ytfglcgclhdgplaagreatdoor", sum := "dcb1da1cc2fee088a598133604626c8e08297b22707ef0af4b32f45364db2084", checked := Tryz.checked }
namespace Rows
def none {H : Type} : Left H := { results := [], args := [] }

/- WHAT THE LISTED PACKAGE-LEVEL VARIABLES READ AS WHEN THE CALL BEGINS. Each datum BY PROGRAM (the guide's laid-datum.mjs) off the statement by which the dump's own 'gosem.cut.vars' lays the variable. In a bare row this is a premise. The card (YtfglcgclhdgplaaGreatDoorCards.lean) ties it to the program's text. -/
def laid_waterwheel_ast_shapes {H : Type} : DataW H := .agg [.agg [.agg [.lit (.int .i64 0), .lit (.int .i64 0)], .agg [.lit (.int .i64 0), .lit (.int .i64 0)], .agg [.lit (.int .i64 0), .lit (.int .i64 0)], .lit (.bool false), .lit (.bool false), .lit (.int .i64 0), .lit (.int .i64 0)], .agg [.agg [.lit (.int .i64 1), .lit (.int .i64 6)], .agg [.lit (.int .i64 0), .lit (.int .i64 0)], .agg [.lit (.int .i64 1), .lit (.int .i64 1073741824)], .lit (.bool false), .lit (.bool true), .lit (.int .i64 0), .lit (.int .i64 0)], .agg [.agg [.lit (.int .i64 1), .lit (.int .i64 4)], .agg [.lit (.int .i64 0), .lit (.int .i64 0)], .agg [.lit (.int .i64 0), .lit (.int .i64 0)], .lit (.bool false), .lit (.bool false), .lit (.int .i64 8), .lit (.int .i64 1)], .agg [.agg [.lit (.int .i64 0), .lit (.int .i64 0)], .agg [.lit (.int .i64 1), .lit (.int .i64 3)], .agg [.lit (.int .i64 0), .lit (.int .i64 0)], .lit (.bool false), .lit (.bool false), .lit (.int .i64 8), .lit (.int .i64 2)], .agg [.agg [.lit (.int .i64 0), .lit (.int .i64 0)], .agg [.lit (.int .i64 1), .lit (.int .i64 3)], .agg [.lit (.int .i64 0), .lit (.int .i64 0)], .lit (.bool true), .lit (.bool false), .lit (.int .i64 0), .lit (.int .i64 1)], .agg [.agg [.lit (.int .i64 0), .lit (.int .i64 0)], .agg [.lit (.int .i64 4), .lit (.int .i64 9)], .agg [.lit (.int .i64 0), .lit (.int .i64 0)], .lit (.bool true), .lit (.bool false), .lit (.int .i64 0), .lit (.int .i64 1)]]

/-- 'waterwheellaw15.GroupNames': WHATEVER THE INPUT: true; the input reads as it did. -/
def groupNamesSpec : ChangeSpec := { name := "groupNames", fn := fun _ => fun
  | [] => { results := [.lit (.bool true)], args := [] }
  | _ => none }
def groupNamesRow : OpenClaim := { program := "ytfglcgclhdgplaagreatdoor", sum := "dcb1da1cc2fee088a598133604626c8e08297b22707ef0af4b32f45364db2084", func := "waterwheel/waterwheellaw15.GroupNames", spec := "groupNames", inPlace := ["internal/bytealg.abigen_runtime_cmpstring", "math/bits.Add64", "internal/abi.NoEscape", "math/bits.Sub64", "maps.clone"], unfollowed := true, recurses := true, named := ["waterwheel/ast.shapes"], apart := false, laid := [("waterwheel/ast.shapes", laid_waterwheel_ast_shapes)] }
def GroupNamesSaid : Prop := groupNamesRow.holds Tryz.pinned (OpenSpec.ofChange groupNamesSpec)

/-- ITS FALSE NEIGHBOUR: 'it returns false'. Refute it at one input. -/
def groupNamesWrong : ChangeSpec := { name := "groupNames", fn := fun _ => fun
  | [] => { results := [.lit (.bool false)], args := [] }
  | _ => none }
def GroupNamesWrongFalsely : Prop := groupNamesRow.holds Tryz.pinned (OpenSpec.ofChange groupNamesWrong)

/-- 'waterwheellaw15.GroupChanges': WHATEVER THE INPUT: true; the input reads as it did. -/
def groupChangesSpec : ChangeSpec := { name := "groupChanges", fn := fun _ => fun
  | [d1, d2, d3] => { results := [.lit (.bool true)], args := [d1, d2, d3] }
  | _ => none }
def groupChangesRow : OpenClaim := { program := "ytfglcgclhdgplaagreatdoor", sum := "dcb1da1cc2fee088a598133604626c8e08297b22707ef0af4b32f45364db2084", func := "waterwheel/waterwheellaw15.GroupChanges", spec := "groupChanges", inPlace := ["internal/bytealg.abigen_runtime_cmpstring", "math/bits.Add64", "internal/abi.NoEscape", "math/bits.Sub64", "maps.clone"], unfollowed := true, recurses := true, named := ["waterwheel/ast.shapes"], apart := false, laid := [("waterwheel/ast.shapes", laid_waterwheel_ast_shapes)] }
def GroupChangesSaid : Prop := groupChangesRow.holds Tryz.pinned (OpenSpec.ofChange groupChangesSpec)

/-- ITS FALSE NEIGHBOUR: 'it returns false'. Refute it at one input. -/
def groupChangesWrong : ChangeSpec := { name := "groupChanges", fn := fun _ => fun
  | [d1, d2, d3] => { results := [.lit (.bool false)], args := [d1, d2, d3] }
  | _ => none }
def GroupChangesWrongFalsely : Prop := groupChangesRow.holds Tryz.pinned (OpenSpec.ofChange groupChangesWrong)

/-- 'waterwheellaw15.GroupScript': WHATEVER THE INPUT: true; the input reads as it did. -/
def groupScriptSpec : ChangeSpec := { name := "groupScript", fn := fun _ => fun
  | [d1, d2, d3, d4] => { results := [.lit (.bool true)], args := [d1, d2, d3, d4] }
  | _ => none }
def groupScriptRow : OpenClaim := { program := "ytfglcgclhdgplaagreatdoor", sum := "dcb1da1cc2fee088a598133604626c8e08297b22707ef0af4b32f45364db2084", func := "waterwheel/waterwheellaw15.GroupScript", spec := "groupScript", inPlace := ["internal/bytealg.abigen_runtime_cmpstring", "math/bits.Add64", "internal/abi.NoEscape", "math/bits.Sub64", "maps.clone"], unfollowed := true, recurses := true, named := ["waterwheel/ast.shapes"], apart := false, laid := [("waterwheel/ast.shapes", laid_waterwheel_ast_shapes)] }
def GroupScriptSaid : Prop := groupScriptRow.holds Tryz.pinned (OpenSpec.ofChange groupScriptSpec)

/-- ITS FALSE NEIGHBOUR: 'it returns false'. Refute it at one input. -/
def groupScriptWrong : ChangeSpec := { name := "groupScript", fn := fun _ => fun
  | [d1, d2, d3, d4] => { results := [.lit (.bool false)], args := [d1, d2, d3, d4] }
  | _ => none }
def GroupScriptWrongFalsely : Prop := groupScriptRow.holds Tryz.pinned (OpenSpec.ofChange groupScriptWrong)

/-- 'waterwheellaw15.GroupNil': WHATEVER THE INPUT: true; the input reads as it did. -/
def groupNilSpec : ChangeSpec := { name := "groupNil", fn := fun _ => fun
  | [d] => { results := [.lit (.bool true)], args := [d] }
  | _ => none }
def groupNilRow : OpenClaim := { program := "ytfglcgclhdgplaagreatdoor", sum := "dcb1da1cc2fee088a598133604626c8e08297b22707ef0af4b32f45364db2084", func := "waterwheel/waterwheellaw15.GroupNil", spec := "groupNil", inPlace := ["internal/bytealg.abigen_runtime_cmpstring", "math/bits.Add64", "internal/abi.NoEscape", "math/bits.Sub64", "maps.clone"], unfollowed := true, recurses := true, named := ["waterwheel/ast.shapes"], apart := false, laid := [("waterwheel/ast.shapes", laid_waterwheel_ast_shapes)] }
def GroupNilSaid : Prop := groupNilRow.holds Tryz.pinned (OpenSpec.ofChange groupNilSpec)

/-- ITS FALSE NEIGHBOUR: 'it returns false'. Refute it at one input. -/
def groupNilWrong : ChangeSpec := { name := "groupNil", fn := fun _ => fun
  | [d] => { results := [.lit (.bool false)], args := [d] }
  | _ => none }
def GroupNilWrongFalsely : Prop := groupNilRow.holds Tryz.pinned (OpenSpec.ofChange groupNilWrong)

/-- 'waterwheellaw15.GroupSame': WHATEVER THE INPUT: true; the input reads as it did. -/
def groupSameSpec : ChangeSpec := { name := "groupSame", fn := fun _ => fun
  | [d1, d2, d3, d4] => { results := [.lit (.bool true)], args := [d1, d2, d3, d4] }
  | _ => none }
def groupSameRow : OpenClaim := { program := "ytfglcgclhdgplaagreatdoor", sum := "dcb1da1cc2fee088a598133604626c8e08297b22707ef0af4b32f45364db2084", func := "waterwheel/waterwheellaw15.GroupSame", spec := "groupSame", inPlace := ["internal/bytealg.abigen_runtime_cmpstring", "math/bits.Add64", "internal/abi.NoEscape", "math/bits.Sub64", "maps.clone"], unfollowed := true, recurses := true, named := ["waterwheel/ast.shapes"], apart := false, laid := [("waterwheel/ast.shapes", laid_waterwheel_ast_shapes)] }
def GroupSameSaid : Prop := groupSameRow.holds Tryz.pinned (OpenSpec.ofChange groupSameSpec)

/-- ITS FALSE NEIGHBOUR: 'it returns false'. Refute it at one input. -/
def groupSameWrong : ChangeSpec := { name := "groupSame", fn := fun _ => fun
  | [d1, d2, d3, d4] => { results := [.lit (.bool false)], args := [d1, d2, d3, d4] }
  | _ => none }
def GroupSameWrongFalsely : Prop := groupSameRow.holds Tryz.pinned (OpenSpec.ofChange groupSameWrong)

/-- 'waterwheellaw15.GroupMerges': WHATEVER THE INPUT: true; the input reads as it did. -/
def groupMergesSpec : ChangeSpec := { name := "groupMerges", fn := fun _ => fun
  | [d1, d2, d3] => { results := [.lit (.bool true)], args := [d1, d2, d3] }
  | _ => none }
def groupMergesRow : OpenClaim := { program := "ytfglcgclhdgplaagreatdoor", sum := "dcb1da1cc2fee088a598133604626c8e08297b22707ef0af4b32f45364db2084", func := "waterwheel/waterwheellaw15.GroupMerges", spec := "groupMerges", inPlace := ["internal/bytealg.abigen_runtime_cmpstring", "math/bits.Add64", "internal/abi.NoEscape", "math/bits.Sub64", "maps.clone"], unfollowed := true, recurses := true, named := ["waterwheel/ast.shapes"], apart := false, laid := [("waterwheel/ast.shapes", laid_waterwheel_ast_shapes)] }
def GroupMergesSaid : Prop := groupMergesRow.holds Tryz.pinned (OpenSpec.ofChange groupMergesSpec)

/-- ITS FALSE NEIGHBOUR: 'it returns false'. Refute it at one input. -/
def groupMergesWrong : ChangeSpec := { name := "groupMerges", fn := fun _ => fun
  | [d1, d2, d3] => { results := [.lit (.bool false)], args := [d1, d2, d3] }
  | _ => none }
def GroupMergesWrongFalsely : Prop := groupMergesRow.holds Tryz.pinned (OpenSpec.ofChange groupMergesWrong)

/- THE SECOND FORM. 'bulk': how many values and letters a reading holds, each counted each time it is reached (what is shared counts as often as it is met; a slice's spare places count too). A statement '..UptoSaid' is the law's where the arguments, and the package variables that the reading takes, are together of bulk at most 1048576: NARROWER than '..Said'. Prove '..Said' where nothing that the law and all that it calls make is longer than what came in: it says more and counts as full. Else prove '..UptoSaid'. A law counts once. -/
mutual
def uptoBulk {H : Type} : DataW H → Nat
  | .lit (.string bytes) => bytes.length + 1
  | .lit _ => 1
  | .nil => 1
  | .ptr d => uptoBulk d + 1
  | .slice elems spare => uptoBulkAll elems + uptoBulkAll spare + 1
  | .agg parts => uptoBulkAll parts + 1
  | .iface _ d => uptoBulk d + 1
  | .map entries => uptoBulkEntries entries + 1
  | .held _ => 1
def uptoBulkAll {H : Type} : List (DataW H) → Nat
  | [] => 0
  | d :: r => uptoBulk d + uptoBulkAll r
def uptoBulkEntries {H : Type} : List (Lit × DataW H) → Nat
  | [] => 0
  | x :: r => uptoBulkEntry x + uptoBulkEntries r
def uptoBulkEntry {H : Type} : Lit × DataW H → Nat
  | (.string bytes, d) => bytes.length + uptoBulk d + 1
  | (_, d) => uptoBulk d + 1
 end
def uptoSmall : (H : Type) → List (DataW H) → Bool := fun _ ds => decide (uptoBulkAll ds ≤ 1048576)
def OpenSpec.upto (s : _root_.Go.ChangeSpec) : _root_.Go.OpenSpec := { _root_.Go.OpenSpec.ofChange s with cond := some uptoSmall }

/-- 'waterwheellaw15.GroupNames', WHERE WHAT IT READS IS OF BULK AT MOST 1048576: true; the input reads as it did. -/
def groupNamesUptoRow : OpenClaim := { program := "ytfglcgclhdgplaagreatdoor", sum := "dcb1da1cc2fee088a598133604626c8e08297b22707ef0af4b32f45364db2084", func := "waterwheel/waterwheellaw15.GroupNames", spec := "groupNames", inPlace := ["internal/bytealg.abigen_runtime_cmpstring", "math/bits.Add64", "internal/abi.NoEscape", "math/bits.Sub64", "maps.clone"], unfollowed := true, recurses := true, named := ["waterwheel/ast.shapes"], apart := false, laid := [("waterwheel/ast.shapes", laid_waterwheel_ast_shapes)], narrowed := true }
def GroupNamesUptoSaid : Prop := groupNamesUptoRow.holds Tryz.pinned (OpenSpec.upto groupNamesSpec)

/-- 'waterwheellaw15.GroupChanges', WHERE WHAT IT READS IS OF BULK AT MOST 1048576: true; the input reads as it did. -/
def groupChangesUptoRow : OpenClaim := { program := "ytfglcgclhdgplaagreatdoor", sum := "dcb1da1cc2fee088a598133604626c8e08297b22707ef0af4b32f45364db2084", func := "waterwheel/waterwheellaw15.GroupChanges", spec := "groupChanges", inPlace := ["internal/bytealg.abigen_runtime_cmpstring", "math/bits.Add64", "internal/abi.NoEscape", "math/bits.Sub64", "maps.clone"], unfollowed := true, recurses := true, named := ["waterwheel/ast.shapes"], apart := false, laid := [("waterwheel/ast.shapes", laid_waterwheel_ast_shapes)], narrowed := true }
def GroupChangesUptoSaid : Prop := groupChangesUptoRow.holds Tryz.pinned (OpenSpec.upto groupChangesSpec)

/-- 'waterwheellaw15.GroupScript', WHERE WHAT IT READS IS OF BULK AT MOST 1048576: true; the input reads as it did. -/
def groupScriptUptoRow : OpenClaim := { program := "ytfglcgclhdgplaagreatdoor", sum := "dcb1da1cc2fee088a598133604626c8e08297b22707ef0af4b32f45364db2084", func := "waterwheel/waterwheellaw15.GroupScript", spec := "groupScript", inPlace := ["internal/bytealg.abigen_runtime_cmpstring", "math/bits.Add64", "internal/abi.NoEscape", "math/bits.Sub64", "maps.clone"], unfollowed := true, recurses := true, named := ["waterwheel/ast.shapes"], apart := false, laid := [("waterwheel/ast.shapes", laid_waterwheel_ast_shapes)], narrowed := true }
def GroupScriptUptoSaid : Prop := groupScriptUptoRow.holds Tryz.pinned (OpenSpec.upto groupScriptSpec)

/-- 'waterwheellaw15.GroupNil', WHERE WHAT IT READS IS OF BULK AT MOST 1048576: true; the input reads as it did. -/
def groupNilUptoRow : OpenClaim := { program := "ytfglcgclhdgplaagreatdoor", sum := "dcb1da1cc2fee088a598133604626c8e08297b22707ef0af4b32f45364db2084", func := "waterwheel/waterwheellaw15.GroupNil", spec := "groupNil", inPlace := ["internal/bytealg.abigen_runtime_cmpstring", "math/bits.Add64", "internal/abi.NoEscape", "math/bits.Sub64", "maps.clone"], unfollowed := true, recurses := true, named := ["waterwheel/ast.shapes"], apart := false, laid := [("waterwheel/ast.shapes", laid_waterwheel_ast_shapes)], narrowed := true }
def GroupNilUptoSaid : Prop := groupNilUptoRow.holds Tryz.pinned (OpenSpec.upto groupNilSpec)

/-- 'waterwheellaw15.GroupSame', WHERE WHAT IT READS IS OF BULK AT MOST 1048576: true; the input reads as it did. -/
def groupSameUptoRow : OpenClaim := { program := "ytfglcgclhdgplaagreatdoor", sum := "dcb1da1cc2fee088a598133604626c8e08297b22707ef0af4b32f45364db2084", func := "waterwheel/waterwheellaw15.GroupSame", spec := "groupSame", inPlace := ["internal/bytealg.abigen_runtime_cmpstring", "math/bits.Add64", "internal/abi.NoEscape", "math/bits.Sub64", "maps.clone"], unfollowed := true, recurses := true, named := ["waterwheel/ast.shapes"], apart := false, laid := [("waterwheel/ast.shapes", laid_waterwheel_ast_shapes)], narrowed := true }
def GroupSameUptoSaid : Prop := groupSameUptoRow.holds Tryz.pinned (OpenSpec.upto groupSameSpec)

/-- 'waterwheellaw15.GroupMerges', WHERE WHAT IT READS IS OF BULK AT MOST 1048576: true; the input reads as it did. -/
def groupMergesUptoRow : OpenClaim := { program := "ytfglcgclhdgplaagreatdoor", sum := "dcb1da1cc2fee088a598133604626c8e08297b22707ef0af4b32f45364db2084", func := "waterwheel/waterwheellaw15.GroupMerges", spec := "groupMerges", inPlace := ["internal/bytealg.abigen_runtime_cmpstring", "math/bits.Add64", "internal/abi.NoEscape", "math/bits.Sub64", "maps.clone"], unfollowed := true, recurses := true, named := ["waterwheel/ast.shapes"], apart := false, laid := [("waterwheel/ast.shapes", laid_waterwheel_ast_shapes)], narrowed := true }
def GroupMergesUptoSaid : Prop := groupMergesUptoRow.holds Tryz.pinned (OpenSpec.upto groupMergesSpec)

end Rows
end Go.Proofs.YtfglcgclhdgplaaGreatDoor
