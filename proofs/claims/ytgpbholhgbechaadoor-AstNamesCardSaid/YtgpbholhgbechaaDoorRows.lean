/-
  NARROWER THAN 'FOR EVERY INPUT', by the rows' own cells (each row's printed sentence says how): AstNames: laid · AstCalls: loops, laid · AstWalks: loops, laid · AstCopy: loops, laid · AstGrows: loops, laid.
  DERIVED. THE GIVEN ROWS OF THIS SEAT. 5 by the template 'for every input the law returns true; each argument reads behind the call as it read before'; 0 by the template 'total and deterministic' (their statements: YtgpbholhgbechaaDoorTotals.lean).
  GIVEN WITH THE SEED: the statements are not yours to turn. If you find one false, say at which input.
  Laid BY PROGRAM, IN A SANDBOX (cutbox-rows.mjs): the forced cells as the released guide's own fill.sh prints them over the translation 81e711be8f0b2987… (all of the seat's roots in one cut). By AI agents, Wed Nov 11 2026. No macro, syntax, notation, axiom, sorry.
-/
import Derived.Test.YtgpbholhgbechaaDoorChecked
import GoSem.Claim
import GoSem.ClaimJoined
import GoSem.ClaimMapViews
import Derived.JoinedTies
import Derived.KernelRfl
namespace Go.Proofs.YtgpbholhgbechaaDoor
/- THE CELL 'sum', in the pinned program and in every row, IS THE sha256 OF THE DUMP (.gsa) THAT YtgpbholhgbechaaDoorProg.lean LOADS. Nothing in Lean hashes anything: it is a label: what it is worth is what the hold of that sum in a sandbox is worth. -/
noncomputable def Tryd.pinned : Pinned := { name := "ytgpbholhgbechaadoor", sum := "81e711be8f0b298796260bf3e4074c914cdc4f2fc0faa834d70085f6268d3849", checked := Tryd.checked }
namespace Rows
def none {H : Type} : Left H := { results := [], args := [] }

/- WHAT THE LISTED PACKAGE-LEVEL VARIABLES READ AS WHEN THE CALL BEGINS. Each datum BY PROGRAM (the guide's laid-datum.mjs) off the statement by which the dump's own 'gosem.cut.vars' lays the variable. In a bare row this is a premise. The card (YtgpbholhgbechaaDoorCards.lean) ties it to the program's text. -/
def laid_waterwheel_ast_shapes {H : Type} : DataW H := .agg [.agg [.agg [.lit (.int .i64 0), .lit (.int .i64 0)], .agg [.lit (.int .i64 0), .lit (.int .i64 0)], .agg [.lit (.int .i64 0), .lit (.int .i64 0)], .lit (.bool false), .lit (.bool false), .lit (.int .i64 0), .lit (.int .i64 0)], .agg [.agg [.lit (.int .i64 1), .lit (.int .i64 6)], .agg [.lit (.int .i64 0), .lit (.int .i64 0)], .agg [.lit (.int .i64 1), .lit (.int .i64 1073741824)], .lit (.bool false), .lit (.bool true), .lit (.int .i64 0), .lit (.int .i64 0)], .agg [.agg [.lit (.int .i64 1), .lit (.int .i64 4)], .agg [.lit (.int .i64 0), .lit (.int .i64 0)], .agg [.lit (.int .i64 0), .lit (.int .i64 0)], .lit (.bool false), .lit (.bool false), .lit (.int .i64 8), .lit (.int .i64 1)], .agg [.agg [.lit (.int .i64 0), .lit (.int .i64 0)], .agg [.lit (.int .i64 1), .lit (.int .i64 3)], .agg [.lit (.int .i64 0), .lit (.int .i64 0)], .lit (.bool false), .lit (.bool false), .lit (.int .i64 8), .lit (.int .i64 2)], .agg [.agg [.lit (.int .i64 0), .lit (.int .i64 0)], .agg [.lit (.int .i64 1), .lit (.int .i64 3)], .agg [.lit (.int .i64 0), .lit (.int .i64 0)], .lit (.bool true), .lit (.bool false), .lit (.int .i64 0), .lit (.int .i64 1)], .agg [.agg [.lit (.int .i64 0), .lit (.int .i64 0)], .agg [.lit (.int .i64 4), .lit (.int .i64 9)], .agg [.lit (.int .i64 0), .lit (.int .i64 0)], .lit (.bool true), .lit (.bool false), .lit (.int .i64 0), .lit (.int .i64 1)]]

/-- 'waterwheellaw06.AstNames': WHATEVER THE INPUT: true; the input reads as it did. -/
def astNamesSpec : ChangeSpec := { name := "astNames", fn := fun _ => fun
  | [] => { results := [.lit (.bool true)], args := [] }
  | _ => none }
def astNamesRow : OpenClaim := { program := "ytgpbholhgbechaadoor", sum := "81e711be8f0b298796260bf3e4074c914cdc4f2fc0faa834d70085f6268d3849", func := "waterwheel/waterwheellaw06.AstNames", spec := "astNames", unfollowed := true, recurses := true, named := ["waterwheel/ast.shapes"], apart := false, laid := [("waterwheel/ast.shapes", laid_waterwheel_ast_shapes)] }
def AstNamesSaid : Prop := astNamesRow.holds Tryd.pinned (OpenSpec.ofChange astNamesSpec)

/-- ITS FALSE NEIGHBOUR: 'it returns false'. Refute it at one input. -/
def astNamesWrong : ChangeSpec := { name := "astNames", fn := fun _ => fun
  | [] => { results := [.lit (.bool false)], args := [] }
  | _ => none }
def AstNamesWrongFalsely : Prop := astNamesRow.holds Tryd.pinned (OpenSpec.ofChange astNamesWrong)

/-- 'waterwheellaw06.AstCalls': WHATEVER THE INPUT: true; the input reads as it did. -/
def astCallsSpec : ChangeSpec := { name := "astCalls", fn := fun _ => fun
  | [d1, d2, d3, d4] => { results := [.lit (.bool true)], args := [d1, d2, d3, d4] }
  | _ => none }
def astCallsRow : OpenClaim := { program := "ytgpbholhgbechaadoor", sum := "81e711be8f0b298796260bf3e4074c914cdc4f2fc0faa834d70085f6268d3849", func := "waterwheel/waterwheellaw06.AstCalls", spec := "astCalls", unfollowed := true, recurses := true, named := ["waterwheel/ast.shapes"], loops := true, apart := false, laid := [("waterwheel/ast.shapes", laid_waterwheel_ast_shapes)] }
def AstCallsSaid : Prop := astCallsRow.holds Tryd.pinned (OpenSpec.ofChange astCallsSpec)

/-- ITS FALSE NEIGHBOUR: 'it returns false'. Refute it at one input. -/
def astCallsWrong : ChangeSpec := { name := "astCalls", fn := fun _ => fun
  | [d1, d2, d3, d4] => { results := [.lit (.bool false)], args := [d1, d2, d3, d4] }
  | _ => none }
def AstCallsWrongFalsely : Prop := astCallsRow.holds Tryd.pinned (OpenSpec.ofChange astCallsWrong)

/-- 'waterwheellaw06.AstWalks': WHATEVER THE INPUT: true; the input reads as it did. -/
def astWalksSpec : ChangeSpec := { name := "astWalks", fn := fun _ => fun
  | [d1, d2] => { results := [.lit (.bool true)], args := [d1, d2] }
  | _ => none }
def astWalksRow : OpenClaim := { program := "ytgpbholhgbechaadoor", sum := "81e711be8f0b298796260bf3e4074c914cdc4f2fc0faa834d70085f6268d3849", func := "waterwheel/waterwheellaw06.AstWalks", spec := "astWalks", unfollowed := true, recurses := true, named := ["waterwheel/ast.shapes"], loops := true, apart := false, laid := [("waterwheel/ast.shapes", laid_waterwheel_ast_shapes)] }
def AstWalksSaid : Prop := astWalksRow.holds Tryd.pinned (OpenSpec.ofChange astWalksSpec)

/-- ITS FALSE NEIGHBOUR: 'it returns false'. Refute it at one input. -/
def astWalksWrong : ChangeSpec := { name := "astWalks", fn := fun _ => fun
  | [d1, d2] => { results := [.lit (.bool false)], args := [d1, d2] }
  | _ => none }
def AstWalksWrongFalsely : Prop := astWalksRow.holds Tryd.pinned (OpenSpec.ofChange astWalksWrong)

/-- 'waterwheellaw06.AstCopy': WHATEVER THE INPUT: true; the input reads as it did. -/
def astCopySpec : ChangeSpec := { name := "astCopy", fn := fun _ => fun
  | [d] => { results := [.lit (.bool true)], args := [d] }
  | _ => none }
def astCopyRow : OpenClaim := { program := "ytgpbholhgbechaadoor", sum := "81e711be8f0b298796260bf3e4074c914cdc4f2fc0faa834d70085f6268d3849", func := "waterwheel/waterwheellaw06.AstCopy", spec := "astCopy", unfollowed := true, recurses := true, named := ["waterwheel/ast.shapes"], loops := true, apart := false, laid := [("waterwheel/ast.shapes", laid_waterwheel_ast_shapes)] }
def AstCopySaid : Prop := astCopyRow.holds Tryd.pinned (OpenSpec.ofChange astCopySpec)

/-- ITS FALSE NEIGHBOUR: 'it returns false'. Refute it at one input. -/
def astCopyWrong : ChangeSpec := { name := "astCopy", fn := fun _ => fun
  | [d] => { results := [.lit (.bool false)], args := [d] }
  | _ => none }
def AstCopyWrongFalsely : Prop := astCopyRow.holds Tryd.pinned (OpenSpec.ofChange astCopyWrong)

/-- 'waterwheellaw06.AstGrows': WHATEVER THE INPUT: true; the input reads as it did. -/
def astGrowsSpec : ChangeSpec := { name := "astGrows", fn := fun _ => fun
  | [d1, d2, d3] => { results := [.lit (.bool true)], args := [d1, d2, d3] }
  | _ => none }
def astGrowsRow : OpenClaim := { program := "ytgpbholhgbechaadoor", sum := "81e711be8f0b298796260bf3e4074c914cdc4f2fc0faa834d70085f6268d3849", func := "waterwheel/waterwheellaw06.AstGrows", spec := "astGrows", unfollowed := true, recurses := true, named := ["waterwheel/ast.shapes"], loops := true, apart := false, laid := [("waterwheel/ast.shapes", laid_waterwheel_ast_shapes)] }
def AstGrowsSaid : Prop := astGrowsRow.holds Tryd.pinned (OpenSpec.ofChange astGrowsSpec)

/-- ITS FALSE NEIGHBOUR: 'it returns false'. Refute it at one input. -/
def astGrowsWrong : ChangeSpec := { name := "astGrows", fn := fun _ => fun
  | [d1, d2, d3] => { results := [.lit (.bool false)], args := [d1, d2, d3] }
  | _ => none }
def AstGrowsWrongFalsely : Prop := astGrowsRow.holds Tryd.pinned (OpenSpec.ofChange astGrowsWrong)

/- THE SECOND FORM. 'bulk': how many values and letters a reading holds, each counted each time it is reached (what is shared counts as often as it is met; a slice's spare places count too). A statement '..UptoSaid' is the law's where the arguments, and the package variables that the reading takes, are together of bulk at most 1048576: NARROWER than '..Said'. Prove '..Said' where nothing that the law and all that it calls make is longer than what came in: it says more and counts as full. Else prove '..UptoSaid'. A law counts once. -/
mutual
def uptoBulk {H : Type} : DataW H → Nat
  | .lit (.string bytes) => bytes.length + 1
  | .lit _ => 1
  | .nil => 1
  | .ptr d => uptoBulk d + 1
  | .slice elems spare => uptoBulkAll elems + uptoBulkAll spare + 1
  | .agg parts => uptoBulkAll parts + 1
  | .iface _ d => uptoBulk d + 1
  | .map entries => uptoBulkEntries entries + 1
  | .held _ => 1
def uptoBulkAll {H : Type} : List (DataW H) → Nat
  | [] => 0
  | d :: r => uptoBulk d + uptoBulkAll r
def uptoBulkEntries {H : Type} : List (Lit × DataW H) → Nat
  | [] => 0
  | x :: r => uptoBulkEntry x + uptoBulkEntries r
def uptoBulkEntry {H : Type} : Lit × DataW H → Nat
  | (.string bytes, d) => bytes.length + uptoBulk d + 1
  | (_, d) => uptoBulk d + 1
 end
def uptoSmall : (H : Type) → List (DataW H) → Bool := fun _ ds => decide (uptoBulkAll ds ≤ 1048576)
def OpenSpec.upto (s : _root_.Go.ChangeSpec) : _root_.Go.OpenSpec := { _root_.Go.OpenSpec.ofChange s with cond := some uptoSmall }

/-- 'waterwheellaw06.AstNames', WHERE WHAT IT READS IS OF BULK AT MOST 1048576: true; the input reads as it did. -/
def astNamesUptoRow : OpenClaim := { program := "ytgpbholhgbechaadoor", sum := "81e711be8f0b298796260bf3e4074c914cdc4f2fc0faa834d70085f6268d3849", func := "waterwheel/waterwheellaw06.AstNames", spec := "astNames", unfollowed := true, recurses := true, named := ["waterwheel/ast.shapes"], apart := false, laid := [("waterwheel/ast.shapes", laid_waterwheel_ast_shapes)], narrowed := true }
def AstNamesUptoSaid : Prop := astNamesUptoRow.holds Tryd.pinned (OpenSpec.upto astNamesSpec)

/-- 'waterwheellaw06.AstCalls', WHERE WHAT IT READS IS OF BULK AT MOST 1048576: true; the input reads as it did. -/
def astCallsUptoRow : OpenClaim := { program := "ytgpbholhgbechaadoor", sum := "81e711be8f0b298796260bf3e4074c914cdc4f2fc0faa834d70085f6268d3849", func := "waterwheel/waterwheellaw06.AstCalls", spec := "astCalls", unfollowed := true, recurses := true, named := ["waterwheel/ast.shapes"], loops := true, apart := false, laid := [("waterwheel/ast.shapes", laid_waterwheel_ast_shapes)], narrowed := true }
def AstCallsUptoSaid : Prop := astCallsUptoRow.holds Tryd.pinned (OpenSpec.upto astCallsSpec)

/-- 'waterwheellaw06.AstWalks', WHERE WHAT IT READS IS OF BULK AT MOST 1048576: true; the input reads as it did. -/
def astWalksUptoRow : OpenClaim := { program := "ytgpbholhgbechaadoor", sum := "81e711be8f0b298796260bf3e4074c914cdc4f2fc0faa834d70085f6268d3849", func := "waterwheel/waterwheellaw06.AstWalks", spec := "astWalks", unfollowed := true, recurses := true, named := ["waterwheel/ast.shapes"], loops := true, apart := false, laid := [("waterwheel/ast.shapes", laid_waterwheel_ast_shapes)], narrowed := true }
def AstWalksUptoSaid : Prop := astWalksUptoRow.holds Tryd.pinned (OpenSpec.upto astWalksSpec)

/-- 'waterwheellaw06.AstCopy', WHERE WHAT IT READS IS OF BULK AT MOST 1048576: true; the input reads as it did. -/
def astCopyUptoRow : OpenClaim := { program := "ytgpbholhgbechaadoor", sum := "81e711be8f0b298796260bf3e4074c914cdc4f2fc0faa834d70085f6268d3849", func := "waterwheel/waterwheellaw06.AstCopy", spec := "astCopy", unfollowed := true, recurses := true, named := ["waterwheel/ast.shapes"], loops := true, apart := false, laid := [("waterwheel/ast.shapes", laid_waterwheel_ast_shapes)], narrowed := true }
def AstCopyUptoSaid : Prop := astCopyUptoRow.holds Tryd.pinned (OpenSpec.upto astCopySpec)

/-- 'waterwheellaw06.AstGrows', WHERE WHAT IT READS IS OF BULK AT MOST 1048576: true; the input reads as it did. -/
def astGrowsUptoRow : OpenClaim := { program := "ytgpbholhgbechaadoor", sum := "81e711be8f0b298796260bf3e4074c914cdc4f2fc0faa834d70085f6268d3849", func := "waterwheel/waterwheellaw06.AstGrows", spec := "astGrows", unfollowed := true, recurses := true, named := ["waterwheel/ast.shapes"], loops := true, apart := false, laid := [("waterwheel/ast.shapes", laid_waterwheel_ast_shapes)], narrowed := true }
def AstGrowsUptoSaid : Prop := astGrowsUptoRow.holds Tryd.pinned (OpenSpec.upto astGrowsSpec)

end Rows
end Go.Proofs.YtgpbholhgbechaaDoor
