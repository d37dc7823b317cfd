/-
  No cell of these rows narrows 'for every input' (looked for: loops, veiled, ifaces, maps, wideKeys, modest, calm, conditions, laid).
  DERIVED. THE GIVEN ROWS OF THIS SEAT. 7 by the template 'for every input the law returns true; each argument reads behind the call as it read before'; 0 by the template 'total and deterministic' (their statements: YtblddomiecjhiaaTotals.lean).
  GIVEN WITH THE SEED: the statements are not yours to turn. If you find one false, say at which input.
  Laid BY PROGRAM, IN A SANDBOX (cutbox-rows.mjs): the forced cells as the released guide's own fill.sh prints them over the translation 1c8fd7abb1dd5da9… (all of the seat's roots in one cut). By AI agents, Wed Nov 11 2026. No macro, syntax, notation, axiom, sorry.
-/
import Derived.Test.YtblddomiecjhiaaChecked
import GoSem.Claim
import GoSem.ClaimJoined
import GoSem.ClaimMapViews
import Derived.JoinedTies
import Derived.KernelRfl
namespace Go.Proofs.Ytblddomiecjhiaa
/- THE CELL 'sum', in the pinned program and in every row, IS THE sha256 OF THE DUMP (.gsa) THAT YtblddomiecjhiaaProg.lean LOADS. Nothing in Lean hashes anything: it is a label: what it is worth is what the hold of that sum in a sandbox is worth. -/
noncomputable def Try.pinned : Pinned := { name := "ytblddomiecjhiaa", sum := "1c8fd7abb1dd5da95754dcadfd6d18407c06b7629a0a0fbc274afb8e260207c9", checked := Try.checked }
namespace Rows
def none {H : Type} : Left H := { results := [], args := [] }

/-- 'waterwheellaw02.NumberNames': WHATEVER THE INPUT: true; the input reads as it did. -/
def numberNamesSpec : ChangeSpec := { name := "numberNames", fn := fun _ => fun
  | [] => { results := [.lit (.bool true)], args := [] }
  | _ => none }
def numberNamesRow : OpenClaim := { program := "ytblddomiecjhiaa", sum := "1c8fd7abb1dd5da95754dcadfd6d18407c06b7629a0a0fbc274afb8e260207c9", func := "waterwheel/waterwheellaw02.NumberNames", spec := "numberNames", inPlace := ["math/bits.Add64", "math/bits.Sub64"], apart := false }
def NumberNamesSaid : Prop := numberNamesRow.holds Try.pinned (OpenSpec.ofChange numberNamesSpec)

/-- ITS FALSE NEIGHBOUR: 'it returns false'. Refute it at one input. -/
def numberNamesWrong : ChangeSpec := { name := "numberNames", fn := fun _ => fun
  | [] => { results := [.lit (.bool false)], args := [] }
  | _ => none }
def NumberNamesWrongFalsely : Prop := numberNamesRow.holds Try.pinned (OpenSpec.ofChange numberNamesWrong)

/-- 'waterwheellaw02.NumberCalls': WHATEVER THE INPUT: true; the input reads as it did. -/
def numberCallsSpec : ChangeSpec := { name := "numberCalls", fn := fun _ => fun
  | [d1, d2, d3, d4] => { results := [.lit (.bool true)], args := [d1, d2, d3, d4] }
  | _ => none }
def numberCallsRow : OpenClaim := { program := "ytblddomiecjhiaa", sum := "1c8fd7abb1dd5da95754dcadfd6d18407c06b7629a0a0fbc274afb8e260207c9", func := "waterwheel/waterwheellaw02.NumberCalls", spec := "numberCalls", inPlace := ["math/bits.Add64", "math/bits.Sub64"], apart := false }
def NumberCallsSaid : Prop := numberCallsRow.holds Try.pinned (OpenSpec.ofChange numberCallsSpec)

/-- ITS FALSE NEIGHBOUR: 'it returns false'. Refute it at one input. -/
def numberCallsWrong : ChangeSpec := { name := "numberCalls", fn := fun _ => fun
  | [d1, d2, d3, d4] => { results := [.lit (.bool false)], args := [d1, d2, d3, d4] }
  | _ => none }
def NumberCallsWrongFalsely : Prop := numberCallsRow.holds Try.pinned (OpenSpec.ofChange numberCallsWrong)

/-- 'waterwheellaw02.NumberSums': WHATEVER THE INPUT: true; the input reads as it did. -/
def numberSumsSpec : ChangeSpec := { name := "numberSums", fn := fun _ => fun
  | [d1, d2, d3] => { results := [.lit (.bool true)], args := [d1, d2, d3] }
  | _ => none }
def numberSumsRow : OpenClaim := { program := "ytblddomiecjhiaa", sum := "1c8fd7abb1dd5da95754dcadfd6d18407c06b7629a0a0fbc274afb8e260207c9", func := "waterwheel/waterwheellaw02.NumberSums", spec := "numberSums", inPlace := ["math/bits.Add64", "math/bits.Sub64"], apart := false }
def NumberSumsSaid : Prop := numberSumsRow.holds Try.pinned (OpenSpec.ofChange numberSumsSpec)

/-- ITS FALSE NEIGHBOUR: 'it returns false'. Refute it at one input. -/
def numberSumsWrong : ChangeSpec := { name := "numberSums", fn := fun _ => fun
  | [d1, d2, d3] => { results := [.lit (.bool false)], args := [d1, d2, d3] }
  | _ => none }
def NumberSumsWrongFalsely : Prop := numberSumsRow.holds Try.pinned (OpenSpec.ofChange numberSumsWrong)

/-- 'waterwheellaw02.NumberBytes': WHATEVER THE INPUT: true; the input reads as it did. -/
def numberBytesSpec : ChangeSpec := { name := "numberBytes", fn := fun _ => fun
  | [d1, d2] => { results := [.lit (.bool true)], args := [d1, d2] }
  | _ => none }
def numberBytesRow : OpenClaim := { program := "ytblddomiecjhiaa", sum := "1c8fd7abb1dd5da95754dcadfd6d18407c06b7629a0a0fbc274afb8e260207c9", func := "waterwheel/waterwheellaw02.NumberBytes", spec := "numberBytes", inPlace := ["math/bits.Add64", "math/bits.Sub64"], unfollowed := true, recurses := true, apart := false }
def NumberBytesSaid : Prop := numberBytesRow.holds Try.pinned (OpenSpec.ofChange numberBytesSpec)

/-- ITS FALSE NEIGHBOUR: 'it returns false'. Refute it at one input. -/
def numberBytesWrong : ChangeSpec := { name := "numberBytes", fn := fun _ => fun
  | [d1, d2] => { results := [.lit (.bool false)], args := [d1, d2] }
  | _ => none }
def NumberBytesWrongFalsely : Prop := numberBytesRow.holds Try.pinned (OpenSpec.ofChange numberBytesWrong)

/-- 'waterwheellaw02.NumberAdds': WHATEVER THE INPUT: true; the input reads as it did. -/
def numberAddsSpec : ChangeSpec := { name := "numberAdds", fn := fun _ => fun
  | [d1, d2, d3, d4] => { results := [.lit (.bool true)], args := [d1, d2, d3, d4] }
  | _ => none }
def numberAddsRow : OpenClaim := { program := "ytblddomiecjhiaa", sum := "1c8fd7abb1dd5da95754dcadfd6d18407c06b7629a0a0fbc274afb8e260207c9", func := "waterwheel/waterwheellaw02.NumberAdds", spec := "numberAdds", inPlace := ["math/bits.Add64", "math/bits.Sub64"], apart := false }
def NumberAddsSaid : Prop := numberAddsRow.holds Try.pinned (OpenSpec.ofChange numberAddsSpec)

/-- ITS FALSE NEIGHBOUR: 'it returns false'. Refute it at one input. -/
def numberAddsWrong : ChangeSpec := { name := "numberAdds", fn := fun _ => fun
  | [d1, d2, d3, d4] => { results := [.lit (.bool false)], args := [d1, d2, d3, d4] }
  | _ => none }
def NumberAddsWrongFalsely : Prop := numberAddsRow.holds Try.pinned (OpenSpec.ofChange numberAddsWrong)

/-- 'waterwheellaw02.NumberRing': WHATEVER THE INPUT: true; the input reads as it did. -/
def numberRingSpec : ChangeSpec := { name := "numberRing", fn := fun _ => fun
  | [d1, d2, d3] => { results := [.lit (.bool true)], args := [d1, d2, d3] }
  | _ => none }
def numberRingRow : OpenClaim := { program := "ytblddomiecjhiaa", sum := "1c8fd7abb1dd5da95754dcadfd6d18407c06b7629a0a0fbc274afb8e260207c9", func := "waterwheel/waterwheellaw02.NumberRing", spec := "numberRing", inPlace := ["math/bits.Add64", "math/bits.Sub64"], apart := false }
def NumberRingSaid : Prop := numberRingRow.holds Try.pinned (OpenSpec.ofChange numberRingSpec)

/-- ITS FALSE NEIGHBOUR: 'it returns false'. Refute it at one input. -/
def numberRingWrong : ChangeSpec := { name := "numberRing", fn := fun _ => fun
  | [d1, d2, d3] => { results := [.lit (.bool false)], args := [d1, d2, d3] }
  | _ => none }
def NumberRingWrongFalsely : Prop := numberRingRow.holds Try.pinned (OpenSpec.ofChange numberRingWrong)

/-- 'waterwheellaw02.NumberOrders': WHATEVER THE INPUT: true; the input reads as it did. -/
def numberOrdersSpec : ChangeSpec := { name := "numberOrders", fn := fun _ => fun
  | [d1, d2, d3] => { results := [.lit (.bool true)], args := [d1, d2, d3] }
  | _ => none }
def numberOrdersRow : OpenClaim := { program := "ytblddomiecjhiaa", sum := "1c8fd7abb1dd5da95754dcadfd6d18407c06b7629a0a0fbc274afb8e260207c9", func := "waterwheel/waterwheellaw02.NumberOrders", spec := "numberOrders", inPlace := ["math/bits.Add64", "math/bits.Sub64"], unfollowed := true, recurses := true, apart := false }
def NumberOrdersSaid : Prop := numberOrdersRow.holds Try.pinned (OpenSpec.ofChange numberOrdersSpec)

/-- ITS FALSE NEIGHBOUR: 'it returns false'. Refute it at one input. -/
def numberOrdersWrong : ChangeSpec := { name := "numberOrders", fn := fun _ => fun
  | [d1, d2, d3] => { results := [.lit (.bool false)], args := [d1, d2, d3] }
  | _ => none }
def NumberOrdersWrongFalsely : Prop := numberOrdersRow.holds Try.pinned (OpenSpec.ofChange numberOrdersWrong)

/- THE SECOND FORM. 'bulk': how many values and letters a reading holds, each counted each time it is reached (what is shared counts as often as it is met; a slice's spare places count too). A statement '..UptoSaid' is the law's where the arguments, and the package variables that the reading takes, are together of bulk at most 1048576: NARROWER than '..Said'. Prove '..Said' where nothing that the law and all that it calls make is longer than what came in: it says more and counts as full. Else prove '..UptoSaid'. A law counts once. -/
mutual
def uptoBulk {H : Type} : DataW H → Nat
  | .lit (.string bytes) => bytes.length + 1
  | .lit _ => 1
  | .nil => 1
  | .ptr d => uptoBulk d + 1
  | .slice elems spare => uptoBulkAll elems + uptoBulkAll spare + 1
  | .agg parts => uptoBulkAll parts + 1
  | .iface _ d => uptoBulk d + 1
  | .map entries => uptoBulkEntries entries + 1
  | .held _ => 1
def uptoBulkAll {H : Type} : List (DataW H) → Nat
  | [] => 0
  | d :: r => uptoBulk d + uptoBulkAll r
def uptoBulkEntries {H : Type} : List (Lit × DataW H) → Nat
  | [] => 0
  | x :: r => uptoBulkEntry x + uptoBulkEntries r
def uptoBulkEntry {H : Type} : Lit × DataW H → Nat
  | (.string bytes, d) => bytes.length + uptoBulk d + 1
  | (_, d) => uptoBulk d + 1
 end
def uptoSmall : (H : Type) → List (DataW H) → Bool := fun _ ds => decide (uptoBulkAll ds ≤ 1048576)
def OpenSpec.upto (s : _root_.Go.ChangeSpec) : _root_.Go.OpenSpec := { _root_.Go.OpenSpec.ofChange s with cond := some uptoSmall }

/-- 'waterwheellaw02.NumberNames', WHERE WHAT IT READS IS OF BULK AT MOST 1048576: true; the input reads as it did. -/
def numberNamesUptoRow : OpenClaim := { program := "ytblddomiecjhiaa", sum := "1c8fd7abb1dd5da95754dcadfd6d18407c06b7629a0a0fbc274afb8e260207c9", func := "waterwheel/waterwheellaw02.NumberNames", spec := "numberNames", inPlace := ["math/bits.Add64", "math/bits.Sub64"], apart := false, narrowed := true }
def NumberNamesUptoSaid : Prop := numberNamesUptoRow.holds Try.pinned (OpenSpec.upto numberNamesSpec)

/-- 'waterwheellaw02.NumberCalls', WHERE WHAT IT READS IS OF BULK AT MOST 1048576: true; the input reads as it did. -/
def numberCallsUptoRow : OpenClaim := { program := "ytblddomiecjhiaa", sum := "1c8fd7abb1dd5da95754dcadfd6d18407c06b7629a0a0fbc274afb8e260207c9", func := "waterwheel/waterwheellaw02.NumberCalls", spec := "numberCalls", inPlace := ["math/bits.Add64", "math/bits.Sub64"], apart := false, narrowed := true }
def NumberCallsUptoSaid : Prop := numberCallsUptoRow.holds Try.pinned (OpenSpec.upto numberCallsSpec)

/-- 'waterwheellaw02.NumberSums', WHERE WHAT IT READS IS OF BULK AT MOST 1048576: true; the input reads as it did. -/
def numberSumsUptoRow : OpenClaim := { program := "ytblddomiecjhiaa", sum := "1c8fd7abb1dd5da95754dcadfd6d18407c06b7629a0a0fbc274afb8e260207c9", func := "waterwheel/waterwheellaw02.NumberSums", spec := "numberSums", inPlace := ["math/bits.Add64", "math/bits.Sub64"], apart := false, narrowed := true }
def NumberSumsUptoSaid : Prop := numberSumsUptoRow.holds Try.pinned (OpenSpec.upto numberSumsSpec)

/-- 'waterwheellaw02.NumberBytes', WHERE WHAT IT READS IS OF BULK AT MOST 1048576: true; the input reads as it did. -/
def numberBytesUptoRow : OpenClaim := { program := "ytblddomiecjhiaa", sum := "1c8fd7abb1dd5da95754dcadfd6d18407c06b7629a0a0fbc274afb8e260207c9", func := "waterwheel/waterwheellaw02.NumberBytes", spec := "numberBytes", inPlace := ["math/bits.Add64", "math/bits.Sub64"], unfollowed := true, recurses := true, apart := false, narrowed := true }
def NumberBytesUptoSaid : Prop := numberBytesUptoRow.holds Try.pinned (OpenSpec.upto numberBytesSpec)

/-- 'waterwheellaw02.NumberAdds', WHERE WHAT IT READS IS OF BULK AT MOST 1048576: true; the input reads as it did. -/
def numberAddsUptoRow : OpenClaim := { program := "ytblddomiecjhiaa", sum := "1c8fd7abb1dd5da95754dcadfd6d18407c06b7629a0a0fbc274afb8e260207c9", func := "waterwheel/waterwheellaw02.NumberAdds", spec := "numberAdds", inPlace := ["math/bits.Add64", "math/bits.Sub64"], apart := false, narrowed := true }
def NumberAddsUptoSaid : Prop := numberAddsUptoRow.holds Try.pinned (OpenSpec.upto numberAddsSpec)

/-- 'waterwheellaw02.NumberRing', WHERE WHAT IT READS IS OF BULK AT MOST 1048576: true; the input reads as it did. -/
def numberRingUptoRow : OpenClaim := { program := "ytblddomiecjhiaa", sum := "1c8fd7abb1dd5da95754dcadfd6d18407c06b7629a0a0fbc274afb8e260207c9", func := "waterwheel/waterwheellaw02.NumberRing", spec := "numberRing", inPlace := ["math/bits.Add64", "math/bits.Sub64"], apart := false, narrowed := true }
def NumberRingUptoSaid : Prop := numberRingUptoRow.holds Try.pinned (OpenSpec.upto numberRingSpec)

/-- 'waterwheellaw02.NumberOrders', WHERE WHAT IT READS IS OF BULK AT MOST 1048576: true; the input reads as it did. -/
def numberOrdersUptoRow : OpenClaim := { program := "ytblddomiecjhiaa", sum := "1c8fd7abb1dd5da95754dcadfd6d18407c06b7629a0a0fbc274afb8e260207c9", func := "waterwheel/waterwheellaw02.NumberOrders", spec := "numberOrders", inPlace := ["math/bits.Add64", "math/bits.Sub64"], unfollowed := true, recurses := true, apart := false, narrowed := true }
def NumberOrdersUptoSaid : Prop := numberOrdersUptoRow.holds Try.pinned (OpenSpec.upto numberOrdersSpec)

end Rows
end Go.Proofs.Ytblddomiecjhiaa
