/-
  No cell of these rows narrows 'for every input' (looked for: loops, veiled, ifaces, maps, wideKeys, modest, calm, conditions, laid).
  DERIVED. THE GIVEN ROWS OF THIS SEAT. 10 by the template 'for every input the law returns true; each argument reads behind the call as it read before'; 0 by the template 'total and deterministic' (their statements: YtlfliibmhapgaaaTotals.lean).
  GIVEN WITH THE SEED: the statements are not yours to turn. If you find one false, say at which input.
  Laid BY PROGRAM, IN A SANDBOX (cutbox-rows.mjs): the forced cells as the released guide's own fill.sh prints them over the translation b4a0d9bddbd086cd… (all of the seat's roots in one cut). By AI agents, Wed Nov 11 2026. No macro, syntax, notation, axiom, sorry.
-/
import Derived.Test.YtlfliibmhapgaaaChecked
import GoSem.Claim
import GoSem.ClaimJoined
import GoSem.ClaimMapViews
import Derived.JoinedTies
import Derived.KernelRfl
namespace Go.Proofs.Ytlfliibmhapgaaa
/- THE CELL 'sum', in the pinned program and in every row, IS THE sha256 OF THE DUMP (.gsa) THAT YtlfliibmhapgaaaProg.lean LOADS. Nothing in Lean hashes anything: it is a label: what it is worth is what the hold of that sum in a sandbox is worth. -/
noncomputable def Try.pinned : Pinned := { name := "ytlfliibmhapgaaa", sum := "b4a0d9bddbd086cd072c12ec5e946cc877babc1ee06c8c1391ea83413c9a4c2e", checked := Try.checked }
namespace Rows
def none {H : Type} : Left H := { results := [], args := [] }

/-- 'waterwheellaw01.WireCalls': WHATEVER THE INPUT: true; the input reads as it did. -/
def wireCallsSpec : ChangeSpec := { name := "wireCalls", fn := fun _ => fun
  | [d1, d2, d3, d4, d5] => { results := [.lit (.bool true)], args := [d1, d2, d3, d4, d5] }
  | _ => none }
def wireCallsRow : OpenClaim := { program := "ytlfliibmhapgaaa", sum := "b4a0d9bddbd086cd072c12ec5e946cc877babc1ee06c8c1391ea83413c9a4c2e", func := "waterwheel/waterwheellaw01.WireCalls", spec := "wireCalls", apart := false }
def WireCallsSaid : Prop := wireCallsRow.holds Try.pinned (OpenSpec.ofChange wireCallsSpec)

/-- ITS FALSE NEIGHBOUR: 'it returns false'. Refute it at one input. -/
def wireCallsWrong : ChangeSpec := { name := "wireCalls", fn := fun _ => fun
  | [d1, d2, d3, d4, d5] => { results := [.lit (.bool false)], args := [d1, d2, d3, d4, d5] }
  | _ => none }
def WireCallsWrongFalsely : Prop := wireCallsRow.holds Try.pinned (OpenSpec.ofChange wireCallsWrong)

/-- 'waterwheellaw01.WireReads': WHATEVER THE INPUT: true; the input reads as it did. -/
def wireReadsSpec : ChangeSpec := { name := "wireReads", fn := fun _ => fun
  | [d1, d2] => { results := [.lit (.bool true)], args := [d1, d2] }
  | _ => none }
def wireReadsRow : OpenClaim := { program := "ytlfliibmhapgaaa", sum := "b4a0d9bddbd086cd072c12ec5e946cc877babc1ee06c8c1391ea83413c9a4c2e", func := "waterwheel/waterwheellaw01.WireReads", spec := "wireReads", unfollowed := true, recurses := true, apart := false }
def WireReadsSaid : Prop := wireReadsRow.holds Try.pinned (OpenSpec.ofChange wireReadsSpec)

/-- ITS FALSE NEIGHBOUR: 'it returns false'. Refute it at one input. -/
def wireReadsWrong : ChangeSpec := { name := "wireReads", fn := fun _ => fun
  | [d1, d2] => { results := [.lit (.bool false)], args := [d1, d2] }
  | _ => none }
def WireReadsWrongFalsely : Prop := wireReadsRow.holds Try.pinned (OpenSpec.ofChange wireReadsWrong)

/-- 'waterwheellaw01.WireBack': WHATEVER THE INPUT: true; the input reads as it did. -/
def wireBackSpec : ChangeSpec := { name := "wireBack", fn := fun _ => fun
  | [d1, d2, d3, d4, d5, d6, d7, d8] => { results := [.lit (.bool true)], args := [d1, d2, d3, d4, d5, d6, d7, d8] }
  | _ => none }
def wireBackRow : OpenClaim := { program := "ytlfliibmhapgaaa", sum := "b4a0d9bddbd086cd072c12ec5e946cc877babc1ee06c8c1391ea83413c9a4c2e", func := "waterwheel/waterwheellaw01.WireBack", spec := "wireBack", unfollowed := true, recurses := true, apart := false }
def WireBackSaid : Prop := wireBackRow.holds Try.pinned (OpenSpec.ofChange wireBackSpec)

/-- ITS FALSE NEIGHBOUR: 'it returns false'. Refute it at one input. -/
def wireBackWrong : ChangeSpec := { name := "wireBack", fn := fun _ => fun
  | [d1, d2, d3, d4, d5, d6, d7, d8] => { results := [.lit (.bool false)], args := [d1, d2, d3, d4, d5, d6, d7, d8] }
  | _ => none }
def WireBackWrongFalsely : Prop := wireBackRow.holds Try.pinned (OpenSpec.ofChange wireBackWrong)

/-- 'waterwheellaw02.NumberNames': WHATEVER THE INPUT: true; the input reads as it did. -/
def numberNamesSpec : ChangeSpec := { name := "numberNames", fn := fun _ => fun
  | [] => { results := [.lit (.bool true)], args := [] }
  | _ => none }
def numberNamesRow : OpenClaim := { program := "ytlfliibmhapgaaa", sum := "b4a0d9bddbd086cd072c12ec5e946cc877babc1ee06c8c1391ea83413c9a4c2e", func := "waterwheel/waterwheellaw02.NumberNames", spec := "numberNames", inPlace := ["math/bits.Add64", "math/bits.Sub64"], apart := false }
def NumberNamesSaid : Prop := numberNamesRow.holds Try.pinned (OpenSpec.ofChange numberNamesSpec)

/-- ITS FALSE NEIGHBOUR: 'it returns false'. Refute it at one input. -/
def numberNamesWrong : ChangeSpec := { name := "numberNames", fn := fun _ => fun
  | [] => { results := [.lit (.bool false)], args := [] }
  | _ => none }
def NumberNamesWrongFalsely : Prop := numberNamesRow.holds Try.pinned (OpenSpec.ofChange numberNamesWrong)

/-- 'waterwheellaw02.NumberBytes': WHATEVER THE INPUT: true; the input reads as it did. -/
def numberBytesSpec : ChangeSpec := { name := "numberBytes", fn := fun _ => fun
  | [d1, d2] => { results := [.lit (.bool true)], args := [d1, d2] }
  | _ => none }
def numberBytesRow : OpenClaim := { program := "ytlfliibmhapgaaa", sum := "b4a0d9bddbd086cd072c12ec5e946cc877babc1ee06c8c1391ea83413c9a4c2e", func := "waterwheel/waterwheellaw02.NumberBytes", spec := "numberBytes", inPlace := ["math/bits.Add64", "math/bits.Sub64"], unfollowed := true, recurses := true, apart := false }
def NumberBytesSaid : Prop := numberBytesRow.holds Try.pinned (OpenSpec.ofChange numberBytesSpec)

/-- ITS FALSE NEIGHBOUR: 'it returns false'. Refute it at one input. -/
def numberBytesWrong : ChangeSpec := { name := "numberBytes", fn := fun _ => fun
  | [d1, d2] => { results := [.lit (.bool false)], args := [d1, d2] }
  | _ => none }
def NumberBytesWrongFalsely : Prop := numberBytesRow.holds Try.pinned (OpenSpec.ofChange numberBytesWrong)

/-- 'waterwheellaw02.NumberAdds': WHATEVER THE INPUT: true; the input reads as it did. -/
def numberAddsSpec : ChangeSpec := { name := "numberAdds", fn := fun _ => fun
  | [d1, d2, d3, d4] => { results := [.lit (.bool true)], args := [d1, d2, d3, d4] }
  | _ => none }
def numberAddsRow : OpenClaim := { program := "ytlfliibmhapgaaa", sum := "b4a0d9bddbd086cd072c12ec5e946cc877babc1ee06c8c1391ea83413c9a4c2e", func := "waterwheel/waterwheellaw02.NumberAdds", spec := "numberAdds", inPlace := ["math/bits.Add64", "math/bits.Sub64"], apart := false }
def NumberAddsSaid : Prop := numberAddsRow.holds Try.pinned (OpenSpec.ofChange numberAddsSpec)

/-- ITS FALSE NEIGHBOUR: 'it returns false'. Refute it at one input. -/
def numberAddsWrong : ChangeSpec := { name := "numberAdds", fn := fun _ => fun
  | [d1, d2, d3, d4] => { results := [.lit (.bool false)], args := [d1, d2, d3, d4] }
  | _ => none }
def NumberAddsWrongFalsely : Prop := numberAddsRow.holds Try.pinned (OpenSpec.ofChange numberAddsWrong)

/-- 'waterwheellaw02.NumberRing': WHATEVER THE INPUT: true; the input reads as it did. -/
def numberRingSpec : ChangeSpec := { name := "numberRing", fn := fun _ => fun
  | [d1, d2, d3] => { results := [.lit (.bool true)], args := [d1, d2, d3] }
  | _ => none }
def numberRingRow : OpenClaim := { program := "ytlfliibmhapgaaa", sum := "b4a0d9bddbd086cd072c12ec5e946cc877babc1ee06c8c1391ea83413c9a4c2e", func := "waterwheel/waterwheellaw02.NumberRing", spec := "numberRing", inPlace := ["math/bits.Add64", "math/bits.Sub64"], apart := false }
def NumberRingSaid : Prop := numberRingRow.holds Try.pinned (OpenSpec.ofChange numberRingSpec)

/-- ITS FALSE NEIGHBOUR: 'it returns false'. Refute it at one input. -/
def numberRingWrong : ChangeSpec := { name := "numberRing", fn := fun _ => fun
  | [d1, d2, d3] => { results := [.lit (.bool false)], args := [d1, d2, d3] }
  | _ => none }
def NumberRingWrongFalsely : Prop := numberRingRow.holds Try.pinned (OpenSpec.ofChange numberRingWrong)

/-- 'waterwheellaw03.LabelNames': WHATEVER THE INPUT: true; the input reads as it did. -/
def labelNamesSpec : ChangeSpec := { name := "labelNames", fn := fun _ => fun
  | [] => { results := [.lit (.bool true)], args := [] }
  | _ => none }
def labelNamesRow : OpenClaim := { program := "ytlfliibmhapgaaa", sum := "b4a0d9bddbd086cd072c12ec5e946cc877babc1ee06c8c1391ea83413c9a4c2e", func := "waterwheel/waterwheellaw03.LabelNames", spec := "labelNames", inPlace := ["internal/bytealg.abigen_runtime_cmpstring", "internal/abi.NoEscape"], unfollowed := true, recurses := true, apart := false }
def LabelNamesSaid : Prop := labelNamesRow.holds Try.pinned (OpenSpec.ofChange labelNamesSpec)

/-- ITS FALSE NEIGHBOUR: 'it returns false'. Refute it at one input. -/
def labelNamesWrong : ChangeSpec := { name := "labelNames", fn := fun _ => fun
  | [] => { results := [.lit (.bool false)], args := [] }
  | _ => none }
def LabelNamesWrongFalsely : Prop := labelNamesRow.holds Try.pinned (OpenSpec.ofChange labelNamesWrong)

/-- 'waterwheellaw03.LabelBack': WHATEVER THE INPUT: true; the input reads as it did. -/
def labelBackSpec : ChangeSpec := { name := "labelBack", fn := fun _ => fun
  | [d1, d2, d3, d4, d5] => { results := [.lit (.bool true)], args := [d1, d2, d3, d4, d5] }
  | _ => none }
def labelBackRow : OpenClaim := { program := "ytlfliibmhapgaaa", sum := "b4a0d9bddbd086cd072c12ec5e946cc877babc1ee06c8c1391ea83413c9a4c2e", func := "waterwheel/waterwheellaw03.LabelBack", spec := "labelBack", inPlace := ["internal/bytealg.abigen_runtime_cmpstring", "internal/abi.NoEscape"], unfollowed := true, recurses := true, apart := false }
def LabelBackSaid : Prop := labelBackRow.holds Try.pinned (OpenSpec.ofChange labelBackSpec)

/-- ITS FALSE NEIGHBOUR: 'it returns false'. Refute it at one input. -/
def labelBackWrong : ChangeSpec := { name := "labelBack", fn := fun _ => fun
  | [d1, d2, d3, d4, d5] => { results := [.lit (.bool false)], args := [d1, d2, d3, d4, d5] }
  | _ => none }
def LabelBackWrongFalsely : Prop := labelBackRow.holds Try.pinned (OpenSpec.ofChange labelBackWrong)

/-- 'waterwheellaw03.LabelTakes': WHATEVER THE INPUT: true; the input reads as it did. -/
def labelTakesSpec : ChangeSpec := { name := "labelTakes", fn := fun _ => fun
  | [d1, d2, d3, d4, d5] => { results := [.lit (.bool true)], args := [d1, d2, d3, d4, d5] }
  | _ => none }
def labelTakesRow : OpenClaim := { program := "ytlfliibmhapgaaa", sum := "b4a0d9bddbd086cd072c12ec5e946cc877babc1ee06c8c1391ea83413c9a4c2e", func := "waterwheel/waterwheellaw03.LabelTakes", spec := "labelTakes", inPlace := ["internal/bytealg.abigen_runtime_cmpstring", "internal/abi.NoEscape"], unfollowed := true, recurses := true, apart := false }
def LabelTakesSaid : Prop := labelTakesRow.holds Try.pinned (OpenSpec.ofChange labelTakesSpec)

/-- ITS FALSE NEIGHBOUR: 'it returns false'. Refute it at one input. -/
def labelTakesWrong : ChangeSpec := { name := "labelTakes", fn := fun _ => fun
  | [d1, d2, d3, d4, d5] => { results := [.lit (.bool false)], args := [d1, d2, d3, d4, d5] }
  | _ => none }
def LabelTakesWrongFalsely : Prop := labelTakesRow.holds Try.pinned (OpenSpec.ofChange labelTakesWrong)

/- THE SECOND FORM. 'bulk': how many values and letters a reading holds, each counted each time it is reached (what is shared counts as often as it is met; a slice's spare places count too). A statement '..UptoSaid' is the law's where the arguments, and the package variables that the reading takes, are together of bulk at most 1048576: NARROWER than '..Said'. Prove '..Said' where nothing that the law and all that it calls make is longer than what came in: it says more and counts as full. Else prove '..UptoSaid'. A law counts once. -/
mutual
def uptoBulk {H : Type} : DataW H → Nat
  | .lit (.string bytes) => bytes.length + 1
  | .lit _ => 1
  | .nil => 1
  | .ptr d => uptoBulk d + 1
  | .slice elems spare => uptoBulkAll elems + uptoBulkAll spare + 1
  | .agg parts => uptoBulkAll parts + 1
  | .iface _ d => uptoBulk d + 1
  | .map entries => uptoBulkEntries entries + 1
  | .held _ => 1
def uptoBulkAll {H : Type} : List (DataW H) → Nat
  | [] => 0
  | d :: r => uptoBulk d + uptoBulkAll r
def uptoBulkEntries {H : Type} : List (Lit × DataW H) → Nat
  | [] => 0
  | x :: r => uptoBulkEntry x + uptoBulkEntries r
def uptoBulkEntry {H : Type} : Lit × DataW H → Nat
  | (.string bytes, d) => bytes.length + uptoBulk d + 1
  | (_, d) => uptoBulk d + 1
 end
def uptoSmall : (H : Type) → List (DataW H) → Bool := fun _ ds => decide (uptoBulkAll ds ≤ 1048576)
def OpenSpec.upto (s : _root_.Go.ChangeSpec) : _root_.Go.OpenSpec := { _root_.Go.OpenSpec.ofChange s with cond := some uptoSmall }

/-- 'waterwheellaw01.WireCalls', WHERE WHAT IT READS IS OF BULK AT MOST 1048576: true; the input reads as it did. -/
def wireCallsUptoRow : OpenClaim := { program := "ytlfliibmhapgaaa", sum := "b4a0d9bddbd086cd072c12ec5e946cc877babc1ee06c8c1391ea83413c9a4c2e", func := "waterwheel/waterwheellaw01.WireCalls", spec := "wireCalls", apart := false, narrowed := true }
def WireCallsUptoSaid : Prop := wireCallsUptoRow.holds Try.pinned (OpenSpec.upto wireCallsSpec)

/-- 'waterwheellaw01.WireReads', WHERE WHAT IT READS IS OF BULK AT MOST 1048576: true; the input reads as it did. -/
def wireReadsUptoRow : OpenClaim := { program := "ytlfliibmhapgaaa", sum := "b4a0d9bddbd086cd072c12ec5e946cc877babc1ee06c8c1391ea83413c9a4c2e", func := "waterwheel/waterwheellaw01.WireReads", spec := "wireReads", unfollowed := true, recurses := true, apart := false, narrowed := true }
def WireReadsUptoSaid : Prop := wireReadsUptoRow.holds Try.pinned (OpenSpec.upto wireReadsSpec)

/-- 'waterwheellaw01.WireBack', WHERE WHAT IT READS IS OF BULK AT MOST 1048576: true; the input reads as it did. -/
def wireBackUptoRow : OpenClaim := { program := "ytlfliibmhapgaaa", sum := "b4a0d9bddbd086cd072c12ec5e946cc877babc1ee06c8c1391ea83413c9a4c2e", func := "waterwheel/waterwheellaw01.WireBack", spec := "wireBack", unfollowed := true, recurses := true, apart := false, narrowed := true }
def WireBackUptoSaid : Prop := wireBackUptoRow.holds Try.pinned (OpenSpec.upto wireBackSpec)

/-- 'waterwheellaw02.NumberNames', WHERE WHAT IT READS IS OF BULK AT MOST 1048576: true; the input reads as it did. -/
def numberNamesUptoRow : OpenClaim := { program := "ytlfliibmhapgaaa", sum := "b4a0d9bddbd086cd072c12ec5e946cc877babc1ee06c8c1391ea83413c9a4c2e", func := "waterwheel/waterwheellaw02.NumberNames", spec := "numberNames", inPlace := ["math/bits.Add64", "math/bits.Sub64"], apart := false, narrowed := true }
def NumberNamesUptoSaid : Prop := numberNamesUptoRow.holds Try.pinned (OpenSpec.upto numberNamesSpec)

/-- 'waterwheellaw02.NumberBytes', WHERE WHAT IT READS IS OF BULK AT MOST 1048576: true; the input reads as it did. -/
def numberBytesUptoRow : OpenClaim := { program := "ytlfliibmhapgaaa", sum := "b4a0d9bddbd086cd072c12ec5e946cc877babc1ee06c8c1391ea83413c9a4c2e", func := "waterwheel/waterwheellaw02.NumberBytes", spec := "numberBytes", inPlace := ["math/bits.Add64", "math/bits.Sub64"], unfollowed := true, recurses := true, apart := false, narrowed := true }
def NumberBytesUptoSaid : Prop := numberBytesUptoRow.holds Try.pinned (OpenSpec.upto numberBytesSpec)

/-- 'waterwheellaw02.NumberAdds', WHERE WHAT IT READS IS OF BULK AT MOST 1048576: true; the input reads as it did. -/
def numberAddsUptoRow : OpenClaim := { program := "ytlfliibmhapgaaa", sum := "b4a0d9bddbd086cd072c12ec5e946cc877babc1ee06c8c1391ea83413c9a4c2e", func := "waterwheel/waterwheellaw02.NumberAdds", spec := "numberAdds", inPlace := ["math/bits.Add64", "math/bits.Sub64"], apart := false, narrowed := true }
def NumberAddsUptoSaid : Prop := numberAddsUptoRow.holds Try.pinned (OpenSpec.upto numberAddsSpec)

/-- 'waterwheellaw02.NumberRing', WHERE WHAT IT READS IS OF BULK AT MOST 1048576: true; the input reads as it did. -/
def numberRingUptoRow : OpenClaim := { program := "ytlfliibmhapgaaa", sum := "b4a0d9bddbd086cd072c12ec5e946cc877babc1ee06c8c1391ea83413c9a4c2e", func := "waterwheel/waterwheellaw02.NumberRing", spec := "numberRing", inPlace := ["math/bits.Add64", "math/bits.Sub64"], apart := false, narrowed := true }
def NumberRingUptoSaid : Prop := numberRingUptoRow.holds Try.pinned (OpenSpec.upto numberRingSpec)

/-- 'waterwheellaw03.LabelNames', WHERE WHAT IT READS IS OF BULK AT MOST 1048576: true; the input reads as it did. -/
def labelNamesUptoRow : OpenClaim := { program := "ytlfliibmhapgaaa", sum := "b4a0d9bddbd086cd072c12ec5e946cc877babc1ee06c8c1391ea83413c9a4c2e", func := "waterwheel/waterwheellaw03.LabelNames", spec := "labelNames", inPlace := ["internal/bytealg.abigen_runtime_cmpstring", "internal/abi.NoEscape"], unfollowed := true, recurses := true, apart := false, narrowed := true }
def LabelNamesUptoSaid : Prop := labelNamesUptoRow.holds Try.pinned (OpenSpec.upto labelNamesSpec)

/-- 'waterwheellaw03.LabelBack', WHERE WHAT IT READS IS OF BULK AT MOST 1048576: true; the input reads as it did. -/
def labelBackUptoRow : OpenClaim := { program := "ytlfliibmhapgaaa", sum := "b4a0d9bddbd086cd072c12ec5e946cc877babc1ee06c8c1391ea83413c9a4c2e", func := "waterwheel/waterwheellaw03.LabelBack", spec := "labelBack", inPlace := ["internal/bytealg.abigen_runtime_cmpstring", "internal/abi.NoEscape"], unfollowed := true, recurses := true, apart := false, narrowed := true }
def LabelBackUptoSaid : Prop := labelBackUptoRow.holds Try.pinned (OpenSpec.upto labelBackSpec)

/-- 'waterwheellaw03.LabelTakes', WHERE WHAT IT READS IS OF BULK AT MOST 1048576: true; the input reads as it did. -/
def labelTakesUptoRow : OpenClaim := { program := "ytlfliibmhapgaaa", sum := "b4a0d9bddbd086cd072c12ec5e946cc877babc1ee06c8c1391ea83413c9a4c2e", func := "waterwheel/waterwheellaw03.LabelTakes", spec := "labelTakes", inPlace := ["internal/bytealg.abigen_runtime_cmpstring", "internal/abi.NoEscape"], unfollowed := true, recurses := true, apart := false, narrowed := true }
def LabelTakesUptoSaid : Prop := labelTakesUptoRow.holds Try.pinned (OpenSpec.upto labelTakesSpec)

end Rows
end Go.Proofs.Ytlfliibmhapgaaa
