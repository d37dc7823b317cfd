/- For every input: at the landed commit the Go function waterwheellaw19.QueueNil returns true, and its arguments read behind the call as before. No condition. The call is reckoned with arguments that are not known. -/
import Derived.Test.YtepmkadhemkecaaRows
import Derived.Test.YtepmkadhemkecaaEvFa
import Derived.Test.YtepmkadhemkecaaEvAl
import Derived.ShutString
import Derived.ProofKit
import Derived.OpenShut
import Derived.ChangeOld
import Derived.Lib.SmallJoins
namespace Go.Proofs.Ytepmkadhemkecaa.queueNil
open Go.ChangeShapes Go.WideShapes Go.ChangeAt Go.RowKit Go.Deep Go.Joins
set_option linter.unusedVariables false

theorem own : ownKnob Try.prog.godebug = none := by kernel_rfl
theorem laidOut : laidOutB Try.prog = true := by kernel_rfl
theorem mixed : Try.prog.follows .mixedOrders = true := by kernel_rfl

theorem e0 : Ev.ExtIs Try.prog 128 .cmpstr := ⟨_, Try.func128, by kernel_rfl, rfl, by kernel_rfl, by kernel_rfl⟩

noncomputable def orcs0 : List (FuncId × Ev.OrcF) := []
theorem reckoned_lives : Ev.tells true (Ev.evFn (Ev.cxOf Try.prog [(128, .cmpstr)] [] [] orcs0) 100000 60 (.fn 10) [] ⟨.nil, 100, 100⟩) = true := Ev.of_mix (p := Ev.tells true) (by decide +kernel)
theorem lives_is {q : List (Value × Bool)} : Ev.OrcIs Try.prog (Ev.cxOf Try.prog [(128, .cmpstr)] [] [] [] q) 10 Ev.trueO := Ev.trueO_is (Ev.enter_of Try.func10 (by kernel_rfl) (by kernel_rfl)) (Ev.ext_cons e0 (Ev.ext_nil _ [] [])) mixed reckoned_lives
def ptys : List TypeId := [44]
def t0 : Value := (Ev.sy 1 1 [(.int .u64 (13)), (.int .u64 (3)), (.bool false), (Ev.sy 6 0 [(.int .u64 (2))]), (Ev.sy 6 5 [(Ev.sy 0 0 [(.int .u64 (0))])])])
def t1 : Value := (Ev.sy 1 1 [(.int .u64 (13)), (.int .u64 (3)), (.bool true), (.int .i64 (30)), (Ev.sy 6 0 [(.int .u64 (2))])])
def t2 : Value := (Ev.sy 1 1 [(.int .u64 (13)), (.int .u64 (3)), (.bool true), (.int .i64 (300)), (Ev.sy 6 5 [(Ev.sy 0 6 [(Ev.sy 0 8 [(Ev.sy 0 8 [(Ev.sy 0 7 [(.int .u64 (2)), (Ev.sy 0 0 [(.int .u64 (0))]), (Ev.sy 6 0 [(.int .u64 (2))])]), (.int .u64 (0))]), (.int .u64 (0))])])])])
def t3 : Value := (Ev.sy 1 1 [(.int .u64 (13)), (.int .u64 (3)), (.bool true), (.int .i64 (300)), (Ev.sy 6 5 [(Ev.sy 0 6 [(Ev.sy 0 8 [(Ev.sy 0 8 [(Ev.sy 0 7 [(.int .u64 (2)), (Ev.sy 0 0 [(.int .u64 (0))]), (Ev.sy 6 0 [(.int .u64 (2))])]), (.int .u64 (1))]), (.int .u64 (0))])])])])
def t4 : Value := (Ev.sy 1 1 [(.int .u64 (13)), (.int .u64 (3)), (.bool false), (Ev.sy 6 0 [(.int .u64 (3))]), (Ev.sy 6 5 [(Ev.sy 0 0 [(.int .u64 (0))])])])
def t5 : Value := (Ev.sy 1 1 [(.int .u64 (13)), (.int .u64 (3)), (.bool false), (Ev.sy 6 0 [(.int .u64 (1))]), (Ev.sy 6 0 [(.int .u64 (3))])])
def t6 : Value := (Ev.sy 1 1 [(.int .u64 (13)), (.int .u64 (3)), (.bool true), (.int .i64 (300)), (Ev.sy 6 5 [(Ev.sy 0 6 [(Ev.sy 0 8 [(Ev.sy 0 8 [(Ev.sy 0 8 [(Ev.sy 0 7 [(.int .u64 (4)), (Ev.sy 0 0 [(.int .u64 (0))]), (Ev.sy 6 0 [(.int .u64 (3))])]), (.int .u64 (0))]), (.int .u64 (0))]), (.int .u64 (0))])])])])
def t7 : Value := (Ev.sy 1 1 [(.int .u64 (13)), (.int .u64 (3)), (.bool true), (.int .i64 (100)), (Ev.sy 6 0 [(.int .u64 (3))])])
def t8 : Value := (Ev.sy 1 1 [(.int .u64 (13)), (.int .u64 (3)), (.bool true), (.int .i64 (100)), (Ev.sy 6 0 [(.int .u64 (1))])])
def t9 : Value := (Ev.sy 1 1 [(.int .u64 (13)), (.int .u64 (3)), (.bool false), (Ev.sy 6 0 [(.int .u64 (6))]), (Ev.sy 6 5 [(Ev.sy 0 6 [(Ev.sy 0 8 [(Ev.sy 0 8 [(Ev.sy 0 7 [(.int .u64 (2)), (Ev.sy 0 0 [(.int .u64 (0))]), (Ev.sy 6 0 [(.int .u64 (3))])]), (.int .u64 (1))]), (.int .u64 (0))])])])])
def t10 : Value := (Ev.sy 1 1 [(.int .u64 (13)), (.int .u64 (3)), (.bool true), (.int .i64 (100)), (Ev.sy 6 0 [(.int .u64 (6))])])
def t11 : Value := (Ev.sy 1 9 [(.int .u64 (1)), (Ev.sy 0 6 [(Ev.sy 0 8 [(Ev.sy 0 8 [(Ev.sy 0 7 [(.int .u64 (2)), (Ev.sy 0 0 [(.int .u64 (0))]), (Ev.sy 6 0 [(.int .u64 (3))])]), (.int .u64 (1))]), (.int .u64 (0))])]), (Ev.sy 6 0 [(.int .u64 (6))])])
def t12 : Value := (Ev.sy 1 9 [(.int .u64 (1)), (Ev.sy 0 0 [(.int .u64 (0))]), (Ev.sy 6 0 [(.int .u64 (3))])])
def t13 : Value := (Ev.sy 1 1 [(.int .u64 (13)), (.int .u64 (3)), (.bool true), (.int .i64 (100)), (Ev.sy 6 5 [(Ev.sy 0 0 [(.int .u64 (0))])])])
def t14 : Value := (Ev.sy 1 9 [(.int .u64 (7)), (Ev.sy 0 0 [(.int .u64 (0))])])
noncomputable def orcC84 (q : List (Value × Bool)) : List (FuncId × Ev.OrcF) := []
noncomputable def c84a0 : Ev.Asrt := { G := ⟨Ev.Tr.putSome [(0, (Ev.sy 0 0 [(.int .u64 (0))])), (2, (.bool false))], []⟩, Gh := ⟨.nil, 100, 100⟩, fs := (Ev.factsOf Try.prog [26] 0 ++ []), B := 1 }
noncomputable def c84a1 : Ev.Asrt := { G := ⟨Ev.Tr.putSome [(0, (Ev.sy 0 0 [(.int .u64 (0))])), (2, (Ev.sy 1 0 [(.int .u64 (1))])), (3, (Ev.sy 6 0 [(.int .u64 (2))]))], []⟩, Gh := ⟨.nil, 100, 100⟩, fs := (Ev.factsOf Try.prog [26] 0 ++ [((Ev.sy 1 9 [(.int .u64 (5)), (Ev.sy 6 0 [(.int .u64 (2))])]), true)]), B := 1 }
noncomputable def c84a2 : Ev.Asrt := { G := ⟨Ev.Tr.putSome [(0, (Ev.sy 0 0 [(.int .u64 (0))])), (2, (Ev.sy 1 0 [(.int .u64 (1))])), (3, (Ev.sy 6 0 [(.int .u64 (2))]))], []⟩, Gh := ⟨.nil, 100, 100⟩, fs := (Ev.factsOf Try.prog [26] 0 ++ []), B := 1 }
noncomputable def plan84 : Ev.Plan := (.seq (.run .leaf) c84a0 (.seq (.seq (.run .leaf) c84a1 (.block (.loop 2 (Ev.sy 0 0 [(.int .u64 (0))]) 3 (.run (.node t0 (.node t1 .leaf (.node t2 .leaf (.node t3 .leaf .leaf))) .leaf))))) c84a2 (.run .leaf)))
theorem chk84 : Ev.chk Try.prog [(128, .cmpstr)] [] [] orcC84 (fun _ _ => none) 100000 60 (Ev.fiGet Try.prog 84).ntmps (Ev.anyB Try.prog [(128, .cmpstr)] [] [] orcC84 (fun _ _ => none) (Ev.fiGet Try.prog 84)) plan84 (Ev.fiGet Try.prog 84).body { G := ⟨Ev.Tr.putList (Ev.symArgs Try.prog [26] 0) .nil 0, []⟩, Gh := ⟨.nil, 100, 100⟩, fs := Ev.factsOf Try.prog [26] 0, B := 1 } { nrm := none, exs := [] } = true := by decide +kernel
theorem any84 {orc : List (FuncId × Ev.OrcF)} {q : List (Value × Bool)} {W : Nat → List Value → Option Value} : Ev.OrcIs Try.prog (Ev.cxOf Try.prog [(128, .cmpstr)] [] [] orc q W) 84 (Ev.anyO Try.prog [26] q) :=
  Ev.any_is (orc := orcC84) (U := (fun _ _ => none)) (fun q => (Ev.ext_cons e0 (Ev.ext_nil _ [] q))) mixed (Ev.enter_of Try.func84 (by kernel_rfl) (by kernel_rfl)) (Ev.fiGet_ok (by decide +kernel) _ _ _ _ _ _) (by decide +kernel) (by decide +kernel) chk84
noncomputable def orcC60 (q : List (Value × Bool)) : List (FuncId × Ev.OrcF) := [(84, Ev.anyO Try.prog [26] q)]
noncomputable def c60a0 : Ev.Asrt := { G := ⟨Ev.Tr.putSome [(0, (Ev.sy 0 0 [(.int .u64 (0))])), (1, (Ev.sy 6 0 [(.int .u64 (1))])), (4, (.bool false))], []⟩, Gh := ⟨.nil, 100, 100⟩, fs := (Ev.factsOf Try.prog [31, 3] 0 ++ []), B := 2 }
noncomputable def c60a1 : Ev.Asrt := { G := ⟨Ev.Tr.putSome [(0, (Ev.sy 0 0 [(.int .u64 (0))])), (1, (Ev.sy 6 0 [(.int .u64 (1))])), (4, (Ev.sy 1 0 [(.int .u64 (2))])), (5, (Ev.sy 6 0 [(.int .u64 (3))]))], []⟩, Gh := ⟨.nil, 100, 100⟩, fs := (Ev.factsOf Try.prog [31, 3] 0 ++ [((Ev.sy 1 9 [(.int .u64 (5)), (Ev.sy 6 0 [(.int .u64 (3))])]), true)]), B := 2 }
noncomputable def c60a2 : Ev.Asrt := { G := ⟨Ev.Tr.putSome [(0, (Ev.sy 0 0 [(.int .u64 (0))])), (1, (Ev.sy 6 0 [(.int .u64 (1))])), (4, (Ev.sy 1 0 [(.int .u64 (2))])), (5, (Ev.sy 6 0 [(.int .u64 (3))]))], []⟩, Gh := ⟨.nil, 100, 100⟩, fs := (Ev.factsOf Try.prog [31, 3] 0 ++ []), B := 2 }
noncomputable def plan60 : Ev.Plan := (.seq (.run .leaf) c60a0 (.seq (.seq (.run .leaf) c60a1 (.block (.loop 3 (Ev.sy 0 0 [(.int .u64 (0))]) 4 (.run (.node t4 (.node t5 .leaf .leaf) .leaf))))) c60a2 (.run .leaf)))
theorem chk60 : Ev.chk Try.prog [(128, .cmpstr)] [] [] orcC60 (fun _ _ => none) 100000 60 (Ev.fiGet Try.prog 60).ntmps (Ev.anyB Try.prog [(128, .cmpstr)] [] [] orcC60 (fun _ _ => none) (Ev.fiGet Try.prog 60)) plan60 (Ev.fiGet Try.prog 60).body { G := ⟨Ev.Tr.putList (Ev.symArgs Try.prog [31, 3] 0) .nil 0, []⟩, Gh := ⟨.nil, 100, 100⟩, fs := Ev.factsOf Try.prog [31, 3] 0, B := 2 } { nrm := none, exs := [] } = true := by decide +kernel
theorem any60 {orc : List (FuncId × Ev.OrcF)} {q : List (Value × Bool)} {W : Nat → List Value → Option Value} : Ev.OrcIs Try.prog (Ev.cxOf Try.prog [(128, .cmpstr)] [] [] orc q W) 60 (Ev.anyO Try.prog [31, 3] q) :=
  Ev.any_is (orc := orcC60) (U := (fun _ _ => none)) (fun q => (Ev.orc_cons any84 (Ev.ext_cons e0 (Ev.ext_nil _ [] q)))) mixed (Ev.enter_of Try.func60 (by kernel_rfl) (by kernel_rfl)) (Ev.fiGet_ok (by decide +kernel) _ _ _ _ _ _) (by decide +kernel) (by decide +kernel) chk60
noncomputable def orcC59 (q : List (Value × Bool)) : List (FuncId × Ev.OrcF) := [(84, Ev.anyO Try.prog [26] q), (60, Ev.anyO Try.prog [31, 3] q)]
noncomputable def c59a0 : Ev.Asrt := { G := ⟨Ev.Tr.putSome [(0, (Ev.sy 0 0 [(.int .u64 (0))])), (1, (Ev.sy 6 0 [(.int .u64 (1))])), (4, (.bool false))], []⟩, Gh := ⟨.nil, 100, 100⟩, fs := (Ev.factsOf Try.prog [115, 3] 0 ++ []), B := 2 }
noncomputable def c59a1 : Ev.Asrt := { G := ⟨Ev.Tr.putSome [(0, (Ev.sy 0 0 [(.int .u64 (0))])), (1, (Ev.sy 6 0 [(.int .u64 (1))])), (4, (Ev.sy 1 0 [(.int .u64 (2))])), (5, (Ev.sy 6 0 [(.int .u64 (3))]))], []⟩, Gh := ⟨.nil, 100, 100⟩, fs := (Ev.factsOf Try.prog [115, 3] 0 ++ [((Ev.sy 1 9 [(.int .u64 (5)), (Ev.sy 6 0 [(.int .u64 (3))])]), true)]), B := 2 }
noncomputable def c59a2 : Ev.Asrt := { G := ⟨Ev.Tr.putSome [(0, (Ev.sy 0 0 [(.int .u64 (0))])), (1, (Ev.sy 6 0 [(.int .u64 (1))])), (4, (Ev.sy 1 0 [(.int .u64 (2))])), (5, (Ev.sy 6 0 [(.int .u64 (3))]))], []⟩, Gh := ⟨.nil, 100, 100⟩, fs := (Ev.factsOf Try.prog [115, 3] 0 ++ []), B := 2 }
noncomputable def plan59 : Ev.Plan := (.seq (.run .leaf) c59a0 (.seq (.seq (.run .leaf) c59a1 (.block (.loop 3 (Ev.sy 0 0 [(.int .u64 (0))]) 4 (.run (.node t4 (.node t5 .leaf (.node t6 .leaf .leaf)) .leaf))))) c59a2 (.run .leaf)))
theorem chk59 : Ev.chk Try.prog [(128, .cmpstr)] [] [] orcC59 (fun _ _ => none) 100000 60 (Ev.fiGet Try.prog 59).ntmps (Ev.anyB Try.prog [(128, .cmpstr)] [] [] orcC59 (fun _ _ => none) (Ev.fiGet Try.prog 59)) plan59 (Ev.fiGet Try.prog 59).body { G := ⟨Ev.Tr.putList (Ev.symArgs Try.prog [115, 3] 0) .nil 0, []⟩, Gh := ⟨.nil, 100, 100⟩, fs := Ev.factsOf Try.prog [115, 3] 0, B := 2 } { nrm := none, exs := [] } = true := by decide +kernel
theorem any59 {orc : List (FuncId × Ev.OrcF)} {q : List (Value × Bool)} {W : Nat → List Value → Option Value} : Ev.OrcIs Try.prog (Ev.cxOf Try.prog [(128, .cmpstr)] [] [] orc q W) 59 (Ev.anyO Try.prog [115, 3] q) :=
  Ev.any_is (orc := orcC59) (U := (fun _ _ => none)) (fun q => (Ev.orc_cons any84 (Ev.orc_cons any60 (Ev.ext_cons e0 (Ev.ext_nil _ [] q))))) mixed (Ev.enter_of Try.func59 (by kernel_rfl) (by kernel_rfl)) (Ev.fiGet_ok (by decide +kernel) _ _ _ _ _ _) (by decide +kernel) (by decide +kernel) chk59
noncomputable def orcC12 (q : List (Value × Bool)) : List (FuncId × Ev.OrcF) := [(84, Ev.anyO Try.prog [26] q), (60, Ev.anyO Try.prog [31, 3] q), (59, Ev.anyO Try.prog [115, 3] q)]
noncomputable def c12a0 : Ev.Asrt := { G := ⟨Ev.Tr.putSome [(0, (Ev.sy 0 0 [(.int .u64 (0))])), (2, (.bool false))], []⟩, Gh := ⟨.nil, 100, 100⟩, fs := (Ev.factsOf Try.prog [48] 0 ++ []), B := 1 }
noncomputable def c12a1 : Ev.Asrt := { G := ⟨Ev.Tr.putSome [(0, (Ev.sy 0 0 [(.int .u64 (0))])), (2, (.bool false)), (3, (.int .i64 (0)))], []⟩, Gh := ⟨.nil, 100, 100⟩, fs := (Ev.factsOf Try.prog [48] 0 ++ []), B := 1 }
noncomputable def c12a2 : Ev.Asrt := { G := ⟨Ev.Tr.putSome [(0, (Ev.sy 0 0 [(.int .u64 (0))])), (2, (Ev.sy 1 0 [(.int .u64 (2))])), (3, (Ev.sy 6 0 [(.int .u64 (1))])), (4, (Ev.sy 6 0 [(.int .u64 (3))]))], []⟩, Gh := ⟨.nil, 100, 100⟩, fs := (Ev.factsOf Try.prog [48] 0 ++ [((Ev.sy 1 9 [(.int .u64 (5)), (Ev.sy 6 0 [(.int .u64 (3))])]), true)]), B := 1 }
noncomputable def c12a3 : Ev.Asrt := { G := ⟨Ev.Tr.putSome [(0, (Ev.sy 0 0 [(.int .u64 (0))])), (2, (Ev.sy 1 0 [(.int .u64 (1))])), (3, (Ev.sy 6 0 [(.int .u64 (2))])), (4, (Ev.sy 6 0 [(.int .u64 (3))]))], []⟩, Gh := ⟨.nil, 100, 100⟩, fs := (Ev.factsOf Try.prog [48] 0 ++ []), B := 1 }
noncomputable def c12a4 : Ev.Asrt := { G := ⟨Ev.Tr.putSome [(0, (Ev.sy 0 0 [(.int .u64 (0))])), (2, (Ev.sy 1 0 [(.int .u64 (2))])), (3, (Ev.sy 6 0 [(.int .u64 (1))])), (4, (Ev.sy 6 0 [(.int .u64 (3))]))], []⟩, Gh := ⟨.nil, 100, 100⟩, fs := (Ev.factsOf Try.prog [48] 0 ++ [((Ev.sy 1 9 [(.int .u64 (5)), (Ev.sy 6 0 [(.int .u64 (3))])]), true), ((Ev.sy 1 1 [(.int .u64 (13)), (.int .u64 (3)), (.bool false), (Ev.sy 6 0 [(.int .u64 (3))]), (Ev.sy 6 5 [(Ev.sy 0 0 [(.int .u64 (0))])])]), true), ((Ev.sy 1 1 [(.int .u64 (13)), (.int .u64 (3)), (.bool true), (.int .i64 (100)), (Ev.sy 6 0 [(.int .u64 (3))])]), false), ((Ev.sy 1 1 [(.int .u64 (13)), (.int .u64 (3)), (.bool true), (.int .i64 (100)), (Ev.sy 6 0 [(.int .u64 (1))])]), false)]), B := 4 }
noncomputable def c12a5 : Ev.Asrt := { G := ⟨Ev.Tr.putSome [(0, (Ev.sy 0 0 [(.int .u64 (0))])), (2, (Ev.sy 1 0 [(.int .u64 (4))])), (3, (Ev.sy 6 0 [(.int .u64 (5))])), (4, (Ev.sy 6 0 [(.int .u64 (3))]))], []⟩, Gh := ⟨.nil, 100, 100⟩, fs := (Ev.factsOf Try.prog [48] 0 ++ [((Ev.sy 1 9 [(.int .u64 (5)), (Ev.sy 6 0 [(.int .u64 (3))])]), true), ((Ev.sy 1 1 [(.int .u64 (13)), (.int .u64 (3)), (.bool false), (Ev.sy 6 0 [(.int .u64 (3))]), (Ev.sy 6 5 [(Ev.sy 0 0 [(.int .u64 (0))])])]), true), ((Ev.sy 1 1 [(.int .u64 (13)), (.int .u64 (3)), (.bool true), (.int .i64 (100)), (Ev.sy 6 0 [(.int .u64 (3))])]), false), ((Ev.sy 1 1 [(.int .u64 (13)), (.int .u64 (3)), (.bool true), (.int .i64 (100)), (Ev.sy 6 0 [(.int .u64 (1))])]), false)]), B := 4 }
noncomputable def c12a6 : Ev.Asrt := { G := ⟨Ev.Tr.putSome [(0, (Ev.sy 0 0 [(.int .u64 (0))])), (2, (Ev.sy 1 0 [(.int .u64 (5))])), (3, (Ev.sy 6 0 [(.int .u64 (4))])), (4, (Ev.sy 6 0 [(.int .u64 (3))])), (5, (Ev.sy 6 0 [(.int .u64 (6))]))], []⟩, Gh := ⟨.nil, 100, 100⟩, fs := (Ev.factsOf Try.prog [48] 0 ++ [((Ev.sy 1 9 [(.int .u64 (5)), (Ev.sy 6 0 [(.int .u64 (3))])]), true), ((Ev.sy 1 1 [(.int .u64 (13)), (.int .u64 (3)), (.bool false), (Ev.sy 6 0 [(.int .u64 (3))]), (Ev.sy 6 5 [(Ev.sy 0 0 [(.int .u64 (0))])])]), true), ((Ev.sy 1 1 [(.int .u64 (13)), (.int .u64 (3)), (.bool true), (.int .i64 (100)), (Ev.sy 6 0 [(.int .u64 (3))])]), false), ((Ev.sy 1 1 [(.int .u64 (13)), (.int .u64 (3)), (.bool true), (.int .i64 (100)), (Ev.sy 6 0 [(.int .u64 (1))])]), false), ((Ev.sy 1 9 [(.int .u64 (5)), (Ev.sy 6 0 [(.int .u64 (6))])]), true)]), B := 4 }
noncomputable def plan12 : Ev.Plan := (.seq (.run .leaf) c12a0 (.seq (.run .leaf) c12a1 (.seq (.seq (.run .leaf) c12a2 (.block (.loop 3 (Ev.sy 0 0 [(.int .u64 (0))]) 4 (.seq (.run (.node t4 (.node t7 .leaf (.node t8 .leaf .leaf)) .leaf)) c12a4 (.seq (.block (.seq (.run .leaf) c12a6 (.block (.loop 6 (Ev.sy 0 6 [(Ev.sy 0 8 [(Ev.sy 0 8 [(Ev.sy 0 7 [(.int .u64 (2)), (Ev.sy 0 0 [(.int .u64 (0))]), (Ev.sy 6 0 [(.int .u64 (3))])]), (.int .u64 (1))]), (.int .u64 (0))])]) 7 (.run (.node t9 (.node t10 .leaf .leaf) .leaf)))))) c12a5 (.run .leaf)))))) c12a3 (.run (.node t13 .leaf .leaf)))))
theorem chk12 : Ev.chk Try.prog [(128, .cmpstr)] [] [] orcC12 (fun _ _ => none) 100000 60 (Ev.fiGet Try.prog 12).ntmps (Ev.anyB Try.prog [(128, .cmpstr)] [] [] orcC12 (fun _ _ => none) (Ev.fiGet Try.prog 12)) plan12 (Ev.fiGet Try.prog 12).body { G := ⟨Ev.Tr.putList (Ev.symArgs Try.prog [48] 0) .nil 0, []⟩, Gh := ⟨.nil, 100, 100⟩, fs := Ev.factsOf Try.prog [48] 0, B := 1 } { nrm := none, exs := [] } = true := by decide +kernel
theorem any12 {orc : List (FuncId × Ev.OrcF)} {q : List (Value × Bool)} {W : Nat → List Value → Option Value} : Ev.OrcIs Try.prog (Ev.cxOf Try.prog [(128, .cmpstr)] [] [] orc q W) 12 (Ev.anyO Try.prog [48] q) :=
  Ev.any_is (orc := orcC12) (U := (fun _ _ => none)) (fun q => (Ev.orc_cons any84 (Ev.orc_cons any60 (Ev.orc_cons any59 (Ev.ext_cons e0 (Ev.ext_nil _ [] q)))))) mixed (Ev.enter_of Try.func12 (by kernel_rfl) (by kernel_rfl)) (Ev.fiGet_ok (by decide +kernel) _ _ _ _ _ _) (by decide +kernel) (by decide +kernel) chk12
noncomputable def orcsQ (q : List (Value × Bool)) : List (FuncId × Ev.OrcF) := [(10, Ev.trueO), (84, Ev.anyO Try.prog [26] q), (60, Ev.anyO Try.prog [31, 3] q), (59, Ev.anyO Try.prog [115, 3] q), (12, Ev.anyO Try.prog [48] q)]
noncomputable def tree : Ev.PT := (.node t14 .leaf .leaf)
noncomputable def cls : List (Nat × List (Value × Bool)) := []
theorem cls_ok : (cls.all fun c => Ev.deadC c.2 c.1 && Ev.hasI c.1 (Ev.symArgs Try.prog ptys 0)) = true := by decide +kernel
theorem reckoned : Ev.walkT (fun q => Ev.tellsA (Ev.cxOf Try.prog [(128, .cmpstr)] [] [] (orcsQ q) q (fun _ _ => none)) true (Ev.evFn (Ev.cxOf Try.prog [(128, .cmpstr)] [] [] (orcsQ q) q (fun _ _ => none)) 100000 60 (.fn 4) (Ev.symArgs Try.prog ptys 0) ⟨.nil, 100, 100⟩)) (cls.map (·.2)) tree (Ev.factsOf Try.prog ptys 0) = true := by decide +kernel

set_option maxRecDepth 100000 in
theorem walk (w : World) (r : Reach) (b0 : Nat) (args : List Value) (hl : ptys.length = args.length)
    (hok : ∀ (j : Nat) t v, ptys[j]? = some t → args[j]? = some v → Value.okWide Try.prog w r b0 t v) (hd : ∀ (j : Nat) t v, ptys[j]? = some t → args[j]? = some v → ∃ f, Ev.Rds Try.prog (fun a => w.cell? a) f t (Ev.vcells v)) :
    Calls Try.prog 4 ⟨args⟩ w fun e w' => e = .returned (.bool true) ∧ Below w.heap.size w w' := by
  obtain ⟨s, hs, hf⟩ := Ev.sym_deep hl hok hd (u := Ev.uRd (Ev.cxOf Try.prog [(128, .cmpstr)] [] [] (orcsQ []) [] (fun _ _ => none)) (fun a => w.cell? a)) (fun vs => Ev.uRd_rd _ _ 8 vs (by omega))
  exact Ev.toldR (orc := orcsQ) (fun q => (Ev.orc_cons lives_is (Ev.orc_cons any84 (Ev.orc_cons any60 (Ev.orc_cons any59 (Ev.orc_cons any12 (Ev.ext_cons e0 (Ev.ext_nil _ [] q)))))))) mixed cls_ok reckoned (Ev.old_all w) hs hf (fun _ _ h1 => by cases h1)

set_option maxRecDepth 100000 in
theorem lifted (os : Os) (started : os.Started) (H : Type) (enc : TypeId × Value → H) :
    ReturnsInHanded {} Try.checked os 4 .any (Rows.queueNilSpec.pre6 enc Try.prog Try.f4 Rows.queueNilRow.domain false) (Rows.queueNilSpec.post enc Try.prog Try.f4 false true false false) := by
  refine Ev.handed_sized (C := Try.checked) own started (by kernel_rfl) Try.func4
    (ChangeSpec.witness6 (enc := enc) (C := Try.checked) false ⟨#[], ⟨Ev.zeroArgs Try.prog ptys⟩, []⟩ 8 (by kernel_rfl) (by kernel_rfl) (by kernel_rfl) (by kernel_rfl)) ?_
  intro W base args ds gs before hval0 hW hcnd hwts _
  have hval : ∀ (j : Nat) t v, Try.f4.params[j]? = some t → args[j]? = some v → Value.okWide Try.prog W .any base t v := hval0
  have hW' := hW
  obtain ⟨p, q, hA0, hV, rfl, hfz, hnd⟩ := hW
  have hA : DataW.TrodAll enc Try.prog W 0 (fun _ => true) true Try.f4.params.toList args.toList ds p := hA0
  rw [Try.params4] at hA hval
  obtain ⟨v0, vs0, d0, ds0, p0, q0, hargs, rfl, rfl, h0, r0⟩ := trodAll_cons hA
  obtain ⟨rfl, rfl, rfl⟩ := trodAll_nil r0
  obtain rfl : args = #[v0] := by cases args; simp_all
  obtain ⟨rfl, rfl⟩ := trodVars_none hV
  have lt0 : ∀ x ∈ p0, x.block < W.heap.size := by obtain ⟨m, hm⟩ := h0; exact DataW.trod_lt m _ _ _ hm
  clear hA0 hval0
  simp only [List.append_nil] at hW'
  refine (walk W .any base [v0] rfl (fun j t v a b => hval j t v (by simpa [ptys] using a) (by simpa using b)) (by have hw : (DataW.weightsEach Try.prog [44] [d0]).all (· ≤ reachBytes) = true := hwts; exact (Ev.deepL_cons h0 hw (fun hw => Ev.deepL_nil hw)))).mono fun e W' ⟨he, bel⟩ => ?_
  subst he
  exact ⟨_, rfl, _, _, _, [], _, [], hW', trodAll_mk1 (shut_bool Try.underlying4 _), (trodAll_cons_mk (Below.trod laidOut (by kernel_rfl) (of_decide_eq_true (by kernel_rfl)) h0 bel lt0) trodAll_mk0), rfl, bel.frame _, fun h => by cases h⟩

theorem over : Rows.queueNilRow.holds Try.pinned (OpenSpec.ofChange Rows.queueNilSpec) :=
  OpenClaim.holds_of_wide 4 Try.f4 rfl rfl rfl rfl rfl rfl rfl ⟨rfl, rfl, rfl, rfl, rfl⟩ rfl rfl rfl rfl rfl (by kernel_rfl) Try.func4 (by kernel_rfl)
    (of_decide_eq_true (by kernel_rfl)) (by unfold Func.isWrapper; first | (rw [if_pos (by decide +kernel)]; kernel_rfl) | (rw [if_neg (by decide +kernel)]; exact ⟨rfl, rfl⟩))
    (fun os started H enc _ => lifted os started H enc)

theorem proved : Rows.QueueNilSaid := over
#print axioms proved
end Go.Proofs.Ytepmkadhemkecaa.queueNil
