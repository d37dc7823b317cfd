/- For every input: at the landed commit the Go function waterwheellaw16.JoinNil returns true, and its arguments read behind the call as before, where the tables of Go's library that the row lists hold what the card ties to the program's text. No other condition. The call is reckoned with arguments that are not known. -/
import Derived.Test.YtjboijmajphelaaGreatDoorRows
import Derived.Test.YtjboijmajphelaaGreatDoorEvFa
import Derived.Test.YtjboijmajphelaaGreatDoorCards
import Derived.Test.YtjboijmajphelaaGreatDoorTie
import Derived.Test.YtjboijmajphelaaGreatDoorEvAl
import Derived.ShutString
import Derived.ChangeOld
import Derived.Lib.SmallJoins
import Derived.ProofKit
import Derived.OpenShut
import Derived.LaidMore
import Derived.SevenTiedAt
import Derived.Deep.DeepLaidRun
namespace Go.Proofs.YtjboijmajphelaaGreatDoor.joinNil
open Go.ChangeShapes Go.WideShapes Go.ChangeAt Go.RowKit Go.Deep Go.Joins
set_option linter.unusedVariables false
set_option linter.unusedSimpArgs false

theorem own : ownKnob Tryz.prog.godebug = none := by kernel_rfl
theorem laidOut : laidOutB Tryz.prog = true := by kernel_rfl
theorem mixed : Tryz.prog.follows .mixedOrders = true := by kernel_rfl

theorem e0 : Ev.ExtIs Tryz.prog 181 .add64 := ⟨_, Tryz.func181, by kernel_rfl, rfl, by kernel_rfl, by kernel_rfl⟩
theorem e1 : Ev.ExtIs Tryz.prog 182 .sub64 := ⟨_, Tryz.func182, by kernel_rfl, rfl, by kernel_rfl, by kernel_rfl⟩
theorem e2 : Ev.ExtIs Tryz.prog 262 .cmpstr := ⟨_, Tryz.func262, by kernel_rfl, rfl, by kernel_rfl, by kernel_rfl⟩
theorem e3 : Ev.ExtIs Tryz.prog 257 .noEscape := ⟨_, Tryz.func257, by kernel_rfl, rfl, by kernel_rfl, by kernel_rfl⟩
theorem e4 : Ev.ExtIs Tryz.prog 188 .mapClone := ⟨_, Tryz.func188, by kernel_rfl, rfl, by kernel_rfl, by kernel_rfl⟩
def tab0 : List (Nat × Value) := [(0, .int .i64 (0)), (1, .int .i64 (0)), (2, .int .i64 (0)), (3, .int .i64 (0)), (4, .int .i64 (0)), (5, .int .i64 (0)), (6, .bool false), (7, .bool false), (8, .int .i64 (0)), (9, .int .i64 (0)), (10, .int .i64 (1)), (11, .int .i64 (6)), (12, .int .i64 (0)), (13, .int .i64 (0)), (14, .int .i64 (1)), (15, .int .i64 (1073741824)), (16, .bool false), (17, .bool true), (18, .int .i64 (0)), (19, .int .i64 (0)), (20, .int .i64 (1)), (21, .int .i64 (4)), (22, .int .i64 (0)), (23, .int .i64 (0)), (24, .int .i64 (0)), (25, .int .i64 (0)), (26, .bool false), (27, .bool false), (28, .int .i64 (8)), (29, .int .i64 (1)), (30, .int .i64 (0)), (31, .int .i64 (0)), (32, .int .i64 (1)), (33, .int .i64 (3)), (34, .int .i64 (0)), (35, .int .i64 (0)), (36, .bool false), (37, .bool false), (38, .int .i64 (8)), (39, .int .i64 (2)), (40, .int .i64 (0)), (41, .int .i64 (0)), (42, .int .i64 (1)), (43, .int .i64 (3)), (44, .int .i64 (0)), (45, .int .i64 (0)), (46, .bool true), (47, .bool false), (48, .int .i64 (0)), (49, .int .i64 (1)), (50, .int .i64 (0)), (51, .int .i64 (0)), (52, .int .i64 (4)), (53, .int .i64 (9)), (54, .int .i64 (0)), (55, .int .i64 (0)), (56, .bool true), (57, .bool false), (58, .int .i64 (0)), (59, .int .i64 (1))]
noncomputable def tables : List (Nat × Ev.Tr Value) := [(0, Ev.Tr.putSome tab0), (1, Ev.someInt)]
noncomputable def orcs0 : List (FuncId × Ev.OrcF) := []
theorem reckoned_lives : Ev.tells true (Ev.evFn (Ev.cxOf Tryz.prog [(181, .add64), (182, .sub64), (262, .cmpstr), (257, .noEscape), (188, .mapClone)] [] tables orcs0) 100000 60 (.fn 11) [] ⟨.nil, 100, 100⟩) = true := Ev.of_mix (p := Ev.tells true) (by decide +kernel)
theorem lives_is {q : List (Value × Bool)} : Ev.OrcIs Tryz.prog (Ev.cxOf Tryz.prog [(181, .add64), (182, .sub64), (262, .cmpstr), (257, .noEscape), (188, .mapClone)] [] tables [] q) 11 Ev.trueO := Ev.trueO_is (Ev.enter_of Tryz.func11 (by kernel_rfl) (by kernel_rfl)) (Ev.ext_cons e0 (Ev.ext_cons e1 (Ev.ext_cons e2 (Ev.ext_cons e3 (Ev.ext_cons e4 (Ev.ext_nil _ _ [])))))) mixed reckoned_lives
def ptys : List TypeId := [43]
def t0 : Value := (Ev.sy 1 1 [(.int .u64 (13)), (.int .u64 (3)), (.bool false), (Ev.sy 6 0 [(.int .u64 (2))]), (Ev.sy 6 5 [(Ev.sy 0 0 [(.int .u64 (0))])])])
def t1 : Value := (Ev.sy 1 1 [(.int .u64 (13)), (.int .u64 (3)), (.bool true), (.int .i64 (30)), (Ev.sy 6 0 [(.int .u64 (2))])])
def t2 : Value := (Ev.sy 1 1 [(.int .u64 (13)), (.int .u64 (3)), (.bool true), (.int .i64 (300)), (Ev.sy 6 5 [(Ev.sy 0 6 [(Ev.sy 0 8 [(Ev.sy 0 8 [(Ev.sy 0 7 [(.int .u64 (2)), (Ev.sy 0 0 [(.int .u64 (0))]), (Ev.sy 6 0 [(.int .u64 (2))])]), (.int .u64 (0))]), (.int .u64 (0))])])])])
def t3 : Value := (Ev.sy 1 1 [(.int .u64 (13)), (.int .u64 (3)), (.bool true), (.int .i64 (300)), (Ev.sy 6 5 [(Ev.sy 0 6 [(Ev.sy 0 8 [(Ev.sy 0 8 [(Ev.sy 0 7 [(.int .u64 (2)), (Ev.sy 0 0 [(.int .u64 (0))]), (Ev.sy 6 0 [(.int .u64 (2))])]), (.int .u64 (1))]), (.int .u64 (0))])])])])
def t4 : Value := (Ev.sy 1 1 [(.int .u64 (13)), (.int .u64 (3)), (.bool false), (Ev.sy 6 0 [(.int .u64 (3))]), (Ev.sy 6 5 [(Ev.sy 0 0 [(.int .u64 (0))])])])
def t5 : Value := (Ev.sy 1 1 [(.int .u64 (13)), (.int .u64 (3)), (.bool false), (Ev.sy 6 0 [(.int .u64 (1))]), (Ev.sy 6 0 [(.int .u64 (3))])])
def t6 : Value := (Ev.sy 1 1 [(.int .u64 (13)), (.int .u64 (3)), (.bool true), (.int .i64 (300)), (Ev.sy 6 5 [(Ev.sy 0 6 [(Ev.sy 0 8 [(Ev.sy 0 7 [(.int .u64 (1)), (Ev.sy 0 0 [(.int .u64 (0))]), (Ev.sy 6 0 [(.int .u64 (3))])]), (.int .u64 (0))])])])])
def t7 : Value := (Ev.sy 1 1 [(.int .u64 (13)), (.int .u64 (3)), (.bool true), (.int .i64 (40)), (Ev.sy 6 0 [(.int .u64 (2))])])
def t8 : Value := (Ev.sy 1 9 [(.int .u64 (7)), (Ev.sy 0 0 [(.int .u64 (1))])])
def t9 : Value := (Ev.sy 1 1 [(.int .u64 (11)), (.int .u64 (3)), (.bool true), (Ev.sy 6 0 [(.int .u64 (0))]), (.int .i64 (1))])
def t10 : Value := (Ev.sy 1 1 [(.int .u64 (11)), (.int .u64 (3)), (.bool true), (Ev.sy 6 0 [(.int .u64 (0))]), (.int .i64 (2))])
noncomputable def orcC105 (q : List (Value × Bool)) : List (FuncId × Ev.OrcF) := []
noncomputable def c105a0 : Ev.Asrt := { G := ⟨Ev.Tr.putSome [(0, (Ev.sy 0 0 [(.int .u64 (0))])), (2, (.bool false))], []⟩, Gh := ⟨.nil, 100, 100⟩, fs := (Ev.factsOf Tryz.prog [57] 0 ++ []), B := 1 }
noncomputable def c105a1 : Ev.Asrt := { G := ⟨Ev.Tr.putSome [(0, (Ev.sy 0 0 [(.int .u64 (0))])), (2, (Ev.sy 1 0 [(.int .u64 (1))])), (3, (Ev.sy 6 0 [(.int .u64 (2))]))], []⟩, Gh := ⟨.nil, 100, 100⟩, fs := (Ev.factsOf Tryz.prog [57] 0 ++ [((Ev.sy 1 9 [(.int .u64 (5)), (Ev.sy 6 0 [(.int .u64 (2))])]), true)]), B := 1 }
noncomputable def c105a2 : Ev.Asrt := { G := ⟨Ev.Tr.putSome [(0, (Ev.sy 0 0 [(.int .u64 (0))])), (2, (Ev.sy 1 0 [(.int .u64 (1))])), (3, (Ev.sy 6 0 [(.int .u64 (2))]))], []⟩, Gh := ⟨.nil, 100, 100⟩, fs := (Ev.factsOf Tryz.prog [57] 0 ++ []), B := 1 }
noncomputable def plan105 : Ev.Plan := (.seq (.run .leaf) c105a0 (.seq (.seq (.run .leaf) c105a1 (.block (.loop 2 (Ev.sy 0 0 [(.int .u64 (0))]) 3 (.run (.node t0 (.node t1 .leaf (.node t2 .leaf (.node t3 .leaf .leaf))) .leaf))))) c105a2 (.run .leaf)))
theorem chk105 : Ev.chk Tryz.prog [(181, .add64), (182, .sub64), (262, .cmpstr), (257, .noEscape), (188, .mapClone)] [] tables orcC105 (fun _ _ => none) 100000 60 (Ev.fiGet Tryz.prog 105).ntmps (Ev.anyB Tryz.prog [(181, .add64), (182, .sub64), (262, .cmpstr), (257, .noEscape), (188, .mapClone)] [] tables orcC105 (fun _ _ => none) (Ev.fiGet Tryz.prog 105)) plan105 (Ev.fiGet Tryz.prog 105).body { G := ⟨Ev.Tr.putList (Ev.symArgs Tryz.prog [57] 0) .nil 0, []⟩, Gh := ⟨.nil, 100, 100⟩, fs := Ev.factsOf Tryz.prog [57] 0, B := 1 } { nrm := none, exs := [] } = true := by decide +kernel
theorem any105 {orc : List (FuncId × Ev.OrcF)} {q : List (Value × Bool)} {W : Nat → List Value → Option Value} : Ev.OrcIs Tryz.prog (Ev.cxOf Tryz.prog [(181, .add64), (182, .sub64), (262, .cmpstr), (257, .noEscape), (188, .mapClone)] [] tables orc q W) 105 (Ev.anyO Tryz.prog [57] q) :=
  Ev.any_is (orc := orcC105) (U := (fun _ _ => none)) (fun q => (Ev.ext_cons e0 (Ev.ext_cons e1 (Ev.ext_cons e2 (Ev.ext_cons e3 (Ev.ext_cons e4 (Ev.ext_nil _ _ q))))))) mixed (Ev.enter_of Tryz.func105 (by kernel_rfl) (by kernel_rfl)) (Ev.fiGet_ok (by decide +kernel) _ _ _ _ _ _) (by decide +kernel) (by decide +kernel) chk105
noncomputable def orcC15 (q : List (Value × Bool)) : List (FuncId × Ev.OrcF) := [(105, Ev.anyO Tryz.prog [57] q)]
noncomputable def c15a0 : Ev.Asrt := { G := ⟨Ev.Tr.putSome [(0, (Ev.sy 0 0 [(.int .u64 (0))])), (1, (Ev.sy 6 0 [(.int .u64 (1))])), (4, (.bool false))], []⟩, Gh := ⟨.nil, 100, 100⟩, fs := (Ev.factsOf Tryz.prog [35, 3] 0 ++ []), B := 2 }
noncomputable def c15a1 : Ev.Asrt := { G := ⟨Ev.Tr.putSome [(0, (Ev.sy 0 0 [(.int .u64 (0))])), (1, (Ev.sy 6 0 [(.int .u64 (1))])), (4, (Ev.sy 1 0 [(.int .u64 (2))])), (5, (Ev.sy 6 0 [(.int .u64 (3))]))], []⟩, Gh := ⟨.nil, 100, 100⟩, fs := (Ev.factsOf Tryz.prog [35, 3] 0 ++ [((Ev.sy 1 9 [(.int .u64 (5)), (Ev.sy 6 0 [(.int .u64 (3))])]), true)]), B := 2 }
noncomputable def c15a2 : Ev.Asrt := { G := ⟨Ev.Tr.putSome [(0, (Ev.sy 0 0 [(.int .u64 (0))])), (1, (Ev.sy 6 0 [(.int .u64 (1))])), (4, (Ev.sy 1 0 [(.int .u64 (2))])), (5, (Ev.sy 6 0 [(.int .u64 (3))]))], []⟩, Gh := ⟨.nil, 100, 100⟩, fs := (Ev.factsOf Tryz.prog [35, 3] 0 ++ []), B := 2 }
noncomputable def plan15 : Ev.Plan := (.seq (.run .leaf) c15a0 (.seq (.seq (.run .leaf) c15a1 (.block (.loop 3 (Ev.sy 0 0 [(.int .u64 (0))]) 4 (.run (.node t4 (.node t5 .leaf (.node t6 .leaf .leaf)) .leaf))))) c15a2 (.run .leaf)))
theorem chk15 : Ev.chk Tryz.prog [(181, .add64), (182, .sub64), (262, .cmpstr), (257, .noEscape), (188, .mapClone)] [] tables orcC15 (fun _ _ => none) 100000 60 (Ev.fiGet Tryz.prog 15).ntmps (Ev.anyB Tryz.prog [(181, .add64), (182, .sub64), (262, .cmpstr), (257, .noEscape), (188, .mapClone)] [] tables orcC15 (fun _ _ => none) (Ev.fiGet Tryz.prog 15)) plan15 (Ev.fiGet Tryz.prog 15).body { G := ⟨Ev.Tr.putList (Ev.symArgs Tryz.prog [35, 3] 0) .nil 0, []⟩, Gh := ⟨.nil, 100, 100⟩, fs := Ev.factsOf Tryz.prog [35, 3] 0, B := 2 } { nrm := none, exs := [] } = true := by decide +kernel
theorem any15 {orc : List (FuncId × Ev.OrcF)} {q : List (Value × Bool)} {W : Nat → List Value → Option Value} : Ev.OrcIs Tryz.prog (Ev.cxOf Tryz.prog [(181, .add64), (182, .sub64), (262, .cmpstr), (257, .noEscape), (188, .mapClone)] [] tables orc q W) 15 (Ev.anyO Tryz.prog [35, 3] q) :=
  Ev.any_is (orc := orcC15) (U := (fun _ _ => none)) (fun q => (Ev.orc_cons any105 (Ev.ext_cons e0 (Ev.ext_cons e1 (Ev.ext_cons e2 (Ev.ext_cons e3 (Ev.ext_cons e4 (Ev.ext_nil _ _ q)))))))) mixed (Ev.enter_of Tryz.func15 (by kernel_rfl) (by kernel_rfl)) (Ev.fiGet_ok (by decide +kernel) _ _ _ _ _ _) (by decide +kernel) (by decide +kernel) chk15
noncomputable def orcC54 (q : List (Value × Bool)) : List (FuncId × Ev.OrcF) := [(105, Ev.anyO Tryz.prog [57] q), (15, Ev.anyO Tryz.prog [35, 3] q)]
noncomputable def c54a0 : Ev.Asrt := { G := ⟨Ev.Tr.putSome [(0, (Ev.sy 0 0 [(.int .u64 (0))])), (1, (Ev.sy 6 0 [(.int .u64 (1))])), (4, (.bool false))], []⟩, Gh := ⟨.nil, 100, 100⟩, fs := (Ev.factsOf Tryz.prog [26, 3] 0 ++ []), B := 2 }
noncomputable def c54a1 : Ev.Asrt := { G := ⟨Ev.Tr.putSome [(0, (Ev.sy 0 0 [(.int .u64 (0))])), (1, (Ev.sy 6 0 [(.int .u64 (1))])), (4, (Ev.sy 1 0 [(.int .u64 (2))])), (5, (Ev.sy 6 0 [(.int .u64 (3))]))], []⟩, Gh := ⟨.nil, 100, 100⟩, fs := (Ev.factsOf Tryz.prog [26, 3] 0 ++ [((Ev.sy 1 9 [(.int .u64 (5)), (Ev.sy 6 0 [(.int .u64 (3))])]), true)]), B := 2 }
noncomputable def c54a2 : Ev.Asrt := { G := ⟨Ev.Tr.putSome [(0, (Ev.sy 0 0 [(.int .u64 (0))])), (1, (Ev.sy 6 0 [(.int .u64 (1))])), (4, (Ev.sy 1 0 [(.int .u64 (2))])), (5, (Ev.sy 6 0 [(.int .u64 (3))]))], []⟩, Gh := ⟨.nil, 100, 100⟩, fs := (Ev.factsOf Tryz.prog [26, 3] 0 ++ []), B := 2 }
noncomputable def plan54 : Ev.Plan := (.seq (.run .leaf) c54a0 (.seq (.seq (.run .leaf) c54a1 (.block (.loop 3 (Ev.sy 0 0 [(.int .u64 (0))]) 4 (.run (.node t4 (.node t5 .leaf .leaf) .leaf))))) c54a2 (.run .leaf)))
theorem chk54 : Ev.chk Tryz.prog [(181, .add64), (182, .sub64), (262, .cmpstr), (257, .noEscape), (188, .mapClone)] [] tables orcC54 (fun _ _ => none) 100000 60 (Ev.fiGet Tryz.prog 54).ntmps (Ev.anyB Tryz.prog [(181, .add64), (182, .sub64), (262, .cmpstr), (257, .noEscape), (188, .mapClone)] [] tables orcC54 (fun _ _ => none) (Ev.fiGet Tryz.prog 54)) plan54 (Ev.fiGet Tryz.prog 54).body { G := ⟨Ev.Tr.putList (Ev.symArgs Tryz.prog [26, 3] 0) .nil 0, []⟩, Gh := ⟨.nil, 100, 100⟩, fs := Ev.factsOf Tryz.prog [26, 3] 0, B := 2 } { nrm := none, exs := [] } = true := by decide +kernel
theorem any54 {orc : List (FuncId × Ev.OrcF)} {q : List (Value × Bool)} {W : Nat → List Value → Option Value} : Ev.OrcIs Tryz.prog (Ev.cxOf Tryz.prog [(181, .add64), (182, .sub64), (262, .cmpstr), (257, .noEscape), (188, .mapClone)] [] tables orc q W) 54 (Ev.anyO Tryz.prog [26, 3] q) :=
  Ev.any_is (orc := orcC54) (U := (fun _ _ => none)) (fun q => (Ev.orc_cons any105 (Ev.orc_cons any15 (Ev.ext_cons e0 (Ev.ext_cons e1 (Ev.ext_cons e2 (Ev.ext_cons e3 (Ev.ext_cons e4 (Ev.ext_nil _ _ q))))))))) mixed (Ev.enter_of Tryz.func54 (by kernel_rfl) (by kernel_rfl)) (Ev.fiGet_ok (by decide +kernel) _ _ _ _ _ _) (by decide +kernel) (by decide +kernel) chk54
noncomputable def orcC14 (q : List (Value × Bool)) : List (FuncId × Ev.OrcF) := [(105, Ev.anyO Tryz.prog [57] q), (15, Ev.anyO Tryz.prog [35, 3] q), (54, Ev.anyO Tryz.prog [26, 3] q)]
noncomputable def c14a0 : Ev.Asrt := { G := ⟨Ev.Tr.putSome [(0, (Ev.sy 0 0 [(.int .u64 (0))])), (2, (.bool false))], []⟩, Gh := ⟨.nil, 100, 100⟩, fs := (Ev.factsOf Tryz.prog [36] 0 ++ []), B := 1 }
noncomputable def c14a1 : Ev.Asrt := { G := ⟨Ev.Tr.putSome [(0, (Ev.sy 0 0 [(.int .u64 (0))])), (2, (Ev.sy 1 0 [(.int .u64 (1))])), (3, (Ev.sy 6 0 [(.int .u64 (2))]))], []⟩, Gh := ⟨.nil, 100, 100⟩, fs := (Ev.factsOf Tryz.prog [36] 0 ++ [((Ev.sy 1 9 [(.int .u64 (5)), (Ev.sy 6 0 [(.int .u64 (2))])]), true)]), B := 1 }
noncomputable def c14a2 : Ev.Asrt := { G := ⟨Ev.Tr.putSome [(0, (Ev.sy 0 0 [(.int .u64 (0))])), (2, (Ev.sy 1 0 [(.int .u64 (1))])), (3, (Ev.sy 6 0 [(.int .u64 (2))]))], []⟩, Gh := ⟨.nil, 100, 100⟩, fs := (Ev.factsOf Tryz.prog [36] 0 ++ []), B := 1 }
noncomputable def plan14 : Ev.Plan := (.seq (.run .leaf) c14a0 (.seq (.seq (.run .leaf) c14a1 (.block (.loop 2 (Ev.sy 0 0 [(.int .u64 (0))]) 3 (.run (.node t0 (.node t7 .leaf .leaf) .leaf))))) c14a2 (.run .leaf)))
theorem chk14 : Ev.chk Tryz.prog [(181, .add64), (182, .sub64), (262, .cmpstr), (257, .noEscape), (188, .mapClone)] [] tables orcC14 (fun _ _ => none) 100000 60 (Ev.fiGet Tryz.prog 14).ntmps (Ev.anyB Tryz.prog [(181, .add64), (182, .sub64), (262, .cmpstr), (257, .noEscape), (188, .mapClone)] [] tables orcC14 (fun _ _ => none) (Ev.fiGet Tryz.prog 14)) plan14 (Ev.fiGet Tryz.prog 14).body { G := ⟨Ev.Tr.putList (Ev.symArgs Tryz.prog [36] 0) .nil 0, []⟩, Gh := ⟨.nil, 100, 100⟩, fs := Ev.factsOf Tryz.prog [36] 0, B := 1 } { nrm := none, exs := [] } = true := by decide +kernel
theorem any14 {orc : List (FuncId × Ev.OrcF)} {q : List (Value × Bool)} {W : Nat → List Value → Option Value} : Ev.OrcIs Tryz.prog (Ev.cxOf Tryz.prog [(181, .add64), (182, .sub64), (262, .cmpstr), (257, .noEscape), (188, .mapClone)] [] tables orc q W) 14 (Ev.anyO Tryz.prog [36] q) :=
  Ev.any_is (orc := orcC14) (U := (fun _ _ => none)) (fun q => (Ev.orc_cons any105 (Ev.orc_cons any15 (Ev.orc_cons any54 (Ev.ext_cons e0 (Ev.ext_cons e1 (Ev.ext_cons e2 (Ev.ext_cons e3 (Ev.ext_cons e4 (Ev.ext_nil _ _ q)))))))))) mixed (Ev.enter_of Tryz.func14 (by kernel_rfl) (by kernel_rfl)) (Ev.fiGet_ok (by decide +kernel) _ _ _ _ _ _) (by decide +kernel) (by decide +kernel) chk14
noncomputable def orcsQ (q : List (Value × Bool)) : List (FuncId × Ev.OrcF) := [(11, Ev.trueO), (105, Ev.anyO Tryz.prog [57] q), (15, Ev.anyO Tryz.prog [35, 3] q), (54, Ev.anyO Tryz.prog [26, 3] q), (14, Ev.anyO Tryz.prog [36] q)]
noncomputable def tree : Ev.PT := (.node t8 (.node t9 .leaf (.node t10 .leaf .leaf)) (.node t9 .leaf (.node t10 .leaf .leaf)))
noncomputable def cls : List (Nat × List (Value × Bool)) := []
theorem cls_ok : (cls.all fun c => Ev.deadC c.2 c.1 && Ev.hasI c.1 (Ev.symArgs Tryz.prog ptys 0)) = true := by decide +kernel
theorem reckoned : Ev.walkT (fun q => Ev.tellsA (Ev.cxOf Tryz.prog [(181, .add64), (182, .sub64), (262, .cmpstr), (257, .noEscape), (188, .mapClone)] [] tables (orcsQ q) q (fun _ _ => none)) true (Ev.evFn (Ev.cxOf Tryz.prog [(181, .add64), (182, .sub64), (262, .cmpstr), (257, .noEscape), (188, .mapClone)] [] tables (orcsQ q) q (fun _ _ => none)) 100000 60 (.fn 5) (Ev.symArgs Tryz.prog ptys 0) ⟨.nil, 100, 100⟩)) (cls.map (·.2)) tree (Ev.factsOf Tryz.prog ptys 0) = true := by decide +kernel

theorem of_laid {W : World} (h : laidMetH Tryz.prog Rows.joinNilRow.laid W) (hsh : W.ShapedOpen Tryz.prog) : ∀ g t, (g, t) ∈ tables → ∃ cs ty fr, W.heap[g]? = some (.cells cs ty fr) ∧ ∀ (i : Nat) (v : Value), t.get i = some v → Ev.GC v cs[i]? := by
  rw [MakeChecks.laidMetH_plain _ _ _ (by kernel_rfl)] at h
  intro g t hm
  simp only [tables, List.mem_cons, List.not_mem_nil, or_false, Prod.mk.injEq] at hm
  rcases hm with ⟨rfl, rfl⟩ | ⟨rfl, rfl⟩
  · exact Ev.table_any h (nm := "waterwheel/ast.shapes") (n := 9) (t := 219) (tab := tab0) (by simp [Rows.joinNilRow]; rfl) (by kernel_rfl) (by kernel_rfl) (by kernel_rfl) (by kernel_rfl)
  · exact Ev.someInt_of (cell_of_shapedOpen_int (zero := #[.int .i64 0]) (t := 3) hsh (of_decide_eq_true (by kernel_rfl)) (by kernel_rfl) rfl (by kernel_rfl) (by kernel_rfl) Tryz.underlying3)
set_option maxRecDepth 100000 in
theorem walk (w : World) (r : Reach) (b0 : Nat) (args : List Value) (hl : ptys.length = args.length)
    (hok : ∀ (j : Nat) t v, ptys[j]? = some t → args[j]? = some v → Value.okWide Tryz.prog w r b0 t v) (hd : ∀ (j : Nat) t v, ptys[j]? = some t → args[j]? = some v → ∃ f, Ev.Rds Tryz.prog (fun a => w.cell? a) f t (Ev.vcells v)) (h : laidMetH Tryz.prog Rows.joinNilRow.laid w) (hsh : w.ShapedOpen Tryz.prog) :
    Calls Tryz.prog 5 ⟨args⟩ w fun e w' => e = .returned (.bool true) ∧ Below w.heap.size w w' := by
  obtain ⟨s, hs, hf⟩ := Ev.sym_deep hl hok hd (u := Ev.uRd (Ev.cxOf Tryz.prog [(181, .add64), (182, .sub64), (262, .cmpstr), (257, .noEscape), (188, .mapClone)] [] tables (orcsQ []) [] (fun _ _ => none)) (fun a => w.cell? a)) (fun vs => Ev.uRd_rd _ _ 8 vs (by omega))
  exact Ev.toldR (orc := orcsQ) (fun q => (Ev.orc_cons lives_is (Ev.orc_cons any105 (Ev.orc_cons any15 (Ev.orc_cons any54 (Ev.orc_cons any14 (Ev.ext_cons e0 (Ev.ext_cons e1 (Ev.ext_cons e2 (Ev.ext_cons e3 (Ev.ext_cons e4 (Ev.ext_nil _ _ q)))))))))))) mixed cls_ok reckoned (Ev.old_all w) hs hf (of_laid h hsh)

/-- The door's own heap meets the condition. -/
theorem door_met (os : Os) (args : Array Value) : laidMetH Tryz.prog Rows.joinNilRow.laid ((World.doorLaid Tryz.prog 2000 os).forCall (fun _ _ => 0) ⟨#[], args, []⟩).memory :=
  laidMetH_of_parts3 (fuel := 8) (laidMet_of_run3 8 (by kernel_rfl) (by kernel_rfl) (by kernel_rfl)) (by kernel_rfl) (by kernel_rfl)

set_option maxRecDepth 100000 in
theorem lifted (os : Os) (started : os.Started) (H : Type) (enc : TypeId × Value → H) :
    ReturnsInHanded {} Tryz.checked os 5 .any (fun w args => (Rows.joinNilSpec.pre enc Tryz.prog Tryz.f5 [] false w args ∧ laidMetH Tryz.prog Rows.joinNilRow.laid w) ∧ sizedMet enc Tryz.prog Tryz.f5 (OpenSpec.ofChange Rows.joinNilSpec) false w args)
      (Rows.joinNilSpec.post enc Tryz.prog Tryz.f5 false true false false) := by
  refine Ev.handed_and_shaped (C := Tryz.checked) (X := fun w _ => laidMetH Tryz.prog Rows.joinNilRow.laid w) (fun _ _ _ hh h => h.of_heap hh) own started (by kernel_rfl) Tryz.func5
    (ChangeSpec.witness_shaped (enc := enc) (C := Tryz.checked) (os := os) (X := fun w _ => laidMetH Tryz.prog Rows.joinNilRow.laid w) false (World.doorLaid Tryz.prog 2000 os) ⟨Ev.zeroArgs Tryz.prog ptys⟩ 8 rfl (World.shaped_of_RefB (by kernel_rfl) (by kernel_rfl)) (by kernel_rfl) (by kernel_rfl) (by kernel_rfl) (door_met os _)) ?_
  intro W base args ds gs before hval0 hW hcnd hwts hL hsh _
  have hval : ∀ (j : Nat) t v, Tryz.f5.params[j]? = some t → args[j]? = some v → Value.okWide Tryz.prog W .any base t v := hval0
  have hW' := hW
  obtain ⟨p, q, hA0, hV, rfl, hfz, hnd⟩ := hW
  have hA : DataW.TrodAll enc Tryz.prog W 0 (fun _ => true) true Tryz.f5.params.toList args.toList ds p := hA0
  rw [Tryz.params5] at hA hval
  obtain ⟨v0, vs0, d0, ds0, p0, q0, hargs, rfl, rfl, h0, r0⟩ := trodAll_cons hA
  obtain ⟨rfl, rfl, rfl⟩ := trodAll_nil r0
  obtain rfl : args = #[v0] := by cases args; simp_all
  obtain ⟨rfl, rfl⟩ := trodVars_none hV
  have lt0 : ∀ x ∈ p0, x.block < W.heap.size := by obtain ⟨m, hm⟩ := h0; exact DataW.trod_lt m _ _ _ hm
  clear hA0 hval0
  simp only [List.append_nil] at hW'
  refine (walk W .any base [v0] rfl (fun j t v a b => hval j t v (by simpa [ptys] using a) (by simpa using b)) (by have hw : (DataW.weightsEach Tryz.prog [43] [d0]).all (· ≤ reachBytes) = true := hwts; exact (Ev.deepL_cons h0 hw (fun hw => Ev.deepL_nil hw))) hL hsh).mono fun e W' ⟨he, bel⟩ => ?_
  subst he
  exact ⟨_, rfl, _, _, _, [], _, [], hW', trodAll_mk1 (shut_bool Tryz.underlying4 _), (trodAll_cons_mk (Below.trod laidOut (by kernel_rfl) (of_decide_eq_true (by kernel_rfl)) h0 bel lt0) trodAll_mk0), rfl, bel.frame _, fun h => by cases h⟩

theorem over : Rows.JoinNilSaid :=
  OpenClaim.holds_of_wide 5 Tryz.f5 rfl rfl rfl rfl rfl rfl rfl ⟨rfl, rfl, rfl, rfl, rfl⟩ rfl rfl rfl rfl rfl (by kernel_rfl) Tryz.func5 (by kernel_rfl)
    (of_decide_eq_true (by kernel_rfl)) (by unfold Func.isWrapper; first | (rw [if_pos (by decide +kernel)]; kernel_rfl) | (rw [if_neg (by decide +kernel)]; exact ⟨rfl, rfl⟩))
    (fun os started H enc _ => lifted os started H enc)

theorem proved : Rows.JoinNilCardSaid :=
  Claim7.holds_tied_plain_at .later [] [.data] true (true, "4483014b9188c1261b331cb7a45cc7f7654d41be9b99b3eb37d46412a0ade2b7") true
    over (fun _ h => by cases h) (by kernel_rfl) (fun _ h => by cases h) joinNil_row_tie rfl ⟨rfl, rfl⟩ (by kernel_rfl) rfl
    (fun f fn hf hfn => by
      obtain rfl : f = 5 := Option.some.inj ((show Tryz.prog.funcNamed "waterwheel/waterwheellaw16.JoinNil" = some 5 by kernel_rfl).symm.trans hf) |>.symm
      obtain rfl : fn = Tryz.f5 := (Option.some.inj (Tryz.func5.symm.trans hfn)).symm
      exact ⟨by kernel_rfl, fun j t ht => by
        rw [Tryz.params5] at ht
        rcases j with _ | j
        all_goals first
          | (simp at ht; done)
          | (simp at ht; subst ht; kernel_rfl)⟩)
    (by kernel_rfl)
#print axioms proved
end Go.Proofs.YtjboijmajphelaaGreatDoor.joinNil
