/- For every input: at the landed commit the Go function waterwheellaw18.OperNil returns true, and its arguments read behind the call as before, where the tables of Go's library that the row lists hold what the card ties to the program's text. No other condition. The call is reckoned with arguments that are not known. -/
import Derived.Test.YtnheckeemhphlaaGreatDoorRows
import Derived.Test.YtnheckeemhphlaaGreatDoorEvJo
import Derived.Test.YtnheckeemhphlaaGreatDoorEvFa
import Derived.Test.YtnheckeemhphlaaGreatDoorCards
import Derived.Test.YtnheckeemhphlaaGreatDoorTie
import Derived.Test.YtnheckeemhphlaaGreatDoorEvAl
import Derived.ShutString
import Derived.ChangeOld
import Derived.Lib.SmallJoins
import Derived.ProofKit
import Derived.OpenShut
import Derived.LaidMore
import Derived.SevenTiedAt
import Derived.Deep.DeepLaidRun
namespace Go.Proofs.YtnheckeemhphlaaGreatDoor.operNil
open Go.ChangeShapes Go.WideShapes Go.ChangeAt Go.RowKit Go.Deep Go.Joins
set_option linter.unusedVariables false
set_option linter.unusedSimpArgs false

theorem own : ownKnob Tryz.prog.godebug = none := by kernel_rfl
theorem laidOut : laidOutB Tryz.prog = true := by kernel_rfl
theorem mixed : Tryz.prog.follows .mixedOrders = true := by kernel_rfl

theorem e0 : Ev.ExtIs Tryz.prog 299 .add64 := ⟨_, Tryz.func299, by kernel_rfl, rfl, by kernel_rfl, by kernel_rfl⟩
theorem e1 : Ev.ExtIs Tryz.prog 302 .sub64 := ⟨_, Tryz.func302, by kernel_rfl, rfl, by kernel_rfl, by kernel_rfl⟩
theorem e2 : Ev.ExtIs Tryz.prog 210 .cmpstr := ⟨_, Tryz.func210, by kernel_rfl, rfl, by kernel_rfl, by kernel_rfl⟩
theorem e3 : Ev.ExtIs Tryz.prog 253 .noEscape := ⟨_, Tryz.func253, by kernel_rfl, rfl, by kernel_rfl, by kernel_rfl⟩
theorem e4 : Ev.ExtIs Tryz.prog 195 .mapClone := ⟨_, Tryz.func195, by kernel_rfl, rfl, by kernel_rfl, by kernel_rfl⟩
theorem e5 : Ev.ExtIs Tryz.prog 130 (.overlaps 122) := ⟨_, Tryz.func130, by kernel_rfl, rfl, by kernel_rfl, by kernel_rfl⟩
def tab0 : List (Nat × Value) := [(0, .int .i64 (0)), (1, .int .i64 (0)), (2, .int .i64 (0)), (3, .int .i64 (0)), (4, .int .i64 (0)), (5, .int .i64 (0)), (6, .bool false), (7, .bool false), (8, .int .i64 (0)), (9, .int .i64 (0)), (10, .int .i64 (1)), (11, .int .i64 (6)), (12, .int .i64 (0)), (13, .int .i64 (0)), (14, .int .i64 (1)), (15, .int .i64 (1073741824)), (16, .bool false), (17, .bool true), (18, .int .i64 (0)), (19, .int .i64 (0)), (20, .int .i64 (1)), (21, .int .i64 (4)), (22, .int .i64 (0)), (23, .int .i64 (0)), (24, .int .i64 (0)), (25, .int .i64 (0)), (26, .bool false), (27, .bool false), (28, .int .i64 (8)), (29, .int .i64 (1)), (30, .int .i64 (0)), (31, .int .i64 (0)), (32, .int .i64 (1)), (33, .int .i64 (3)), (34, .int .i64 (0)), (35, .int .i64 (0)), (36, .bool false), (37, .bool false), (38, .int .i64 (8)), (39, .int .i64 (2)), (40, .int .i64 (0)), (41, .int .i64 (0)), (42, .int .i64 (1)), (43, .int .i64 (3)), (44, .int .i64 (0)), (45, .int .i64 (0)), (46, .bool true), (47, .bool false), (48, .int .i64 (0)), (49, .int .i64 (1)), (50, .int .i64 (0)), (51, .int .i64 (0)), (52, .int .i64 (4)), (53, .int .i64 (9)), (54, .int .i64 (0)), (55, .int .i64 (0)), (56, .bool true), (57, .bool false), (58, .int .i64 (0)), (59, .int .i64 (1))]
noncomputable def tables : List (Nat × Ev.Tr Value) := [(0, Ev.Tr.putSome tab0), (1, Ev.someInt)]
noncomputable def orcs0 : List (FuncId × Ev.OrcF) := []
theorem reckoned_lives : Ev.tells true (Ev.evFn (Ev.cxOf Tryz.prog [(299, .add64), (302, .sub64), (210, .cmpstr), (253, .noEscape), (195, .mapClone), (130, (.overlaps 122))] [] tables orcs0) 100000 60 (.fn 5) [] ⟨.nil, 100, 100⟩) = true := Ev.of_mix (p := Ev.tells true) (by decide +kernel)
theorem lives_is {q : List (Value × Bool)} : Ev.OrcIs Tryz.prog (Ev.cxOf Tryz.prog [(299, .add64), (302, .sub64), (210, .cmpstr), (253, .noEscape), (195, .mapClone), (130, (.overlaps 122))] [] tables [] q) 5 Ev.trueO := Ev.trueO_is (Ev.enter_of Tryz.func5 (by kernel_rfl) (by kernel_rfl)) (Ev.ext_cons e0 (Ev.ext_cons e1 (Ev.ext_cons e2 (Ev.ext_cons e3 (Ev.ext_cons e4 (Ev.ext_cons e5 (Ev.ext_nil _ _ []))))))) mixed reckoned_lives
def ptys : List TypeId := [31]
def t0 : Value := (Ev.sy 1 1 [(.int .u64 (13)), (.int .u64 (3)), (.bool false), (Ev.sy 6 0 [(.int .u64 (2))]), (Ev.sy 6 5 [(Ev.sy 0 0 [(.int .u64 (0))])])])
def t1 : Value := (Ev.sy 1 1 [(.int .u64 (13)), (.int .u64 (3)), (.bool true), (.int .i64 (30)), (Ev.sy 6 0 [(.int .u64 (2))])])
def t2 : Value := (Ev.sy 1 1 [(.int .u64 (13)), (.int .u64 (3)), (.bool true), (.int .i64 (300)), (Ev.sy 6 5 [(Ev.sy 0 6 [(Ev.sy 0 8 [(Ev.sy 0 8 [(Ev.sy 0 7 [(.int .u64 (2)), (Ev.sy 0 0 [(.int .u64 (0))]), (Ev.sy 6 0 [(.int .u64 (2))])]), (.int .u64 (0))]), (.int .u64 (0))])])])])
def t3 : Value := (Ev.sy 1 1 [(.int .u64 (13)), (.int .u64 (3)), (.bool true), (.int .i64 (300)), (Ev.sy 6 5 [(Ev.sy 0 6 [(Ev.sy 0 8 [(Ev.sy 0 8 [(Ev.sy 0 7 [(.int .u64 (2)), (Ev.sy 0 0 [(.int .u64 (0))]), (Ev.sy 6 0 [(.int .u64 (2))])]), (.int .u64 (1))]), (.int .u64 (0))])])])])
def t4 : Value := (Ev.sy 1 1 [(.int .u64 (13)), (.int .u64 (3)), (.bool false), (Ev.sy 6 0 [(.int .u64 (3))]), (Ev.sy 6 5 [(Ev.sy 0 0 [(.int .u64 (0))])])])
def t5 : Value := (Ev.sy 1 1 [(.int .u64 (13)), (.int .u64 (3)), (.bool false), (Ev.sy 6 0 [(.int .u64 (1))]), (Ev.sy 6 0 [(.int .u64 (3))])])
def t6 : Value := (Ev.sy 1 1 [(.int .u64 (13)), (.int .u64 (3)), (.bool true), (.int .i64 (300)), (Ev.sy 6 5 [(Ev.sy 0 6 [(Ev.sy 0 8 [(Ev.sy 0 8 [(Ev.sy 0 8 [(Ev.sy 0 7 [(.int .u64 (4)), (Ev.sy 0 0 [(.int .u64 (0))]), (Ev.sy 6 0 [(.int .u64 (3))])]), (.int .u64 (0))]), (.int .u64 (0))]), (.int .u64 (0))])])])])
def t7 : Value := (Ev.sy 1 1 [(.int .u64 (13)), (.int .u64 (3)), (.bool true), (.int .i64 (40)), (Ev.sy 6 0 [(.int .u64 (2))])])
noncomputable def orcC60 (q : List (Value × Bool)) : List (FuncId × Ev.OrcF) := []
noncomputable def c60a0 : Ev.Asrt := { G := ⟨Ev.Tr.putSome [(0, (Ev.sy 0 0 [(.int .u64 (0))])), (2, (.bool false))], []⟩, Gh := ⟨.nil, 100, 100⟩, fs := (Ev.factsOf Tryz.prog [22] 0 ++ []), B := 1 }
noncomputable def c60a1 : Ev.Asrt := { G := ⟨Ev.Tr.putSome [(0, (Ev.sy 0 0 [(.int .u64 (0))])), (2, (Ev.sy 1 0 [(.int .u64 (1))])), (3, (Ev.sy 6 0 [(.int .u64 (2))]))], []⟩, Gh := ⟨.nil, 100, 100⟩, fs := (Ev.factsOf Tryz.prog [22] 0 ++ [((Ev.sy 1 9 [(.int .u64 (5)), (Ev.sy 6 0 [(.int .u64 (2))])]), true)]), B := 1 }
noncomputable def c60a2 : Ev.Asrt := { G := ⟨Ev.Tr.putSome [(0, (Ev.sy 0 0 [(.int .u64 (0))])), (2, (Ev.sy 1 0 [(.int .u64 (1))])), (3, (Ev.sy 6 0 [(.int .u64 (2))]))], []⟩, Gh := ⟨.nil, 100, 100⟩, fs := (Ev.factsOf Tryz.prog [22] 0 ++ []), B := 1 }
noncomputable def plan60 : Ev.Plan := (.seq (.run .leaf) c60a0 (.seq (.seq (.run .leaf) c60a1 (.block (.loop 2 (Ev.sy 0 0 [(.int .u64 (0))]) 3 (.run (.node t0 (.node t1 .leaf (.node t2 .leaf (.node t3 .leaf .leaf))) .leaf))))) c60a2 (.run .leaf)))
theorem chk60 : Ev.chk Tryz.prog [(299, .add64), (302, .sub64), (210, .cmpstr), (253, .noEscape), (195, .mapClone), (130, (.overlaps 122))] [] tables orcC60 (fun _ _ => none) 100000 60 (Ev.fiGet Tryz.prog 60).ntmps (Ev.anyB Tryz.prog [(299, .add64), (302, .sub64), (210, .cmpstr), (253, .noEscape), (195, .mapClone), (130, (.overlaps 122))] [] tables orcC60 (fun _ _ => none) (Ev.fiGet Tryz.prog 60)) plan60 (Ev.fiGet Tryz.prog 60).body { G := ⟨Ev.Tr.putList (Ev.symArgs Tryz.prog [22] 0) .nil 0, []⟩, Gh := ⟨.nil, 100, 100⟩, fs := Ev.factsOf Tryz.prog [22] 0, B := 1 } { nrm := none, exs := [] } = true := by decide +kernel
theorem any60 {orc : List (FuncId × Ev.OrcF)} {q : List (Value × Bool)} {W : Nat → List Value → Option Value} : Ev.OrcIs Tryz.prog (Ev.cxOf Tryz.prog [(299, .add64), (302, .sub64), (210, .cmpstr), (253, .noEscape), (195, .mapClone), (130, (.overlaps 122))] [] tables orc q W) 60 (Ev.anyO Tryz.prog [22] q) :=
  Ev.any_is (orc := orcC60) (U := (fun _ _ => none)) (fun q => (Ev.ext_cons e0 (Ev.ext_cons e1 (Ev.ext_cons e2 (Ev.ext_cons e3 (Ev.ext_cons e4 (Ev.ext_cons e5 (Ev.ext_nil _ _ q)))))))) mixed (Ev.enter_of Tryz.func60 (by kernel_rfl) (by kernel_rfl)) (Ev.fiGet_ok (by decide +kernel) _ _ _ _ _ _) (by decide +kernel) (by decide +kernel) chk60
noncomputable def orcC26 (q : List (Value × Bool)) : List (FuncId × Ev.OrcF) := [(60, Ev.anyO Tryz.prog [22] q)]
noncomputable def c26a0 : Ev.Asrt := { G := ⟨Ev.Tr.putSome [(0, (Ev.sy 0 0 [(.int .u64 (0))])), (1, (Ev.sy 6 0 [(.int .u64 (1))])), (4, (.bool false))], []⟩, Gh := ⟨.nil, 100, 100⟩, fs := (Ev.factsOf Tryz.prog [27, 3] 0 ++ []), B := 2 }
noncomputable def c26a1 : Ev.Asrt := { G := ⟨Ev.Tr.putSome [(0, (Ev.sy 0 0 [(.int .u64 (0))])), (1, (Ev.sy 6 0 [(.int .u64 (1))])), (4, (Ev.sy 1 0 [(.int .u64 (2))])), (5, (Ev.sy 6 0 [(.int .u64 (3))]))], []⟩, Gh := ⟨.nil, 100, 100⟩, fs := (Ev.factsOf Tryz.prog [27, 3] 0 ++ [((Ev.sy 1 9 [(.int .u64 (5)), (Ev.sy 6 0 [(.int .u64 (3))])]), true)]), B := 2 }
noncomputable def c26a2 : Ev.Asrt := { G := ⟨Ev.Tr.putSome [(0, (Ev.sy 0 0 [(.int .u64 (0))])), (1, (Ev.sy 6 0 [(.int .u64 (1))])), (4, (Ev.sy 1 0 [(.int .u64 (2))])), (5, (Ev.sy 6 0 [(.int .u64 (3))]))], []⟩, Gh := ⟨.nil, 100, 100⟩, fs := (Ev.factsOf Tryz.prog [27, 3] 0 ++ []), B := 2 }
noncomputable def plan26 : Ev.Plan := (.seq (.run .leaf) c26a0 (.seq (.seq (.run .leaf) c26a1 (.block (.loop 3 (Ev.sy 0 0 [(.int .u64 (0))]) 4 (.run (.node t4 (.node t5 .leaf .leaf) .leaf))))) c26a2 (.run .leaf)))
theorem chk26 : Ev.chk Tryz.prog [(299, .add64), (302, .sub64), (210, .cmpstr), (253, .noEscape), (195, .mapClone), (130, (.overlaps 122))] [] tables orcC26 (fun _ _ => none) 100000 60 (Ev.fiGet Tryz.prog 26).ntmps (Ev.anyB Tryz.prog [(299, .add64), (302, .sub64), (210, .cmpstr), (253, .noEscape), (195, .mapClone), (130, (.overlaps 122))] [] tables orcC26 (fun _ _ => none) (Ev.fiGet Tryz.prog 26)) plan26 (Ev.fiGet Tryz.prog 26).body { G := ⟨Ev.Tr.putList (Ev.symArgs Tryz.prog [27, 3] 0) .nil 0, []⟩, Gh := ⟨.nil, 100, 100⟩, fs := Ev.factsOf Tryz.prog [27, 3] 0, B := 2 } { nrm := none, exs := [] } = true := by decide +kernel
theorem any26 {orc : List (FuncId × Ev.OrcF)} {q : List (Value × Bool)} {W : Nat → List Value → Option Value} : Ev.OrcIs Tryz.prog (Ev.cxOf Tryz.prog [(299, .add64), (302, .sub64), (210, .cmpstr), (253, .noEscape), (195, .mapClone), (130, (.overlaps 122))] [] tables orc q W) 26 (Ev.anyO Tryz.prog [27, 3] q) :=
  Ev.any_is (orc := orcC26) (U := (fun _ _ => none)) (fun q => (Ev.orc_cons any60 (Ev.ext_cons e0 (Ev.ext_cons e1 (Ev.ext_cons e2 (Ev.ext_cons e3 (Ev.ext_cons e4 (Ev.ext_cons e5 (Ev.ext_nil _ _ q))))))))) mixed (Ev.enter_of Tryz.func26 (by kernel_rfl) (by kernel_rfl)) (Ev.fiGet_ok (by decide +kernel) _ _ _ _ _ _) (by decide +kernel) (by decide +kernel) chk26
noncomputable def orcC25 (q : List (Value × Bool)) : List (FuncId × Ev.OrcF) := [(60, Ev.anyO Tryz.prog [22] q), (26, Ev.anyO Tryz.prog [27, 3] q)]
noncomputable def c25a0 : Ev.Asrt := { G := ⟨Ev.Tr.putSome [(0, (Ev.sy 0 0 [(.int .u64 (0))])), (1, (Ev.sy 6 0 [(.int .u64 (1))])), (4, (.bool false))], []⟩, Gh := ⟨.nil, 100, 100⟩, fs := (Ev.factsOf Tryz.prog [55, 3] 0 ++ []), B := 2 }
noncomputable def c25a1 : Ev.Asrt := { G := ⟨Ev.Tr.putSome [(0, (Ev.sy 0 0 [(.int .u64 (0))])), (1, (Ev.sy 6 0 [(.int .u64 (1))])), (4, (Ev.sy 1 0 [(.int .u64 (2))])), (5, (Ev.sy 6 0 [(.int .u64 (3))]))], []⟩, Gh := ⟨.nil, 100, 100⟩, fs := (Ev.factsOf Tryz.prog [55, 3] 0 ++ [((Ev.sy 1 9 [(.int .u64 (5)), (Ev.sy 6 0 [(.int .u64 (3))])]), true)]), B := 2 }
noncomputable def c25a2 : Ev.Asrt := { G := ⟨Ev.Tr.putSome [(0, (Ev.sy 0 0 [(.int .u64 (0))])), (1, (Ev.sy 6 0 [(.int .u64 (1))])), (4, (Ev.sy 1 0 [(.int .u64 (2))])), (5, (Ev.sy 6 0 [(.int .u64 (3))]))], []⟩, Gh := ⟨.nil, 100, 100⟩, fs := (Ev.factsOf Tryz.prog [55, 3] 0 ++ []), B := 2 }
noncomputable def plan25 : Ev.Plan := (.seq (.run .leaf) c25a0 (.seq (.seq (.run .leaf) c25a1 (.block (.loop 3 (Ev.sy 0 0 [(.int .u64 (0))]) 4 (.run (.node t4 (.node t5 .leaf (.node t6 .leaf .leaf)) .leaf))))) c25a2 (.run .leaf)))
theorem chk25 : Ev.chk Tryz.prog [(299, .add64), (302, .sub64), (210, .cmpstr), (253, .noEscape), (195, .mapClone), (130, (.overlaps 122))] [] tables orcC25 (fun _ _ => none) 100000 60 (Ev.fiGet Tryz.prog 25).ntmps (Ev.anyB Tryz.prog [(299, .add64), (302, .sub64), (210, .cmpstr), (253, .noEscape), (195, .mapClone), (130, (.overlaps 122))] [] tables orcC25 (fun _ _ => none) (Ev.fiGet Tryz.prog 25)) plan25 (Ev.fiGet Tryz.prog 25).body { G := ⟨Ev.Tr.putList (Ev.symArgs Tryz.prog [55, 3] 0) .nil 0, []⟩, Gh := ⟨.nil, 100, 100⟩, fs := Ev.factsOf Tryz.prog [55, 3] 0, B := 2 } { nrm := none, exs := [] } = true := by decide +kernel
theorem any25 {orc : List (FuncId × Ev.OrcF)} {q : List (Value × Bool)} {W : Nat → List Value → Option Value} : Ev.OrcIs Tryz.prog (Ev.cxOf Tryz.prog [(299, .add64), (302, .sub64), (210, .cmpstr), (253, .noEscape), (195, .mapClone), (130, (.overlaps 122))] [] tables orc q W) 25 (Ev.anyO Tryz.prog [55, 3] q) :=
  Ev.any_is (orc := orcC25) (U := (fun _ _ => none)) (fun q => (Ev.orc_cons any60 (Ev.orc_cons any26 (Ev.ext_cons e0 (Ev.ext_cons e1 (Ev.ext_cons e2 (Ev.ext_cons e3 (Ev.ext_cons e4 (Ev.ext_cons e5 (Ev.ext_nil _ _ q)))))))))) mixed (Ev.enter_of Tryz.func25 (by kernel_rfl) (by kernel_rfl)) (Ev.fiGet_ok (by decide +kernel) _ _ _ _ _ _) (by decide +kernel) (by decide +kernel) chk25
noncomputable def orcC6 (q : List (Value × Bool)) : List (FuncId × Ev.OrcF) := [(60, Ev.anyO Tryz.prog [22] q), (26, Ev.anyO Tryz.prog [27, 3] q), (25, Ev.anyO Tryz.prog [55, 3] q)]
noncomputable def c6a0 : Ev.Asrt := { G := ⟨Ev.Tr.putSome [(0, (Ev.sy 0 0 [(.int .u64 (0))])), (2, (.bool false))], []⟩, Gh := ⟨.nil, 100, 100⟩, fs := (Ev.factsOf Tryz.prog [34] 0 ++ []), B := 1 }
noncomputable def c6a1 : Ev.Asrt := { G := ⟨Ev.Tr.putSome [(0, (Ev.sy 0 0 [(.int .u64 (0))])), (2, (Ev.sy 1 0 [(.int .u64 (1))])), (3, (Ev.sy 6 0 [(.int .u64 (2))]))], []⟩, Gh := ⟨.nil, 100, 100⟩, fs := (Ev.factsOf Tryz.prog [34] 0 ++ [((Ev.sy 1 9 [(.int .u64 (5)), (Ev.sy 6 0 [(.int .u64 (2))])]), true)]), B := 1 }
noncomputable def c6a2 : Ev.Asrt := { G := ⟨Ev.Tr.putSome [(0, (Ev.sy 0 0 [(.int .u64 (0))])), (2, (Ev.sy 1 0 [(.int .u64 (1))])), (3, (Ev.sy 6 0 [(.int .u64 (2))]))], []⟩, Gh := ⟨.nil, 100, 100⟩, fs := (Ev.factsOf Tryz.prog [34] 0 ++ []), B := 1 }
noncomputable def plan6 : Ev.Plan := (.seq (.run .leaf) c6a0 (.seq (.seq (.run .leaf) c6a1 (.block (.loop 2 (Ev.sy 0 0 [(.int .u64 (0))]) 3 (.run (.node t0 (.node t7 .leaf .leaf) .leaf))))) c6a2 (.run .leaf)))
theorem chk6 : Ev.chk Tryz.prog [(299, .add64), (302, .sub64), (210, .cmpstr), (253, .noEscape), (195, .mapClone), (130, (.overlaps 122))] [] tables orcC6 (fun _ _ => none) 100000 60 (Ev.fiGet Tryz.prog 6).ntmps (Ev.anyB Tryz.prog [(299, .add64), (302, .sub64), (210, .cmpstr), (253, .noEscape), (195, .mapClone), (130, (.overlaps 122))] [] tables orcC6 (fun _ _ => none) (Ev.fiGet Tryz.prog 6)) plan6 (Ev.fiGet Tryz.prog 6).body { G := ⟨Ev.Tr.putList (Ev.symArgs Tryz.prog [34] 0) .nil 0, []⟩, Gh := ⟨.nil, 100, 100⟩, fs := Ev.factsOf Tryz.prog [34] 0, B := 1 } { nrm := none, exs := [] } = true := by decide +kernel
theorem any6 {orc : List (FuncId × Ev.OrcF)} {q : List (Value × Bool)} {W : Nat → List Value → Option Value} : Ev.OrcIs Tryz.prog (Ev.cxOf Tryz.prog [(299, .add64), (302, .sub64), (210, .cmpstr), (253, .noEscape), (195, .mapClone), (130, (.overlaps 122))] [] tables orc q W) 6 (Ev.anyO Tryz.prog [34] q) :=
  Ev.any_is (orc := orcC6) (U := (fun _ _ => none)) (fun q => (Ev.orc_cons any60 (Ev.orc_cons any26 (Ev.orc_cons any25 (Ev.ext_cons e0 (Ev.ext_cons e1 (Ev.ext_cons e2 (Ev.ext_cons e3 (Ev.ext_cons e4 (Ev.ext_cons e5 (Ev.ext_nil _ _ q))))))))))) mixed (Ev.enter_of Tryz.func6 (by kernel_rfl) (by kernel_rfl)) (Ev.fiGet_ok (by decide +kernel) _ _ _ _ _ _) (by decide +kernel) (by decide +kernel) chk6
noncomputable def orcsQ (q : List (Value × Bool)) : List (FuncId × Ev.OrcF) := [(5, Ev.trueO), (60, Ev.anyO Tryz.prog [22] q), (26, Ev.anyO Tryz.prog [27, 3] q), (25, Ev.anyO Tryz.prog [55, 3] q), (6, Ev.anyO Tryz.prog [34] q)]
noncomputable def tree : Ev.PT := .leaf
noncomputable def cls : List (Nat × List (Value × Bool)) := []
theorem cls_ok : (cls.all fun c => Ev.deadC c.2 c.1 && Ev.hasI c.1 (Ev.symArgs Tryz.prog ptys 0)) = true := by decide +kernel
theorem reckoned : Ev.walkT (fun q => Ev.tellsA (Ev.cxOf Tryz.prog [(299, .add64), (302, .sub64), (210, .cmpstr), (253, .noEscape), (195, .mapClone), (130, (.overlaps 122))] [] tables (orcsQ q) q (fun _ _ => none)) true (Ev.evFn (Ev.cxOf Tryz.prog [(299, .add64), (302, .sub64), (210, .cmpstr), (253, .noEscape), (195, .mapClone), (130, (.overlaps 122))] [] tables (orcsQ q) q (fun _ _ => none)) 100000 60 (.fn 3) (Ev.symArgs Tryz.prog ptys 0) ⟨.nil, 100, 100⟩)) (cls.map (·.2)) tree (Ev.factsOf Tryz.prog ptys 0) = true := by decide +kernel

theorem of_laid {W : World} (h : laidMetH Tryz.prog Rows.operNilRow.laid W) (hsh : W.ShapedOpen Tryz.prog) : ∀ g t, (g, t) ∈ tables → ∃ cs ty fr, W.heap[g]? = some (.cells cs ty fr) ∧ ∀ (i : Nat) (v : Value), t.get i = some v → Ev.GC v cs[i]? := by
  rw [MakeChecks.laidMetH_plain _ _ _ (by kernel_rfl)] at h
  intro g t hm
  simp only [tables, List.mem_cons, List.not_mem_nil, or_false, Prod.mk.injEq] at hm
  rcases hm with ⟨rfl, rfl⟩ | ⟨rfl, rfl⟩
  · exact Ev.table_any h (nm := "waterwheel/ast.shapes") (n := 9) (t := 250) (tab := tab0) (by simp [Rows.operNilRow]; rfl) (by kernel_rfl) (by kernel_rfl) (by kernel_rfl) (by kernel_rfl)
  · exact Ev.someInt_of (cell_of_shapedOpen_int (zero := #[.int .i64 0]) (t := 3) hsh (of_decide_eq_true (by kernel_rfl)) (by kernel_rfl) rfl (by kernel_rfl) (by kernel_rfl) Tryz.underlying3)
set_option maxRecDepth 100000 in
theorem walk (w : World) (r : Reach) (b0 : Nat) (args : List Value) (hl : ptys.length = args.length)
    (hok : ∀ (j : Nat) t v, ptys[j]? = some t → args[j]? = some v → Value.okWide Tryz.prog w r b0 t v) (hd : ∀ (j : Nat) t v, ptys[j]? = some t → args[j]? = some v → ∃ f, Ev.Rds Tryz.prog (fun a => w.cell? a) f t (Ev.vcells v)) (h : laidMetH Tryz.prog Rows.operNilRow.laid w) (hsh : w.ShapedOpen Tryz.prog) :
    Calls Tryz.prog 3 ⟨args⟩ w fun e w' => e = .returned (.bool true) ∧ Below w.heap.size w w' := by
  obtain ⟨s, hs, hf⟩ := Ev.sym_deep hl hok hd (u := Ev.uRd (Ev.cxOf Tryz.prog [(299, .add64), (302, .sub64), (210, .cmpstr), (253, .noEscape), (195, .mapClone), (130, (.overlaps 122))] [] tables (orcsQ []) [] (fun _ _ => none)) (fun a => w.cell? a)) (fun vs => Ev.uRd_rd _ _ 8 vs (by omega))
  exact Ev.toldR (orc := orcsQ) (fun q => (Ev.orc_cons lives_is (Ev.orc_cons any60 (Ev.orc_cons any26 (Ev.orc_cons any25 (Ev.orc_cons any6 (Ev.ext_cons e0 (Ev.ext_cons e1 (Ev.ext_cons e2 (Ev.ext_cons e3 (Ev.ext_cons e4 (Ev.ext_cons e5 (Ev.ext_nil _ _ q))))))))))))) mixed cls_ok reckoned (Ev.old_all w) hs hf (of_laid h hsh)

/-- The door's own heap meets the condition. -/
theorem door_met (os : Os) (args : Array Value) : laidMetH Tryz.prog Rows.operNilRow.laid ((World.doorLaid Tryz.prog 2000 os).forCall (fun _ _ => 0) ⟨#[], args, []⟩).memory :=
  laidMetH_of_parts3 (fuel := 8) (laidMet_of_run3 8 (by kernel_rfl) (by kernel_rfl) (by kernel_rfl)) (by kernel_rfl) (by kernel_rfl)

set_option maxRecDepth 100000 in
theorem lifted (os : Os) (started : os.Started) (H : Type) (enc : TypeId × Value → H) :
    ReturnsInHanded {} Tryz.checked os 3 .any (fun w args => (Rows.operNilSpec.pre enc Tryz.prog Tryz.f3 [] false w args ∧ laidMetH Tryz.prog Rows.operNilRow.laid w) ∧ sizedMet enc Tryz.prog Tryz.f3 (OpenSpec.ofChange Rows.operNilSpec) false w args)
      (Rows.operNilSpec.post enc Tryz.prog Tryz.f3 false true false false) := by
  refine Ev.handed_and_shaped (C := Tryz.checked) (X := fun w _ => laidMetH Tryz.prog Rows.operNilRow.laid w) (fun _ _ _ hh h => h.of_heap hh) own started (by kernel_rfl) Tryz.func3
    (ChangeSpec.witness_shaped (enc := enc) (C := Tryz.checked) (os := os) (X := fun w _ => laidMetH Tryz.prog Rows.operNilRow.laid w) false (World.doorLaid Tryz.prog 2000 os) ⟨Ev.zeroArgs Tryz.prog ptys⟩ 8 rfl (World.shaped_of_RefB (by kernel_rfl) (by kernel_rfl)) (by kernel_rfl) (by kernel_rfl) (by kernel_rfl) (door_met os _)) ?_
  intro W base args ds gs before hval0 hW hcnd hwts hL hsh _
  have hval : ∀ (j : Nat) t v, Tryz.f3.params[j]? = some t → args[j]? = some v → Value.okWide Tryz.prog W .any base t v := hval0
  have hW' := hW
  obtain ⟨p, q, hA0, hV, rfl, hfz, hnd⟩ := hW
  have hA : DataW.TrodAll enc Tryz.prog W 0 (fun _ => true) true Tryz.f3.params.toList args.toList ds p := hA0
  rw [Tryz.params3] at hA hval
  obtain ⟨v0, vs0, d0, ds0, p0, q0, hargs, rfl, rfl, h0, r0⟩ := trodAll_cons hA
  obtain ⟨rfl, rfl, rfl⟩ := trodAll_nil r0
  obtain rfl : args = #[v0] := by cases args; simp_all
  obtain ⟨rfl, rfl⟩ := trodVars_none hV
  have lt0 : ∀ x ∈ p0, x.block < W.heap.size := by obtain ⟨m, hm⟩ := h0; exact DataW.trod_lt m _ _ _ hm
  clear hA0 hval0
  simp only [List.append_nil] at hW'
  refine (walk W .any base [v0] rfl (fun j t v a b => hval j t v (by simpa [ptys] using a) (by simpa using b)) (by have hw : (DataW.weightsEach Tryz.prog [31] [d0]).all (· ≤ reachBytes) = true := hwts; exact (Ev.deepL_cons h0 hw (fun hw => Ev.deepL_nil hw))) hL hsh).mono fun e W' ⟨he, bel⟩ => ?_
  subst he
  exact ⟨_, rfl, _, _, _, [], _, [], hW', trodAll_mk1 (shut_bool Tryz.underlying4 _), (trodAll_cons_mk (Below.trod laidOut (by kernel_rfl) (of_decide_eq_true (by kernel_rfl)) h0 bel lt0) trodAll_mk0), rfl, bel.frame _, fun h => by cases h⟩

theorem j0 : Ev.J0 Tryz.pinned.checked.prog 3 Tryz.f3 Rows.operNilSpec Rows.operNilRow = true := by kernel_rfl
theorem j1 : Ev.J1 Tryz.pinned.checked.prog 3 Tryz.f3 Rows.operNilSpec Rows.operNilRow = true := by kernel_rfl
theorem j2 : Ev.J2 Tryz.pinned.checked.prog 3 Tryz.f3 Rows.operNilSpec Rows.operNilRow = true := by kernel_rfl
theorem j3 : Ev.J3 Tryz.pinned.checked.prog 3 Tryz.f3 Rows.operNilSpec Rows.operNilRow = true := by kernel_rfl
theorem j4 : Ev.J4 Tryz.pinned.checked.prog 3 Tryz.f3 Rows.operNilSpec Rows.operNilRow = true := by kernel_rfl
theorem j5 : Ev.J5 Tryz.pinned.checked.prog 3 Tryz.f3 Rows.operNilSpec Rows.operNilRow = true := by kernel_rfl
theorem j6 : Ev.J6 Tryz.pinned.checked.prog 3 Tryz.f3 Rows.operNilSpec Rows.operNilRow = true := by kernel_rfl
theorem j7 : Ev.J7 Tryz.pinned.checked.prog 3 Tryz.f3 Rows.operNilSpec Rows.operNilRow = true := by kernel_rfl
theorem j8 : Ev.J8 Tryz.pinned.checked.prog 3 Tryz.f3 Rows.operNilSpec Rows.operNilRow = true := by kernel_rfl
theorem j9 : Ev.J9 Tryz.pinned.checked.prog 3 Tryz.f3 Rows.operNilSpec Rows.operNilRow = true := by kernel_rfl
theorem j10 : Ev.J10 Tryz.pinned.checked.prog 3 Tryz.f3 Rows.operNilSpec Rows.operNilRow = true := by kernel_rfl
theorem j11 : Ev.J11 Tryz.pinned.checked.prog 3 Tryz.f3 Rows.operNilSpec Rows.operNilRow = true := by kernel_rfl
theorem j12 : Ev.J12 Tryz.pinned.checked.prog 3 Tryz.f3 Rows.operNilSpec Rows.operNilRow = true := by kernel_rfl
theorem j13 : Ev.J13 Tryz.pinned.checked.prog 3 Tryz.f3 Rows.operNilSpec Rows.operNilRow = true := by kernel_rfl
theorem j14 : Ev.J14 Tryz.pinned.checked.prog 3 Tryz.f3 Rows.operNilSpec Rows.operNilRow = true := by kernel_rfl
theorem j15 : Ev.J15 Tryz.pinned.checked.prog 3 Tryz.f3 Rows.operNilSpec Rows.operNilRow = true := by kernel_rfl
theorem j16 : Ev.J16 Tryz.pinned.checked.prog 3 Tryz.f3 Rows.operNilSpec Rows.operNilRow = true := by kernel_rfl
theorem j17 : Ev.J17 Tryz.pinned.checked.prog 3 Tryz.f3 Rows.operNilSpec Rows.operNilRow = true := by kernel_rfl
theorem j18 : Ev.J18 Tryz.pinned.checked.prog 3 Tryz.f3 Rows.operNilSpec Rows.operNilRow = true := by kernel_rfl
theorem j19 : Ev.J19 Tryz.pinned.checked.prog 3 Tryz.f3 Rows.operNilSpec Rows.operNilRow = true := by kernel_rfl
theorem j20 : Ev.J20 Tryz.pinned.checked.prog 3 Tryz.f3 Rows.operNilSpec Rows.operNilRow = true := by kernel_rfl
theorem j21 : Ev.J21 Tryz.pinned.checked.prog 3 Tryz.f3 Rows.operNilSpec Rows.operNilRow = true := by kernel_rfl
theorem j22 : Ev.J22 Tryz.pinned.checked.prog 3 Tryz.f3 Rows.operNilSpec Rows.operNilRow = true := by kernel_rfl
theorem j23 : Ev.J23 Tryz.pinned.checked.prog 3 Tryz.f3 Rows.operNilSpec Rows.operNilRow = true := by kernel_rfl
theorem j24 : Ev.J24 Tryz.pinned.checked.prog 3 Tryz.f3 Rows.operNilSpec Rows.operNilRow = true := by kernel_rfl
theorem j25 : Ev.J25 Tryz.pinned.checked.prog 3 Tryz.f3 Rows.operNilSpec Rows.operNilRow = true := by kernel_rfl
theorem j26 : Ev.J26 Tryz.pinned.checked.prog 3 Tryz.f3 Rows.operNilSpec Rows.operNilRow = true := by kernel_rfl
theorem j27 : Ev.J27 Tryz.pinned.checked.prog 3 Tryz.f3 Rows.operNilSpec Rows.operNilRow = true := by kernel_rfl
theorem j28 : Ev.J28 Tryz.pinned.checked.prog 3 Tryz.f3 Rows.operNilSpec Rows.operNilRow = true := by kernel_rfl
theorem j29 : Ev.J29 Tryz.pinned.checked.prog 3 Tryz.f3 Rows.operNilSpec Rows.operNilRow = true := by kernel_rfl
theorem j30 : Ev.J30 Tryz.pinned.checked.prog 3 Tryz.f3 Rows.operNilSpec Rows.operNilRow = true := by kernel_rfl
theorem j31 : Ev.J31 Tryz.pinned.checked.prog 3 Tryz.f3 Rows.operNilSpec Rows.operNilRow = true := by kernel_rfl
theorem joined : joinedFacts Tryz.pinned.checked.prog 3 Tryz.f3 Rows.operNilSpec Rows.operNilRow = true := Ev.joined_mk j0 j1 j2 j3 j4 j5 j6 j7 j8 j9 j10 j11 j12 j13 j14 j15 j16 j17 j18 j19 j20 j21 j22 j23 j24 j25 j26 j27 j28 j29 j30 j31

theorem over : Rows.OperNilSaid :=
  OpenClaim.holds_of_wide 3 Tryz.f3 rfl rfl rfl rfl rfl rfl rfl ⟨rfl, rfl, rfl, rfl, rfl⟩ rfl rfl rfl rfl rfl (by kernel_rfl) Tryz.func3 joined
    (of_decide_eq_true (by kernel_rfl)) (by unfold Func.isWrapper; first | (rw [if_pos (by decide +kernel)]; kernel_rfl) | (rw [if_neg (by decide +kernel)]; exact ⟨rfl, rfl⟩))
    (fun os started H enc _ => lifted os started H enc)

theorem proved : Rows.OperNilCardSaid :=
  Claim7.holds_tied_plain_at .later [] [.data] true (true, "df04955a0396ba2b94ef8d7c184c455cf0c48c4deb1b00ecdadc416f696cdcbd") true
    over (fun _ h => by cases h) (by kernel_rfl) (fun _ h => by cases h) operNil_row_tie rfl ⟨rfl, rfl⟩ (by kernel_rfl) rfl
    (fun f fn hf hfn => by
      obtain rfl : f = 3 := Option.some.inj ((show Tryz.prog.funcNamed "waterwheel/waterwheellaw18.OperNil" = some 3 by kernel_rfl).symm.trans hf) |>.symm
      obtain rfl : fn = Tryz.f3 := (Option.some.inj (Tryz.func3.symm.trans hfn)).symm
      exact ⟨by kernel_rfl, fun j t ht => by
        rw [Tryz.params3] at ht
        rcases j with _ | j
        all_goals first
          | (simp at ht; done)
          | (simp at ht; subst ht; kernel_rfl)⟩)
    (by kernel_rfl)
#print axioms proved
end Go.Proofs.YtnheckeemhphlaaGreatDoor.operNil
