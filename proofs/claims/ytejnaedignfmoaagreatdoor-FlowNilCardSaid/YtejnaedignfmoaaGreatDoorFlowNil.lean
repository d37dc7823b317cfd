/- For every input: at the landed commit the Go function waterwheellaw21.FlowNil returns true, and its arguments read behind the call as before, where the tables of Go's library that the row lists hold what the card ties to the program's text. No other condition. The call is reckoned with arguments that are not known. -/
import Derived.Test.YtejnaedignfmoaaGreatDoorRows
import Derived.Test.YtejnaedignfmoaaGreatDoorEvJo
import Derived.Test.YtejnaedignfmoaaGreatDoorEvFa
import Derived.Test.YtejnaedignfmoaaGreatDoorCards
import Derived.Test.YtejnaedignfmoaaGreatDoorTie
import Derived.Test.YtejnaedignfmoaaGreatDoorEvAl
import Derived.ShutString
import Derived.ChangeOld
import Derived.Lib.SmallJoins
import Derived.ProofKit
import Derived.OpenShut
import Derived.LaidMore
import Derived.SevenTiedAt
import Derived.Deep.DeepLaidRun
namespace Go.Proofs.YtejnaedignfmoaaGreatDoor.flowNil
open Go.ChangeShapes Go.WideShapes Go.ChangeAt Go.RowKit Go.Deep Go.Joins
set_option linter.unusedVariables false
set_option linter.unusedSimpArgs false

theorem own : ownKnob Tryz.prog.godebug = none := by kernel_rfl
theorem laidOut : laidOutB Tryz.prog = true := by kernel_rfl
theorem mixed : Tryz.prog.follows .mixedOrders = true := by kernel_rfl

theorem e0 : Ev.ExtIs Tryz.prog 381 .add64 := ⟨_, Tryz.func381, by kernel_rfl, rfl, by kernel_rfl, by kernel_rfl⟩
theorem e1 : Ev.ExtIs Tryz.prog 384 .sub64 := ⟨_, Tryz.func384, by kernel_rfl, rfl, by kernel_rfl, by kernel_rfl⟩
theorem e2 : Ev.ExtIs Tryz.prog 288 .cmpstr := ⟨_, Tryz.func288, by kernel_rfl, rfl, by kernel_rfl, by kernel_rfl⟩
theorem e3 : Ev.ExtIs Tryz.prog 275 .noEscape := ⟨_, Tryz.func275, by kernel_rfl, rfl, by kernel_rfl, by kernel_rfl⟩
theorem e4 : Ev.ExtIs Tryz.prog 280 .mapClone := ⟨_, Tryz.func280, by kernel_rfl, rfl, by kernel_rfl, by kernel_rfl⟩
theorem e5 : Ev.ExtIs Tryz.prog 246 (.overlaps 204) := ⟨_, Tryz.func246, by kernel_rfl, rfl, by kernel_rfl, by kernel_rfl⟩
def tab0 : List (Nat × Value) := [(0, .int .u8 (0)), (1, .int .u8 (1)), (2, .int .u8 (28)), (3, .int .u8 (2)), (4, .int .u8 (29)), (5, .int .u8 (14)), (6, .int .u8 (24)), (7, .int .u8 (3)), (8, .int .u8 (30)), (9, .int .u8 (22)), (10, .int .u8 (20)), (11, .int .u8 (15)), (12, .int .u8 (25)), (13, .int .u8 (17)), (14, .int .u8 (4)), (15, .int .u8 (8)), (16, .int .u8 (31)), (17, .int .u8 (27)), (18, .int .u8 (13)), (19, .int .u8 (23)), (20, .int .u8 (21)), (21, .int .u8 (19)), (22, .int .u8 (16)), (23, .int .u8 (7)), (24, .int .u8 (26)), (25, .int .u8 (12)), (26, .int .u8 (18)), (27, .int .u8 (6)), (28, .int .u8 (11)), (29, .int .u8 (5)), (30, .int .u8 (10)), (31, .int .u8 (9))]
def tab1 : List (Nat × Value) := [(0, .int .u8 (0)), (1, .int .u8 (1)), (2, .int .u8 (56)), (3, .int .u8 (2)), (4, .int .u8 (57)), (5, .int .u8 (49)), (6, .int .u8 (28)), (7, .int .u8 (3)), (8, .int .u8 (61)), (9, .int .u8 (58)), (10, .int .u8 (42)), (11, .int .u8 (50)), (12, .int .u8 (38)), (13, .int .u8 (29)), (14, .int .u8 (17)), (15, .int .u8 (4)), (16, .int .u8 (62)), (17, .int .u8 (47)), (18, .int .u8 (59)), (19, .int .u8 (36)), (20, .int .u8 (45)), (21, .int .u8 (43)), (22, .int .u8 (51)), (23, .int .u8 (22)), (24, .int .u8 (53)), (25, .int .u8 (39)), (26, .int .u8 (33)), (27, .int .u8 (30)), (28, .int .u8 (24)), (29, .int .u8 (18)), (30, .int .u8 (12)), (31, .int .u8 (5)), (32, .int .u8 (63)), (33, .int .u8 (55)), (34, .int .u8 (48)), (35, .int .u8 (27)), (36, .int .u8 (60)), (37, .int .u8 (41)), (38, .int .u8 (37)), (39, .int .u8 (16)), (40, .int .u8 (46)), (41, .int .u8 (35)), (42, .int .u8 (44)), (43, .int .u8 (21)), (44, .int .u8 (52)), (45, .int .u8 (32)), (46, .int .u8 (23)), (47, .int .u8 (11)), (48, .int .u8 (54)), (49, .int .u8 (26)), (50, .int .u8 (40)), (51, .int .u8 (15)), (52, .int .u8 (34)), (53, .int .u8 (20)), (54, .int .u8 (31)), (55, .int .u8 (10)), (56, .int .u8 (25)), (57, .int .u8 (14)), (58, .int .u8 (19)), (59, .int .u8 (9)), (60, .int .u8 (13)), (61, .int .u8 (8)), (62, .int .u8 (7)), (63, .int .u8 (6))]
def tab2 : List (Nat × Value) := [(0, .int .u64 (1)), (1, .int .u64 (10)), (2, .int .u64 (100)), (3, .int .u64 (1000)), (4, .int .u64 (10000)), (5, .int .u64 (100000)), (6, .int .u64 (1000000)), (7, .int .u64 (10000000)), (8, .int .u64 (100000000)), (9, .int .u64 (1000000000)), (10, .int .u64 (10000000000)), (11, .int .u64 (100000000000)), (12, .int .u64 (1000000000000)), (13, .int .u64 (10000000000000)), (14, .int .u64 (100000000000000)), (15, .int .u64 (1000000000000000)), (16, .int .u64 (10000000000000000)), (17, .int .u64 (100000000000000000)), (18, .int .u64 (1000000000000000000)), (19, .int .u64 (10000000000000000000))]
def tab3 : List (Nat × Value) := [(0, .int .i64 (0)), (1, .int .i64 (0)), (2, .int .i64 (0)), (3, .int .i64 (0)), (4, .int .i64 (0)), (5, .int .i64 (0)), (6, .bool false), (7, .bool false), (8, .int .i64 (0)), (9, .int .i64 (0)), (10, .int .i64 (1)), (11, .int .i64 (6)), (12, .int .i64 (0)), (13, .int .i64 (0)), (14, .int .i64 (1)), (15, .int .i64 (1073741824)), (16, .bool false), (17, .bool true), (18, .int .i64 (0)), (19, .int .i64 (0)), (20, .int .i64 (1)), (21, .int .i64 (4)), (22, .int .i64 (0)), (23, .int .i64 (0)), (24, .int .i64 (0)), (25, .int .i64 (0)), (26, .bool false), (27, .bool false), (28, .int .i64 (8)), (29, .int .i64 (1)), (30, .int .i64 (0)), (31, .int .i64 (0)), (32, .int .i64 (1)), (33, .int .i64 (3)), (34, .int .i64 (0)), (35, .int .i64 (0)), (36, .bool false), (37, .bool false), (38, .int .i64 (8)), (39, .int .i64 (2)), (40, .int .i64 (0)), (41, .int .i64 (0)), (42, .int .i64 (1)), (43, .int .i64 (3)), (44, .int .i64 (0)), (45, .int .i64 (0)), (46, .bool true), (47, .bool false), (48, .int .i64 (0)), (49, .int .i64 (1)), (50, .int .i64 (0)), (51, .int .i64 (0)), (52, .int .i64 (4)), (53, .int .i64 (9)), (54, .int .i64 (0)), (55, .int .i64 (0)), (56, .bool true), (57, .bool false), (58, .int .i64 (0)), (59, .int .i64 (1))]
def tab4 : List (Nat × Value) := [(0, .string ⟨⟨[]⟩⟩), (1, .string ⟨⟨[43]⟩⟩), (2, .string ⟨⟨[45]⟩⟩), (3, .string ⟨⟨[42]⟩⟩), (4, .string ⟨⟨[60]⟩⟩), (5, .string ⟨⟨[60, 61]⟩⟩), (6, .string ⟨⟨[62]⟩⟩), (7, .string ⟨⟨[62, 61]⟩⟩), (8, .string ⟨⟨[61, 61]⟩⟩), (9, .string ⟨⟨[33, 61]⟩⟩)]
def tab5 : List (Nat × Value) := [(0, .string ⟨⟨[]⟩⟩), (1, .string ⟨⟨[]⟩⟩), (2, .string ⟨⟨[]⟩⟩), (3, .string ⟨⟨[]⟩⟩), (4, .string ⟨⟨[]⟩⟩), (5, .string ⟨⟨[]⟩⟩), (6, .string ⟨⟨[]⟩⟩), (7, .string ⟨⟨[]⟩⟩), (8, .string ⟨⟨[115, 117, 109]⟩⟩), (9, .string ⟨⟨[99, 111, 117, 110, 116]⟩⟩), (10, .string ⟨⟨[109, 105, 110]⟩⟩), (11, .string ⟨⟨[109, 97, 120]⟩⟩), (12, .string ⟨⟨[108, 97, 115, 116]⟩⟩), (13, .string ⟨⟨[105, 110, 99, 114, 101, 97, 115, 101]⟩⟩), (14, .string ⟨⟨[]⟩⟩), (15, .string ⟨⟨[116, 111, 116, 97, 108]⟩⟩), (16, .string ⟨⟨[109, 97, 110, 121]⟩⟩), (17, .string ⟨⟨[108, 101, 97, 115, 116]⟩⟩), (18, .string ⟨⟨[109, 111, 115, 116]⟩⟩), (19, .string ⟨⟨[]⟩⟩), (20, .string ⟨⟨[]⟩⟩)]
noncomputable def tables : List (Nat × Ev.Tr Value) := [(5, Ev.Tr.putSome tab0), (6, Ev.Tr.putSome tab1), (4, Ev.Tr.putSome tab2), (0, Ev.Tr.putSome tab3), (2, Ev.Tr.putSome tab4), (1, Ev.Tr.putSome tab5), (3, Ev.someInt)]
noncomputable def orcs0 : List (FuncId × Ev.OrcF) := []
theorem reckoned_lives : Ev.tells true (Ev.evFn (Ev.cxOf Tryz.prog [(381, .add64), (384, .sub64), (288, .cmpstr), (275, .noEscape), (280, .mapClone), (246, (.overlaps 204))] [] tables orcs0) 100000 60 (.fn 9) [] ⟨.nil, 100, 100⟩) = true := Ev.of_mix (p := Ev.tells true) (by decide +kernel)
theorem lives_is {q : List (Value × Bool)} : Ev.OrcIs Tryz.prog (Ev.cxOf Tryz.prog [(381, .add64), (384, .sub64), (288, .cmpstr), (275, .noEscape), (280, .mapClone), (246, (.overlaps 204))] [] tables [] q) 9 Ev.trueO := Ev.trueO_is (Ev.enter_of Tryz.func9 (by kernel_rfl) (by kernel_rfl)) (Ev.ext_cons e0 (Ev.ext_cons e1 (Ev.ext_cons e2 (Ev.ext_cons e3 (Ev.ext_cons e4 (Ev.ext_cons e5 (Ev.ext_nil _ _ []))))))) mixed reckoned_lives
def ptys : List TypeId := [48]
def t0 : Value := (Ev.sy 1 1 [(.int .u64 (13)), (.int .u64 (3)), (.bool false), (Ev.sy 6 0 [(.int .u64 (2))]), (Ev.sy 6 5 [(Ev.sy 0 0 [(.int .u64 (0))])])])
def t1 : Value := (Ev.sy 1 1 [(.int .u64 (13)), (.int .u64 (3)), (.bool true), (.int .i64 (30)), (Ev.sy 6 0 [(.int .u64 (2))])])
def t2 : Value := (Ev.sy 1 1 [(.int .u64 (13)), (.int .u64 (3)), (.bool true), (.int .i64 (300)), (Ev.sy 6 5 [(Ev.sy 2 6 [(Ev.sy 0 8 [(Ev.sy 0 8 [(Ev.sy 0 7 [(.int .u64 (2)), (Ev.sy 0 0 [(.int .u64 (0))]), (Ev.sy 6 0 [(.int .u64 (2))])]), (.int .u64 (0))]), (.int .u64 (0))])])])])
def t3 : Value := (Ev.sy 1 1 [(.int .u64 (13)), (.int .u64 (3)), (.bool true), (.int .i64 (300)), (Ev.sy 6 5 [(Ev.sy 2 6 [(Ev.sy 0 8 [(Ev.sy 0 8 [(Ev.sy 0 7 [(.int .u64 (2)), (Ev.sy 0 0 [(.int .u64 (0))]), (Ev.sy 6 0 [(.int .u64 (2))])]), (.int .u64 (1))]), (.int .u64 (0))])])])])
def t4 : Value := (Ev.sy 1 1 [(.int .u64 (13)), (.int .u64 (3)), (.bool false), (Ev.sy 6 0 [(.int .u64 (3))]), (Ev.sy 6 5 [(Ev.sy 0 0 [(.int .u64 (0))])])])
def t5 : Value := (Ev.sy 1 1 [(.int .u64 (13)), (.int .u64 (3)), (.bool false), (Ev.sy 6 0 [(.int .u64 (1))]), (Ev.sy 6 0 [(.int .u64 (3))])])
def t6 : Value := (Ev.sy 1 1 [(.int .u64 (13)), (.int .u64 (3)), (.bool true), (.int .i64 (300)), (Ev.sy 6 5 [(Ev.sy 2 6 [(Ev.sy 0 8 [(Ev.sy 0 8 [(Ev.sy 0 8 [(Ev.sy 0 7 [(.int .u64 (4)), (Ev.sy 0 0 [(.int .u64 (0))]), (Ev.sy 6 0 [(.int .u64 (3))])]), (.int .u64 (0))]), (.int .u64 (0))]), (.int .u64 (0))])])])])
def t7 : Value := (Ev.sy 1 1 [(.int .u64 (13)), (.int .u64 (3)), (.bool true), (.int .i64 (60)), (Ev.sy 6 0 [(.int .u64 (2))])])
def t8 : Value := (Ev.sy 1 1 [(.int .u64 (13)), (.int .u64 (3)), (.bool true), (.int .i64 (200)), (Ev.sy 6 5 [(Ev.sy 0 0 [(.int .u64 (3))])])])
def t9 : Value := (Ev.sy 1 9 [(.int .u64 (7)), (Ev.sy 0 0 [(.int .u64 (1))])])
noncomputable def orcC102 (q : List (Value × Bool)) : List (FuncId × Ev.OrcF) := []
noncomputable def c102a0 : Ev.Asrt := { G := ⟨Ev.Tr.putSome [(0, (Ev.sy 0 0 [(.int .u64 (0))])), (2, (.bool false))], []⟩, Gh := ⟨.nil, 100, 100⟩, fs := (Ev.factsOf Tryz.prog [38] 0 ++ []), B := 1 }
noncomputable def c102a1 : Ev.Asrt := { G := ⟨Ev.Tr.putSome [(0, (Ev.sy 0 0 [(.int .u64 (0))])), (2, (Ev.sy 1 0 [(.int .u64 (1))])), (3, (Ev.sy 6 0 [(.int .u64 (2))]))], []⟩, Gh := ⟨.nil, 100, 100⟩, fs := (Ev.factsOf Tryz.prog [38] 0 ++ [((Ev.sy 1 9 [(.int .u64 (5)), (Ev.sy 6 0 [(.int .u64 (2))])]), true)]), B := 1 }
noncomputable def c102a2 : Ev.Asrt := { G := ⟨Ev.Tr.putSome [(0, (Ev.sy 0 0 [(.int .u64 (0))])), (2, (Ev.sy 1 0 [(.int .u64 (1))])), (3, (Ev.sy 6 0 [(.int .u64 (2))]))], []⟩, Gh := ⟨.nil, 100, 100⟩, fs := (Ev.factsOf Tryz.prog [38] 0 ++ []), B := 1 }
noncomputable def plan102 : Ev.Plan := (.seq (.run .leaf) c102a0 (.seq (.seq (.run .leaf) c102a1 (.block (.loop 2 (Ev.sy 0 0 [(.int .u64 (0))]) 3 (.run (.node t0 (.node t1 .leaf (.node t2 .leaf (.node t3 .leaf .leaf))) .leaf))))) c102a2 (.run .leaf)))
theorem chk102 : Ev.chk Tryz.prog [(381, .add64), (384, .sub64), (288, .cmpstr), (275, .noEscape), (280, .mapClone), (246, (.overlaps 204))] [] tables orcC102 (fun _ _ => none) 100000 60 (Ev.fiGet Tryz.prog 102).ntmps (Ev.anyB Tryz.prog [(381, .add64), (384, .sub64), (288, .cmpstr), (275, .noEscape), (280, .mapClone), (246, (.overlaps 204))] [] tables orcC102 (fun _ _ => none) (Ev.fiGet Tryz.prog 102)) plan102 (Ev.fiGet Tryz.prog 102).body { G := ⟨Ev.Tr.putList (Ev.symArgs Tryz.prog [38] 0) .nil 0, []⟩, Gh := ⟨.nil, 100, 100⟩, fs := Ev.factsOf Tryz.prog [38] 0, B := 1 } { nrm := none, exs := [] } = true := by decide +kernel
theorem any102 {orc : List (FuncId × Ev.OrcF)} {q : List (Value × Bool)} {W : Nat → List Value → Option Value} : Ev.OrcIs Tryz.prog (Ev.cxOf Tryz.prog [(381, .add64), (384, .sub64), (288, .cmpstr), (275, .noEscape), (280, .mapClone), (246, (.overlaps 204))] [] tables orc q W) 102 (Ev.anyO Tryz.prog [38] q) :=
  Ev.any_is (orc := orcC102) (U := (fun _ _ => none)) (fun q => (Ev.ext_cons e0 (Ev.ext_cons e1 (Ev.ext_cons e2 (Ev.ext_cons e3 (Ev.ext_cons e4 (Ev.ext_cons e5 (Ev.ext_nil _ _ q)))))))) mixed (Ev.enter_of Tryz.func102 (by kernel_rfl) (by kernel_rfl)) (Ev.fiGet_ok (by decide +kernel) _ _ _ _ _ _) (by decide +kernel) (by decide +kernel) chk102
noncomputable def orcC68 (q : List (Value × Bool)) : List (FuncId × Ev.OrcF) := [(102, Ev.anyO Tryz.prog [38] q)]
noncomputable def c68a0 : Ev.Asrt := { G := ⟨Ev.Tr.putSome [(0, (Ev.sy 0 0 [(.int .u64 (0))])), (1, (Ev.sy 6 0 [(.int .u64 (1))])), (4, (.bool false))], []⟩, Gh := ⟨.nil, 100, 100⟩, fs := (Ev.factsOf Tryz.prog [29, 3] 0 ++ []), B := 2 }
noncomputable def c68a1 : Ev.Asrt := { G := ⟨Ev.Tr.putSome [(0, (Ev.sy 0 0 [(.int .u64 (0))])), (1, (Ev.sy 6 0 [(.int .u64 (1))])), (4, (Ev.sy 1 0 [(.int .u64 (2))])), (5, (Ev.sy 6 0 [(.int .u64 (3))]))], []⟩, Gh := ⟨.nil, 100, 100⟩, fs := (Ev.factsOf Tryz.prog [29, 3] 0 ++ [((Ev.sy 1 9 [(.int .u64 (5)), (Ev.sy 6 0 [(.int .u64 (3))])]), true)]), B := 2 }
noncomputable def c68a2 : Ev.Asrt := { G := ⟨Ev.Tr.putSome [(0, (Ev.sy 0 0 [(.int .u64 (0))])), (1, (Ev.sy 6 0 [(.int .u64 (1))])), (4, (Ev.sy 1 0 [(.int .u64 (2))])), (5, (Ev.sy 6 0 [(.int .u64 (3))]))], []⟩, Gh := ⟨.nil, 100, 100⟩, fs := (Ev.factsOf Tryz.prog [29, 3] 0 ++ []), B := 2 }
noncomputable def plan68 : Ev.Plan := (.seq (.run .leaf) c68a0 (.seq (.seq (.run .leaf) c68a1 (.block (.loop 3 (Ev.sy 0 0 [(.int .u64 (0))]) 4 (.run (.node t4 (.node t5 .leaf .leaf) .leaf))))) c68a2 (.run .leaf)))
theorem chk68 : Ev.chk Tryz.prog [(381, .add64), (384, .sub64), (288, .cmpstr), (275, .noEscape), (280, .mapClone), (246, (.overlaps 204))] [] tables orcC68 (fun _ _ => none) 100000 60 (Ev.fiGet Tryz.prog 68).ntmps (Ev.anyB Tryz.prog [(381, .add64), (384, .sub64), (288, .cmpstr), (275, .noEscape), (280, .mapClone), (246, (.overlaps 204))] [] tables orcC68 (fun _ _ => none) (Ev.fiGet Tryz.prog 68)) plan68 (Ev.fiGet Tryz.prog 68).body { G := ⟨Ev.Tr.putList (Ev.symArgs Tryz.prog [29, 3] 0) .nil 0, []⟩, Gh := ⟨.nil, 100, 100⟩, fs := Ev.factsOf Tryz.prog [29, 3] 0, B := 2 } { nrm := none, exs := [] } = true := by decide +kernel
theorem any68 {orc : List (FuncId × Ev.OrcF)} {q : List (Value × Bool)} {W : Nat → List Value → Option Value} : Ev.OrcIs Tryz.prog (Ev.cxOf Tryz.prog [(381, .add64), (384, .sub64), (288, .cmpstr), (275, .noEscape), (280, .mapClone), (246, (.overlaps 204))] [] tables orc q W) 68 (Ev.anyO Tryz.prog [29, 3] q) :=
  Ev.any_is (orc := orcC68) (U := (fun _ _ => none)) (fun q => (Ev.orc_cons any102 (Ev.ext_cons e0 (Ev.ext_cons e1 (Ev.ext_cons e2 (Ev.ext_cons e3 (Ev.ext_cons e4 (Ev.ext_cons e5 (Ev.ext_nil _ _ q))))))))) mixed (Ev.enter_of Tryz.func68 (by kernel_rfl) (by kernel_rfl)) (Ev.fiGet_ok (by decide +kernel) _ _ _ _ _ _) (by decide +kernel) (by decide +kernel) chk68
noncomputable def orcC67 (q : List (Value × Bool)) : List (FuncId × Ev.OrcF) := [(102, Ev.anyO Tryz.prog [38] q), (68, Ev.anyO Tryz.prog [29, 3] q)]
noncomputable def c67a0 : Ev.Asrt := { G := ⟨Ev.Tr.putSome [(0, (Ev.sy 0 0 [(.int .u64 (0))])), (1, (Ev.sy 6 0 [(.int .u64 (1))])), (4, (.bool false))], []⟩, Gh := ⟨.nil, 100, 100⟩, fs := (Ev.factsOf Tryz.prog [130, 3] 0 ++ []), B := 2 }
noncomputable def c67a1 : Ev.Asrt := { G := ⟨Ev.Tr.putSome [(0, (Ev.sy 0 0 [(.int .u64 (0))])), (1, (Ev.sy 6 0 [(.int .u64 (1))])), (4, (Ev.sy 1 0 [(.int .u64 (2))])), (5, (Ev.sy 6 0 [(.int .u64 (3))]))], []⟩, Gh := ⟨.nil, 100, 100⟩, fs := (Ev.factsOf Tryz.prog [130, 3] 0 ++ [((Ev.sy 1 9 [(.int .u64 (5)), (Ev.sy 6 0 [(.int .u64 (3))])]), true)]), B := 2 }
noncomputable def c67a2 : Ev.Asrt := { G := ⟨Ev.Tr.putSome [(0, (Ev.sy 0 0 [(.int .u64 (0))])), (1, (Ev.sy 6 0 [(.int .u64 (1))])), (4, (Ev.sy 1 0 [(.int .u64 (2))])), (5, (Ev.sy 6 0 [(.int .u64 (3))]))], []⟩, Gh := ⟨.nil, 100, 100⟩, fs := (Ev.factsOf Tryz.prog [130, 3] 0 ++ []), B := 2 }
noncomputable def plan67 : Ev.Plan := (.seq (.run .leaf) c67a0 (.seq (.seq (.run .leaf) c67a1 (.block (.loop 3 (Ev.sy 0 0 [(.int .u64 (0))]) 4 (.run (.node t4 (.node t5 .leaf (.node t6 .leaf .leaf)) .leaf))))) c67a2 (.run .leaf)))
theorem chk67 : Ev.chk Tryz.prog [(381, .add64), (384, .sub64), (288, .cmpstr), (275, .noEscape), (280, .mapClone), (246, (.overlaps 204))] [] tables orcC67 (fun _ _ => none) 100000 60 (Ev.fiGet Tryz.prog 67).ntmps (Ev.anyB Tryz.prog [(381, .add64), (384, .sub64), (288, .cmpstr), (275, .noEscape), (280, .mapClone), (246, (.overlaps 204))] [] tables orcC67 (fun _ _ => none) (Ev.fiGet Tryz.prog 67)) plan67 (Ev.fiGet Tryz.prog 67).body { G := ⟨Ev.Tr.putList (Ev.symArgs Tryz.prog [130, 3] 0) .nil 0, []⟩, Gh := ⟨.nil, 100, 100⟩, fs := Ev.factsOf Tryz.prog [130, 3] 0, B := 2 } { nrm := none, exs := [] } = true := by decide +kernel
theorem any67 {orc : List (FuncId × Ev.OrcF)} {q : List (Value × Bool)} {W : Nat → List Value → Option Value} : Ev.OrcIs Tryz.prog (Ev.cxOf Tryz.prog [(381, .add64), (384, .sub64), (288, .cmpstr), (275, .noEscape), (280, .mapClone), (246, (.overlaps 204))] [] tables orc q W) 67 (Ev.anyO Tryz.prog [130, 3] q) :=
  Ev.any_is (orc := orcC67) (U := (fun _ _ => none)) (fun q => (Ev.orc_cons any102 (Ev.orc_cons any68 (Ev.ext_cons e0 (Ev.ext_cons e1 (Ev.ext_cons e2 (Ev.ext_cons e3 (Ev.ext_cons e4 (Ev.ext_cons e5 (Ev.ext_nil _ _ q)))))))))) mixed (Ev.enter_of Tryz.func67 (by kernel_rfl) (by kernel_rfl)) (Ev.fiGet_ok (by decide +kernel) _ _ _ _ _ _) (by decide +kernel) (by decide +kernel) chk67
noncomputable def orcC41 (q : List (Value × Bool)) : List (FuncId × Ev.OrcF) := [(102, Ev.anyO Tryz.prog [38] q), (68, Ev.anyO Tryz.prog [29, 3] q), (67, Ev.anyO Tryz.prog [130, 3] q)]
noncomputable def c41a0 : Ev.Asrt := { G := ⟨Ev.Tr.putSome [(0, (Ev.sy 0 0 [(.int .u64 (0))])), (2, (.bool false))], []⟩, Gh := ⟨.nil, 100, 100⟩, fs := (Ev.factsOf Tryz.prog [46] 0 ++ []), B := 1 }
noncomputable def c41a1 : Ev.Asrt := { G := ⟨Ev.Tr.putSome [(0, (Ev.sy 0 0 [(.int .u64 (0))])), (2, (Ev.sy 1 0 [(.int .u64 (1))])), (3, (Ev.sy 6 0 [(.int .u64 (2))]))], []⟩, Gh := ⟨.nil, 100, 100⟩, fs := (Ev.factsOf Tryz.prog [46] 0 ++ [((Ev.sy 1 9 [(.int .u64 (5)), (Ev.sy 6 0 [(.int .u64 (2))])]), true)]), B := 1 }
noncomputable def c41a2 : Ev.Asrt := { G := ⟨Ev.Tr.putSome [(0, (Ev.sy 0 0 [(.int .u64 (0))])), (2, (Ev.sy 1 0 [(.int .u64 (1))])), (3, (Ev.sy 6 0 [(.int .u64 (2))]))], []⟩, Gh := ⟨.nil, 100, 100⟩, fs := (Ev.factsOf Tryz.prog [46] 0 ++ []), B := 1 }
noncomputable def plan41 : Ev.Plan := (.seq (.run .leaf) c41a0 (.seq (.seq (.run .leaf) c41a1 (.block (.loop 2 (Ev.sy 0 0 [(.int .u64 (0))]) 3 (.run (.node t0 (.node t7 .leaf .leaf) .leaf))))) c41a2 (.run .leaf)))
theorem chk41 : Ev.chk Tryz.prog [(381, .add64), (384, .sub64), (288, .cmpstr), (275, .noEscape), (280, .mapClone), (246, (.overlaps 204))] [] tables orcC41 (fun _ _ => none) 100000 60 (Ev.fiGet Tryz.prog 41).ntmps (Ev.anyB Tryz.prog [(381, .add64), (384, .sub64), (288, .cmpstr), (275, .noEscape), (280, .mapClone), (246, (.overlaps 204))] [] tables orcC41 (fun _ _ => none) (Ev.fiGet Tryz.prog 41)) plan41 (Ev.fiGet Tryz.prog 41).body { G := ⟨Ev.Tr.putList (Ev.symArgs Tryz.prog [46] 0) .nil 0, []⟩, Gh := ⟨.nil, 100, 100⟩, fs := Ev.factsOf Tryz.prog [46] 0, B := 1 } { nrm := none, exs := [] } = true := by decide +kernel
theorem any41 {orc : List (FuncId × Ev.OrcF)} {q : List (Value × Bool)} {W : Nat → List Value → Option Value} : Ev.OrcIs Tryz.prog (Ev.cxOf Tryz.prog [(381, .add64), (384, .sub64), (288, .cmpstr), (275, .noEscape), (280, .mapClone), (246, (.overlaps 204))] [] tables orc q W) 41 (Ev.anyO Tryz.prog [46] q) :=
  Ev.any_is (orc := orcC41) (U := (fun _ _ => none)) (fun q => (Ev.orc_cons any102 (Ev.orc_cons any68 (Ev.orc_cons any67 (Ev.ext_cons e0 (Ev.ext_cons e1 (Ev.ext_cons e2 (Ev.ext_cons e3 (Ev.ext_cons e4 (Ev.ext_cons e5 (Ev.ext_nil _ _ q))))))))))) mixed (Ev.enter_of Tryz.func41 (by kernel_rfl) (by kernel_rfl)) (Ev.fiGet_ok (by decide +kernel) _ _ _ _ _ _) (by decide +kernel) (by decide +kernel) chk41
noncomputable def orcsQ (q : List (Value × Bool)) : List (FuncId × Ev.OrcF) := [(9, Ev.trueO), (102, Ev.anyO Tryz.prog [38] q), (68, Ev.anyO Tryz.prog [29, 3] q), (67, Ev.anyO Tryz.prog [130, 3] q), (41, Ev.anyO Tryz.prog [46] q)]
noncomputable def tree : Ev.PT := (.node t8 .leaf (.node t9 .leaf .leaf))
noncomputable def cls : List (Nat × List (Value × Bool)) := []
theorem cls_ok : (cls.all fun c => Ev.deadC c.2 c.1 && Ev.hasI c.1 (Ev.symArgs Tryz.prog ptys 0)) = true := by decide +kernel
theorem reckoned : Ev.walkT (fun q => Ev.tellsA (Ev.cxOf Tryz.prog [(381, .add64), (384, .sub64), (288, .cmpstr), (275, .noEscape), (280, .mapClone), (246, (.overlaps 204))] [] tables (orcsQ q) q (fun _ _ => none)) true (Ev.evFn (Ev.cxOf Tryz.prog [(381, .add64), (384, .sub64), (288, .cmpstr), (275, .noEscape), (280, .mapClone), (246, (.overlaps 204))] [] tables (orcsQ q) q (fun _ _ => none)) 100000 60 (.fn 4) (Ev.symArgs Tryz.prog ptys 0) ⟨.nil, 100, 100⟩)) (cls.map (·.2)) tree (Ev.factsOf Tryz.prog ptys 0) = true := by decide +kernel

theorem of_laid {W : World} (h : laidMetH Tryz.prog Rows.flowNilRow.laid W) (hsh : W.ShapedOpen Tryz.prog) : ∀ g t, (g, t) ∈ tables → ∃ cs ty fr, W.heap[g]? = some (.cells cs ty fr) ∧ ∀ (i : Nat) (v : Value), t.get i = some v → Ev.GC v cs[i]? := by
  rw [MakeChecks.laidMetH_plain _ _ _ (by kernel_rfl)] at h
  intro g t hm
  simp only [tables, List.mem_cons, List.not_mem_nil, or_false, Prod.mk.injEq] at hm
  rcases hm with ⟨rfl, rfl⟩ | ⟨rfl, rfl⟩ | ⟨rfl, rfl⟩ | ⟨rfl, rfl⟩ | ⟨rfl, rfl⟩ | ⟨rfl, rfl⟩ | ⟨rfl, rfl⟩
  · exact Ev.table_any h (nm := "math/bits.deBruijn32tab") (n := 9) (t := 406) (tab := tab0) (by simp [Rows.flowNilRow]; rfl) (by kernel_rfl) (by kernel_rfl) (by kernel_rfl) (by kernel_rfl)
  · exact Ev.table_any h (nm := "math/bits.deBruijn64tab") (n := 9) (t := 407) (tab := tab1) (by simp [Rows.flowNilRow]; rfl) (by kernel_rfl) (by kernel_rfl) (by kernel_rfl) (by kernel_rfl)
  · exact Ev.table_any h (nm := "internal/strconv.uint64pow10") (n := 9) (t := 391) (tab := tab2) (by simp [Rows.flowNilRow]; rfl) (by kernel_rfl) (by kernel_rfl) (by kernel_rfl) (by kernel_rfl)
  · exact Ev.table_any h (nm := "waterwheel/ast.shapes") (n := 9) (t := 195) (tab := tab3) (by simp [Rows.flowNilRow]; rfl) (by kernel_rfl) (by kernel_rfl) (by kernel_rfl) (by kernel_rfl)
  · exact Ev.table_any h (nm := "waterwheel/show.signs") (n := 9) (t := 331) (tab := tab4) (by simp [Rows.flowNilRow]; rfl) (by kernel_rfl) (by kernel_rfl) (by kernel_rfl) (by kernel_rfl)
  · exact Ev.table_any h (nm := "waterwheel/show.words") (n := 9) (t := 329) (tab := tab5) (by simp [Rows.flowNilRow]; rfl) (by kernel_rfl) (by kernel_rfl) (by kernel_rfl) (by kernel_rfl)
  · exact Ev.someInt_of (cell_of_shapedOpen_int (zero := #[.int .i64 0]) (t := 3) hsh (of_decide_eq_true (by kernel_rfl)) (by kernel_rfl) rfl (by kernel_rfl) (by kernel_rfl) Tryz.underlying3)
set_option maxRecDepth 100000 in
theorem walk (w : World) (r : Reach) (b0 : Nat) (args : List Value) (hl : ptys.length = args.length)
    (hok : ∀ (j : Nat) t v, ptys[j]? = some t → args[j]? = some v → Value.okWide Tryz.prog w r b0 t v) (hd : ∀ (j : Nat) t v, ptys[j]? = some t → args[j]? = some v → ∃ f, Ev.Rds Tryz.prog (fun a => w.cell? a) f t (Ev.vcells v)) (h : laidMetH Tryz.prog Rows.flowNilRow.laid w) (hsh : w.ShapedOpen Tryz.prog) :
    Calls Tryz.prog 4 ⟨args⟩ w fun e w' => e = .returned (.bool true) ∧ Below w.heap.size w w' := by
  obtain ⟨s, hs, hf⟩ := Ev.sym_deep hl hok hd (u := Ev.uRd (Ev.cxOf Tryz.prog [(381, .add64), (384, .sub64), (288, .cmpstr), (275, .noEscape), (280, .mapClone), (246, (.overlaps 204))] [] tables (orcsQ []) [] (fun _ _ => none)) (fun a => w.cell? a)) (fun vs => Ev.uRd_rd _ _ 8 vs (by omega))
  exact Ev.toldR (orc := orcsQ) (fun q => (Ev.orc_cons lives_is (Ev.orc_cons any102 (Ev.orc_cons any68 (Ev.orc_cons any67 (Ev.orc_cons any41 (Ev.ext_cons e0 (Ev.ext_cons e1 (Ev.ext_cons e2 (Ev.ext_cons e3 (Ev.ext_cons e4 (Ev.ext_cons e5 (Ev.ext_nil _ _ q))))))))))))) mixed cls_ok reckoned (Ev.old_all w) hs hf (of_laid h hsh)

/-- The door's own heap meets the condition. -/
theorem door_met (os : Os) (args : Array Value) : laidMetH Tryz.prog Rows.flowNilRow.laid ((World.doorLaid Tryz.prog 2000 os).forCall (fun _ _ => 0) ⟨#[], args, []⟩).memory :=
  laidMetH_of_parts3 (fuel := 8) (laidMet_of_run3 8 (by kernel_rfl) (by kernel_rfl) (by kernel_rfl)) (by kernel_rfl) (by kernel_rfl)

set_option maxRecDepth 100000 in
theorem lifted (os : Os) (started : os.Started) (H : Type) (enc : TypeId × Value → H) :
    ReturnsInHanded {} Tryz.checked os 4 .any (fun w args => (Rows.flowNilSpec.pre enc Tryz.prog Tryz.f4 [] false w args ∧ laidMetH Tryz.prog Rows.flowNilRow.laid w) ∧ sizedMet enc Tryz.prog Tryz.f4 (OpenSpec.ofChange Rows.flowNilSpec) false w args)
      (Rows.flowNilSpec.post enc Tryz.prog Tryz.f4 false true false false) := by
  refine Ev.handed_and_shaped (C := Tryz.checked) (X := fun w _ => laidMetH Tryz.prog Rows.flowNilRow.laid w) (fun _ _ _ hh h => h.of_heap hh) own started (by kernel_rfl) Tryz.func4
    (ChangeSpec.witness_shaped (enc := enc) (C := Tryz.checked) (os := os) (X := fun w _ => laidMetH Tryz.prog Rows.flowNilRow.laid w) false (World.doorLaid Tryz.prog 2000 os) ⟨Ev.zeroArgs Tryz.prog ptys⟩ 8 rfl (World.shaped_of_RefB (by kernel_rfl) (by kernel_rfl)) (by kernel_rfl) (by kernel_rfl) (by kernel_rfl) (door_met os _)) ?_
  intro W base args ds gs before hval0 hW hcnd hwts hL hsh _
  have hval : ∀ (j : Nat) t v, Tryz.f4.params[j]? = some t → args[j]? = some v → Value.okWide Tryz.prog W .any base t v := hval0
  have hW' := hW
  obtain ⟨p, q, hA0, hV, rfl, hfz, hnd⟩ := hW
  have hA : DataW.TrodAll enc Tryz.prog W 0 (fun _ => true) true Tryz.f4.params.toList args.toList ds p := hA0
  rw [Tryz.params4] at hA hval
  obtain ⟨v0, vs0, d0, ds0, p0, q0, hargs, rfl, rfl, h0, r0⟩ := trodAll_cons hA
  obtain ⟨rfl, rfl, rfl⟩ := trodAll_nil r0
  obtain rfl : args = #[v0] := by cases args; simp_all
  obtain ⟨rfl, rfl⟩ := trodVars_none hV
  have lt0 : ∀ x ∈ p0, x.block < W.heap.size := by obtain ⟨m, hm⟩ := h0; exact DataW.trod_lt m _ _ _ hm
  clear hA0 hval0
  simp only [List.append_nil] at hW'
  refine (walk W .any base [v0] rfl (fun j t v a b => hval j t v (by simpa [ptys] using a) (by simpa using b)) (by have hw : (DataW.weightsEach Tryz.prog [48] [d0]).all (· ≤ reachBytes) = true := hwts; exact (Ev.deepL_cons h0 hw (fun hw => Ev.deepL_nil hw))) hL hsh).mono fun e W' ⟨he, bel⟩ => ?_
  subst he
  exact ⟨_, rfl, _, _, _, [], _, [], hW', trodAll_mk1 (shut_bool Tryz.underlying4 _), (trodAll_cons_mk (Below.trod laidOut (by kernel_rfl) (of_decide_eq_true (by kernel_rfl)) h0 bel lt0) trodAll_mk0), rfl, bel.frame _, fun h => by cases h⟩

theorem j0 : Ev.J0 Tryz.pinned.checked.prog 4 Tryz.f4 Rows.flowNilSpec Rows.flowNilRow = true := by kernel_rfl
theorem j1 : Ev.J1 Tryz.pinned.checked.prog 4 Tryz.f4 Rows.flowNilSpec Rows.flowNilRow = true := by kernel_rfl
theorem j2 : Ev.J2 Tryz.pinned.checked.prog 4 Tryz.f4 Rows.flowNilSpec Rows.flowNilRow = true := by kernel_rfl
theorem j3 : Ev.J3 Tryz.pinned.checked.prog 4 Tryz.f4 Rows.flowNilSpec Rows.flowNilRow = true := by kernel_rfl
theorem j4 : Ev.J4 Tryz.pinned.checked.prog 4 Tryz.f4 Rows.flowNilSpec Rows.flowNilRow = true := by kernel_rfl
theorem j5 : Ev.J5 Tryz.pinned.checked.prog 4 Tryz.f4 Rows.flowNilSpec Rows.flowNilRow = true := by kernel_rfl
theorem j6 : Ev.J6 Tryz.pinned.checked.prog 4 Tryz.f4 Rows.flowNilSpec Rows.flowNilRow = true := by kernel_rfl
theorem j7 : Ev.J7 Tryz.pinned.checked.prog 4 Tryz.f4 Rows.flowNilSpec Rows.flowNilRow = true := by kernel_rfl
theorem j8 : Ev.J8 Tryz.pinned.checked.prog 4 Tryz.f4 Rows.flowNilSpec Rows.flowNilRow = true := by kernel_rfl
theorem j9 : Ev.J9 Tryz.pinned.checked.prog 4 Tryz.f4 Rows.flowNilSpec Rows.flowNilRow = true := by kernel_rfl
theorem j10 : Ev.J10 Tryz.pinned.checked.prog 4 Tryz.f4 Rows.flowNilSpec Rows.flowNilRow = true := by kernel_rfl
theorem j11 : Ev.J11 Tryz.pinned.checked.prog 4 Tryz.f4 Rows.flowNilSpec Rows.flowNilRow = true := by kernel_rfl
theorem j12 : Ev.J12 Tryz.pinned.checked.prog 4 Tryz.f4 Rows.flowNilSpec Rows.flowNilRow = true := by kernel_rfl
theorem j13 : Ev.J13 Tryz.pinned.checked.prog 4 Tryz.f4 Rows.flowNilSpec Rows.flowNilRow = true := by kernel_rfl
theorem j14 : Ev.J14 Tryz.pinned.checked.prog 4 Tryz.f4 Rows.flowNilSpec Rows.flowNilRow = true := by kernel_rfl
theorem j15 : Ev.J15 Tryz.pinned.checked.prog 4 Tryz.f4 Rows.flowNilSpec Rows.flowNilRow = true := by kernel_rfl
theorem j16 : Ev.J16 Tryz.pinned.checked.prog 4 Tryz.f4 Rows.flowNilSpec Rows.flowNilRow = true := by kernel_rfl
theorem j17 : Ev.J17 Tryz.pinned.checked.prog 4 Tryz.f4 Rows.flowNilSpec Rows.flowNilRow = true := by kernel_rfl
theorem j18 : Ev.J18 Tryz.pinned.checked.prog 4 Tryz.f4 Rows.flowNilSpec Rows.flowNilRow = true := by kernel_rfl
theorem j19 : Ev.J19 Tryz.pinned.checked.prog 4 Tryz.f4 Rows.flowNilSpec Rows.flowNilRow = true := by kernel_rfl
theorem j20 : Ev.J20 Tryz.pinned.checked.prog 4 Tryz.f4 Rows.flowNilSpec Rows.flowNilRow = true := by kernel_rfl
theorem j21 : Ev.J21 Tryz.pinned.checked.prog 4 Tryz.f4 Rows.flowNilSpec Rows.flowNilRow = true := by kernel_rfl
theorem j22 : Ev.J22 Tryz.pinned.checked.prog 4 Tryz.f4 Rows.flowNilSpec Rows.flowNilRow = true := by kernel_rfl
theorem j23 : Ev.J23 Tryz.pinned.checked.prog 4 Tryz.f4 Rows.flowNilSpec Rows.flowNilRow = true := by kernel_rfl
theorem j24 : Ev.J24 Tryz.pinned.checked.prog 4 Tryz.f4 Rows.flowNilSpec Rows.flowNilRow = true := by kernel_rfl
theorem j25 : Ev.J25 Tryz.pinned.checked.prog 4 Tryz.f4 Rows.flowNilSpec Rows.flowNilRow = true := by kernel_rfl
theorem j26 : Ev.J26 Tryz.pinned.checked.prog 4 Tryz.f4 Rows.flowNilSpec Rows.flowNilRow = true := by kernel_rfl
theorem j27 : Ev.J27 Tryz.pinned.checked.prog 4 Tryz.f4 Rows.flowNilSpec Rows.flowNilRow = true := by kernel_rfl
theorem j28 : Ev.J28 Tryz.pinned.checked.prog 4 Tryz.f4 Rows.flowNilSpec Rows.flowNilRow = true := by kernel_rfl
theorem j29 : Ev.J29 Tryz.pinned.checked.prog 4 Tryz.f4 Rows.flowNilSpec Rows.flowNilRow = true := by kernel_rfl
theorem j30 : Ev.J30 Tryz.pinned.checked.prog 4 Tryz.f4 Rows.flowNilSpec Rows.flowNilRow = true := by kernel_rfl
theorem j31 : Ev.J31 Tryz.pinned.checked.prog 4 Tryz.f4 Rows.flowNilSpec Rows.flowNilRow = true := by kernel_rfl
theorem joined : joinedFacts Tryz.pinned.checked.prog 4 Tryz.f4 Rows.flowNilSpec Rows.flowNilRow = true := Ev.joined_mk j0 j1 j2 j3 j4 j5 j6 j7 j8 j9 j10 j11 j12 j13 j14 j15 j16 j17 j18 j19 j20 j21 j22 j23 j24 j25 j26 j27 j28 j29 j30 j31

theorem over : Rows.FlowNilSaid :=
  OpenClaim.holds_of_wide 4 Tryz.f4 rfl rfl rfl rfl rfl rfl rfl ⟨rfl, rfl, rfl, rfl, rfl⟩ rfl rfl rfl rfl rfl (by kernel_rfl) Tryz.func4 joined
    (of_decide_eq_true (by kernel_rfl)) (by unfold Func.isWrapper; first | (rw [if_pos (by decide +kernel)]; kernel_rfl) | (rw [if_neg (by decide +kernel)]; exact ⟨rfl, rfl⟩))
    (fun os started H enc _ => lifted os started H enc)

theorem p_w : Rows.flowNilRow.wfByText (OpenSpec.ofChange Rows.flowNilSpec) = true := by kernel_rfl
theorem p_m : Tryz.pinned.checked.prog.mainIs = some (true, "83d9399d23a38804d2988014d5b923d4d689d6ae1c9fe3b6a6776fe4d777e9b0".toList) := by kernel_rfl
theorem p_f : Tryz.prog.funcNamed "waterwheel/waterwheellaw21.FlowNil" = some 4 := by kernel_rfl
theorem p_k : true = Tryz.pinned.checked.prog.looks [] := by kernel_rfl
theorem p_g : false = Rows.flowNilRow.goesBy Tryz.pinned.checked.prog := by kernel_rfl

theorem proved : Rows.FlowNilCardSaid :=
  Claim7.holds_tied_plain_at .later [] [.data, .data, .data, .data, .data, .data] true (true, "83d9399d23a38804d2988014d5b923d4d689d6ae1c9fe3b6a6776fe4d777e9b0") true
    over (fun _ h => by cases h) p_w (fun _ h => by cases h) flowNil_row_tie rfl ⟨rfl, rfl⟩ p_m rfl
    (fun f fn hf hfn => by
      obtain rfl : f = 4 := Option.some.inj ((show Tryz.prog.funcNamed "waterwheel/waterwheellaw21.FlowNil" = some 4 from p_f).symm.trans hf) |>.symm
      obtain rfl : fn = Tryz.f4 := (Option.some.inj (Tryz.func4.symm.trans hfn)).symm
      exact ⟨p_k, fun j t ht => by
        rw [Tryz.params4] at ht
        rcases j with _ | j
        all_goals first
          | (simp at ht; done)
          | (simp at ht; subst ht; kernel_rfl)⟩)
    p_g
#print axioms proved
end Go.Proofs.YtejnaedignfmoaaGreatDoor.flowNil
