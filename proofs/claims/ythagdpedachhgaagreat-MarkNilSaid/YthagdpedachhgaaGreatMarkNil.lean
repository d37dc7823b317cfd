/- For every input: at the landed commit the Go function waterwheellaw20.MarkNil returns true, and its arguments read behind the call as before. No condition. The call is reckoned with arguments that are not known. -/
import Derived.Test.YthagdpedachhgaaGreatRows
import Derived.Test.YthagdpedachhgaaGreatEvFa
import Derived.Test.YthagdpedachhgaaGreatEvAl
import Derived.ShutString
import Derived.ProofKit
import Derived.OpenShut
import Derived.ChangeOld
import Derived.Lib.SmallJoins
namespace Go.Proofs.YthagdpedachhgaaGreat.markNil
open Go.ChangeShapes Go.WideShapes Go.ChangeAt Go.RowKit Go.Deep Go.Joins
set_option linter.unusedVariables false

theorem own : ownKnob Tryz.prog.godebug = none := by kernel_rfl
theorem laidOut : laidOutB Tryz.prog = true := by kernel_rfl
theorem mixed : Tryz.prog.follows .mixedOrders = true := by kernel_rfl

theorem e0 : Ev.ExtIs Tryz.prog 145 .cmpstr := ⟨_, Tryz.func145, by kernel_rfl, rfl, by kernel_rfl, by kernel_rfl⟩
theorem e1 : Ev.ExtIs Tryz.prog 120 (.overlaps 102) := ⟨_, Tryz.func120, by kernel_rfl, rfl, by kernel_rfl, by kernel_rfl⟩

noncomputable def orcs0 : List (FuncId × Ev.OrcF) := []
theorem reckoned_lives : Ev.tells true (Ev.evFn (Ev.cxOf Tryz.prog [(145, .cmpstr), (120, (.overlaps 102))] [] [] orcs0) 100000 60 (.fn 6) [] ⟨.nil, 100, 100⟩) = true := Ev.of_mix (p := Ev.tells true) (by decide +kernel)
theorem lives_is {q : List (Value × Bool)} : Ev.OrcIs Tryz.prog (Ev.cxOf Tryz.prog [(145, .cmpstr), (120, (.overlaps 102))] [] [] [] q) 6 Ev.trueO := Ev.trueO_is (Ev.enter_of Tryz.func6 (by kernel_rfl) (by kernel_rfl)) (Ev.ext_cons e0 (Ev.ext_cons e1 (Ev.ext_nil _ [] []))) mixed reckoned_lives
def ptys : List TypeId := [28]
def t0 : Value := (Ev.sy 1 1 [(.int .u64 (13)), (.int .u64 (3)), (.bool false), (Ev.sy 6 0 [(.int .u64 (2))]), (Ev.sy 6 5 [(Ev.sy 0 0 [(.int .u64 (0))])])])
def t1 : Value := (Ev.sy 1 1 [(.int .u64 (13)), (.int .u64 (3)), (.bool true), (.int .i64 (30)), (Ev.sy 6 0 [(.int .u64 (2))])])
def t2 : Value := (Ev.sy 1 1 [(.int .u64 (13)), (.int .u64 (3)), (.bool true), (.int .i64 (300)), (Ev.sy 6 5 [(Ev.sy 2 6 [(Ev.sy 0 8 [(Ev.sy 0 8 [(Ev.sy 0 7 [(.int .u64 (2)), (Ev.sy 0 0 [(.int .u64 (0))]), (Ev.sy 6 0 [(.int .u64 (2))])]), (.int .u64 (0))]), (.int .u64 (0))])])])])
def t3 : Value := (Ev.sy 1 1 [(.int .u64 (13)), (.int .u64 (3)), (.bool true), (.int .i64 (300)), (Ev.sy 6 5 [(Ev.sy 2 6 [(Ev.sy 0 8 [(Ev.sy 0 8 [(Ev.sy 0 7 [(.int .u64 (2)), (Ev.sy 0 0 [(.int .u64 (0))]), (Ev.sy 6 0 [(.int .u64 (2))])]), (.int .u64 (1))]), (.int .u64 (0))])])])])
def t4 : Value := (Ev.sy 1 1 [(.int .u64 (13)), (.int .u64 (3)), (.bool false), (Ev.sy 6 0 [(.int .u64 (3))]), (Ev.sy 6 5 [(Ev.sy 0 0 [(.int .u64 (0))])])])
def t5 : Value := (Ev.sy 1 1 [(.int .u64 (13)), (.int .u64 (3)), (.bool false), (Ev.sy 6 0 [(.int .u64 (1))]), (Ev.sy 6 0 [(.int .u64 (3))])])
def t6 : Value := (Ev.sy 1 1 [(.int .u64 (13)), (.int .u64 (3)), (.bool true), (.int .i64 (300)), (Ev.sy 6 5 [(Ev.sy 2 6 [(Ev.sy 0 8 [(Ev.sy 0 8 [(Ev.sy 0 8 [(Ev.sy 0 7 [(.int .u64 (4)), (Ev.sy 0 0 [(.int .u64 (0))]), (Ev.sy 6 0 [(.int .u64 (3))])]), (.int .u64 (0))]), (.int .u64 (0))]), (.int .u64 (0))])])])])
def t7 : Value := (Ev.sy 1 1 [(.int .u64 (13)), (.int .u64 (3)), (.bool true), (.int .i64 (80)), (Ev.sy 6 0 [(.int .u64 (2))])])
noncomputable def orcC40 (q : List (Value × Bool)) : List (FuncId × Ev.OrcF) := []
noncomputable def c40a0 : Ev.Asrt := { G := ⟨Ev.Tr.putSome [(0, (Ev.sy 0 0 [(.int .u64 (0))])), (2, (.bool false))], []⟩, Gh := ⟨.nil, 100, 100⟩, fs := (Ev.factsOf Tryz.prog [22] 0 ++ []), B := 1 }
noncomputable def c40a1 : Ev.Asrt := { G := ⟨Ev.Tr.putSome [(0, (Ev.sy 0 0 [(.int .u64 (0))])), (2, (Ev.sy 1 0 [(.int .u64 (1))])), (3, (Ev.sy 6 0 [(.int .u64 (2))]))], []⟩, Gh := ⟨.nil, 100, 100⟩, fs := (Ev.factsOf Tryz.prog [22] 0 ++ [((Ev.sy 1 9 [(.int .u64 (5)), (Ev.sy 6 0 [(.int .u64 (2))])]), true)]), B := 1 }
noncomputable def c40a2 : Ev.Asrt := { G := ⟨Ev.Tr.putSome [(0, (Ev.sy 0 0 [(.int .u64 (0))])), (2, (Ev.sy 1 0 [(.int .u64 (1))])), (3, (Ev.sy 6 0 [(.int .u64 (2))]))], []⟩, Gh := ⟨.nil, 100, 100⟩, fs := (Ev.factsOf Tryz.prog [22] 0 ++ []), B := 1 }
noncomputable def plan40 : Ev.Plan := (.seq (.run .leaf) c40a0 (.seq (.seq (.run .leaf) c40a1 (.block (.loop 2 (Ev.sy 0 0 [(.int .u64 (0))]) 3 (.run (.node t0 (.node t1 .leaf (.node t2 .leaf (.node t3 .leaf .leaf))) .leaf))))) c40a2 (.run .leaf)))
theorem chk40 : Ev.chk Tryz.prog [(145, .cmpstr), (120, (.overlaps 102))] [] [] orcC40 (fun _ _ => none) 100000 60 (Ev.fiGet Tryz.prog 40).ntmps (Ev.anyB Tryz.prog [(145, .cmpstr), (120, (.overlaps 102))] [] [] orcC40 (fun _ _ => none) (Ev.fiGet Tryz.prog 40)) plan40 (Ev.fiGet Tryz.prog 40).body { G := ⟨Ev.Tr.putList (Ev.symArgs Tryz.prog [22] 0) .nil 0, []⟩, Gh := ⟨.nil, 100, 100⟩, fs := Ev.factsOf Tryz.prog [22] 0, B := 1 } { nrm := none, exs := [] } = true := by decide +kernel
theorem any40 {orc : List (FuncId × Ev.OrcF)} {q : List (Value × Bool)} {W : Nat → List Value → Option Value} : Ev.OrcIs Tryz.prog (Ev.cxOf Tryz.prog [(145, .cmpstr), (120, (.overlaps 102))] [] [] orc q W) 40 (Ev.anyO Tryz.prog [22] q) :=
  Ev.any_is (orc := orcC40) (U := (fun _ _ => none)) (fun q => (Ev.ext_cons e0 (Ev.ext_cons e1 (Ev.ext_nil _ [] q)))) mixed (Ev.enter_of Tryz.func40 (by kernel_rfl) (by kernel_rfl)) (Ev.fiGet_ok (by decide +kernel) _ _ _ _ _ _) (by decide +kernel) (by decide +kernel) chk40
noncomputable def orcC19 (q : List (Value × Bool)) : List (FuncId × Ev.OrcF) := [(40, Ev.anyO Tryz.prog [22] q)]
noncomputable def c19a0 : Ev.Asrt := { G := ⟨Ev.Tr.putSome [(0, (Ev.sy 0 0 [(.int .u64 (0))])), (1, (Ev.sy 6 0 [(.int .u64 (1))])), (4, (.bool false))], []⟩, Gh := ⟨.nil, 100, 100⟩, fs := (Ev.factsOf Tryz.prog [33, 3] 0 ++ []), B := 2 }
noncomputable def c19a1 : Ev.Asrt := { G := ⟨Ev.Tr.putSome [(0, (Ev.sy 0 0 [(.int .u64 (0))])), (1, (Ev.sy 6 0 [(.int .u64 (1))])), (4, (Ev.sy 1 0 [(.int .u64 (2))])), (5, (Ev.sy 6 0 [(.int .u64 (3))]))], []⟩, Gh := ⟨.nil, 100, 100⟩, fs := (Ev.factsOf Tryz.prog [33, 3] 0 ++ [((Ev.sy 1 9 [(.int .u64 (5)), (Ev.sy 6 0 [(.int .u64 (3))])]), true)]), B := 2 }
noncomputable def c19a2 : Ev.Asrt := { G := ⟨Ev.Tr.putSome [(0, (Ev.sy 0 0 [(.int .u64 (0))])), (1, (Ev.sy 6 0 [(.int .u64 (1))])), (4, (Ev.sy 1 0 [(.int .u64 (2))])), (5, (Ev.sy 6 0 [(.int .u64 (3))]))], []⟩, Gh := ⟨.nil, 100, 100⟩, fs := (Ev.factsOf Tryz.prog [33, 3] 0 ++ []), B := 2 }
noncomputable def plan19 : Ev.Plan := (.seq (.run .leaf) c19a0 (.seq (.seq (.run .leaf) c19a1 (.block (.loop 3 (Ev.sy 0 0 [(.int .u64 (0))]) 4 (.run (.node t4 (.node t5 .leaf (.node t6 .leaf .leaf)) .leaf))))) c19a2 (.run .leaf)))
theorem chk19 : Ev.chk Tryz.prog [(145, .cmpstr), (120, (.overlaps 102))] [] [] orcC19 (fun _ _ => none) 100000 60 (Ev.fiGet Tryz.prog 19).ntmps (Ev.anyB Tryz.prog [(145, .cmpstr), (120, (.overlaps 102))] [] [] orcC19 (fun _ _ => none) (Ev.fiGet Tryz.prog 19)) plan19 (Ev.fiGet Tryz.prog 19).body { G := ⟨Ev.Tr.putList (Ev.symArgs Tryz.prog [33, 3] 0) .nil 0, []⟩, Gh := ⟨.nil, 100, 100⟩, fs := Ev.factsOf Tryz.prog [33, 3] 0, B := 2 } { nrm := none, exs := [] } = true := by decide +kernel
theorem any19 {orc : List (FuncId × Ev.OrcF)} {q : List (Value × Bool)} {W : Nat → List Value → Option Value} : Ev.OrcIs Tryz.prog (Ev.cxOf Tryz.prog [(145, .cmpstr), (120, (.overlaps 102))] [] [] orc q W) 19 (Ev.anyO Tryz.prog [33, 3] q) :=
  Ev.any_is (orc := orcC19) (U := (fun _ _ => none)) (fun q => (Ev.orc_cons any40 (Ev.ext_cons e0 (Ev.ext_cons e1 (Ev.ext_nil _ [] q))))) mixed (Ev.enter_of Tryz.func19 (by kernel_rfl) (by kernel_rfl)) (Ev.fiGet_ok (by decide +kernel) _ _ _ _ _ _) (by decide +kernel) (by decide +kernel) chk19
noncomputable def orcC7 (q : List (Value × Bool)) : List (FuncId × Ev.OrcF) := [(40, Ev.anyO Tryz.prog [22] q), (19, Ev.anyO Tryz.prog [33, 3] q)]
noncomputable def c7a0 : Ev.Asrt := { G := ⟨Ev.Tr.putSome [(0, (Ev.sy 0 0 [(.int .u64 (0))])), (2, (.bool false))], []⟩, Gh := ⟨.nil, 100, 100⟩, fs := (Ev.factsOf Tryz.prog [31] 0 ++ []), B := 1 }
noncomputable def c7a1 : Ev.Asrt := { G := ⟨Ev.Tr.putSome [(0, (Ev.sy 0 0 [(.int .u64 (0))])), (2, (Ev.sy 1 0 [(.int .u64 (1))])), (3, (Ev.sy 6 0 [(.int .u64 (2))]))], []⟩, Gh := ⟨.nil, 100, 100⟩, fs := (Ev.factsOf Tryz.prog [31] 0 ++ [((Ev.sy 1 9 [(.int .u64 (5)), (Ev.sy 6 0 [(.int .u64 (2))])]), true)]), B := 1 }
noncomputable def c7a2 : Ev.Asrt := { G := ⟨Ev.Tr.putSome [(0, (Ev.sy 0 0 [(.int .u64 (0))])), (2, (Ev.sy 1 0 [(.int .u64 (1))])), (3, (Ev.sy 6 0 [(.int .u64 (2))]))], []⟩, Gh := ⟨.nil, 100, 100⟩, fs := (Ev.factsOf Tryz.prog [31] 0 ++ []), B := 1 }
noncomputable def plan7 : Ev.Plan := (.seq (.run .leaf) c7a0 (.seq (.seq (.run .leaf) c7a1 (.block (.loop 2 (Ev.sy 0 0 [(.int .u64 (0))]) 3 (.run (.node t0 (.node t7 .leaf .leaf) .leaf))))) c7a2 (.run .leaf)))
theorem chk7 : Ev.chk Tryz.prog [(145, .cmpstr), (120, (.overlaps 102))] [] [] orcC7 (fun _ _ => none) 100000 60 (Ev.fiGet Tryz.prog 7).ntmps (Ev.anyB Tryz.prog [(145, .cmpstr), (120, (.overlaps 102))] [] [] orcC7 (fun _ _ => none) (Ev.fiGet Tryz.prog 7)) plan7 (Ev.fiGet Tryz.prog 7).body { G := ⟨Ev.Tr.putList (Ev.symArgs Tryz.prog [31] 0) .nil 0, []⟩, Gh := ⟨.nil, 100, 100⟩, fs := Ev.factsOf Tryz.prog [31] 0, B := 1 } { nrm := none, exs := [] } = true := by decide +kernel
theorem any7 {orc : List (FuncId × Ev.OrcF)} {q : List (Value × Bool)} {W : Nat → List Value → Option Value} : Ev.OrcIs Tryz.prog (Ev.cxOf Tryz.prog [(145, .cmpstr), (120, (.overlaps 102))] [] [] orc q W) 7 (Ev.anyO Tryz.prog [31] q) :=
  Ev.any_is (orc := orcC7) (U := (fun _ _ => none)) (fun q => (Ev.orc_cons any40 (Ev.orc_cons any19 (Ev.ext_cons e0 (Ev.ext_cons e1 (Ev.ext_nil _ [] q)))))) mixed (Ev.enter_of Tryz.func7 (by kernel_rfl) (by kernel_rfl)) (Ev.fiGet_ok (by decide +kernel) _ _ _ _ _ _) (by decide +kernel) (by decide +kernel) chk7
noncomputable def orcsQ (q : List (Value × Bool)) : List (FuncId × Ev.OrcF) := [(6, Ev.trueO), (40, Ev.anyO Tryz.prog [22] q), (19, Ev.anyO Tryz.prog [33, 3] q), (7, Ev.anyO Tryz.prog [31] q)]
noncomputable def tree : Ev.PT := .leaf
noncomputable def cls : List (Nat × List (Value × Bool)) := []
theorem cls_ok : (cls.all fun c => Ev.deadC c.2 c.1 && Ev.hasI c.1 (Ev.symArgs Tryz.prog ptys 0)) = true := by decide +kernel
theorem reckoned : Ev.walkT (fun q => Ev.tellsA (Ev.cxOf Tryz.prog [(145, .cmpstr), (120, (.overlaps 102))] [] [] (orcsQ q) q (fun _ _ => none)) true (Ev.evFn (Ev.cxOf Tryz.prog [(145, .cmpstr), (120, (.overlaps 102))] [] [] (orcsQ q) q (fun _ _ => none)) 100000 60 (.fn 3) (Ev.symArgs Tryz.prog ptys 0) ⟨.nil, 100, 100⟩)) (cls.map (·.2)) tree (Ev.factsOf Tryz.prog ptys 0) = true := by decide +kernel

set_option maxRecDepth 100000 in
theorem walk (w : World) (r : Reach) (b0 : Nat) (args : List Value) (hl : ptys.length = args.length)
    (hok : ∀ (j : Nat) t v, ptys[j]? = some t → args[j]? = some v → Value.okWide Tryz.prog w r b0 t v) (hd : ∀ (j : Nat) t v, ptys[j]? = some t → args[j]? = some v → ∃ f, Ev.Rds Tryz.prog (fun a => w.cell? a) f t (Ev.vcells v)) :
    Calls Tryz.prog 3 ⟨args⟩ w fun e w' => e = .returned (.bool true) ∧ Below w.heap.size w w' := by
  obtain ⟨s, hs, hf⟩ := Ev.sym_deep hl hok hd (u := Ev.uRd (Ev.cxOf Tryz.prog [(145, .cmpstr), (120, (.overlaps 102))] [] [] (orcsQ []) [] (fun _ _ => none)) (fun a => w.cell? a)) (fun vs => Ev.uRd_rd _ _ 8 vs (by omega))
  exact Ev.toldR (orc := orcsQ) (fun q => (Ev.orc_cons lives_is (Ev.orc_cons any40 (Ev.orc_cons any19 (Ev.orc_cons any7 (Ev.ext_cons e0 (Ev.ext_cons e1 (Ev.ext_nil _ [] q)))))))) mixed cls_ok reckoned (Ev.old_all w) hs hf (fun _ _ h1 => by cases h1)

set_option maxRecDepth 100000 in
theorem lifted (os : Os) (started : os.Started) (H : Type) (enc : TypeId × Value → H) :
    ReturnsInHanded {} Tryz.checked os 3 .any (Rows.markNilSpec.pre6 enc Tryz.prog Tryz.f3 Rows.markNilRow.domain false) (Rows.markNilSpec.post enc Tryz.prog Tryz.f3 false true false false) := by
  refine Ev.handed_sized (C := Tryz.checked) own started (by kernel_rfl) Tryz.func3
    (ChangeSpec.witness6 (enc := enc) (C := Tryz.checked) false ⟨#[], ⟨Ev.zeroArgs Tryz.prog ptys⟩, []⟩ 8 (by kernel_rfl) (by kernel_rfl) (by kernel_rfl) (by kernel_rfl)) ?_
  intro W base args ds gs before hval0 hW hcnd hwts _
  have hval : ∀ (j : Nat) t v, Tryz.f3.params[j]? = some t → args[j]? = some v → Value.okWide Tryz.prog W .any base t v := hval0
  have hW' := hW
  obtain ⟨p, q, hA0, hV, rfl, hfz, hnd⟩ := hW
  have hA : DataW.TrodAll enc Tryz.prog W 0 (fun _ => true) true Tryz.f3.params.toList args.toList ds p := hA0
  rw [Tryz.params3] at hA hval
  obtain ⟨v0, vs0, d0, ds0, p0, q0, hargs, rfl, rfl, h0, r0⟩ := trodAll_cons hA
  obtain ⟨rfl, rfl, rfl⟩ := trodAll_nil r0
  obtain rfl : args = #[v0] := by cases args; simp_all
  obtain ⟨rfl, rfl⟩ := trodVars_none hV
  have lt0 : ∀ x ∈ p0, x.block < W.heap.size := by obtain ⟨m, hm⟩ := h0; exact DataW.trod_lt m _ _ _ hm
  clear hA0 hval0
  simp only [List.append_nil] at hW'
  refine (walk W .any base [v0] rfl (fun j t v a b => hval j t v (by simpa [ptys] using a) (by simpa using b)) (by have hw : (DataW.weightsEach Tryz.prog [28] [d0]).all (· ≤ reachBytes) = true := hwts; exact (Ev.deepL_cons h0 hw (fun hw => Ev.deepL_nil hw)))).mono fun e W' ⟨he, bel⟩ => ?_
  subst he
  exact ⟨_, rfl, _, _, _, [], _, [], hW', trodAll_mk1 (shut_bool Tryz.underlying4 _), (trodAll_cons_mk (Below.trod laidOut (by kernel_rfl) (of_decide_eq_true (by kernel_rfl)) h0 bel lt0) trodAll_mk0), rfl, bel.frame _, fun h => by cases h⟩

theorem over : Rows.markNilRow.holds Tryz.pinned (OpenSpec.ofChange Rows.markNilSpec) :=
  OpenClaim.holds_of_wide 3 Tryz.f3 rfl rfl rfl rfl rfl rfl rfl ⟨rfl, rfl, rfl, rfl, rfl⟩ rfl rfl rfl rfl rfl (by kernel_rfl) Tryz.func3 (by kernel_rfl)
    (of_decide_eq_true (by kernel_rfl)) (by unfold Func.isWrapper; first | (rw [if_pos (by decide +kernel)]; kernel_rfl) | (rw [if_neg (by decide +kernel)]; exact ⟨rfl, rfl⟩))
    (fun os started H enc _ => lifted os started H enc)

theorem proved : Rows.MarkNilSaid := over
#print axioms proved
end Go.Proofs.YthagdpedachhgaaGreat.markNil
