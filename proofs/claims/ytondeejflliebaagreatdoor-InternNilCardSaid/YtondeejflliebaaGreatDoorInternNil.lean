/- For every input: at the landed commit the Go function waterwheellaw12.InternNil returns true, and its arguments read behind the call as before, where the tables of Go's library that the row lists hold what the card ties to the program's text. No other condition. The call is reckoned with arguments that are not known. -/
import Derived.Test.YtondeejflliebaaGreatDoorRows
import Derived.Test.YtondeejflliebaaGreatDoorCards
import Derived.Test.YtondeejflliebaaGreatDoorTie
import Derived.Test.YtondeejflliebaaGreatDoorEvAl
import Derived.ShutString
import Derived.ChangeOld
import Derived.Lib.SmallJoins
import Derived.ProofKit
import Derived.OpenShut
import Derived.LaidMore
import Derived.SevenTiedAt
import Derived.Deep.DeepLaidRun
namespace Go.Proofs.YtondeejflliebaaGreatDoor.internNil
open Go.ChangeShapes Go.WideShapes Go.ChangeAt Go.RowKit Go.Deep Go.Joins
set_option linter.unusedVariables false
set_option linter.unusedSimpArgs false

theorem own : ownKnob Tryz.prog.godebug = none := by kernel_rfl
theorem laidOut : laidOutB Tryz.prog = true := by kernel_rfl
theorem mixed : Tryz.prog.follows .mixedOrders = true := by kernel_rfl

theorem e0 : Ev.ExtIs Tryz.prog 125 .cmpstr := ⟨_, Tryz.func125, by kernel_rfl, rfl, by kernel_rfl, by kernel_rfl⟩
def tab0 : List (Nat × Value) := [(0, .int .i64 (0)), (1, .int .i64 (0)), (2, .int .i64 (0)), (3, .int .i64 (0)), (4, .int .i64 (0)), (5, .int .i64 (0)), (6, .bool false), (7, .bool false), (8, .int .i64 (0)), (9, .int .i64 (0)), (10, .int .i64 (1)), (11, .int .i64 (6)), (12, .int .i64 (0)), (13, .int .i64 (0)), (14, .int .i64 (1)), (15, .int .i64 (1073741824)), (16, .bool false), (17, .bool true), (18, .int .i64 (0)), (19, .int .i64 (0)), (20, .int .i64 (1)), (21, .int .i64 (4)), (22, .int .i64 (0)), (23, .int .i64 (0)), (24, .int .i64 (0)), (25, .int .i64 (0)), (26, .bool false), (27, .bool false), (28, .int .i64 (8)), (29, .int .i64 (1)), (30, .int .i64 (0)), (31, .int .i64 (0)), (32, .int .i64 (1)), (33, .int .i64 (3)), (34, .int .i64 (0)), (35, .int .i64 (0)), (36, .bool false), (37, .bool false), (38, .int .i64 (8)), (39, .int .i64 (2)), (40, .int .i64 (0)), (41, .int .i64 (0)), (42, .int .i64 (1)), (43, .int .i64 (3)), (44, .int .i64 (0)), (45, .int .i64 (0)), (46, .bool true), (47, .bool false), (48, .int .i64 (0)), (49, .int .i64 (1)), (50, .int .i64 (0)), (51, .int .i64 (0)), (52, .int .i64 (4)), (53, .int .i64 (9)), (54, .int .i64 (0)), (55, .int .i64 (0)), (56, .bool true), (57, .bool false), (58, .int .i64 (0)), (59, .int .i64 (1))]
noncomputable def tables : List (Nat × Ev.Tr Value) := [(0, Ev.Tr.putSome tab0), (1, Ev.someInt)]
noncomputable def orcs0 : List (FuncId × Ev.OrcF) := []
theorem reckoned_lives : Ev.tells true (Ev.evFn (Ev.cxOf Tryz.prog [(125, .cmpstr)] [] tables orcs0) 100000 60 (.fn 4) [] ⟨.nil, 100, 100⟩) = true := by decide +kernel
theorem lives_is {q : List (Value × Bool)} : Ev.OrcIs Tryz.prog (Ev.cxOf Tryz.prog [(125, .cmpstr)] [] tables [] q) 4 Ev.trueO := Ev.trueO_is (Ev.enter_of Tryz.func4 (by kernel_rfl) (by kernel_rfl)) (Ev.ext_cons e0 (Ev.ext_nil _ _ [])) mixed reckoned_lives
def ptys : List TypeId := [24, 3]
def t0 : Value := (Ev.sy 1 1 [(.int .u64 (13)), (.int .u64 (3)), (.bool false), (Ev.sy 6 0 [(.int .u64 (2))]), (Ev.sy 6 5 [(Ev.sy 0 0 [(.int .u64 (0))])])])
def t1 : Value := (Ev.sy 1 1 [(.int .u64 (13)), (.int .u64 (3)), (.bool true), (.int .i64 (30)), (Ev.sy 6 0 [(.int .u64 (2))])])
def t2 : Value := (Ev.sy 1 1 [(.int .u64 (13)), (.int .u64 (3)), (.bool true), (.int .i64 (300)), (Ev.sy 6 5 [(Ev.sy 0 6 [(Ev.sy 0 8 [(Ev.sy 0 8 [(Ev.sy 0 7 [(.int .u64 (2)), (Ev.sy 0 0 [(.int .u64 (0))]), (Ev.sy 6 0 [(.int .u64 (2))])]), (.int .u64 (0))]), (.int .u64 (0))])])])])
def t3 : Value := (Ev.sy 1 1 [(.int .u64 (13)), (.int .u64 (3)), (.bool true), (.int .i64 (300)), (Ev.sy 6 5 [(Ev.sy 0 6 [(Ev.sy 0 8 [(Ev.sy 0 8 [(Ev.sy 0 7 [(.int .u64 (2)), (Ev.sy 0 0 [(.int .u64 (0))]), (Ev.sy 6 0 [(.int .u64 (2))])]), (.int .u64 (1))]), (.int .u64 (0))])])])])
def t4 : Value := (Ev.sy 1 1 [(.int .u64 (13)), (.int .u64 (3)), (.bool true), (.int .i64 (300)), (Ev.sy 6 5 [(Ev.sy 0 0 [(.int .u64 (0))])])])
def t5 : Value := (Ev.sy 1 1 [(.int .u64 (13)), (.int .u64 (3)), (.bool true), (Ev.sy 6 0 [(.int .u64 (2))]), (.int .i64 (1))])
def t6 : Value := (Ev.sy 1 1 [(.int .u64 (13)), (.int .u64 (3)), (.bool false), (.int .i64 (0)), (Ev.sy 6 0 [(.int .u64 (2))])])
noncomputable def orcC17 (q : List (Value × Bool)) : List (FuncId × Ev.OrcF) := []
noncomputable def c17a0 : Ev.Asrt := { G := ⟨Ev.Tr.putSome [(0, (Ev.sy 0 0 [(.int .u64 (0))])), (2, (Ev.sy 1 0 [(.int .u64 (1))]))], []⟩, Gh := ⟨.nil, 100, 100⟩, fs := (Ev.factsOf Tryz.prog [22] 0 ++ []), B := 1 }
noncomputable def c17a1 : Ev.Asrt := { G := ⟨Ev.Tr.putSome [(0, (Ev.sy 0 0 [(.int .u64 (0))])), (2, (Ev.sy 1 0 [(.int .u64 (1))])), (3, (Ev.sy 6 0 [(.int .u64 (2))]))], []⟩, Gh := ⟨.nil, 100, 100⟩, fs := ((Ev.factsOf Tryz.prog [22] 0 ++ []) ++ [((Ev.sy 1 9 [(.int .u64 (5)), (Ev.sy 6 0 [(.int .u64 (2))])]), true)]), B := 1 }
noncomputable def plan17 : Ev.Plan := (.seq (.run .leaf) c17a0 (.seq (.seq (.run .leaf) c17a1 (.block (.loop 2 (Ev.sy 0 0 [(.int .u64 (0))]) 3 (.run (.node t0 (.node t1 .leaf (.node t2 .leaf (.node t3 .leaf .leaf))) .leaf))))) c17a1 (.run .leaf)))
theorem chk17 : Ev.chk Tryz.prog [(125, .cmpstr)] [] tables orcC17 (fun _ _ => none) 100000 60 (Ev.fiGet Tryz.prog 17).ntmps (Ev.anyB Tryz.prog [(125, .cmpstr)] [] tables orcC17 (fun _ _ => none) (Ev.fiGet Tryz.prog 17)) plan17 (Ev.fiGet Tryz.prog 17).body { G := ⟨Ev.Tr.putList (Ev.symArgs Tryz.prog [22] 0) .nil 0, []⟩, Gh := ⟨.nil, 100, 100⟩, fs := Ev.factsOf Tryz.prog [22] 0, B := 1 } { nrm := none, exs := [] } = true := by decide +kernel
theorem any17 {orc : List (FuncId × Ev.OrcF)} {q : List (Value × Bool)} {W : Nat → List Value → Option Value} : Ev.OrcIs Tryz.prog (Ev.cxOf Tryz.prog [(125, .cmpstr)] [] tables orc q W) 17 (Ev.anyO Tryz.prog [22] q) :=
  Ev.any_is (orc := orcC17) (U := (fun _ _ => none)) (fun q => (Ev.ext_cons e0 (Ev.ext_nil _ _ q))) mixed (Ev.enter_of Tryz.func17 (by kernel_rfl) (by kernel_rfl)) (Ev.fiGet_ok (by decide +kernel) _ _ _ _ _ _) (by decide +kernel) (by decide +kernel) chk17
noncomputable def orcsQ (q : List (Value × Bool)) : List (FuncId × Ev.OrcF) := [(4, Ev.trueO), (17, Ev.anyO Tryz.prog [22] q)]
noncomputable def tree : Ev.PT := (.node t4 .leaf (.node t5 .leaf (.node t6 .leaf (.dead 0))))
noncomputable def cls : List (Nat × List (Value × Bool)) := [(2, [(t5, false), (t6, false)])]
theorem cls_ok : (cls.all fun c => Ev.deadC c.2 c.1 && Ev.hasI c.1 (Ev.symArgs Tryz.prog ptys 0)) = true := by decide +kernel
theorem reckoned : Ev.walkT (fun q => Ev.tellsA (Ev.cxOf Tryz.prog [(125, .cmpstr)] [] tables (orcsQ q) q (fun _ _ => none)) true (Ev.evFn (Ev.cxOf Tryz.prog [(125, .cmpstr)] [] tables (orcsQ q) q (fun _ _ => none)) 100000 60 (.fn 3) (Ev.symArgs Tryz.prog ptys 0) ⟨.nil, 100, 100⟩)) (cls.map (·.2)) tree (Ev.factsOf Tryz.prog ptys 0) = true := by decide +kernel

theorem of_laid {W : World} (h : laidMetH Tryz.prog Rows.internNilRow.laid W) (hsh : W.ShapedOpen Tryz.prog) : ∀ g t, (g, t) ∈ tables → ∃ cs ty fr, W.heap[g]? = some (.cells cs ty fr) ∧ ∀ (i : Nat) (v : Value), t.get i = some v → Ev.GC v cs[i]? := by
  rw [MakeChecks.laidMetH_plain _ _ _ (by kernel_rfl)] at h
  intro g t hm
  simp only [tables, List.mem_cons, List.not_mem_nil, or_false, Prod.mk.injEq] at hm
  rcases hm with ⟨rfl, rfl⟩ | ⟨rfl, rfl⟩
  · exact Ev.table_any h (nm := "waterwheel/ast.shapes") (n := 9) (t := 125) (tab := tab0) (by simp [Rows.internNilRow]; rfl) (by kernel_rfl) (by kernel_rfl) (by kernel_rfl) (by kernel_rfl)
  · exact Ev.someInt_of (cell_of_shapedOpen_int (zero := #[.int .i64 0]) (t := 3) hsh (of_decide_eq_true (by kernel_rfl)) (by kernel_rfl) rfl (by kernel_rfl) (by kernel_rfl) Tryz.underlying3)
set_option maxRecDepth 100000 in
theorem walk (w : World) (r : Reach) (b0 : Nat) (args : List Value) (hl : ptys.length = args.length)
    (hok : ∀ (j : Nat) t v, ptys[j]? = some t → args[j]? = some v → Value.okWide Tryz.prog w r b0 t v) (hd : ∀ (j : Nat) t v, ptys[j]? = some t → args[j]? = some v → ∃ f, Ev.Rds Tryz.prog (fun a => w.cell? a) f t (Ev.vcells v)) (h : laidMetH Tryz.prog Rows.internNilRow.laid w) (hsh : w.ShapedOpen Tryz.prog) :
    Calls Tryz.prog 3 ⟨args⟩ w fun e w' => e = .returned (.bool true) ∧ Below w.heap.size w w' := by
  obtain ⟨s, hs, hf⟩ := Ev.sym_deep hl hok hd (u := Ev.uRd (Ev.cxOf Tryz.prog [(125, .cmpstr)] [] tables (orcsQ []) [] (fun _ _ => none)) (fun a => w.cell? a)) (fun vs => Ev.uRd_rd _ _ 8 vs (by omega))
  exact Ev.toldR (orc := orcsQ) (fun q => (Ev.orc_cons lives_is (Ev.orc_cons any17 (Ev.ext_cons e0 (Ev.ext_nil _ _ q))))) mixed cls_ok reckoned (Ev.old_all w) hs hf (of_laid h hsh)

/-- The door's own heap meets the condition. -/
theorem door_met (os : Os) (args : Array Value) : laidMetH Tryz.prog Rows.internNilRow.laid ((World.doorLaid Tryz.prog 2000 os).forCall (fun _ _ => 0) ⟨#[], args, []⟩).memory :=
  laidMetH_of_parts3 (fuel := 8) (laidMet_of_run3 8 (by kernel_rfl) (by kernel_rfl) (by kernel_rfl)) (by kernel_rfl) (by kernel_rfl)

set_option maxRecDepth 100000 in
theorem lifted (os : Os) (started : os.Started) (H : Type) (enc : TypeId × Value → H) :
    ReturnsInHanded {} Tryz.checked os 3 .any (fun w args => (Rows.internNilSpec.pre enc Tryz.prog Tryz.f3 [] false w args ∧ laidMetH Tryz.prog Rows.internNilRow.laid w) ∧ sizedMet enc Tryz.prog Tryz.f3 (OpenSpec.ofChange Rows.internNilSpec) false w args)
      (Rows.internNilSpec.post enc Tryz.prog Tryz.f3 false true false false) := by
  refine Ev.handed_and_shaped (C := Tryz.checked) (X := fun w _ => laidMetH Tryz.prog Rows.internNilRow.laid w) (fun _ _ _ hh h => h.of_heap hh) own started (by kernel_rfl) Tryz.func3
    (ChangeSpec.witness_shaped (enc := enc) (C := Tryz.checked) (os := os) (X := fun w _ => laidMetH Tryz.prog Rows.internNilRow.laid w) false (World.doorLaid Tryz.prog 2000 os) ⟨Ev.zeroArgs Tryz.prog ptys⟩ 8 rfl (World.shaped_of_RefB (by kernel_rfl) (by kernel_rfl)) (by kernel_rfl) (by kernel_rfl) (by kernel_rfl) (door_met os _)) ?_
  intro W base args ds gs before hval0 hW hcnd _ hL hsh _
  have hval : ∀ (j : Nat) t v, Tryz.f3.params[j]? = some t → args[j]? = some v → Value.okWide Tryz.prog W .any base t v := hval0
  have hW' := hW
  obtain ⟨p, q, hA0, hV, rfl, hfz, hnd⟩ := hW
  have hA : DataW.TrodAll enc Tryz.prog W 0 (fun _ => true) true Tryz.f3.params.toList args.toList ds p := hA0
  rw [Tryz.params3] at hA hval
  obtain ⟨v0, vs0, d0, ds0, p0, q0, hargs, rfl, rfl, h0, r0⟩ := trodAll_cons hA
  obtain ⟨v1, vs1, d1, ds1, p1, q1, rfl, rfl, rfl, h1, r1⟩ := trodAll_cons r0
  obtain ⟨rfl, rfl, rfl⟩ := trodAll_nil r1
  obtain rfl : args = #[v0, v1] := by cases args; simp_all
  obtain ⟨rfl, rfl⟩ := trodVars_none hV
  have lt0 : ∀ x ∈ p0, x.block < W.heap.size := by obtain ⟨m, hm⟩ := h0; exact DataW.trod_lt m _ _ _ hm
  have lt1 : ∀ x ∈ p1, x.block < W.heap.size := by obtain ⟨m, hm⟩ := h1; exact DataW.trod_lt m _ _ _ hm
  clear hA0 hval0
  simp only [List.append_nil] at hW'
  refine (walk W .any base [v0, v1] rfl (fun j t v a b => hval j t v (by simpa [ptys] using a) (by simpa using b)) (Ev.deepL_cons h0 (Ev.deepL_cons h1 Ev.deepL_nil)) hL hsh).mono fun e W' ⟨he, bel⟩ => ?_
  subst he
  exact ⟨_, rfl, _, _, _, [], _, [], hW', trodAll_mk1 (shut_bool Tryz.underlying4 _), (trodAll_cons_mk (Below.trod laidOut (by kernel_rfl) (of_decide_eq_true (by kernel_rfl)) h0 bel lt0) (trodAll_cons_mk (Below.trod laidOut (by kernel_rfl) (of_decide_eq_true (by kernel_rfl)) h1 bel lt1) trodAll_mk0)), rfl, bel.frame _, fun h => by cases h⟩

theorem over : Rows.InternNilSaid :=
  OpenClaim.holds_of_wide 3 Tryz.f3 rfl rfl rfl rfl rfl rfl rfl ⟨rfl, rfl, rfl, rfl, rfl⟩ rfl rfl rfl rfl rfl (by kernel_rfl) Tryz.func3 (by kernel_rfl)
    (of_decide_eq_true (by kernel_rfl)) (by unfold Func.isWrapper; first | (rw [if_pos (by decide +kernel)]; kernel_rfl) | (rw [if_neg (by decide +kernel)]; exact ⟨rfl, rfl⟩))
    (fun os started H enc _ => lifted os started H enc)

theorem proved : Rows.InternNilCardSaid :=
  Claim7.holds_tied_plain_at .later [] [.data] true (true, "2e4122626a92aa92e629dbc67a59948648b22bbe0c3bddb63d08ac1f41cad742") false
    over (fun _ h => by cases h) (by kernel_rfl) (fun _ h => by cases h) internNil_row_tie rfl ⟨rfl, rfl⟩ (by kernel_rfl) rfl
    (fun f fn hf hfn => by
      obtain rfl : f = 3 := Option.some.inj ((show Tryz.prog.funcNamed "waterwheel/waterwheellaw12.InternNil" = some 3 by kernel_rfl).symm.trans hf) |>.symm
      obtain rfl : fn = Tryz.f3 := (Option.some.inj (Tryz.func3.symm.trans hfn)).symm
      exact ⟨by kernel_rfl, fun j t ht => by
        rw [Tryz.params3] at ht
        rcases j with _ | _ | j
        all_goals first
          | (simp at ht; done)
          | (simp at ht; subst ht; kernel_rfl)⟩)
    (by kernel_rfl)
#print axioms proved
end Go.Proofs.YtondeejflliebaaGreatDoor.internNil
