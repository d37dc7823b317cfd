/- At the landed commit the Go function waterwheellaw16.JoinNames, which takes nothing, returns true, where the tables of Go's library that the row lists hold what the card ties to the program's text. No other condition. The call is reckoned. -/
import Derived.Test.YtjboijmajphelaaGreatDoorRows
import Derived.Test.YtjboijmajphelaaGreatDoorEvFa
import Derived.Test.YtjboijmajphelaaGreatDoorCards
import Derived.Test.YtjboijmajphelaaGreatDoorTie
import Derived.Test.YtjboijmajphelaaGreatDoorEvS
import Derived.ProofKit
import Derived.OpenShut
import Derived.LaidMore
import Derived.SevenTiedAt
import Derived.Deep.DeepLaidRun
namespace Go.Proofs.YtjboijmajphelaaGreatDoor.joinNames
open Go.ChangeShapes Go.WideShapes Go.ChangeAt Go.RowKit
set_option linter.unusedVariables false
set_option linter.unusedSimpArgs false

theorem own : ownKnob Tryz.prog.godebug = none := by kernel_rfl
theorem mixed : Tryz.prog.follows .mixedOrders = true := by kernel_rfl

theorem e0 : Ev.ExtIs Tryz.prog 181 .add64 := ⟨_, Tryz.func181, by kernel_rfl, rfl, by kernel_rfl, by kernel_rfl⟩
theorem e1 : Ev.ExtIs Tryz.prog 182 .sub64 := ⟨_, Tryz.func182, by kernel_rfl, rfl, by kernel_rfl, by kernel_rfl⟩
theorem e2 : Ev.ExtIs Tryz.prog 262 .cmpstr := ⟨_, Tryz.func262, by kernel_rfl, rfl, by kernel_rfl, by kernel_rfl⟩
theorem e3 : Ev.ExtIs Tryz.prog 257 .noEscape := ⟨_, Tryz.func257, by kernel_rfl, rfl, by kernel_rfl, by kernel_rfl⟩
theorem e4 : Ev.ExtIs Tryz.prog 188 .mapClone := ⟨_, Tryz.func188, by kernel_rfl, rfl, by kernel_rfl, by kernel_rfl⟩
def tab0 : List (Nat × Value) := [(0, .int .i64 (0)), (1, .int .i64 (0)), (2, .int .i64 (0)), (3, .int .i64 (0)), (4, .int .i64 (0)), (5, .int .i64 (0)), (6, .bool false), (7, .bool false), (8, .int .i64 (0)), (9, .int .i64 (0)), (10, .int .i64 (1)), (11, .int .i64 (6)), (12, .int .i64 (0)), (13, .int .i64 (0)), (14, .int .i64 (1)), (15, .int .i64 (1073741824)), (16, .bool false), (17, .bool true), (18, .int .i64 (0)), (19, .int .i64 (0)), (20, .int .i64 (1)), (21, .int .i64 (4)), (22, .int .i64 (0)), (23, .int .i64 (0)), (24, .int .i64 (0)), (25, .int .i64 (0)), (26, .bool false), (27, .bool false), (28, .int .i64 (8)), (29, .int .i64 (1)), (30, .int .i64 (0)), (31, .int .i64 (0)), (32, .int .i64 (1)), (33, .int .i64 (3)), (34, .int .i64 (0)), (35, .int .i64 (0)), (36, .bool false), (37, .bool false), (38, .int .i64 (8)), (39, .int .i64 (2)), (40, .int .i64 (0)), (41, .int .i64 (0)), (42, .int .i64 (1)), (43, .int .i64 (3)), (44, .int .i64 (0)), (45, .int .i64 (0)), (46, .bool true), (47, .bool false), (48, .int .i64 (0)), (49, .int .i64 (1)), (50, .int .i64 (0)), (51, .int .i64 (0)), (52, .int .i64 (4)), (53, .int .i64 (9)), (54, .int .i64 (0)), (55, .int .i64 (0)), (56, .bool true), (57, .bool false), (58, .int .i64 (0)), (59, .int .i64 (1))]
noncomputable def tables : List (Nat × Ev.Tr Value) := [(0, Ev.Tr.putSome tab0), (1, Ev.someInt)]
noncomputable def orcs : List (FuncId × Ev.OrcF) := []
theorem reckoned : Ev.tells true (Ev.evFn (Ev.cxOf Tryz.prog [(181, .add64), (182, .sub64), (262, .cmpstr), (257, .noEscape), (188, .mapClone)] [] tables orcs) 100000 60 (.fn 3) [] ⟨.nil, 100, 100⟩) = true := Ev.of_mix (p := Ev.tells true) (by decide +kernel)

theorem of_laid {W : World} (h : laidMetH Tryz.prog Rows.joinNamesRow.laid W) (hsh : W.ShapedOpen Tryz.prog) : ∀ g t, (g, t) ∈ tables → ∃ cs ty fr, W.heap[g]? = some (.cells cs ty fr) ∧ ∀ (i : Nat) (v : Value), t.get i = some v → Ev.GC v cs[i]? := by
  rw [MakeChecks.laidMetH_plain _ _ _ (by kernel_rfl)] at h
  intro g t hm
  simp only [tables, List.mem_cons, List.not_mem_nil, or_false, Prod.mk.injEq] at hm
  rcases hm with ⟨rfl, rfl⟩ | ⟨rfl, rfl⟩
  · exact Ev.table_any h (nm := "waterwheel/ast.shapes") (n := 9) (t := 219) (tab := tab0) (by simp [Rows.joinNamesRow]; rfl) (by kernel_rfl) (by kernel_rfl) (by kernel_rfl) (by kernel_rfl)
  · exact Ev.someInt_of (cell_of_shapedOpen_int (zero := #[.int .i64 0]) (t := 3) hsh (of_decide_eq_true (by kernel_rfl)) (by kernel_rfl) rfl (by kernel_rfl) (by kernel_rfl) Tryz.underlying3)
theorem walk (w : World) (h : laidMetH Tryz.prog Rows.joinNamesRow.laid w) (hsh : w.ShapedOpen Tryz.prog) :
    Calls Tryz.prog 3 #[] w fun e w' => e = .returned (.bool true) ∧ Below w.heap.size w w' :=
  Ev.toldG (Ev.ext_cons e0 (Ev.ext_cons e1 (Ev.ext_cons e2 (Ev.ext_cons e3 (Ev.ext_cons e4 (Ev.ext_nil _ _)))))) mixed reckoned w (of_laid h hsh)

/-- The door's own heap meets the condition. -/
theorem door_met (os : Os) (args : Array Value) : laidMetH Tryz.prog Rows.joinNamesRow.laid ((World.doorLaid Tryz.prog 2000 os).forCall (fun _ _ => 0) ⟨#[], args, []⟩).memory :=
  laidMetH_of_parts3 (fuel := 8) (laidMet_of_run3 8 (by kernel_rfl) (by kernel_rfl) (by kernel_rfl)) (by kernel_rfl) (by kernel_rfl)

set_option maxRecDepth 100000 in
theorem lifted (os : Os) (started : os.Started) (H : Type) (enc : TypeId × Value → H) :
    ReturnsInHanded {} Tryz.checked os 3 .any (fun w args => (Rows.joinNamesSpec.pre enc Tryz.prog Tryz.f3 [] false w args ∧ laidMetH Tryz.prog Rows.joinNamesRow.laid w) ∧ sizedMet enc Tryz.prog Tryz.f3 (OpenSpec.ofChange Rows.joinNamesSpec) false w args)
      (Rows.joinNamesSpec.post enc Tryz.prog Tryz.f3 false true false false) := by
  refine Ev.handed_and_shaped (C := Tryz.checked) (X := fun w _ => laidMetH Tryz.prog Rows.joinNamesRow.laid w) (fun _ _ _ hh h => h.of_heap hh) own started (by kernel_rfl) Tryz.func3
    (ChangeSpec.witness_shaped (enc := enc) (C := Tryz.checked) (os := os) (X := fun w _ => laidMetH Tryz.prog Rows.joinNamesRow.laid w) false (World.doorLaid Tryz.prog 2000 os) #[] 8 rfl (World.shaped_of_RefB (by kernel_rfl) (by kernel_rfl)) (by kernel_rfl) (by kernel_rfl) (by kernel_rfl) (door_met os _)) ?_
  intro W base args ds gs before hval0 hW hcnd _ hL hsh _
  have hW' := hW
  obtain ⟨p, q, hA0, hV, rfl, hfz, hnd⟩ := hW
  have hA : DataW.TrodAll enc Tryz.prog W 0 (fun _ => true) true Tryz.f3.params.toList args.toList ds p := hA0
  rw [Tryz.params3] at hA
  obtain ⟨hargs, rfl, rfl⟩ := trodAll_nil hA
  obtain rfl : args = #[] := by cases args; simp_all
  obtain ⟨rfl, rfl⟩ := trodVars_none hV
  clear hA0 hval0
  simp only [List.append_nil] at hW'
  refine (walk W hL hsh).mono fun e W' ⟨he, hb⟩ => ?_
  subst he
  exact ⟨_, rfl, _, _, _, [], _, [], hW', trodAll_mk1 (shut_bool Tryz.underlying4 _), trodAll_mk0, rfl, hb.frame _, fun h => by cases h⟩

theorem over : Rows.JoinNamesSaid :=
  OpenClaim.holds_of_wide 3 Tryz.f3 rfl rfl rfl rfl rfl rfl rfl ⟨rfl, rfl, rfl, rfl, rfl⟩ rfl rfl rfl rfl rfl (by kernel_rfl) Tryz.func3 (by kernel_rfl)
    (of_decide_eq_true (by kernel_rfl)) (by unfold Func.isWrapper; first | (rw [if_pos (by decide +kernel)]; kernel_rfl) | (rw [if_neg (by decide +kernel)]; exact ⟨rfl, rfl⟩))
    (fun os started H enc _ => lifted os started H enc)

theorem proved : Rows.JoinNamesCardSaid :=
  Claim7.holds_tied_plain_at .later [] [.data] true (true, "4483014b9188c1261b331cb7a45cc7f7654d41be9b99b3eb37d46412a0ade2b7") true
    over (fun _ h => by cases h) (by kernel_rfl) (fun _ h => by cases h) joinNames_row_tie rfl ⟨rfl, rfl⟩ (by kernel_rfl) rfl
    (fun f fn hf hfn => by
      obtain rfl : f = 3 := Option.some.inj ((show Tryz.prog.funcNamed "waterwheel/waterwheellaw16.JoinNames" = some 3 by kernel_rfl).symm.trans hf) |>.symm
      obtain rfl : fn = Tryz.f3 := (Option.some.inj (Tryz.func3.symm.trans hfn)).symm
      exact ⟨by kernel_rfl, fun j t ht => by
        rw [Tryz.params3] at ht
        simp at ht⟩)
    (by kernel_rfl)
#print axioms proved
end Go.Proofs.YtjboijmajphelaaGreatDoor.joinNames
