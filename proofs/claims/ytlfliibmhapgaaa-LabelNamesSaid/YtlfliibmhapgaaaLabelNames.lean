/- At the landed commit the Go function waterwheellaw03.LabelNames, which takes nothing, returns true. No condition. The call is reckoned. -/
import Derived.Test.YtlfliibmhapgaaaRows
import Derived.Test.YtlfliibmhapgaaaEvZ
import Derived.ProofKit
import Derived.OpenShut
namespace Go.Proofs.Ytlfliibmhapgaaa.labelNames
open Go.ChangeShapes Go.WideShapes Go.ChangeAt Go.RowKit
set_option linter.unusedVariables false

theorem own : ownKnob Try.prog.godebug = none := by kernel_rfl
theorem mixed : Try.prog.follows .mixedOrders = true := by kernel_rfl

theorem e1 : Ev.ExtIs Try.prog 125 .add64 := ⟨_, Try.func125, by kernel_rfl, rfl, by kernel_rfl, by kernel_rfl⟩
theorem e2 : Ev.ExtIs Try.prog 126 .sub64 := ⟨_, Try.func126, by kernel_rfl, rfl, by kernel_rfl, by kernel_rfl⟩

theorem e3 : Ev.ExtIs Try.prog 158 .cmpstr := ⟨_, Try.func158, by kernel_rfl, rfl, by kernel_rfl, by kernel_rfl⟩
theorem e4 : Ev.ExtIs Try.prog 151 .noEscape := ⟨_, Try.func151, by kernel_rfl, rfl, by kernel_rfl, by kernel_rfl⟩

theorem reckoned : Ev.tells true (Ev.evFn (Ev.cxOf Try.prog [(125, .add64), (126, .sub64), (158, .cmpstr), (151, .noEscape)]) 100000 60 10 [] ⟨.nil, 100, 100⟩) = true := by decide +kernel

theorem walk (w : World) :
    Calls Try.prog 10 #[] w fun e w' => e = .returned (.bool true) ∧ Below w.heap.size w w' :=
  Ev.told (Ev.ext_cons e1 (Ev.ext_cons e2 (Ev.ext_cons e3 (Ev.ext_cons e4 (Ev.ext_nil _))))) mixed reckoned w

set_option maxRecDepth 100000 in
theorem lifted (os : Os) (started : os.Started) (H : Type) (enc : TypeId × Value → H) :
    ReturnsInHanded {} Try.checked os 10 .any (Rows.labelNamesSpec.pre6 enc Try.prog Try.f10 Rows.labelNamesRow.domain false) (Rows.labelNamesSpec.post enc Try.prog Try.f10 false true false false) := by
  refine returnsInHanded_of_change (C := Try.checked) own started (by kernel_rfl) Try.func10
    (ChangeSpec.witness6 (enc := enc) (C := Try.checked) false ⟨#[], #[], []⟩ 8 (by kernel_rfl) (by kernel_rfl) (by kernel_rfl) (by kernel_rfl)) ?_
  intro W base args ds gs before hval0 hW hcnd _
  have hW' := hW
  obtain ⟨p, q, hA0, hV, rfl, hfz, hnd⟩ := hW
  have hA : DataW.TrodAll enc Try.prog W 0 (fun _ => true) true Try.f10.params.toList args.toList ds p := hA0
  rw [Try.params10] at hA
  obtain ⟨hargs, rfl, rfl⟩ := trodAll_nil hA
  obtain rfl : args = #[] := by cases args; simp_all
  obtain ⟨rfl, rfl⟩ := trodVars_none hV
  clear hA0 hval0
  simp only [List.append_nil] at hW'
  refine (walk W).mono fun e W' ⟨he, hb⟩ => ?_
  subst he
  exact ⟨_, rfl, _, _, _, [], _, [], hW', trodAll_mk1 (shut_bool Try.underlying4 _), trodAll_mk0, rfl, hb.frame _, fun h => by cases h⟩

theorem over : Rows.labelNamesRow.holds Try.pinned (OpenSpec.ofChange Rows.labelNamesSpec) :=
  OpenClaim.holds_of_wide 10 Try.f10 rfl rfl rfl rfl rfl rfl rfl ⟨rfl, rfl, rfl, rfl, rfl⟩ rfl rfl rfl rfl rfl (by kernel_rfl) Try.func10 (by kernel_rfl)
    (of_decide_eq_true (by kernel_rfl)) (by unfold Func.isWrapper; first | (rw [if_pos (by decide +kernel)]; kernel_rfl) | (rw [if_neg (by decide +kernel)]; exact ⟨rfl, rfl⟩))
    (fun os started H enc _ => lifted os started H enc)

theorem proved : Rows.LabelNamesSaid := over
#print axioms proved
end Go.Proofs.Ytlfliibmhapgaaa.labelNames
