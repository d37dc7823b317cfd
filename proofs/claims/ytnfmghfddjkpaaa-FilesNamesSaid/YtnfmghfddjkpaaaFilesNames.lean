/- At the landed commit the Go function waterwheellaw22.FilesNames, which takes nothing, returns true. No condition. The call is reckoned. -/
import Derived.Test.YtnfmghfddjkpaaaRows
import Derived.Test.YtnfmghfddjkpaaaEvFa
import Derived.Test.YtnfmghfddjkpaaaEvZ
import Derived.ProofKit
import Derived.OpenShut
namespace Go.Proofs.Ytnfmghfddjkpaaa.filesNames
open Go.ChangeShapes Go.WideShapes Go.ChangeAt Go.RowKit
set_option linter.unusedVariables false

theorem own : ownKnob Try.prog.godebug = none := by kernel_rfl
theorem mixed : Try.prog.follows .mixedOrders = true := by kernel_rfl

theorem e0 : Ev.ExtIs Try.prog 44 .mapClone := ⟨_, Try.func44, by kernel_rfl, rfl, by kernel_rfl, by kernel_rfl⟩

theorem reckoned : Ev.tells true (Ev.evFn (Ev.cxOf Try.prog [(44, .mapClone)]) 100000 60 (.fn 3) [] ⟨.nil, 100, 100⟩) = true := Ev.of_mix (p := Ev.tells true) (by decide +kernel)

theorem walk (w : World) :
    Calls Try.prog 3 #[] w fun e w' => e = .returned (.bool true) ∧ Below w.heap.size w w' :=
  Ev.told (Ev.ext_cons e0 (Ev.ext_nil _)) mixed reckoned w

set_option maxRecDepth 100000 in
theorem lifted (os : Os) (started : os.Started) (H : Type) (enc : TypeId × Value → H) :
    ReturnsInHanded {} Try.checked os 3 .any (Rows.filesNamesSpec.pre6 enc Try.prog Try.f3 Rows.filesNamesRow.domain false) (Rows.filesNamesSpec.post enc Try.prog Try.f3 false true false false) := by
  refine returnsInHanded_of_change (C := Try.checked) own started (by kernel_rfl) Try.func3
    (ChangeSpec.witness6 (enc := enc) (C := Try.checked) false ⟨#[], #[], []⟩ 8 (by kernel_rfl) (by kernel_rfl) (by kernel_rfl) (by kernel_rfl)) ?_
  intro W base args ds gs before hval0 hW hcnd _
  have hW' := hW
  obtain ⟨p, q, hA0, hV, rfl, hfz, hnd⟩ := hW
  have hA : DataW.TrodAll enc Try.prog W 0 (fun _ => true) true Try.f3.params.toList args.toList ds p := hA0
  rw [Try.params3] at hA
  obtain ⟨hargs, rfl, rfl⟩ := trodAll_nil hA
  obtain rfl : args = #[] := by cases args; simp_all
  obtain ⟨rfl, rfl⟩ := trodVars_none hV
  clear hA0 hval0
  simp only [List.append_nil] at hW'
  refine (walk W).mono fun e W' ⟨he, hb⟩ => ?_
  subst he
  exact ⟨_, rfl, _, _, _, [], _, [], hW', trodAll_mk1 (shut_bool Try.underlying4 _), trodAll_mk0, rfl, hb.frame _, fun h => by cases h⟩

theorem over : Rows.filesNamesRow.holds Try.pinned (OpenSpec.ofChange Rows.filesNamesSpec) :=
  OpenClaim.holds_of_wide 3 Try.f3 rfl rfl rfl rfl rfl rfl rfl ⟨rfl, rfl, rfl, rfl, rfl⟩ rfl rfl rfl rfl rfl (by kernel_rfl) Try.func3 (by kernel_rfl)
    (of_decide_eq_true (by kernel_rfl)) (by unfold Func.isWrapper; first | (rw [if_pos (by decide +kernel)]; kernel_rfl) | (rw [if_neg (by decide +kernel)]; exact ⟨rfl, rfl⟩))
    (fun os started H enc _ => lifted os started H enc)

theorem proved : Rows.FilesNamesSaid := over
#print axioms proved
end Go.Proofs.Ytnfmghfddjkpaaa.filesNames
