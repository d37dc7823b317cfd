/- For every input: at the landed commit the Go function waterwheellaw14.SlideNil returns true, and its arguments read behind the call as before. No condition. The call is reckoned with arguments that are not known. -/
import Derived.Test.YtbopokalfddmcaaRows
import Derived.Test.YtbopokalfddmcaaEvSy
import Derived.ShutString
import Derived.ProofKit
import Derived.OpenShut
import Derived.ChangeOld
import Derived.Lib.SmallJoins
namespace Go.Proofs.Ytbopokalfddmcaa.slideNil
open Go.ChangeShapes Go.WideShapes Go.ChangeAt Go.RowKit Go.Deep Go.Joins
set_option linter.unusedVariables false

theorem own : ownKnob Try.prog.godebug = none := by kernel_rfl
theorem laidOut : laidOutB Try.prog = true := by kernel_rfl
theorem mixed : Try.prog.follows .mixedOrders = true := by kernel_rfl

theorem e0 : Ev.ExtIs Try.prog 84 .add64 := ⟨_, Try.func84, by kernel_rfl, rfl, by kernel_rfl, by kernel_rfl⟩
theorem e1 : Ev.ExtIs Try.prog 83 .sub64 := ⟨_, Try.func83, by kernel_rfl, rfl, by kernel_rfl, by kernel_rfl⟩

noncomputable def orcs : List (FuncId × Ev.OrcF) := []
def ptys : List TypeId := [2, 2]
theorem reckoned : Ev.tells true (Ev.evFn (Ev.cxOf Try.prog [(84, .add64), (83, .sub64)] [] [] orcs []) 100000 60 (.fn 6) (Ev.symArgs Try.prog ptys 0) ⟨.nil, 100, 100⟩) = true := by decide +kernel

set_option maxRecDepth 100000 in
theorem walk (w : World) (r : Reach) (b0 : Nat) (args : List Value) (hl : ptys.length = args.length)
    (hok : ∀ (j : Nat) t v, ptys[j]? = some t → args[j]? = some v → Value.okWide Try.prog w r b0 t v) :
    Calls Try.prog 6 ⟨args⟩ w fun e w' => e = .returned (.bool true) ∧ Below w.heap.size w w' := by
  obtain ⟨s, hs⟩ := Ev.sym_args (ts := ⟨ptys⟩) (by simpa using hl) (fun j t v a b => hok j t v (by simpa using a) b) (Ev.uOf (Ev.cxOf Try.prog [(84, .add64), (83, .sub64)] [] [] orcs []))
  exact Ev.toldS (Ev.ext_cons e0 (Ev.ext_cons e1 (Ev.ext_nil _ [] []))) mixed reckoned w s hs (fun _ _ h1 => by cases h1) (fun _ _ h1 => by cases h1)

set_option maxRecDepth 100000 in
theorem lifted (os : Os) (started : os.Started) (H : Type) (enc : TypeId × Value → H) :
    ReturnsInHanded {} Try.checked os 6 .any (Rows.slideNilSpec.pre6 enc Try.prog Try.f6 Rows.slideNilRow.domain false) (Rows.slideNilSpec.post enc Try.prog Try.f6 false true false false) := by
  refine returnsInHanded_of_change (C := Try.checked) own started (by kernel_rfl) Try.func6
    (ChangeSpec.witness6 (enc := enc) (C := Try.checked) false ⟨#[], ⟨Ev.zeroArgs Try.prog ptys⟩, []⟩ 8 (by kernel_rfl) (by kernel_rfl) (by kernel_rfl) (by kernel_rfl)) ?_
  intro W base args ds gs before hval0 hW hcnd _
  have hval : ∀ (j : Nat) t v, Try.f6.params[j]? = some t → args[j]? = some v → Value.okWide Try.prog W .any base t v := hval0
  have hW' := hW
  obtain ⟨p, q, hA0, hV, rfl, hfz, hnd⟩ := hW
  have hA : DataW.TrodAll enc Try.prog W 0 (fun _ => true) true Try.f6.params.toList args.toList ds p := hA0
  rw [Try.params6] at hA hval
  obtain ⟨v0, vs0, d0, ds0, p0, q0, hargs, rfl, rfl, h0, r0⟩ := trodAll_cons hA
  obtain ⟨v1, vs1, d1, ds1, p1, q1, rfl, rfl, rfl, h1, r1⟩ := trodAll_cons r0
  obtain ⟨rfl, rfl, rfl⟩ := trodAll_nil r1
  obtain rfl : args = #[v0, v1] := by cases args; simp_all
  obtain ⟨rfl, rfl⟩ := trodVars_none hV
  have lt0 : ∀ x ∈ p0, x.block < W.heap.size := by obtain ⟨m, hm⟩ := h0; exact DataW.trod_lt m _ _ _ hm
  have lt1 : ∀ x ∈ p1, x.block < W.heap.size := by obtain ⟨m, hm⟩ := h1; exact DataW.trod_lt m _ _ _ hm
  clear hA0 hval0
  simp only [List.append_nil] at hW'
  refine (walk W .any base [v0, v1] rfl (fun j t v a b => hval j t v (by simpa [ptys] using a) (by simpa using b))).mono fun e W' ⟨he, bel⟩ => ?_
  subst he
  exact ⟨_, rfl, _, _, _, [], _, [], hW', trodAll_mk1 (shut_bool Try.underlying4 _), (trodAll_cons_mk (Below.trod laidOut (by kernel_rfl) (of_decide_eq_true (by kernel_rfl)) h0 bel lt0) (trodAll_cons_mk (Below.trod laidOut (by kernel_rfl) (of_decide_eq_true (by kernel_rfl)) h1 bel lt1) trodAll_mk0)), rfl, bel.frame _, fun h => by cases h⟩

theorem over : Rows.slideNilRow.holds Try.pinned (OpenSpec.ofChange Rows.slideNilSpec) :=
  OpenClaim.holds_of_wide 6 Try.f6 rfl rfl rfl rfl rfl rfl rfl ⟨rfl, rfl, rfl, rfl, rfl⟩ rfl rfl rfl rfl rfl (by kernel_rfl) Try.func6 (by kernel_rfl)
    (of_decide_eq_true (by kernel_rfl)) (by unfold Func.isWrapper; first | (rw [if_pos (by decide +kernel)]; kernel_rfl) | (rw [if_neg (by decide +kernel)]; exact ⟨rfl, rfl⟩))
    (fun os started H enc _ => lifted os started H enc)

theorem proved : Rows.SlideNilSaid := over
#print axioms proved
end Go.Proofs.Ytbopokalfddmcaa.slideNil
