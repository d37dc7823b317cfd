/- strings.Compare, by hand. -/
import Derived.Test.YtcholmmiieddcaaLtM
import Derived.Test.YtcholmmiieddcaaChecked
import Derived.WalkKit
import Derived.WalkSpells
set_option linter.unusedVariables false
set_option linter.unusedSimpArgs false
namespace Go.Proofs.Ytcholmmiieddcaa
open Go Go.RowKit Ev
theorem run_cmp (a b : ByteArray) (w : World) : (callFunc 63 #[.string a, .string b]).run Try.prog w = .ok (.value (.int .i64 (cmpT a b))) w := by
  rw [ext_run (k := .cmpstr) ⟨_, Try.func63, by kernel_rfl, by kernel_rfl, by kernel_rfl, by kernel_rfl⟩]
  change Sem.run Try.prog (do pure (Next.value (← (do pure (goInt (Extern.BytealgCompare.cmp (← Extern.Bytes.bytesOf (.string a)) (← Extern.Bytes.bytesOf (.string b)))))))) w = _
  simp [Extern.Bytes.bytesOf, go_sem, goInt, cmpT]
theorem cmp1_any (a b : T) (w : World) : Calls Try.prog 57 #[.string a, .string b] w fun e w' => e = .returned (.int .i64 (cmpT a b)) ∧ w = w' := by
  go_enter Try.func57, Try.ntmps57
  go_wp2_with (simp only [run_cmp])
  go_ret
  exact ⟨rfl, rfl⟩
theorem cmp_any (a b : T) (w : World) : Calls Try.prog 44 #[.string a, .string b] w fun e w' => e = .returned (.int .i64 (cmpT a b)) ∧ w = w' := by
  go_enter Try.func44, Try.ntmps44
  go_wp2_with (go_at_call 57; refine (cmp1_any a b _).mono ?_; rintro e w1 ⟨rfl, rfl⟩)
  go_ret
  exact ⟨rfl, rfl⟩
end Go.Proofs.Ytcholmmiieddcaa
