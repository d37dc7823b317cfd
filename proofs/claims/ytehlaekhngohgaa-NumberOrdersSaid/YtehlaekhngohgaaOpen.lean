/- Arguments opened: a struct's cells. -/
import Derived.ChangeArms
import Derived.ProofKit
import Derived.OpenShut
import Derived.Test.YtehlaekhngohgaaGrA
namespace Go.Proofs.Ytehlaekhngohgaa
set_option linter.unusedVariables false
set_option linter.unusedSimpArgs false
open Go.ChangeShapes Go.WideShapes Go.RowKit
section
variable {H : Type} {enc : TypeId × Value → H} {P : Program} {w : World} {base : Nat} {spare : Nat → Bool} {held : Bool} {fuel : Nat} {t : TypeId} {v : Value} {y : DataW H × List MemPlace}
theorem cell_i64 (ht : P.underlying t = some (.int .i64)) (h : DataW.trod enc P w base spare held fuel t [v] = some y) : ∃ n, v = .int .i64 n ∧ SW n := by
  obtain ⟨n, hc, _, hw⟩ := DataW.trod_int ht h
  obtain rfl : v = .int .i64 n := by simpa using hc
  have hb := bounds_i64 hw
  exact ⟨n, rfl, hb.1, hb.2⟩
theorem cell_u64 (ht : P.underlying t = some (.int .u64)) (h : DataW.trod enc P w base spare held fuel t [v] = some y) : ∃ n, v = .int .u64 n ∧ UW n := by
  obtain ⟨n, hc, _, hw⟩ := DataW.trod_int ht h
  obtain rfl : v = .int .u64 n := by simpa using hc
  have hb := bounds_u64 hw
  unfold UW
  exact ⟨n, rfl, by omega, by omega⟩
theorem cell_bool (ht : P.underlying t = some .bool) (h : DataW.trod enc P w base spare held fuel t [v] = some y) : ∃ b, v = .bool b := by
  obtain ⟨b, hc, _⟩ := DataW.trod_bool ht h
  exact ⟨b, by simpa using hc⟩
end
end Go.Proofs.Ytehlaekhngohgaa
