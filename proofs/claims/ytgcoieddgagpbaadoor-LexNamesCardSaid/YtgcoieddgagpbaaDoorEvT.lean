/- Tables of the program that a call reads: from the words of a row that lists them to what the reckoner asks. -/
import Derived.Test.YtgcoieddgagpbaaDoorEvZ
import Derived.ProofKit
import Derived.OpenShut
import Derived.LaidMore
import Derived.MakeChecks
set_option linter.unusedVariables false
set_option linter.unusedSimpArgs false
namespace Go.Proofs.YtgcoieddgagpbaaDoor.Ev
open Go Go.RowKit

theorem laid_var {P : Program} {w : World} : ∀ {l : List (String × DataW Unit)} {ps : List MemPlace}, DataW.LaidVars P w l ps → ∀ {nm : String} {d : DataW Unit}, (nm, d) ∈ l →
    ∃ g t cs fuel p, P.globalNamed nm = some g ∧ (P.globals[g]?).map (·.type) = some t ∧ w.var? P nm = some cs ∧ DataW.trod (fun _ => ()) P w 0 (fun _ => true) false fuel t cs.toList = some (d, p) := by
  intro l
  induction l with
  | nil => intro ps _ nm d h; cases h
  | cons x l ih =>
    intro ps h nm d hm
    obtain ⟨n, d0⟩ := x
    obtain ⟨g, t, cs, fuel, p, q, h1, h2, h3, h4, h5, h6⟩ := h
    rcases List.mem_cons.1 hm with he | hm
    · injection he with e1 e2
      subst e1 e2
      exact ⟨g, t, cs, fuel, p, h1, h2, h3, h4⟩
    · exact ih h5 hm

theorem ints_of_trod {P : Program} {w : World} {H : Type} {enc : TypeId × Value → H} {base : Nat} {spare : Nat → Bool} {held : Bool} {fuel n : Nat} {t e : TypeId} {k : IntKind} {cs : List Value} {zs : List Int} {p : List MemPlace}
    (ht : P.underlying t = some (.array n e)) (he : P.underlying e = some (.int k)) (hc : P.cellsOf e = 1)
    (h : DataW.trod enc P w base spare held fuel t cs = some (.agg (zs.map fun z => .lit (.int k z)), p)) (i : Nat) (z : Int) (hz : zs[i]? = some z) : cs[i]? = some (.int k z) := by
  obtain ⟨xs, m, -, hx, -, hn, hall⟩ := DataW.trod_array ht h
  injection hx with hx1 hx2
  injection hx1 with hx1
  have hlen : xs.length = zs.length := by have := congrArg List.length hx1; simpa using this.symm
  have hi : i < zs.length := (List.getElem?_eq_some_iff.1 hz).1
  have hi' : i < n := by omega
  have h1 := hall i hi'
  rw [hc] at h1
  have hxi : xs[i]? = some xs[i] := List.getElem?_eq_getElem (by omega)
  rw [hxi] at h1
  obtain ⟨r, e1, e2, -⟩ := DataW.trod_int he h1
  have h3 : (xs.map (·.1))[i]? = some (DataW.lit (.int k z)) := by rw [← hx1]; simp [hz]
  rw [List.getElem?_map, hxi] at h3
  simp only [Option.map_some, Option.some.injEq] at h3
  rw [e2] at h3
  simp only [DataW.lit.injEq, Lit.int.injEq, true_and] at h3
  subst h3
  have h4 : ((cs.drop (i * 1)).take 1)[0]? = some (.int k r) := by rw [e1]; rfl
  simpa using h4

/-- A listed table of integers, as the reckoner asks of it. -/
theorem table_of {P : Program} {w : World} {l : List (String × DataW Unit)} (hl : laidMet P l w) {nm : String} {g n : Nat} {t e : TypeId} {k : IntKind} {zs : List Int}
    (hm : (nm, DataW.agg (zs.map fun z => .lit (.int k z))) ∈ l) (hg : P.globalNamed nm = some g) (hgt : (P.globals[g]?).map (·.type) = some t)
    (ht : P.underlying t = some (.array n e)) (he : P.underlying e = some (.int k)) (hc : P.cellsOf e = 1) :
    ∃ cs ty fr, w.heap[g]? = some (.cells cs ty fr) ∧ ∀ (i : Nat) (v : Value), (Tr.putList (zs.map (Value.int k)) .nil 0).get i = some v → GC v cs[i]? := by
  obtain ⟨ps, hv, -, -⟩ := hl
  obtain ⟨g', t', cs, fuel, p, h1, h2, h3, h4⟩ := laid_var hv hm
  obtain rfl := Option.some.inj (hg.symm.trans h1)
  obtain rfl := Option.some.inj (hgt.symm.trans h2)
  unfold World.var? at h3
  rw [hg] at h3
  simp only [Option.bind_some] at h3
  split at h3
  · rename_i cs' ty fr hh
    injection h3 with h3
    subst h3
    refine ⟨cs', ty, fr, hh, fun i v hget => ?_⟩
    rw [Tr.get_putList] at hget
    split at hget
    · rename_i hr
      rw [Nat.sub_zero, List.getElem?_map] at hget
      cases hz : zs[i]? with
      | none => rw [hz] at hget; cases hget
      | some z =>
        rw [hz] at hget
        simp only [Option.map_some, Option.some.injEq] at hget
        subst hget
        exact .inl ⟨rfl, by simpa using ints_of_trod ht he hc h4 i z hz⟩
    · rw [Tr.get_nil] at hget; cases hget
  · cases h3
end Go.Proofs.YtgcoieddgagpbaaDoor.Ev
