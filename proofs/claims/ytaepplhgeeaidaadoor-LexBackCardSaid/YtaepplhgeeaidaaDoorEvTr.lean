import Derived.Test.YtaepplhgeeaidaaDoorEvSy
set_option linter.unusedVariables false
set_option linter.unusedSimpArgs false
namespace Go.Proofs.YtaepplhgeeaidaaDoor.Ev
open Go Go.RowKit
inductive PT where
  | leaf
  | node (e : Value) (t f : PT)
  | dead (k : Nat)
noncomputable def hasAll (c as : List (Value × Bool)) : Bool := c.all fun p => match lookS p.1 as with
  | some b => b == p.2
  | none => false
noncomputable def walkT (run : List (Value × Bool) → Bool) (cl : List (List (Value × Bool))) (t : PT) : List (Value × Bool) → Bool :=
  PT.rec (motive := fun _ => List (Value × Bool) → Bool) (fun as => run as)
    (fun e _ _ h1 h2 as => Bool.rec (motive := fun _ => Bool) false (Bool.rec (motive := fun _ => Bool) false (h2 ((e, false) :: as)) (h1 ((e, true) :: as))) (isSym e))
    (fun k as => match cl[k]? with
      | some c => hasAll c as
      | none => false) t
def Holds (s : Nat → Value) (u : Nat → List Value → Option Value) (e : Value) (b : Bool) : Prop :=
  ∀ d v, den s u d e = some v → tyOk 1 v = true → v = .bool b
theorem walkT_ok {s : Nat → Value} {u : Nat → List Value → Option Value} {run : List (Value × Bool) → Bool} {cl : List (List (Value × Bool))} {C : Prop}
    (hcl : ∀ c, c ∈ cl → ¬ ∀ e b, (e, b) ∈ c → Holds s u e b)
    (hrun : ∀ as, run as = true → (∀ e b, (e, b) ∈ as → isSym e = true → Holds s u e b) → C) :
    ∀ (t : PT) (as : List (Value × Bool)), walkT run cl t as = true → (∀ e b, (e, b) ∈ as → Holds s u e b) → C := by
  intro t
  induction t with
  | leaf => intro as h ha; exact hrun as h fun e b he _ => ha e b he
  | dead k =>
    intro as h ha
    have h : (match cl[k]? with | some c => hasAll c as | none => false) = true := h
    split at h
    · rename_i c hc
      refine absurd (fun e b he => ?_) (hcl c (List.mem_of_getElem? hc))
      have := List.all_eq_true.1 h _ he
      simp only at this
      split at this
      · rename_i b' hb'
        have hbb : b' = b := by simpa using this
        subst hbb
        exact ha e b' (lookS_mem hb')
      · cases this
    · cases h
  | node e t f iht ihf =>
    intro as h ha
    have h : Bool.rec (motive := fun _ => Bool) false (Bool.rec (motive := fun _ => Bool) false (walkT run cl f ((e, false) :: as)) (walkT run cl t ((e, true) :: as))) (isSym e) = true := h
    have h1 : walkT run cl t ((e, true) :: as) = true ∧ walkT run cl f ((e, false) :: as) = true := by
      cases hs : isSym e <;> rw [hs] at h
      · cases h
      · cases ht : walkT run cl t ((e, true) :: as) <;> rw [ht] at h
        · cases h
        · exact ⟨rfl, h⟩
    have add : ∀ b, Holds s u e b → ∀ e' b', (e', b') ∈ (e, b) :: as → Holds s u e' b' := fun b hb e' b' hm => by
      rcases List.mem_cons.1 hm with hm | hm
      · injection hm with x y; subst x; subst y; exact hb
      · exact ha e' b' hm
    by_cases hex : ∃ d v, den s u d e = some v ∧ tyOk 1 v = true
    · obtain ⟨d, v, hd, ht⟩ := hex
      obtain ⟨b, rfl⟩ := ty_bool ht
      have hb : Holds s u e b := fun d' v' hd' _ => by
        have e1 := den_mono (Nat.le_max_left d d') hd
        have e2 := den_mono (Nat.le_max_right d d') hd'
        rw [e1] at e2
        exact (Option.some.inj e2).symm
      cases b
      · exact ihf _ h1.2 (add _ hb)
      · exact iht _ h1.1 (add _ hb)
    · exact iht _ h1.1 (add true fun d v hd ht => absurd ⟨d, v, hd, ht⟩ hex)
section
variable {m : Emb} {x x' : Value}
theorem given_iff {ty i : Nat} (hv : RV m (unk ty i) x') : m.s i = x' ∧ tyOk ty x' = true := by
  obtain ⟨⟨d, hd⟩, ht⟩ := hv.sym_iff rfl
  cases d with
  | zero => cases hd
  | succ d => exact ⟨Option.some.inj hd, ht⟩
end
end Go.Proofs.YtaepplhgeeaidaaDoor.Ev
