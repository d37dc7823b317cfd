/- Ways: each test of what is not known goes both ways; a way that can't be is shut by a clause. -/
import Derived.Test.YtejnaedignfmoaaGreatDoorEvSy
set_option linter.unusedVariables false
set_option linter.unusedSimpArgs false
namespace Go.Proofs.YtejnaedignfmoaaGreatDoor.Ev
open Go Go.RowKit

inductive PT where
  | leaf
  | node (e : Value) (t f : PT)
  | dead (k : Nat)

/-- Is all of a clause taken for granted? -/
noncomputable def hasAll (c as : List (Value × Bool)) : Bool := c.all fun p => match lookS p.1 as with
  | some b => b == p.2
  | none => false

noncomputable def walkT (run : List (Value × Bool) → Bool) (cl : List (List (Value × Bool))) (t : PT) : List (Value × Bool) → Bool :=
  PT.rec (motive := fun _ => List (Value × Bool) → Bool) (fun as => run as)
    (fun e _ _ h1 h2 as => Bool.rec (motive := fun _ => Bool) false (Bool.rec (motive := fun _ => Bool) false (h2 ((e, false) :: as)) (h1 ((e, true) :: as))) (isSym e))
    (fun k as => match cl[k]? with
      | some c => hasAll c as
      | none => false) t

/-- What is taken for granted of an expression: where it is a truth, it is that one. -/
def Holds (s : Nat → Value) (u : Nat → List Value → Option Value) (e : Value) (b : Bool) : Prop :=
  ∀ d v, den s u d e = some v → tyOk 1 v = true → v = .bool b

theorem walkT_ok {s : Nat → Value} {u : Nat → List Value → Option Value} {run : List (Value × Bool) → Bool} {cl : List (List (Value × Bool))} {C : Prop}
    (hcl : ∀ c, c ∈ cl → ¬ ∀ e b, (e, b) ∈ c → Holds s u e b)
    (hrun : ∀ as, run as = true → (∀ e b, (e, b) ∈ as → isSym e = true → Holds s u e b) → C) :
    ∀ (t : PT) (as : List (Value × Bool)), walkT run cl t as = true → (∀ e b, (e, b) ∈ as → Holds s u e b) → C := by
  intro t
  induction t with
  | leaf => intro as h ha; exact hrun as h fun e b he _ => ha e b he
  | dead k =>
    intro as h ha
    have h : (match cl[k]? with | some c => hasAll c as | none => false) = true := h
    split at h
    · rename_i c hc
      refine absurd (fun e b he => ?_) (hcl c (List.mem_of_getElem? hc))
      have := List.all_eq_true.1 h _ he
      simp only at this
      split at this
      · rename_i b' hb'
        have hbb : b' = b := by simpa using this
        subst hbb
        exact ha e b' (lookS_mem hb')
      · cases this
    · cases h
  | node e t f iht ihf =>
    intro as h ha
    have h : Bool.rec (motive := fun _ => Bool) false (Bool.rec (motive := fun _ => Bool) false (walkT run cl f ((e, false) :: as)) (walkT run cl t ((e, true) :: as))) (isSym e) = true := h
    have h1 : walkT run cl t ((e, true) :: as) = true ∧ walkT run cl f ((e, false) :: as) = true := by
      cases hs : isSym e <;> rw [hs] at h
      · cases h
      · cases ht : walkT run cl t ((e, true) :: as) <;> rw [ht] at h
        · cases h
        · exact ⟨rfl, h⟩
    have add : ∀ b, Holds s u e b → ∀ e' b', (e', b') ∈ (e, b) :: as → Holds s u e' b' := fun b hb e' b' hm => by
      rcases List.mem_cons.1 hm with hm | hm
      · injection hm with x y; subst x; subst y; exact hb
      · exact ha e' b' hm
    by_cases hex : ∃ d v, den s u d e = some v ∧ tyOk 1 v = true
    · obtain ⟨d, v, hd, ht⟩ := hex
      obtain ⟨b, rfl⟩ := ty_bool ht
      have hb : Holds s u e b := fun d' v' hd' _ => by
        have e1 := den_mono (Nat.le_max_left d d') hd
        have e2 := den_mono (Nat.le_max_right d d') hd'
        rw [e1] at e2
        exact (Option.some.inj e2).symm
      cases b
      · exact ihf _ h1.2 (add _ hb)
      · exact iht _ h1.1 (add _ hb)
    · exact iht _ h1.1 (add true fun d v hd ht => absurd ⟨d, v, hd, ht⟩ hex)

/-- What is reckoned of a call on all ways; the contracts may look at what is taken for granted. -/
theorem toldT {P : Program} {ex : List (FuncId × ExtK)} {me : List (TypeId × String × FuncId)} {gv : List (Nat × Tr Value)} {orc : List (Value × Bool) → List (FuncId × OrcF)} {U : Nat → List Value → Option Value}
    (hx : ∀ as, ExtOk P (cxOf P ex me gv (orc as) as U)) (hmix : P.follows .mixedOrders = true) {n d : Nat} {f : FuncId} {b : Bool} {N : Nat} {args args' : List Value} {cl : List (List (Value × Bool))} {t : PT}
    (h : walkT (fun as => tellsA (cxOf P ex me gv (orc as) as U) b (evFn (cxOf P ex me gv (orc as) as U) n d (.fn f) args ⟨.nil, N, N⟩)) cl t [] = true) (w : World) (s : Nat → Value)
    (hargs : RVs ⟨fun _ => none, s, uOf (cxOf P ex me gv [] [] U)⟩ args args')
    (hcl : ∀ c, c ∈ cl → ¬ ∀ e b, (e, b) ∈ c → Holds s (uOf (cxOf P ex me gv [] [] U)) e b)
    (hgv : ∀ g t, (g, t) ∈ gv → ∃ cs ty fr, w.heap[g]? = some (.cells cs ty fr) ∧ ∀ (i : Nat) (v : Value), t.get i = some v → GC v cs[i]?) :
    Calls P f ⟨args'⟩ w (fun e w' => e = .returned (.bool b) ∧ Below w.heap.size w w') :=
  walkT_ok hcl (fun as ha hh => toldS2 (hx as) hmix ha w s hargs hh hgv) t [] h (fun e b he => by cases he)

/-! Contracts whose answers are expressions. -/
theorem orc_sym {P : Program} {cx : Cx} {f : FuncId} {o : OrcF} (he : ∀ (l : Array Value) (w : World), (callFunc f l).run P w = .ok (.enter f l) w)
    (hs : ∀ args hp l, o args hp = some l → ∃ v, l = [(.ret v, hp)])
    (main : ∀ args hp v, o args hp = some [(.ret v, hp)] → ∀ (m : Emb) (args' : List Value) (w : World), AsOk cx m → RVs m args args' →
      ∃ v', RV m v v' ∧ Calls P f ⟨args'⟩ w fun e w' => e = .returned v' ∧ Below w.heap.size w w') : OrcIs P cx f o := by
  refine ⟨he, fun args hp l hl r hr => ?_, fun args hp l hl m args' w gw inv hargs _ => ?_⟩
  · obtain ⟨v, rfl⟩ := hs args hp l hl
    rw [List.mem_singleton.1 hr]
    exact Grow.refl _
  · obtain ⟨v, rfl⟩ := hs args hp l hl
    obtain ⟨v', h1, h2⟩ := main args hp v hl m args' w gw.as hargs
    exact h2.mono fun e w' ⟨he, hb⟩ => ⟨.ret v, hp, List.mem_singleton.2 rfl, m, Step.below inv hb, .inl ⟨v, v', rfl, he, h1⟩⟩

/-- An expression of a kind. -/
def symOf (ty : Nat) (x : Value) : Bool := isSym x && Nat.beq (symTy x) ty
section
variable {m : Emb} {x x' : Value}
theorem symOf_sym {ty : Nat} (h : symOf ty x = true) : isSym x = true := by unfold symOf at h; rw [Bool.and_eq_true] at h; exact h.1
theorem symOf_ty {ty : Nat} (h : symOf ty x = true) (hv : RV m x x') : tyOk ty x' = true := by
  unfold symOf at h; rw [Bool.and_eq_true] at h
  have := (hv.sym_iff h.1).2
  rwa [Nat.eq_of_beq_eq_true h.2] at this
theorem symOf_i64 (h : symOf 6 x = true) (hv : RV m x x') : ∃ a, x' = .int .i64 a ∧ -9223372036854775808 ≤ a ∧ a ≤ 9223372036854775807 := by
  have ht := symOf_ty h hv
  obtain ⟨k, n, rfl, hk⟩ := ty_int (by omega) ht
  obtain rfl : k = .i64 := by cases k <;> first | rfl | cases hk
  simp [tyOk, IntKind.min, IntKind.max, IntKind.bits, IntKind.signed] at ht
  exact ⟨n, rfl, by omega, by omega⟩
theorem symOf_bool (h : symOf 1 x = true) (hv : RV m x x') : ∃ b, x' = .bool b := ty_bool (symOf_ty h hv)
theorem given_iff {ty i : Nat} (hv : RV m (unk ty i) x') : m.s i = x' ∧ tyOk ty x' = true := by
  obtain ⟨⟨d, hd⟩, ht⟩ := hv.sym_iff rfl
  cases d with
  | zero => cases hd
  | succ d => exact ⟨Option.some.inj hd, ht⟩
/-- What an expression denotes, by what its parts denote. -/
theorem app_iff {ty k : Nat} {xs : List Value} (hv : RV m (sy ty (k + 1) xs) x') : ∃ d l, mapO (den m.s m.u d) xs = some l ∧ m.u k l = some x' := by
  obtain ⟨⟨d, hd⟩, -⟩ := hv.sym_iff rfl
  obtain ⟨d', l, -, h1, h2⟩ := den_app hd
  exact ⟨d', l, h1, h2⟩
theorem mapO_two {s : Nat → Value} {u : Nat → List Value → Option Value} {d d' : Nat} {xs l l' : List Value} (h : mapO (den s u d) xs = some l) (h' : mapO (den s u d') xs = some l') : l = l' := by
  have e1 := mapO_mono (fun x y => den_mono (Nat.le_max_left d d')) _ _ h
  have e2 := mapO_mono (fun x y => den_mono (Nat.le_max_right d d')) _ _ h'
  rw [e1] at e2
  exact Option.some.inj e2
end
end Go.Proofs.YtejnaedignfmoaaGreatDoor.Ev
