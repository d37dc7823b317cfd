import Derived.Test.YtaepplhgeeaidaaDoorEvLp
set_option linter.unusedVariables false
set_option linter.unusedSimpArgs false
set_option linter.unusedSectionVars false
namespace Go.Proofs.YtaepplhgeeaidaaDoor.Ev
open Go Go.RowKit
structure Asrt where
  G : Fm
  Gh : Hp
  fs : List (Value × Bool)
  B : Nat
inductive Plan where
  | run (t : PT)
  | seq (p : Plan) (m : Asrt) (q : Plan)
  | block (p : Plan)
  | loop (i : Nat) (x : Value) (B1 : Nat) (p : Plan)
structure Ways where
  nrm : Option (Asrt × Option (Nat × Value))
  exs : List (Nat × Asrt)
def exAt (id : Nat) : List (Nat × Asrt) → Option Asrt
  | [] => none
  | p :: l => match Nat.beq p.1 id with
    | true => some p.2
    | false => exAt id l
def getL (i : Nat) : Ms → Option Value
  | [] => none
  | x :: l => match Nat.beq x.1 i with
    | true => some x.2.2
    | false => getL i l
theorem getL_mem {i : Nat} {e : Value} : ∀ {L : Ms}, getL i L = some e → ∃ ty, (i, ty, e) ∈ L := by
  intro L
  induction L with
  | nil => intro h; cases h
  | cons x l ih =>
    intro h
    unfold getL at h
    split at h
    · rename_i hx
      injection h with h
      obtain ⟨j, ty, v⟩ := x
      have := Nat.eq_of_beq_eq_true hx
      subst h
      subst this
      exact ⟨ty, List.mem_cons_self⟩
    · obtain ⟨ty, h⟩ := ih h
      exact ⟨ty, List.mem_cons_of_mem _ h⟩
section
variable {P : Program} {ex : List (FuncId × ExtK)} {me : List (TypeId × String × FuncId)} {gv : List (Nat × Tr Value)} {orc : List (Value × Bool) → List (FuncId × OrcF)} {U : Nat → List Value → Option Value}
def AS (cx : Cx) (w0 : World) (R : Addr → Option Value) (sz : Nat) (s0 s : Nat → Value) (A : Asrt) (a : Act) (w : World) : Prop :=
  (∀ i, i < A.B → s i = s0 i) ∧ Top cx w0 R s sz A.G A.Gh w a ∧ ∀ e b, (e, b) ∈ A.fs → Holds s (uRd cx R) e b
def LenIs (u : Nat → List Value → Option Value) (s : Nat → Value) (x : Value) (n : Nat) : Prop := ∃ d A c, den s u d x = some (.slice A n c)
structure Goes (cx : Cx) (w0 : World) (R : Addr → Option Value) (sz : Nat) (fin : List (Value × Bool) → Fm → Hp → Bool) (W : Ways) (s0 : Nat → Value) (Q : Exit → Act → World → Prop) : Prop where
  on : ∀ A, W.nrm = some (A, none) → ∀ s a w, AS cx w0 R sz s0 s A a w → Q .normal a w
  up : ∀ A i x, W.nrm = some (A, some (i, x)) → ∀ s a w, AS cx w0 R sz s0 s A a w → (∃ n j, LenIs (uRd cx R) s0 x n ∧ s0 i = .int .i64 (.ofNat j) ∧ j < n ∧ s i = .int .i64 (.ofNat (j + 1))) → Q .normal a w
  out : ∀ id A, exAt id W.exs = some A → ∀ s a w, AS cx w0 R sz s0 s A a w → Q (.exit id) a w
  fin : ∀ s fm hp as a w, Top cx w0 R s sz fm hp w a → (∀ e b, (e, b) ∈ as → isSym e = true → Holds s (uRd cx R) e b) → fin as fm hp = true → Q .ret a w
theorem uRd_rd (cx : Cx) (R : Addr → Option Value) (k : Nat) (vs : List Value) (hk : 4 ≤ k ∧ k < 16 ∧ k ≠ 5) : uRd cx R k vs = opRd cx.P R k vs := by
  unfold uRd
  rw [if_neg (by omega), if_neg (by omega), if_pos (by omega)]
theorem uRd_op (cx : Cx) (R : Addr → Option Value) (vs : List Value) : uRd cx R 0 vs = opSem cx 0 vs := by
  unfold uRd
  rw [if_neg (by omega), if_pos (by omega)]
end
end Go.Proofs.YtaepplhgeeaidaaDoor.Ev
