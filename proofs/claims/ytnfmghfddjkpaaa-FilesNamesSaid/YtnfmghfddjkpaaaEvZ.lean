/- What the reckoner tells of a call of no argument, said of the model: for a program whose externs are named. -/
import Derived.Test.YtnfmghfddjkpaaaEvY
import Derived.Below
set_option linter.unusedVariables false
set_option linter.unusedSimpArgs false
namespace Go.Proofs.Ytnfmghfddjkpaaa.Ev
open Go Go.RowKit

theorem cx_ok (P : Program) (ex : List (FuncId × ExtK)) (me : List (TypeId × String × FuncId)) (gv : List (Nat × Tr Value)) (orc : List (FuncId × OrcF) := []) (as : List (Value × Bool) := []) (U : Nat → List Value → Option Value := fun _ _ => none) : CxOk P (cxOf P ex me gv orc as U) := by
  refine ⟨rfl, fun t ti h => ?_, fun f fi h => ?_⟩
  · unfold Cx.t cxOf at h
    simp only [Tr.get_putList] at h
    split at h
    · rename_i o ho
      split at ho
      · rename_i hr
        simp only [Nat.sub_zero, List.getElem?_map, List.length_map, List.length_range] at ho hr
        rw [List.getElem?_range (by omega)] at ho
        simp only [Option.map_some, Option.some.injEq] at ho
        rw [ho]; exact h
      · simp [Tr.get_nil] at ho
    · cases h
  · unfold Cx.f cxOf at h
    simp only [Tr.get_putList] at h
    split at h
    · rename_i o ho
      split at ho
      · rename_i hr
        simp only [Nat.sub_zero, List.getElem?_map, Array.getElem?_toList] at ho
        cases hf : P.funcs[f]? with
        | none => rw [hf] at ho; cases ho
        | some fn =>
          rw [hf] at ho
          simp only [Option.map_some, Option.some.injEq] at ho
          exact ⟨fn, rfl, by rw [ho]; exact h⟩
      · simp [Tr.get_nil] at ho
    · cases h

/-- A function of the program that has no body, and its entry. -/
def ExtIs (P : Program) (f : FuncId) (k : ExtK) : Prop :=
  ∃ fn, P.funcs[f]? = some fn ∧ (fn.name == "runtime.NumGoroutine") = false ∧ fn.body = none ∧ (Extern.findNext fn).isNone = true ∧ Extern.find fn = some (extS k)

theorem ext_run {P : Program} {f : FuncId} {k : ExtK} (h : ExtIs P f k) (l : Array Value) (w : World) : (callFunc f l).run P w = ((do pure (.value (← extS k l))) : Sem Next).run P w := by
  obtain ⟨fn, h1, h2, h3, h4, h5⟩ := h
  have h4' : Extern.findNext fn = none := by simpa using h4
  have h2' : fn.name ≠ "runtime.NumGoroutine" := by simpa using h2
  simp [callFunc, go_sem, h1, h2', h3, h4', h5]

/-- A type's method is a function that is handed the receiver as it is. -/
def MethIs (P : Program) (t : TypeId) (nm : String) (f : FuncId) : Prop :=
  ∀ (v : Value) (w : World), (method (P.types.size + Made.depth) t v nm).run P w = .ok (f, v) w

theorem meth_is {P : Program} {t : TypeId} {nm : String} {f : FuncId} (h : methOf P t nm = some f) : MethIs P t nm f := by
  unfold methOf at h
  split at h
  · cases h
  rename_i i hi
  split at h
  · cases h
  rename_i d hd
  split at h
  · cases h
  rename_i q hq
  split at h
  case h_2 => cases h
  rename_i f' r hp hf
  have hp : q.path = #[] := by rw [← Array.toList_inj]; exact hp
  have hq : i.methods.find? (fun q => q.name == nm) = some q := by rw [← Array.find?_toList]; exact hq
  intro v w
  have hk : P.types.size + Made.depth = (P.types.size + (Made.depth - 1)) + 1 := rfl
  rw [hk]
  split at h
  · rename_i hpt
    cases h
    cases d <;> first | (cases hpt; done) | skip
    simp [method, typeInfo, hi, hq, hp, hf, follow, receiverAt, underlying, hd, Place.get]
  · rename_i hpt
    cases h
    cases d <;> first | (cases hpt; done) | skip
    all_goals simp [method, typeInfo, hi, hq, hp, hf, follow, receiverAt, underlying, hd, Place.get]
  · cases h

theorem ext_nil (P : Program) (gv : List (Nat × Tr Value) := []) (as : List (Value × Bool) := []) (U : Nat → List Value → Option Value := fun _ _ => none) : ExtOk P (cxOf P [] [] gv [] as U) := ⟨(fun f o h => by cases h), (fun f k h => by cases h), (fun t nm f h => meth_is h)⟩

theorem cx_o (P : Program) (p : FuncId × OrcF) (ex : List (FuncId × ExtK)) (me : List (TypeId × String × FuncId)) (gv : List (Nat × Tr Value)) (orc : List (FuncId × OrcF)) (as : List (Value × Bool)) (U : Nat → List Value → Option Value) (f : FuncId) :
    (cxOf P ex me gv (p :: orc) as U).o f = match Nat.beq p.1 f with | true => some p.2 | false => (cxOf P ex me gv orc as U).o f := rfl

theorem orc_cons {P : Program} {g : FuncId} {p : OrcF} {ex : List (FuncId × ExtK)} {me : List (TypeId × String × FuncId)} {gv : List (Nat × Tr Value)} {orc : List (FuncId × OrcF)} {as : List (Value × Bool)} {U : Nat → List Value → Option Value}
    (h : OrcIs P (cxOf P ex me gv [] as U) g p) (t : ExtOk P (cxOf P ex me gv orc as U)) : ExtOk P (cxOf P ex me gv ((g, p) :: orc) as U) := ⟨fun f o ho => by
  rw [cx_o] at ho
  split at ho
  · rename_i hb
    injection ho with ho
    obtain rfl := Nat.eq_of_beq_eq_true hb
    subst ho
    exact h
  · exact t.orc f o ho, fun f k hf => t.ex f k hf, fun u nm f hf => t.me u nm f hf⟩

theorem cx_x (P : Program) (p : FuncId × ExtK) (ex : List (FuncId × ExtK)) (me : List (TypeId × String × FuncId)) (gv : List (Nat × Tr Value)) (orc : List (FuncId × OrcF)) (as : List (Value × Bool)) (U : Nat → List Value → Option Value) (f : FuncId) :
    (cxOf P (p :: ex) me gv orc as U).x f = match Nat.beq p.1 f with | true => some p.2 | false => (cxOf P ex me gv orc as U).x f := rfl

theorem cx_m (P : Program) (p : TypeId × String × FuncId) (ex : List (FuncId × ExtK)) (me : List (TypeId × String × FuncId)) (gv : List (Nat × Tr Value)) (orc : List (FuncId × OrcF)) (as : List (Value × Bool)) (U : Nat → List Value → Option Value) (t : TypeId) (nm : String) :
    (cxOf P ex (p :: me) gv orc as U).m t nm = match Nat.beq p.1 t with | true => (match decide (p.2.1 = nm) with | true => some p.2.2 | false => (cxOf P ex me gv orc as U).m t nm) | false => (cxOf P ex me gv orc as U).m t nm := rfl

theorem ext_cons {P : Program} {g : FuncId} {k : ExtK} {ex : List (FuncId × ExtK)} {me : List (TypeId × String × FuncId)} {gv : List (Nat × Tr Value)} {orc : List (FuncId × OrcF)} {as : List (Value × Bool)} {U : Nat → List Value → Option Value} (h : ExtIs P g k) (t : ExtOk P (cxOf P ex me gv orc as U)) : ExtOk P (cxOf P ((g, k) :: ex) me gv orc as U) := ⟨fun f o ho => t.orc f o ho, fun f j hj => by
  rw [cx_x] at hj
  split at hj
  · rename_i hb
    cases hj
    obtain rfl := Nat.eq_of_beq_eq_true hb
    exact ext_run h
  · exact t.ex f j hj, fun u nm f hf => t.me u nm f hf⟩

theorem meth_cons {P : Program} {t : TypeId} {nm : String} {f : FuncId} {ex : List (FuncId × ExtK)} {me : List (TypeId × String × FuncId)} {gv : List (Nat × Tr Value)} {orc : List (FuncId × OrcF)} {as : List (Value × Bool)} {U : Nat → List Value → Option Value} (h : MethIs P t nm f) (r : ExtOk P (cxOf P ex me gv orc as U)) : ExtOk P (cxOf P ex ((t, nm, f) :: me) gv orc as U) := ⟨fun f o ho => r.orc f o ho, r.ex, fun u q g hg => by
  rw [cx_m] at hg
  split at hg
  · rename_i hb
    split at hg
    · rename_i hd
      injection hg with hg
      obtain rfl := Nat.eq_of_beq_eq_true hb
      obtain rfl := of_decide_eq_true hd
      obtain rfl := hg
      exact h
    · exact r.me u q g hg
  · exact r.me u q g hg⟩

def tell1 (b : Bool) : Res → Bool
  | .ret (.bool c) => c == b
  | _ => false
def tells (b : Bool) (r : RVal) : Bool := match r with
  | some l => l.all fun q => tell1 b q.1
  | _ => false

noncomputable def tell2 (cx : Cx) (b : Bool) : Res → Bool
  | .ret v => match boolA cx v with
    | some c => c == b
    | none => false
  | _ => false
noncomputable def tellsA (cx : Cx) (b : Bool) (r : RVal) : Bool := match r with
  | some l => l.all fun q => tell2 cx b q.1
  | _ => false
theorem tellsA_of {cx : Cx} {b : Bool} {r : RVal} (h : tells b r = true) : tellsA cx b r = true := by
  unfold tells at h
  unfold tellsA
  split at h
  · rename_i l
    rw [List.all_eq_true] at h ⊢
    intro q hq
    have := h q hq
    obtain ⟨r, hp⟩ := q
    cases r <;> first
      | (cases this; done)
      | skip
    rename_i v
    cases v <;> first
      | (cases this; done)
      | exact this
  · cases h

/-- The known operations, and the unknown functions. -/
noncomputable def uOf (cx : Cx) (k : Nat) (vs : List Value) : Option Value := if k < 4 then opSem cx k vs else if k = 5 then none else if k < 16 then opRd cx.P (fun _ => none) k vs else cx.U (k - 16) vs
theorem uOf_5 (cx : Cx) (vs : List Value) : uOf cx 5 vs = none := rfl
theorem uOf_ok (cx : Cx) (k : Nat) (vs : List Value) (hk : k ≠ 5) : uOf cx k vs = if k < 4 then opSem cx k vs else if k < 16 then opRd cx.P (fun a => uOf cx 5 [.pointer (some a)]) k vs else cx.U (k - 16) vs := by
  unfold uOf
  simp only [if_neg hk]
  rfl

/-- What is reckoned of a call with arguments that are not known, where variables of the program are read. -/
theorem toldS2 {P : Program} {ex : List (FuncId × ExtK)} {me : List (TypeId × String × FuncId)} {gv : List (Nat × Tr Value)} {orc : List (FuncId × OrcF)} {as : List (Value × Bool)} {U : Nat → List Value → Option Value} (hx : ExtOk P (cxOf P ex me gv orc as U)) (hmix : P.follows .mixedOrders = true) {n d : Nat} {f : FuncId} {b : Bool} {N : Nat} {args args' : List Value}
    (h : tellsA (cxOf P ex me gv orc as U) b (evFn (cxOf P ex me gv orc as U) n d (.fn f) args ⟨.nil, N, N⟩) = true) (w : World) (s : Nat → Value)
    (hargs : RVs ⟨fun _ => none, s, uOf (cxOf P ex me gv orc as U)⟩ args args')
    (has : ∀ e b, (e, b) ∈ as → isSym e = true → ∀ d v, den s (uOf (cxOf P ex me gv orc as U)) d e = some v → tyOk 1 v = true → v = .bool b)
    (hgv : ∀ g t, (g, t) ∈ gv → ∃ cs ty fr, w.heap[g]? = some (.cells cs ty fr) ∧ ∀ (i : Nat) (v : Value), t.get i = some v → GC v cs[i]?) :
    Calls P f ⟨args'⟩ w (fun e w' => e = .returned (.bool b) ∧ Below w.heap.size w w') := by
  cases he : evFn (cxOf P ex me gv orc as U) n d (.fn f) args ⟨.nil, N, N⟩ with
  | none => rw [he] at h; cases h
  | some l =>
    rw [he] at h
    have inv : Inv ⟨fun _ => none, s, uOf (cxOf P ex me gv orc as U)⟩ (⟨.nil, N, N⟩ : Hp) w.heap := ⟨(fun _ _ _ h1 => by cases h1), (fun _ _ _ _ h1 => by cases h1), (fun _ _ h1 => by cases h1), (fun _ _ h1 => by rw [Tr.get_nil] at h1; cases h1)⟩
    have gw : GW (cxOf P ex me gv orc as U) ⟨fun _ => none, s, uOf (cxOf P ex me gv orc as U)⟩ w := ⟨fun g t hg => ⟨hgv g t hg, fun _ _ h1 => by cases h1⟩, ⟨fun k vs hk => uOf_ok (cxOf P ex me gv orc as U) k vs hk, has⟩, fun a v hv => by cases hv⟩
    obtain ⟨-, hC⟩ := calls_ok (cx_ok P ex me gv orc as U) hx hmix n d (.fn f) args _ _ he ⟨fun _ => none, s, uOf (cxOf P ex me gv orc as U)⟩ args' w gw inv hargs (fun r _ x _ _ => rfl)
    refine hC.mono fun e w' ⟨r, hp', hm, m', h2, h3⟩ => ?_
    have hb := List.all_eq_true.1 h _ hm
    rcases h3 with ⟨v, v', rfl, rfl, hv⟩ | ⟨v, v', rfl, rfl, hv⟩
    · have hb : (match boolA (cxOf P ex me gv orc as U) v with | some c => c == b | none => false) = true := hb
      split at hb
      · rename_i c hc
        have hcb : c = b := by simpa using hb
        subst hcb
        obtain rfl := boolA_ok (gw.as.mono h2.le) hv hc
        exact ⟨rfl, h2.os, h2.tape, h2.output, h2.size, fun k hk => h2.keep k hk (fun b e _ h1 => by cases h1)⟩
      · cases hb
    · cases hb

/-- The same, where the answer is a truth that is known. -/
theorem toldS {P : Program} {ex : List (FuncId × ExtK)} {me : List (TypeId × String × FuncId)} {gv : List (Nat × Tr Value)} {orc : List (FuncId × OrcF)} {as : List (Value × Bool)} {U : Nat → List Value → Option Value} (hx : ExtOk P (cxOf P ex me gv orc as U)) (hmix : P.follows .mixedOrders = true) {n d : Nat} {f : FuncId} {b : Bool} {N : Nat} {args args' : List Value}
    (h : tells b (evFn (cxOf P ex me gv orc as U) n d (.fn f) args ⟨.nil, N, N⟩) = true) (w : World) (s : Nat → Value)
    (hargs : RVs ⟨fun _ => none, s, uOf (cxOf P ex me gv orc as U)⟩ args args')
    (has : ∀ e b, (e, b) ∈ as → isSym e = true → ∀ d v, den s (uOf (cxOf P ex me gv orc as U)) d e = some v → tyOk 1 v = true → v = .bool b)
    (hgv : ∀ g t, (g, t) ∈ gv → ∃ cs ty fr, w.heap[g]? = some (.cells cs ty fr) ∧ ∀ (i : Nat) (v : Value), t.get i = some v → GC v cs[i]?) :
    Calls P f ⟨args'⟩ w (fun e w' => e = .returned (.bool b) ∧ Below w.heap.size w w') :=
  toldS2 hx hmix (tellsA_of h) w s hargs has hgv

/-- What is reckoned of a call of no argument, where variables of the program are read. -/
theorem toldG {P : Program} {ex : List (FuncId × ExtK)} {me : List (TypeId × String × FuncId)} {gv : List (Nat × Tr Value)} {orc : List (FuncId × OrcF)} (hx : ExtOk P (cxOf P ex me gv orc)) (hmix : P.follows .mixedOrders = true) {n d : Nat} {f : FuncId} {b : Bool} {N : Nat}
    (h : tells b (evFn (cxOf P ex me gv orc) n d (.fn f) [] ⟨.nil, N, N⟩) = true) (w : World)
    (hgv : ∀ g t, (g, t) ∈ gv → ∃ cs ty fr, w.heap[g]? = some (.cells cs ty fr) ∧ ∀ (i : Nat) (v : Value), t.get i = some v → GC v cs[i]?) :
    Calls P f #[] w (fun e w' => e = .returned (.bool b) ∧ Below w.heap.size w w') :=
  toldS (args' := []) (as := []) (U := fun _ _ => none) hx hmix h w (fun _ => undef) (RVs.nil _) (fun _ _ h1 => by cases h1) hgv

/-- What is reckoned of a call of no argument. -/
theorem told {P : Program} {ex : List (FuncId × ExtK)} {me : List (TypeId × String × FuncId)} (hx : ExtOk P (cxOf P ex me)) (hmix : P.follows .mixedOrders = true) {n d : Nat} {f : FuncId} {b : Bool} {N : Nat}
    (h : tells b (evFn (cxOf P ex me) n d (.fn f) [] ⟨.nil, N, N⟩) = true) (w : World) :
    Calls P f #[] w (fun e w' => e = .returned (.bool b) ∧ Below w.heap.size w w') := toldG hx hmix h w (fun _ _ h1 => by cases h1)
end Go.Proofs.Ytnfmghfddjkpaaa.Ev
