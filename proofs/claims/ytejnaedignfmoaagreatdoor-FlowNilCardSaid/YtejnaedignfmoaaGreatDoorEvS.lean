/- Contracts that the reckoner may use: the library's searches; and the wrap of a row that lists variables, with the world's shape. -/
import Derived.Test.YtejnaedignfmoaaGreatDoorEvT
import Derived.Lib.Index
import Derived.Lib.Bytealg
import Derived.HandedShaped
import Derived.Shelf.Vars
set_option linter.unusedVariables false
set_option linter.unusedSimpArgs false
namespace Go.Proofs.YtejnaedignfmoaaGreatDoor.Ev
open Go Go.RowKit

def u8Eq (a b : UInt8) : Bool := Nat.beq a.toNat b.toNat
theorem u8Eq_eq (a b : UInt8) : u8Eq a b = (a == b) := by
  unfold u8Eq
  by_cases h : a = b
  · subst h; simp
  · have h' : a.toNat ≠ b.toNat := fun e => h (UInt8.toNat_inj.1 e)
    have e1 : (a == b) = false := by simpa using h
    rw [e1]
    cases e : Nat.beq a.toNat b.toNat with
    | false => rfl
    | true => exact absurd (Nat.eq_of_beq_eq_true e) h'

--D def headIsI : List UInt8 → List UInt8 → Bool := fun p l => p.isPrefixOf l
/-- Does a list begin with another one? -/
noncomputable def headIs (p : List UInt8) : List UInt8 → Bool :=
  List.rec (motive := fun _ => List UInt8 → Bool) (fun _ => true) (fun x _ ih l => match l with
    | [] => false
    | y :: l => match u8Eq x y with
      | true => ih l
      | false => false) p
theorem headIs_eq : ∀ (p l : List UInt8), headIs p l = p.isPrefixOf l
  | [], l => by cases l <;> rfl
  | x :: p, [] => rfl
  | x :: p, y :: l => by
    show (match u8Eq x y with | true => headIs p l | false => false) = _
    rw [u8Eq_eq, List.isPrefixOf_cons_cons, headIs_eq p l]
    cases (x == y) <;> rfl

/-- The place of a byte. -/
noncomputable def idxB (c : UInt8) (l : List UInt8) : Option Nat :=
  List.rec (motive := fun _ => Option Nat) none (fun b _ ih => match u8Eq b c with
    | true => some 0
    | false => match ih with
      | none => none
      | some n => some (Nat.succ n)) l
def ofIdx : Option Nat → Int
  | none => .negSucc 0
  | some n => .ofNat n
theorem idxB_eq (c : UInt8) : ∀ l : List UInt8, ofIdx (idxB c l) = Lib.indexByte l c
  | [] => rfl
  | b :: l => by
    have ih := idxB_eq c l
    show ofIdx (match u8Eq b c with | true => some 0 | false => match idxB c l with | none => none | some n => some (Nat.succ n)) = if b == c then 0 else if Lib.indexByte l c == -1 then -1 else Lib.indexByte l c + 1
    rw [u8Eq_eq, ← ih]
    cases hb : (b == c) with
    | true => rfl
    | false =>
      cases idxB c l with
      | none => rfl
      | some n =>
        simp [ofIdx]
        try (intro h; omega)
/-- The place of a list. -/
noncomputable def idxL (sub : List UInt8) (l : List UInt8) : Option Nat :=
  List.rec (motive := fun _ => Option Nat) (match sub with | [] => some 0 | _ :: _ => none) (fun b l ih => match headIs sub (b :: l) with
    | true => some 0
    | false => match ih with
      | none => none
      | some n => some (Nat.succ n)) l
theorem idxL_eq (sub : List UInt8) : ∀ l : List UInt8, ofIdx (idxL sub l) = Lib.index l sub
  | [] => by cases sub <;> rfl
  | b :: l => by
    have ih := idxL_eq sub l
    show ofIdx (match headIs sub (b :: l) with | true => some 0 | false => match idxL sub l with | none => none | some n => some (Nat.succ n)) = if sub.isPrefixOf (b :: l) then 0 else if Lib.index l sub == -1 then -1 else Lib.index l sub + 1
    rw [headIs_eq, ← ih]
    cases hb : (sub.isPrefixOf (b :: l)) with
    | true => rfl
    | false =>
      cases idxL sub l with
      | none => rfl
      | some n =>
        simp [ofIdx]
        try (intro h; omega)

/-- The library's search of a byte, and of a text. -/
noncomputable def byteO0 (args : List Value) (_ : Hp) : Option Value :=
  match args with
  | [.string s, .int .u8 (.ofNat c)] => some (.int .i64 (ofIdx (idxB c.toUInt8 s.data.toList)))
  | _ => none
noncomputable def textO0 (args : List Value) (_ : Hp) : Option Value :=
  match args with
  | [.string s, .string t] => match Nat.blt s.size 4294967281 with
    | true => some (.int .i64 (ofIdx (idxL t.data.toList s.data.toList)))
    | false => none
  | _ => none

noncomputable def byteO : OrcF := flatO byteO0
noncomputable def textO : OrcF := flatO textO0
theorem byteO_is {P : Program} {cx : Cx} {f : FuncId} (he : ∀ (l : Array Value) (w : World), (callFunc f l).run P w = .ok (.enter f l) w)
    (hc : ∀ (s : ByteArray) (c : Int) (w : World), Calls P f #[.string s, .int .u8 c] w fun e w' => e = .returned (.int .i64 (Lib.indexByte s.data.toList c.toNat.toUInt8)) ∧ w' = w) : OrcIs P cx f byteO := by
  refine OrvIs.orc ⟨he, fun args hp v h m args' w gw inv ha => ?_⟩
  unfold byteO0 at h
  split at h
  case h_2 => cases h
  rename_i s c
  injection h with h
  subst h
  obtain ⟨x1, t1, rfl, h1, h2⟩ := ha.head
  obtain ⟨x2, t2, rfl, h3, h4⟩ := h2.head
  obtain rfl := h4.nil_left
  obtain rfl := h1.flat_iff rfl
  obtain rfl := h3.flat_iff rfl
  refine (hc s (.ofNat c) w).mono ?_
  rintro e w' ⟨rfl, rfl⟩
  rw [idxB_eq]
  exact ⟨rfl, Below.refl _ _⟩

theorem textO_is {P : Program} {cx : Cx} {f : FuncId} {g : Nat} {t : Tr Value} (he : ∀ (l : Array Value) (w : World), (callFunc f l).run P w = .ok (.enter f l) w)
    (hg : (g, t) ∈ cx.gv) (ht : t.get 0 = some (.tuple ⟨[]⟩))
    (hc : ∀ (s sub : ByteArray) (m : Int) (w : World), s.size < 4294967281 → w.cell? ⟨g, 0, none⟩ = some (.int .i64 m) → Calls P f #[.string s, .string sub] w fun e w' => e = .returned (.int .i64 (Lib.index s.data.toList sub.data.toList)) ∧ w' = w) : OrcIs P cx f textO := by
  refine OrvIs.orc ⟨he, fun args hp v h m args' w gw inv ha => ?_⟩
  unfold textO0 at h
  split at h
  case h_2 => cases h
  rename_i s sub
  split at h
  case h_2 => cases h
  rename_i hs
  have hs : s.size < 4294967281 := Nat.lt_of_lt_of_le (Nat.lt_succ_self _) (Nat.le_of_ble_eq_true hs)
  injection h with h
  subst h
  obtain ⟨x1, t1, rfl, h1, h2⟩ := ha.head
  obtain ⟨x2, t2, rfl, h3, h4⟩ := h2.head
  obtain rfl := h4.nil_left
  obtain rfl := h1.flat_iff rfl
  obtain rfl := h3.flat_iff rfl
  obtain ⟨⟨cs, ty, fr, k1, k2⟩, -⟩ := gw.at_ g t hg
  have hcell : ∃ z, w.cell? ⟨g, 0, none⟩ = some (.int .i64 z) := by
    rcases k2 0 _ ht with ⟨hf, -⟩ | ⟨-, z, hz⟩
    · cases hf
    · exact ⟨z, by rw [cell_of k1]; exact hz⟩
  obtain ⟨z, hz⟩ := hcell
  refine (hc s sub z w hs hz).mono ?_
  rintro e w' ⟨rfl, rfl⟩
  rw [idxL_eq]
  exact ⟨rfl, Below.refl _ _⟩

theorem enter_of {P : Program} {f : FuncId} {fn : Func} (hfn : P.funcs[f]? = some fn) (hb : fn.body.isSome = true) (hn : (fn.name == "runtime.NumGoroutine") = false) : ∀ (l : Array Value) (w : World), (callFunc f l).run P w = .ok (.enter f l) w := fun l w => by
  have hn' : ¬ fn.name = "runtime.NumGoroutine" := by simpa using hn
  obtain ⟨c, hc⟩ := Option.isSome_iff_exists.1 hb
  simp [callFunc, hfn, hn', hc]

/-- A variable that holds some number. -/
noncomputable def someInt : Tr Value := Tr.nil.set 0 (.tuple ⟨[]⟩)
theorem someInt_get : someInt.get 0 = some (.tuple ⟨[]⟩) := by unfold someInt; rw [Tr.get_set, if_pos rfl]
theorem someInt_of {w : World} {g : Nat} (h : ∃ z, w.cell? ⟨g, 0, none⟩ = some (.int .i64 z)) :
    ∃ cs ty fr, w.heap[g]? = some (.cells cs ty fr) ∧ ∀ (i : Nat) (v : Value), someInt.get i = some v → GC v cs[i]? := by
  obtain ⟨z, hz⟩ := h
  unfold World.cell? at hz
  split at hz
  case h_2 => cases hz
  rename_i cs ty fr hh
  refine ⟨cs, ty, fr, hh, fun i v hv => ?_⟩
  unfold someInt at hv
  rw [Tr.get_set] at hv
  split at hv
  · rename_i h0
    injection hv with hv
    subst h0
    subst hv
    exact .inr ⟨rfl, z, hz⟩
  · rw [Tr.get_nil] at hv
    cases hv

section
variable {H : Type} {enc : TypeId × Value → H}
/-- The wrap of a row that lists variables, with the world's shape. -/
theorem handed_and_shaped {a : Assume} {C : Checked} {os : Os} {f : FuncId} {fn : Func} {s : ChangeSpec} {conds : List PathCond} {apart fresh handsOn again : Bool} {X : World → Array Value → Prop}
    (hX : ∀ (w w' : World) (args : Array Value), w.heap = w'.heap → X w args → X w' args)
    (own : ownKnob C.prog.godebug = none) (started : os.Started) (noInit : C.prog.inits.idxOf? f = none) (hfn : C.prog.funcs[f]? = some fn)
    (witness : ∃ (w : World) (tape : Tape) (i : Input), w.os = os ∧ (w.forCall tape i).Shaped C.prog ∧ i.vars = [] ∧ Input.okWide C.prog (w.forCall tape i) .any w.heap.size f i ∧
      ((s.pre enc C.prog fn conds apart (w.forCall tape i).memory i.args ∧ X (w.forCall tape i).memory i.args) ∧ sizedMet enc C.prog fn (OpenSpec.ofChange s) apart (w.forCall tape i).memory i.args) ∧ a.holds C.prog (lone (Frame.enter C.prog f i.args .normal) [] (w.forCall tape i)))
    (contract : ∀ (W : World) (base : Nat) (args : Array Value) (ds gs : List (DataW H)) (before : List MemPlace),
      (∀ (j : Nat) t v, fn.params[j]? = some t → args[j]? = some v → Value.okWide C.prog W .any base t v) →
      DataW.Whole enc C.prog fn.params.toList s.vars apart W args.toList ds gs before →
      conds.all (PathCond.test C.prog ⟨fn.params.toList, ds, s.plain.varTypes C.prog, gs⟩) = true →
      (DataW.weightsEach C.prog (fn.params.toList ++ s.plain.varTypes C.prog) (ds ++ gs)).all (· ≤ reachBytes) = true → X W args → W.ShapedOpen C.prog →
      a.holds C.prog (lone (Frame.enter C.prog f args .normal) [] W) →
      Calls C.prog f args W fun e W' => ∃ v, e = .returned v ∧ s.post enc C.prog fn apart fresh handsOn again W args v W') :
    ReturnsInHanded a C os f .any (fun w args => (s.pre enc C.prog fn conds apart w args ∧ X w args) ∧ sizedMet enc C.prog fn (OpenSpec.ofChange s) apart w args) (s.post enc C.prog fn apart fresh handsOn again) := by
  refine returnsInHanded_of_calls own started noInit witness ?_
  intro w tape i _ hsh _ hok hpre hholds
  obtain ⟨_, _, _, fn', hfn', _, _, _, _, hval⟩ := hok
  obtain rfl : fn' = fn := Option.some.inj (hfn'.symm.trans hfn)
  obtain ⟨⟨⟨ds, gs, before, hw, hc⟩, hx⟩, hz⟩ := hpre
  have hw' := DataW.Whole.of_heap (w' := w.forCall tape i) (by rfl) hw
  refine (contract (w.forCall tape i) w.heap.size i.args ds gs before hval hw' hc (hz.weights hw) (hX _ _ _ (by rfl) hx) hsh hholds).mono fun e W' ⟨v, he, hp⟩ => ?_
  subst he
  exact ChangeSpec.post_blind hp
end

/-! A function of no argument that is reckoned to be true. -/
def trueO0 (args : List Value) (_ : Hp) : Option Value :=
  match args with
  | [] => some (.bool true)
  | _ => none

def trueO : OrcF := flatO trueO0
theorem trueO_is {P : Program} {ex : List (FuncId × ExtK)} {me : List (TypeId × String × FuncId)} {gv : List (Nat × Tr Value)} {orc : List (FuncId × OrcF)} {as : List (Value × Bool)} {U : Nat → List Value → Option Value} {f : FuncId}
    (hent : ∀ (l : Array Value) (w : World), (callFunc f l).run P w = .ok (.enter f l) w) (hx : ExtOk P (cxOf P ex me gv orc)) (hmix : P.follows .mixedOrders = true) {n d N : Nat}
    (h : tells true (evFn (cxOf P ex me gv orc) n d (.fn f) [] ⟨.nil, N, N⟩) = true) : OrcIs P (cxOf P ex me gv [] as U) f trueO := by
  refine OrvIs.orc ⟨hent, fun args hp v hv m args' w gw _ hargs => ?_⟩
  unfold trueO0 at hv
  split at hv
  · injection hv with hv
    subst hv
    obtain ⟨h1, -⟩ := hargs
    obtain rfl : args' = [] := List.length_eq_zero_iff.1 h1.symm
    exact toldG hx hmix h w (fun g t hg => (gw.1 g t hg).1)
  · cases hv
end Go.Proofs.YtejnaedignfmoaaGreatDoor.Ev
