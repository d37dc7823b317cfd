import Derived.Test.YtaepplhgeeaidaaDoorEvZ
import Derived.ProofKit
import Derived.OpenShut
import Derived.LaidMore
import Derived.MakeChecks
import Derived.Lib.Index
import Derived.Lib.Bytealg
import Derived.HandedShaped
import Derived.Shelf.Vars
section
set_option linter.unusedVariables false
set_option linter.unusedSimpArgs false
namespace Go.Proofs.YtaepplhgeeaidaaDoor.Ev
open Go Go.RowKit
theorem laid_var {P : Program} {w : World} : ∀ {l : List (String × DataW Unit)} {ps : List MemPlace}, DataW.LaidVars P w l ps → ∀ {nm : String} {d : DataW Unit}, (nm, d) ∈ l →
    ∃ g t cs fuel p, P.globalNamed nm = some g ∧ (P.globals[g]?).map (·.type) = some t ∧ w.var? P nm = some cs ∧ DataW.trod (fun _ => ()) P w 0 (fun _ => true) false fuel t cs.toList = some (d, p) := by
  intro l
  induction l with
  | nil => intro ps _ nm d h; cases h
  | cons x l ih =>
    intro ps h nm d hm
    obtain ⟨n, d0⟩ := x
    obtain ⟨g, t, cs, fuel, p, q, h1, h2, h3, h4, h5, h6⟩ := h
    rcases List.mem_cons.1 hm with he | hm
    · injection he with e1 e2
      subst e1 e2
      exact ⟨g, t, cs, fuel, p, h1, h2, h3, h4⟩
    · exact ih h5 hm
def flatEach (go : TypeId → DataW Unit → List (Nat × Value)) : List (Nat × TypeId) → List (DataW Unit) → List (Nat × Value)
  | (o, t) :: r, d :: ds => (go t d).map (fun x => (o + x.1, x.2)) ++ flatEach go r ds
  | _, _ => []
def flatW (P : Program) : Nat → TypeId → DataW Unit → List (Nat × Value)
  | 0, _, _ => []
  | n + 1, t, d => match P.underlying t, d with
    | some .bool, .lit (.bool b) => [(0, .bool b)]
    | some (.int k), .lit (.int _ z) => [(0, .int k z)]
    | some .string, .lit (.string s) => [(0, .string ⟨⟨s⟩⟩)]
    | some (.struct fs), .agg ps => flatEach (flatW P n) (fs.toList.map fun f => (f.offset, f.type)) ps
    | some (.array m e), .agg ps => flatEach (flatW P n) ((List.range m).map fun i => (i * P.cellsOf e, e)) ps
    | _, _ => []
theorem flatEach_mem {go : TypeId → DataW Unit → List (Nat × Value)} : ∀ {l : List (Nat × TypeId)} {ds : List (DataW Unit)} {i : Nat} {v : Value}, (i, v) ∈ flatEach go l ds →
    ∃ (k o : Nat) (t : TypeId) (d : DataW Unit) (j : Nat), l[k]? = some (o, t) ∧ ds[k]? = some d ∧ (j, v) ∈ go t d ∧ i = o + j
  | [], _, i, v, h => by simp [flatEach] at h
  | (o, t) :: r, [], i, v, h => by simp [flatEach] at h
  | (o, t) :: r, d :: ds, i, v, h => by
    unfold flatEach at h
    rcases List.mem_append.1 h with h | h
    · obtain ⟨⟨j, u⟩, hj, he⟩ := List.mem_map.1 h
      injection he with e1 e2
      subst e1 e2
      exact ⟨0, o, t, d, j, rfl, rfl, hj, rfl⟩
    · obtain ⟨k, o', t', d', j, h1, h2, h3, h4⟩ := flatEach_mem h
      exact ⟨k + 1, o', t', d', j, h1, h2, h3, h4⟩
theorem get_part {cs : List Value} {o c j : Nat} {v : Value} (h : ((cs.drop o).take c)[j]? = some v) : cs[o + j]? = some v := by
  rw [List.getElem?_take] at h
  split at h
  · rwa [List.getElem?_drop] at h
  · cases h
theorem flatW_mem {P : Program} {w : World} {enc : TypeId × Value → Unit} {base : Nat} {spare : Nat → Bool} {held : Bool} : ∀ (n : Nat) {fuel : Nat} {t : TypeId} {cs : List Value} {d : DataW Unit} {p : List MemPlace},
    DataW.trod enc P w base spare held fuel t cs = some (d, p) → ∀ {i : Nat} {v : Value}, (i, v) ∈ flatW P n t d → cs[i]? = some v := by
  intro n
  induction n with
  | zero => intro fuel t cs d p h i v hm; cases hm
  | succ n ih =>
    intro fuel t cs d p h i v hm
    unfold flatW at hm
    split at hm
    · rename_i b ht
      obtain ⟨b', rfl, hx⟩ := DataW.trod_bool ht h
      injection hx with hx
      injection hx with hx
      injection hx with hx
      subst hx
      rw [List.mem_singleton] at hm
      injection hm with e1 e2
      subst e1 e2
      rfl
    · rename_i k k' z ht
      obtain ⟨z', rfl, hx, -⟩ := DataW.trod_int ht h
      injection hx with hx
      injection hx with hx
      injection hx with hx1 hx
      subst hx
      rw [List.mem_singleton] at hm
      injection hm with e1 e2
      subst e1 e2
      rfl
    · rename_i s ht
      obtain ⟨s', rfl, hx, -⟩ := DataW.trod_string ht h
      injection hx with hx
      injection hx with hx
      injection hx with hx
      subst hx
      rw [List.mem_singleton] at hm
      injection hm with e1 e2
      subst e1 e2
      rfl
    · rename_i fs ps ht
      obtain ⟨xs, m, -, hx, -, hn, hall⟩ := DataW.trod_struct ht h
      injection hx with hx
      injection hx with hx
      subst hx
      obtain ⟨k, o, te, de, j, h1, h2, h3, rfl⟩ := flatEach_mem hm
      rw [List.getElem?_map] at h1 h2
      obtain ⟨f, hf, hf2⟩ := Option.map_eq_some_iff.1 h1
      obtain ⟨x, hx, hx2⟩ := Option.map_eq_some_iff.1 h2
      injection hf2 with e1 e2
      subst e1 e2 hx2
      have := hall k f (by simpa using hf)
      rw [hx] at this
      exact get_part (ih this h3)
    · rename_i mm e ps ht
      obtain ⟨xs, m, -, hx, -, hn, hall⟩ := DataW.trod_array ht h
      injection hx with hx
      injection hx with hx
      subst hx
      obtain ⟨k, o, te, de, j, h1, h2, h3, rfl⟩ := flatEach_mem hm
      rw [List.getElem?_map] at h1 h2
      obtain ⟨q, hq, hq2⟩ := Option.map_eq_some_iff.1 h1
      obtain ⟨x, hx, hx2⟩ := Option.map_eq_some_iff.1 h2
      injection hq2 with e1 e2
      have hk : k < mm := by
        have := (List.getElem?_eq_some_iff.1 hq).1
        simpa using this
      have hqk : q = k := by
        rw [List.getElem?_range hk] at hq
        exact (Option.some.inj hq).symm
      subst hqk e1 e2 hx2
      have := hall q hk
      rw [hx] at this
      exact get_part (ih this h3)
    · cases hm
noncomputable def Tr.putSome (l : List (Nat × Value)) : Tr Value := List.rec (motive := fun _ => Tr Value) .nil (fun x _ ih => ih.set x.1 x.2) l
theorem Tr.get_putSome : ∀ {l : List (Nat × Value)} {i : Nat} {v : Value}, (Tr.putSome l).get i = some v → (i, v) ∈ l
  | [], i, v, h => by rw [show Tr.putSome [] = Tr.nil from rfl, Tr.get_nil] at h; cases h
  | x :: l, i, v, h => by
    rw [show Tr.putSome (x :: l) = (Tr.putSome l).set x.1 x.2 from rfl, Tr.get_set] at h
    split at h
    · rename_i he
      injection h with h
      subst he h
      exact List.mem_cons_self
    · exact List.mem_cons_of_mem _ (Tr.get_putSome h)
theorem table_any {P : Program} {w : World} {l : List (String × DataW Unit)} (hl : laidMet P l w) {nm : String} {g n : Nat} {t : TypeId} {d : DataW Unit} {tab : List (Nat × Value)}
    (hm : (nm, d) ∈ l) (hg : P.globalNamed nm = some g) (hgt : (P.globals[g]?).map (·.type) = some t) (hf : flatW P n t d = tab) (hfl : tab.all (fun x => flat x.2) = true) :
    ∃ cs ty fr, w.heap[g]? = some (.cells cs ty fr) ∧ ∀ (i : Nat) (v : Value), (Tr.putSome tab).get i = some v → GC v cs[i]? := by
  subst hf
  obtain ⟨ps, hv, -, -⟩ := hl
  obtain ⟨g', t', cs, fuel, p, h1, h2, h3, h4⟩ := laid_var hv hm
  obtain rfl := Option.some.inj (hg.symm.trans h1)
  obtain rfl := Option.some.inj (hgt.symm.trans h2)
  unfold World.var? at h3
  rw [hg] at h3
  simp only [Option.bind_some] at h3
  split at h3
  · rename_i cs' ty fr hh
    injection h3 with h3
    subst h3
    refine ⟨cs', ty, fr, hh, fun i v hget => ?_⟩
    have hmem := Tr.get_putSome hget
    exact .inl ⟨List.all_eq_true.1 hfl _ hmem, by simpa using flatW_mem n h4 hmem⟩
  · cases h3
end Go.Proofs.YtaepplhgeeaidaaDoor.Ev
end
section
set_option linter.unusedVariables false
set_option linter.unusedSimpArgs false
namespace Go.Proofs.YtaepplhgeeaidaaDoor.Ev
open Go Go.RowKit
def u8Eq (a b : UInt8) : Bool := Nat.beq a.toNat b.toNat
theorem u8Eq_eq (a b : UInt8) : u8Eq a b = (a == b) := by
  unfold u8Eq
  by_cases h : a = b
  · subst h; simp
  · have h' : a.toNat ≠ b.toNat := fun e => h (UInt8.toNat_inj.1 e)
    have e1 : (a == b) = false := by simpa using h
    rw [e1]
    cases e : Nat.beq a.toNat b.toNat with
    | false => rfl
    | true => exact absurd (Nat.eq_of_beq_eq_true e) h'
noncomputable def headIs (p : List UInt8) : List UInt8 → Bool :=
  List.rec (motive := fun _ => List UInt8 → Bool) (fun _ => true) (fun x _ ih l => match l with
    | [] => false
    | y :: l => match u8Eq x y with
      | true => ih l
      | false => false) p
theorem headIs_eq : ∀ (p l : List UInt8), headIs p l = p.isPrefixOf l
  | [], l => by cases l <;> rfl
  | x :: p, [] => rfl
  | x :: p, y :: l => by
    show (match u8Eq x y with | true => headIs p l | false => false) = _
    rw [u8Eq_eq, List.isPrefixOf_cons_cons, headIs_eq p l]
    cases (x == y) <;> rfl
noncomputable def idxB (c : UInt8) (l : List UInt8) : Option Nat :=
  List.rec (motive := fun _ => Option Nat) none (fun b _ ih => match u8Eq b c with
    | true => some 0
    | false => match ih with
      | none => none
      | some n => some (Nat.succ n)) l
def ofIdx : Option Nat → Int
  | none => .negSucc 0
  | some n => .ofNat n
theorem idxB_eq (c : UInt8) : ∀ l : List UInt8, ofIdx (idxB c l) = Lib.indexByte l c
  | [] => rfl
  | b :: l => by
    have ih := idxB_eq c l
    show ofIdx (match u8Eq b c with | true => some 0 | false => match idxB c l with | none => none | some n => some (Nat.succ n)) = if b == c then 0 else if Lib.indexByte l c == -1 then -1 else Lib.indexByte l c + 1
    rw [u8Eq_eq, ← ih]
    cases hb : (b == c) with
    | true => rfl
    | false =>
      cases idxB c l with
      | none => rfl
      | some n =>
        simp [ofIdx]
        try (intro h; omega)
noncomputable def idxL (sub : List UInt8) (l : List UInt8) : Option Nat :=
  List.rec (motive := fun _ => Option Nat) (match sub with | [] => some 0 | _ :: _ => none) (fun b l ih => match headIs sub (b :: l) with
    | true => some 0
    | false => match ih with
      | none => none
      | some n => some (Nat.succ n)) l
theorem idxL_eq (sub : List UInt8) : ∀ l : List UInt8, ofIdx (idxL sub l) = Lib.index l sub
  | [] => by cases sub <;> rfl
  | b :: l => by
    have ih := idxL_eq sub l
    show ofIdx (match headIs sub (b :: l) with | true => some 0 | false => match idxL sub l with | none => none | some n => some (Nat.succ n)) = if sub.isPrefixOf (b :: l) then 0 else if Lib.index l sub == -1 then -1 else Lib.index l sub + 1
    rw [headIs_eq, ← ih]
    cases hb : (sub.isPrefixOf (b :: l)) with
    | true => rfl
    | false =>
      cases idxL sub l with
      | none => rfl
      | some n =>
        simp [ofIdx]
        try (intro h; omega)
noncomputable def byteO0 (args : List Value) (_ : Hp) : Option Value :=
  match args with
  | [.string s, .int .u8 (.ofNat c)] => some (.int .i64 (ofIdx (idxB c.toUInt8 s.data.toList)))
  | _ => none
noncomputable def textO0 (args : List Value) (_ : Hp) : Option Value :=
  match args with
  | [.string s, .string t] => match Nat.blt s.size 4294967281 with
    | true => some (.int .i64 (ofIdx (idxL t.data.toList s.data.toList)))
    | false => none
  | _ => none
noncomputable def byteO : OrcF := flatO byteO0
noncomputable def textO : OrcF := flatO textO0
theorem byteO_is {P : Program} {cx : Cx} {f : FuncId} (he : ∀ (l : Array Value) (w : World), (callFunc f l).run P w = .ok (.enter f l) w)
    (hc : ∀ (s : ByteArray) (c : Int) (w : World), Calls P f #[.string s, .int .u8 c] w fun e w' => e = .returned (.int .i64 (Lib.indexByte s.data.toList c.toNat.toUInt8)) ∧ w' = w) : OrcIs P cx f byteO := by
  refine OrvIs.orc ⟨he, fun args hp v h m args' w gw inv ha => ?_⟩
  unfold byteO0 at h
  split at h
  case h_2 => cases h
  rename_i s c
  injection h with h
  subst h
  obtain ⟨x1, t1, rfl, h1, h2⟩ := ha.head
  obtain ⟨x2, t2, rfl, h3, h4⟩ := h2.head
  obtain rfl := h4.nil_left
  obtain rfl := h1.flat_iff rfl
  obtain rfl := h3.flat_iff rfl
  refine (hc s (.ofNat c) w).mono ?_
  rintro e w' ⟨rfl, rfl⟩
  rw [idxB_eq]
  exact ⟨rfl, Below.refl _ _⟩
theorem textO_is {P : Program} {cx : Cx} {f : FuncId} {g : Nat} {t : Tr Value} (he : ∀ (l : Array Value) (w : World), (callFunc f l).run P w = .ok (.enter f l) w)
    (hg : (g, t) ∈ cx.gv) (ht : t.get 0 = some (.tuple ⟨[]⟩))
    (hc : ∀ (s sub : ByteArray) (m : Int) (w : World), s.size < 4294967281 → w.cell? ⟨g, 0, none⟩ = some (.int .i64 m) → Calls P f #[.string s, .string sub] w fun e w' => e = .returned (.int .i64 (Lib.index s.data.toList sub.data.toList)) ∧ w' = w) : OrcIs P cx f textO := by
  refine OrvIs.orc ⟨he, fun args hp v h m args' w gw inv ha => ?_⟩
  unfold textO0 at h
  split at h
  case h_2 => cases h
  rename_i s sub
  split at h
  case h_2 => cases h
  rename_i hs
  have hs : s.size < 4294967281 := Nat.lt_of_lt_of_le (Nat.lt_succ_self _) (Nat.le_of_ble_eq_true hs)
  injection h with h
  subst h
  obtain ⟨x1, t1, rfl, h1, h2⟩ := ha.head
  obtain ⟨x2, t2, rfl, h3, h4⟩ := h2.head
  obtain rfl := h4.nil_left
  obtain rfl := h1.flat_iff rfl
  obtain rfl := h3.flat_iff rfl
  obtain ⟨⟨cs, ty, fr, k1, k2⟩, -⟩ := gw.at_ g t hg
  have hcell : ∃ z, w.cell? ⟨g, 0, none⟩ = some (.int .i64 z) := by
    rcases k2 0 _ ht with ⟨hf, -⟩ | ⟨-, z, hz⟩
    · cases hf
    · exact ⟨z, by rw [cell_of k1]; exact hz⟩
  obtain ⟨z, hz⟩ := hcell
  refine (hc s sub z w hs hz).mono ?_
  rintro e w' ⟨rfl, rfl⟩
  rw [idxL_eq]
  exact ⟨rfl, Below.refl _ _⟩
theorem enter_of {P : Program} {f : FuncId} {fn : Func} (hfn : P.funcs[f]? = some fn) (hb : fn.body.isSome = true) (hn : (fn.name == "runtime.NumGoroutine") = false) : ∀ (l : Array Value) (w : World), (callFunc f l).run P w = .ok (.enter f l) w := fun l w => by
  have hn' : ¬ fn.name = "runtime.NumGoroutine" := by simpa using hn
  obtain ⟨c, hc⟩ := Option.isSome_iff_exists.1 hb
  simp [callFunc, hfn, hn', hc]
noncomputable def someInt : Tr Value := Tr.nil.set 0 (.tuple ⟨[]⟩)
theorem someInt_get : someInt.get 0 = some (.tuple ⟨[]⟩) := by unfold someInt; rw [Tr.get_set, if_pos rfl]
theorem someInt_of {w : World} {g : Nat} (h : ∃ z, w.cell? ⟨g, 0, none⟩ = some (.int .i64 z)) :
    ∃ cs ty fr, w.heap[g]? = some (.cells cs ty fr) ∧ ∀ (i : Nat) (v : Value), someInt.get i = some v → GC v cs[i]? := by
  obtain ⟨z, hz⟩ := h
  unfold World.cell? at hz
  split at hz
  case h_2 => cases hz
  rename_i cs ty fr hh
  refine ⟨cs, ty, fr, hh, fun i v hv => ?_⟩
  unfold someInt at hv
  rw [Tr.get_set] at hv
  split at hv
  · rename_i h0
    injection hv with hv
    subst h0
    subst hv
    exact .inr ⟨rfl, z, hz⟩
  · rw [Tr.get_nil] at hv
    cases hv
noncomputable def someIface : Tr Value := Tr.nil.set 0 (.tuple ⟨[.bool true]⟩)
theorem someIface_get : someIface.get 0 = some (.tuple ⟨[.bool true]⟩) := by unfold someIface; rw [Tr.get_set, if_pos rfl]
theorem someIface_of {w : World} {g : Nat} (h : ∃ x, w.cell? ⟨g, 0, none⟩ = some x ∧ (x = .nilIface ∨ ∃ te pe, x = .iface te pe)) :
    ∃ cs ty fr, w.heap[g]? = some (.cells cs ty fr) ∧ ∀ (i : Nat) (v : Value), someIface.get i = some v → GC v cs[i]? := by
  obtain ⟨z, hz, hx⟩ := h
  unfold World.cell? at hz
  split at hz
  case h_2 => cases hz
  rename_i cs ty fr hh
  refine ⟨cs, ty, fr, hh, fun i v hv => ?_⟩
  unfold someIface at hv
  rw [Tr.get_set] at hv
  split at hv
  · rename_i h0
    injection hv with hv
    subst h0
    subst hv
    exact .inr ⟨rfl, z, hz, hx⟩
  · rw [Tr.get_nil] at hv
    cases hv
section
variable {H : Type} {enc : TypeId × Value → H}
theorem handed_and_shaped {a : Assume} {C : Checked} {os : Os} {f : FuncId} {fn : Func} {s : ChangeSpec} {conds : List PathCond} {apart fresh handsOn again : Bool} {X : World → Array Value → Prop}
    (hX : ∀ (w w' : World) (args : Array Value), w.heap = w'.heap → X w args → X w' args)
    (own : ownKnob C.prog.godebug = none) (started : os.Started) (noInit : C.prog.inits.idxOf? f = none) (hfn : C.prog.funcs[f]? = some fn)
    (witness : ∃ (w : World) (tape : Tape) (i : Input), w.os = os ∧ (w.forCall tape i).Shaped C.prog ∧ i.vars = [] ∧ Input.okWide C.prog (w.forCall tape i) .any w.heap.size f i ∧
      ((s.pre enc C.prog fn conds apart (w.forCall tape i).memory i.args ∧ X (w.forCall tape i).memory i.args) ∧ sizedMet enc C.prog fn (OpenSpec.ofChange s) apart (w.forCall tape i).memory i.args) ∧ a.holds C.prog (lone (Frame.enter C.prog f i.args .normal) [] (w.forCall tape i)))
    (contract : ∀ (W : World) (base : Nat) (args : Array Value) (ds gs : List (DataW H)) (before : List MemPlace),
      (∀ (j : Nat) t v, fn.params[j]? = some t → args[j]? = some v → Value.okWide C.prog W .any base t v) →
      DataW.Whole enc C.prog fn.params.toList s.vars apart W args.toList ds gs before →
      conds.all (PathCond.test C.prog ⟨fn.params.toList, ds, s.plain.varTypes C.prog, gs⟩) = true →
      (DataW.weightsEach C.prog (fn.params.toList ++ s.plain.varTypes C.prog) (ds ++ gs)).all (· ≤ reachBytes) = true → X W args → W.ShapedOpen C.prog →
      a.holds C.prog (lone (Frame.enter C.prog f args .normal) [] W) →
      Calls C.prog f args W fun e W' => ∃ v, e = .returned v ∧ s.post enc C.prog fn apart fresh handsOn again W args v W') :
    ReturnsInHanded a C os f .any (fun w args => (s.pre enc C.prog fn conds apart w args ∧ X w args) ∧ sizedMet enc C.prog fn (OpenSpec.ofChange s) apart w args) (s.post enc C.prog fn apart fresh handsOn again) := by
  refine returnsInHanded_of_calls own started noInit witness ?_
  intro w tape i _ hsh _ hok hpre hholds
  obtain ⟨_, _, _, fn', hfn', _, _, _, _, hval⟩ := hok
  obtain rfl : fn' = fn := Option.some.inj (hfn'.symm.trans hfn)
  obtain ⟨⟨⟨ds, gs, before, hw, hc⟩, hx⟩, hz⟩ := hpre
  have hw' := DataW.Whole.of_heap (w' := w.forCall tape i) (by rfl) hw
  refine (contract (w.forCall tape i) w.heap.size i.args ds gs before hval hw' hc (hz.weights hw) (hX _ _ _ (by rfl) hx) hsh hholds).mono fun e W' ⟨v, he, hp⟩ => ?_
  subst he
  exact ChangeSpec.post_blind hp
end
end Go.Proofs.YtaepplhgeeaidaaDoor.Ev
end
section
set_option linter.unusedVariables false
set_option linter.unusedSimpArgs false
namespace Go.Proofs.YtaepplhgeeaidaaDoor.Ev
open Go Go.RowKit
def vcells : Value → List Value
  | .agg cs => cs.toList
  | v => [v]
def zeroCell (P : Program) (t : TypeId) : Value :=
  match P.underlying t with
  | some .bool => .bool false
  | some (.int k) => .int k 0
  | some (.float k) => .float k 0
  | some (.complex k) => .complex k 0 0
  | some .string => .string ⟨#[]⟩
  | some (.slice _) => .slice none 0 0
  | some (.map _ _) => .map none
  | some (.interface _) => .nilIface
  | some (.func ..) => .nilFunc
  | some (.chan ..) => .chan none
  | _ => .pointer none
def zeroVal (P : Program) (t : TypeId) : Value :=
  match P.underlying t with
  | some (.struct _) | some (.array _ _) => match P.cellTypes P.depth t with
    | none => .agg #[]
    | some ts => .agg ⟨(List.range (P.cellsOf t)).map fun i => match ts[i % ts.length]? with | some u => zeroCell P u | none => .nilIface⟩
  | _ => zeroCell P t
def zeroArgs (P : Program) (ts : List TypeId) : List Value := ts.map (zeroVal P)
end Go.Proofs.YtaepplhgeeaidaaDoor.Ev
end
