import Derived.Test.YtaepplhgeeaidaaDoorEvNb
import Derived.OrdersIn
import Derived.TacticsIn
import Derived.LoopNIn
import Derived.RangeFuncCalls
import Derived.DefersIn
set_option linter.unusedVariables false
set_option linter.unusedSimpArgs false
set_option linter.unusedSectionVars false
namespace Go.Proofs.YtaepplhgeeaidaaDoor.Ev
open Go Go.RowKit
structure TR (m : Emb) (tm : Tr Value) (a : Act) (sz : Nat) (ds : List Deferred) : Prop where
  size : a.tmps.size = sz
  defers : a.defers = ds
  val : ∀ t v, tm.get t = some v → RV m v (a.tmps.getD t undef)
theorem TR.mono {m m' : Emb} {tm : Tr Value} {a : Act} {sz : Nat} {ds : List Deferred} (h : TR m tm a sz ds) (hm : m.le m') : TR m' tm a sz ds := ⟨h.size, h.defers, fun t v hv => (h.val t v hv).mono hm⟩
theorem evX_ok {m : Emb} {tm : Tr Value} {a : Act} {sz : Nat} {ds : List Deferred} (tr : TR m tm a sz ds) {x : Operand} {v : Value} (h : evX tm x = some v) : RV m v (a.eval x) := by
  cases x with
  | tmp t => exact tr.val t v h
  | const c =>
    simp only [evX] at h
    split at h
    · rename_i hf
      injection h with h
      subst h
      unfold constOk at hf
      split at hf
      · rename_i cs
        refine .agg cs.toList cs.toList rfl (fun i hi => .flat _ (List.all_eq_true.1 hf _ ?_))
        rw [List.getD_eq_getElem?_getD, List.getElem?_eq_getElem hi]
        exact List.getElem_mem hi
      · exact .flat _ hf
    · cases h
  | global g =>
    simp only [evX] at h
    injection h with h
    subst h
    have hg := RV.glob (m := m) g 0 (Nat.zero_lt_succ _)
    rw [Nat.add_zero] at hg
    exact hg
  | func f =>
    simp only [evX] at h
    injection h with h
    subst h
    exact .func _ rfl [] [] [] [] rfl rfl (fun i hi => by simp at hi) (fun i hi => by simp at hi)
theorem evXs_ok {m : Emb} {tm : Tr Value} {a : Act} {sz : Nat} {ds : List Deferred} (tr : TR m tm a sz ds) : ∀ {l : List Operand} {vs : List Value}, evXs tm l = some vs → RVs m vs (l.map a.eval) := by
  intro l
  induction l with
  | nil => intro vs h; have h : some [] = some vs := h; injection h with h; subst h; exact .nil m
  | cons x l ih =>
    intro vs h
    have h : (match evX tm x with
      | none => none
      | some v => match evXs tm l with
        | none => none
        | some vs => some (v :: vs)) = some vs := h
    split at h
    · cases h
    · rename_i v hv
      split at h
      · cases h
      · rename_i vs2 hvs
        injection h with h
        subst h
        exact .cons (evX_ok tr hv) (ih hvs)
theorem evParts_ok {m : Emb} {tm : Tr Value} {a : Act} {sz : Nat} {ds : List Deferred} (tr : TR m tm a sz ds) : ∀ {l : List (Nat × Operand)} {ps : List (Nat × Value)}, evParts tm l = some ps → RVp m ps (l.map fun x => (x.1, a.eval x.2)) := by
  intro l
  induction l with
  | nil => intro vs h; have h : some [] = some vs := h; injection h with h; subst h; exact ⟨rfl, .nil m⟩
  | cons x l ih =>
    intro ps h
    have h : (match evX tm x.2 with
      | none => none
      | some v => match evParts tm l with
        | none => none
        | some vs => some ((x.1, v) :: vs)) = some ps := h
    split at h
    · cases h
    · rename_i v hv
      split at h
      · cases h
      · rename_i vs2 hvs
        injection h with h
        subst h
        obtain ⟨h1, h2⟩ := ih hvs
        exact ⟨by simp only [List.map_cons, h1], .cons (evX_ok tr hv) h2⟩
theorem opt_ok {m : Emb} {tm : Tr Value} {a : Act} {sz : Nat} {ds : List Deferred} (tr : TR m tm a sz ds) {x : Option Operand} {v : Option Value} (h : opt tm x = some v) : RO m v (x.map a.eval) := by
  cases x with
  | none => simp only [opt] at h; injection h with h; subst h; exact .inl ⟨rfl, rfl⟩
  | some x =>
    simp only [opt] at h
    split at h
    · rename_i u hu
      injection h with h
      subst h
      exact .inr ⟨u, _, rfl, rfl, evX_ok tr hu⟩
    · cases h
def Fw (r : Option Nat) : Fence := { Fence.wide with round := r }
theorem Fw_calls {r : Option Nat} {n : Nat} {P : Program} {f : FuncId} {args : Array Value} {w : World} {R : Ending → World → Prop} (h : Calls P f args w R) : CallsIn (Fw r) n P f args w R := by
  have h := callsIn_wide (n := n).2 h
  cases r with
  | none => exact h
  | some l => exact h.inRound l
inductive MS (m : Emb) : Option Value → FrameMode → Prop
  | ret : MS m none .returning
  | done (v' : Value) : MS m none (.panicking [{ v := v', recovered := true }])
  | pan (v v' : Value) (h : RV m v v') : MS m (some v) (.panicking [{ v := v', recovered := false }])
def Fin (m : Emb) (hp : Hp) (w : World) (l : List (Res × Hp)) (e : Ending) (w' : World) : Prop :=
  ∃ r hp', (r, hp') ∈ l ∧ ∃ m', Step m hp w m' hp' w' ∧ ((∃ v v', r = .ret v ∧ e = .returned v' ∧ RV m' v v') ∨ (∃ v v', r = .pan v ∧ e = .panicked [{ v := v', recovered := false }] ∧ RV m' v v'))
def FinD (m : Emb) (hp : Hp) (w : World) (l : List (Res × Hp)) (e : Ending) (u' : FrameMode) (w' : World) : Prop :=
  ∃ pan hp', (Res.went pan, hp') ∈ l ∧ ∃ m' v', Step m hp w m' hp' w' ∧ e = .returned v' ∧ MS m' pan u'
def Called (P : Program) (m : Emb) (hp : Hp) (args' : List Value) (w : World) (l : List (Res × Hp)) : Cal → Prop
  | .fn f => (∀ (l : Array Value) (w : World), (callFunc f l).run P w = .ok (.enter f l) w) ∧ Calls P f ⟨args'⟩ w (Fin m hp w l)
  | .yield b => ∀ e, m b = some e → ∃ fn tmps assign body, (Instr.yield e.c ⟨args'⟩).run P w = .ok (.round e.c fn tmps assign body) w ∧ ∀ r, RoundIn (Fw r) 0 P e.c fn tmps assign body w (Fin m hp w l)
  | .dfr f pan => (∀ (l : Array Value) (w : World), (callFunc f l).run P w = .ok (.enter f l) w) ∧ ∀ u, MS m pan u → CallsDIn Fence.wide 0 P f ⟨args'⟩ u w (FinD m hp w l)
def CallOk (P : Program) (cx : Cx) (call : CallF) : Prop := ∀ c args hp l, call c args hp = some l → ∀ (m : Emb) (args' : List Value) (w : World), GW cx m w → Inv m hp w.heap → RVs m args args' → (∀ r, r ∈ l → Fresh m hp.nx r.2.nx) →
  Called P m hp args' w l c
def OrcIs (P : Program) (cx : Cx) (f : FuncId) (o : OrcF) : Prop :=
  (∀ (l : Array Value) (w : World), (callFunc f l).run P w = .ok (.enter f l) w) ∧
  (∀ args hp l, o args hp = some l → ∀ r, r ∈ l → Grow hp r.2) ∧
  ∀ args hp l, o args hp = some l → ∀ (m : Emb) (args' : List Value) (w : World), GW cx m w → Inv m hp w.heap → RVs m args args' → (∀ r, r ∈ l → Fresh m hp.nx r.2.nx) →
    Calls P f ⟨args'⟩ w (Fin m hp w l)
def OrvIs (P : Program) (cx : Cx) (f : FuncId) (o : List Value → Hp → Option Value) : Prop :=
  (∀ (l : Array Value) (w : World), (callFunc f l).run P w = .ok (.enter f l) w) ∧
  ∀ args hp v, o args hp = some v → ∀ (m : Emb) (args' : List Value) (w : World), GW cx m w → Inv m hp w.heap → RVs m args args' →
    Calls P f ⟨args'⟩ w (fun e w' => e = .returned v ∧ Below w.heap.size w w')
theorem flatO_some {o : List Value → Hp → Option Value} {args : List Value} {hp : Hp} {l : List (Res × Hp)} (h : flatO o args hp = some l) : ∃ v, o args hp = some v ∧ flat v = true ∧ l = [(.ret v, hp)] := by
  unfold flatO at h
  split at h
  · rename_i v hv
    split at h
    · rename_i hf
      injection h with h
      exact ⟨v, hv, hf, h.symm⟩
    · cases h
  · cases h
theorem OrvIs.orc {P : Program} {cx : Cx} {f : FuncId} {o : List Value → Hp → Option Value} (h : OrvIs P cx f o) : OrcIs P cx f (flatO o) := by
  refine ⟨h.1, fun args hp l hl r hr => ?_, fun args hp l hl m args' w gw inv hargs _ => ?_⟩
  · obtain ⟨v, -, -, rfl⟩ := flatO_some hl
    rw [List.mem_singleton.1 hr]
    exact ⟨Nat.le_refl _, Nat.le_refl _, fun _ _ _ => rfl, id⟩
  · obtain ⟨v, hv, hf, rfl⟩ := flatO_some hl
    exact (h.2 args hp v hv m args' w gw inv hargs).mono fun e w' ⟨he, hb⟩ => ⟨.ret v, hp, List.mem_singleton.2 rfl, m, Step.below inv hb, .inl ⟨v, v, rfl, he, .flat v hf⟩⟩
structure ExtOk (P : Program) (cx : Cx) : Prop where
  orc : ∀ f o, cx.o f = some o → OrcIs P cx f o
  ex : ∀ f k, cx.x f = some k → ∀ (l : Array Value) (w : World), (callFunc f l).run P w = ((do pure (.value (← extS k l))) : Sem Next).run P w
  me : ∀ t nm f, cx.m t nm = some f → ∀ (v : Value) (w : World), (method (P.types.size + Made.depth) t v nm).run P w = .ok (f, v) w
theorem assertA_ok {P : Program} {cx : Cx} (ok : CxOk P cx) {m : Emb} {w : World} {x x' v : Value} {t xt : TypeId} {b : Bool} (hx : RV m x x') (h : assertA cx x t b = some v) : Reads P m w (Instr.typeAssert x' xt t b) v := by
  unfold assertA at h
  split at h
  · cases h
  · rename_i ti hti
    have hti := ok.ty _ _ hti
    have hz : RV m ti.zero ti.zero := by obtain ⟨i, -, -, -, -, -, -, hz⟩ := ti_parts hti; exact zero_rv hz
    split at h
    · cases h
    · rename_i hni
      have hni : ∀ q, ti.desc ≠ .interface q := fun q hq => by rw [hq] at hni; cases hni
      split at h
      · obtain rfl := hx.flat_iff rfl
        split at h
        · injection h with h
          subst h
          refine ⟨.tuple ⟨[ti.zero, .bool false]⟩, ?_, ?_⟩
          · simp only [Instr.typeAssert, Sem.run_bind, run_under hti, Result.andThen_ok]
            cases hd : ti.desc <;> first
              | exact absurd hd (hni _)
              | simp [run_zero hti, Sem.run_bind]
          · have := RVs.cons hz (RVs.cons (.flat (.bool false) rfl) (RVs.nil m)); exact .tuple _ _ this.1 this.2
        · cases h
      · rename_i u y
        obtain ⟨y', rfl, hy⟩ := hx.iface_iff
        split at h
        · rename_i hb
          obtain rfl := Nat.eq_of_beq_eq_true hb
          split at h
          · injection h with h
            subst h
            refine ⟨.tuple ⟨[y', .bool true]⟩, ?_, ?_⟩
            · simp only [Instr.typeAssert, Sem.run_bind, run_under hti, Result.andThen_ok]
              cases hd : ti.desc <;> first
                | exact absurd hd (hni _)
                | simp
            · have := RVs.cons hy (RVs.cons (.flat (.bool true) rfl) (RVs.nil m)); exact .tuple _ _ this.1 this.2
          · injection h with h
            subst h
            refine ⟨y', ?_, hy⟩
            simp only [Instr.typeAssert, Sem.run_bind, run_under hti, Result.andThen_ok]
            cases hd : ti.desc <;> first
              | exact absurd hd (hni _)
              | simp
        · rename_i hb
          have hne : u ≠ t := fun e => by subst e; simp at hb
          split at h
          · injection h with h
            subst h
            refine ⟨.tuple ⟨[ti.zero, .bool false]⟩, ?_, ?_⟩
            · simp only [Instr.typeAssert, Sem.run_bind, run_under hti, Result.andThen_ok]
              cases hd : ti.desc <;> first
                | exact absurd hd (hni _)
                | simp [hne, run_zero hti, Sem.run_bind]
            · have := RVs.cons hz (RVs.cons (.flat (.bool false) rfl) (RVs.nil m)); exact .tuple _ _ this.1 this.2
          · cases h
      · cases h
section
variable {r0 : Option Nat} {P : Program} {m : Emb} {hp hp' : Hp} {w : World} {o : Oper} (hnd : ∀ c, o.op ≠ .defer c) {a : Act} {v : Value} {next : Act → World → Prop} {Q : Exit → Act → World → Prop}
include hnd
theorem wp_val {s : Sem Value} (he : execOp a.eval o = (do pure (.value (← s)))) (h : Turns P m hp w s v hp')
    (hn : ∀ m' w' v', Step m hp w m' hp' w' → RV m' v v' → next (a.put o.dst v') w') : o.wpIn (Fw r0) 0 P a w next Q := by
  obtain ⟨m', v', w', h1, h2, h3⟩ := h
  refine ⟨fun _ _ => trivial, ?_⟩
  rw [Oper.semAt_eq _ _ _ hnd, he, run_then h1]
  exact hn m' w' v' h2 h3
theorem wp_next {r : Next} {w1 : World} (he : (execOp a.eval o).run P w = .ok r w1) (hr : (∃ v', r = .value v' ∧ next (a.put o.dst v') w1) ∨ (r = .skip ∧ next (a.put o.dst undef) w1)) : o.wpIn (Fw r0) 0 P a w next Q := by
  refine ⟨fun _ _ => trivial, ?_⟩
  rw [Oper.semAt_eq _ _ _ hnd, he]
  rcases hr with ⟨v', rfl, h⟩ | ⟨rfl, h⟩ <;> exact h
end
theorem keep_parts {hp : Hp} {x : Option Value} {v : Value} {hp' : Hp} (h : keep hp x = some (v, hp')) : x = some v ∧ hp' = hp := by
  unfold keep at h
  split at h
  · injection h with h
    injection h with h1 h2
    exact ⟨by rw [h1], h2.symm⟩
  · cases h
theorem lift_parts {r : Val} {l : List (Res × Hp)} (h : lift r = some l) : ∃ v hp', r = some (v, hp') ∧ l = [(.ret v, hp')] := by
  unfold lift at h
  split at h
  · rename_i v hp'
    injection h with h
    exact ⟨v, hp', rfl, h.symm⟩
  · cases h
theorem nilAhead_run {P : Program} {m : Emb} {w : World} {t : TypeId} {v v' : Value} {nm : String} (h : nilMeth P t v nm = true) (hv : RV m v v') : (nilAhead (P.types.size + Made.depth) t v' nm).run P w = .ok (some false) w := by
  unfold nilMeth at h
  split at h
  case h_2 => cases h
  rename_i i d hi hd
  split at h
  case h_2 => cases h
  rename_i q hq
  have hk : P.types.size + Made.depth = (P.types.size + (Made.depth - 1)) + 1 := rfl
  have hq : i.methods.find? (fun q => q.name == nm) = some q := by rw [← Array.find?_toList]; exact hq
  rw [hk]
  split at h
  · rename_i hp hf
    have hp : q.path = #[] := by rw [← Array.toList_inj]; exact hp
    simp [nilAhead, typeInfo, hi, hq, hp, hf, followBlind, Sem.run_bind]
  · rename_i hp hf
    have hp : q.path = #[] := by rw [← Array.toList_inj]; exact hp
    split at h
    · rename_i a hpt
      obtain ⟨a', rfl, -⟩ := hv.ptr_iff
      cases d <;> first | (cases hpt; done) | skip
      simp [nilAhead, typeInfo, hi, hq, hp, hf, followBlind, underlying, hd, Sem.run_bind]
    · cases h
    · rename_i hpt
      cases d <;> first | (cases hpt; done) | skip
      all_goals simp [nilAhead, typeInfo, hi, hq, hp, hf, followBlind, underlying, hd, Sem.run_bind]
  · cases h
theorem wrapNil_run {P : Program} {w : World} {ts : Array TypeId} {ty : TypeId} {a : Addr} {x y : String} : (Builtin.ssaWrapNilChk_ ts ty #[.pointer (some a), strVal x, strVal y]).run P w = .ok (.pointer (some a)) w := rfl
theorem deref_run {P : Program} {w : World} {t e : TypeId} {nm : String} {f : FuncId} {a : Addr} {u : Value} (h : methDeref P t nm = some (f, e)) (hu : (loadVar e a).run P w = .ok u w) :
    (method (P.types.size + Made.depth) t (.pointer (some a)) nm).run P w = .ok (f, u) w := by
  unfold methDeref at h
  split at h
  · cases h
  rename_i i hi
  split at h
  case h_2 => cases h
  rename_i e' hd
  split at h
  · cases h
  rename_i q hq
  split at h
  case h_2 => cases h
  rename_i f' hp hf
  injection h with h
  injection h with h1 h2
  subst h1 h2
  have hp : q.path = #[] := by rw [← Array.toList_inj]; exact hp
  have hq : i.methods.find? (fun q => q.name == nm) = some q := by rw [← Array.find?_toList]; exact hq
  have hk : P.types.size + Made.depth = (P.types.size + (Made.depth - 1)) + 1 := rfl
  rw [hk]
  simp [method, typeInfo, hi, hq, hp, hf, follow, receiverAt, underlying, hd, Place.get, wrapNil_run, asAddr, Sem.run_bind, hu]
theorem clone_run {P : Program} {w : World} {t : TypeId} {r : Nat} {es : Array MapEntry} {c : Nat} (h : w.heap[r]? = some (.map es c)) :
    (Extern.MapsClone.clone ⟨[.iface t (.map (some r))]⟩).run P w = .ok (.iface t (.map (some w.heap.size))) { w with heap := w.heap.push (.map es c) } := by
  have e : Extern.MapsClone.clone ⟨[.iface t (.map (some r))]⟩ = (do
      let o ← getObj r
      match o with
      | .map entries clock => do
        let n ← newObj (.map entries clock)
        pure (.iface t (.map (some n)))
      | _ => stuck "maps.clone: a map expected") := rfl
  rw [e, Sem.run_bind, getObj_run h]
  show ((do
        let n ← newObj (.map es c)
        pure (.iface t (.map (some n)))) : Sem Value).run P w = _
  rw [Sem.run_bind, newObj_run]
  rfl
theorem plainRow_ok {m : Emb} {hp : Hp} {w : World} (inv : Inv m hp w.heap) {b : Nat} {e : Ent} (he : m b = some e) (h : plainRow hp b = true) : e.live = true ∧ ∃ cs ty, w.heap[e.c]? = some (.cells cs ty (0, 0)) := by
  unfold plainRow at h
  split at h
  · rename_i t n ty op str hob
    obtain ⟨hl, -, cs, fr, h1, -, -, -, h2⟩ := inv.obj b e _ he hob (by simp)
    obtain ⟨s, rfl, hs⟩ := h2
    have : s = false := by
      cases s with
      | false => rfl
      | true => rw [hs rfl] at h; cases h
    subst this
    exact ⟨hl, cs, ty, h1⟩
  · cases h
theorem overlaps_run {P : Program} {w : World} {t e : TypeId} {n : Nat} {a b : Addr} {la ca lb cb : Nat} {cs cs' : Array Value} {ty ty' : TypeId} (ht : (underlying t).run P w = .ok (.slice e) w) (hs : (sizeOf e).run P w = .ok n w) (hne : a.block ≠ b.block)
    (h1 : w.heap[a.block]? = some (.cells cs ty (0, 0))) (h2 : w.heap[b.block]? = some (.cells cs' ty' (0, 0))) : (Extern.SlicesOverlaps.overlaps #[t, t] #[] #[.slice (some a) la ca, .slice (some b) lb cb]).run P w = .ok (.bool false) w := by
  have hsh : ∀ (x : Addr) (c : Array Value) (u : TypeId), w.heap[x.block]? = some (.cells c u (0, 0)) → w.shape? x.block = some (u, c.size) := fun x c u hx => by simp [World.shape?, hx]
  have hfz : ∀ (x : Addr) (c : Array Value) (u : TypeId), w.heap[x.block]? = some (.cells c u (0, 0)) → w.frozen? x = false := fun x c u hx => by simp [World.frozen?, hx]
  have hst : ∀ (x : Addr) (c : Array Value) (u : TypeId), w.heap[x.block]? = some (.cells c u (0, 0)) → (stringish x).run P w = .ok false w := fun x c u hx => by
    have hx2 : w.frozen? ({ block := x.block, off := c.size } : Addr) = false := hfz ({ block := x.block, off := c.size } : Addr) c u hx
    simp [stringish, Sem.run_bind, hsh x c u hx, hfz x c u hx, hx2]
  have hv : ∀ (x : Addr) (c : Array Value) (u : TypeId), w.heap[x.block]? = some (.cells c u (0, 0)) → (noView x).run P w = .ok () w := fun x c u hx => by
    simp [noView, viewAt, Sem.run_bind, hsh x c u hx]
  have hm : (mayBeOne a b).run P w = .ok false w := by
    simp [mayBeOne, Sem.run_bind, hst a _ _ h1, hst b _ _ h2]
  have hb : (a.block == b.block) = false := by simpa using hne
  have e : Extern.SlicesOverlaps.overlaps #[t, t] #[] #[.slice (some a) la ca, .slice (some b) lb cb] = (do
      let .slice elem ← underlying t | stuck "slices.overlaps: slice type expected"
      let size ← sizeOf elem
      if la = 0 ∨ lb = 0 ∨ size = 0 then pure (.bool false)
      else if a.block != b.block && (← frozen a) && (← frozen b) then unsupported .addressObserved
      else do
        if a.block != b.block then do
          noView a; noView b
          if ← mayBeOne a b then return .bool ((← choose (.extern "sameAddr.stringBytes" 2)) == 1)
        pure (.bool (a.block == b.block && a.off < b.off + lb * size && b.off < a.off + la * size))) := rfl
  rw [e]
  by_cases hz : la = 0 ∨ lb = 0 ∨ n = 0
  · simp [Sem.run_bind, ht, hs, hz]
  · simp [Sem.run_bind, ht, hs, hz, hb, hne, hfz a _ _ h1, hfz b _ _ h2, hv a _ _ h1, hv b _ _ h2, hm]
theorem extH_ok {P : Program} {cx : Cx} (ok : CxOk P cx) {m : Emb} {hp hp' : Hp} {w : World} (inv : Inv m hp w.heap) {k : ExtK} {args args' : List Value} {v : Value} (hf : Fresh m hp.nx hp'.nx) (ha : RVs m args args') (h : extH cx hp k args = some (v, hp')) : Turns P m hp w (extS k ⟨args'⟩) v hp' := by
  have plain : ∀ j, (match extA j args with | some v => some (v, hp) | none => none) = some (v, hp') → Turns P m hp w (extS j ⟨args'⟩) v hp' := fun j hj => by
    split at hj
    · rename_i v0 h0
      injection hj with hj
      injection hj with e1 e2
      subst e1 e2
      exact (extA_ok ha h0).turns inv
    · cases hj
  unfold extH at h
  split at h
  · split at h
    · rename_i t b
      obtain ⟨x1, t1, rfl, h1, h2⟩ := ha.head
      obtain rfl := h2.nil_left
      obtain ⟨y, rfl, hy⟩ := h1.iface_iff
      split at h
      · rename_i es c hob
        injection h with h
        injection h with e1 e2
        subst e1 e2
        obtain ⟨e, es', he, rfl, hob', hheap, hes⟩ := mapOb_ok (hp := hp) (w := w) inv hy (b := b) (es := es) (c := c) (by unfold mapOb; simp only [hob])
        have hfr : m hp.nx = none := hf hp.nx (Nat.le_refl _) (Nat.lt_succ_self _)
        have hle : m.le (m.put hp.nx ⟨w.heap.size, 0, none, true⟩) := Emb.le_put _ hfr
        exact ⟨_, _, _, show (Extern.MapsClone.clone ⟨[.iface t (.map (some e.c))]⟩).run P w = _ from clone_run (P := P) hheap, step_newob inv hfr ⟨rfl, es', getD_push_size, hes⟩, .iface _ _ _ (.map _ _ ⟨_, Emb.put_same _ _ _, rfl⟩)⟩
      · cases h
    · cases h
  · split at h
    · rename_i t q ti hti
      split at h
      · rename_i e hde
        split at h
        · rename_i te a la ca b lb cb hte
          split at h
          · rename_i hne hpl
            injection h with h
            injection h with e1 e2
            subst e1 e2
            rw [Bool.and_eq_true] at hpl
            obtain ⟨x1, t1, rfl, k1, k2⟩ := ha.head
            obtain ⟨x2, t2, rfl, k3, k4⟩ := k2.head
            obtain rfl := k4.nil_left
            obtain ⟨a', ca', rfl, ra⟩ := k1.slice_iff
            obtain ⟨b', cb', rfl, rb⟩ := k3.slice_iff
            obtain ⟨-, ea, hea, qa⟩ := ra
            obtain ⟨-, eb, heb, qb⟩ := rb
            obtain ⟨la', cs, ty, pa⟩ := plainRow_ok inv hea hpl.1
            obtain ⟨lb', cs', ty', pb⟩ := plainRow_ok inv heb hpl.2
            have ba : a'.block = ea.c := by rcases qa with ⟨-, q, -⟩ | ⟨tot, z, -, q, -⟩ <;> first | (rw [q]) | exact q
            have bb : b'.block = eb.c := by rcases qb with ⟨-, q, -⟩ | ⟨tot, z, -, q, -⟩ <;> first | (rw [q]) | exact q
            have hcc : a'.block ≠ b'.block := fun hh => by
              have := inv.inj _ _ _ _ hea heb la' lb' (by rw [← ba, ← bb]; exact hh)
              rw [this, Nat.beq_refl] at hne
              cases hne
            rw [← ba] at pa
            rw [← bb] at pb
            have hu := run_under (ok.ty _ _ hti) w
            rw [hde] at hu
            exact Reads.turns inv ⟨.bool false, (show (Extern.SlicesOverlaps.overlaps #[t, t] #[] #[.slice (some a') la ca', .slice (some b') lb cb']).run P w = _ from overlaps_run hu (run_size (ok.ty _ _ hte) w) hcc pa pb), .flat _ rfl⟩
          · cases h
        · cases h
      · cases h
    · cases h
  · exact plain _ h
section
variable {P : Program} {cx : Cx} (ok : CxOk P cx) (hext : ExtOk P cx) {call : CallF} (hcall : CallOk P cx call) {m : Emb} {tm : Tr Value} {hp : Hp} {w : World} {a : Act} {sz : Nat} {ds : List Deferred} (tr : TR m tm a sz ds) (inv : Inv m hp w.heap) (gw : GW cx m w)
include ok hext hcall tr inv gw
theorem evCall_ok {r0 : Option Nat} {o : Oper} {c : Call} (ho : o.op = .call c) {l : List (Res × Hp)} (hf : ∀ r, r ∈ l → Fresh m hp.nx r.2.nx) (h : evCall cx call tm hp c = some l) {next : Act → World → Prop} {Q : Exit → Act → World → Prop}
    (hn : ∀ v hp', (Res.ret v, hp') ∈ l → ∀ m' w' v', Step m hp w m' hp' w' → RV m' v v' → next (a.put o.dst v') w')
    (hpn : ∀ v hp', (Res.pan v, hp') ∈ l → ∀ m' w' v', Step m hp w m' hp' w' → RV m' v v' → Q (.panic [{ v := v', recovered := false }]) a w') : o.wpIn (Fw r0) 0 P a w next Q := by
  have hnd : ∀ c, o.op ≠ .defer c := fun c hc => by rw [ho] at hc; cases hc
  have fin : ∀ e w', Fin m hp w l e w' → (match e with
      | .returned v => next (a.put o.dst v) w'
      | .panicked chain => Q (.panic chain) a w'
      | .outgrown => LetsOut Q) := fun e w' ⟨r, hp', h1, m', h2, h3⟩ => by
    rcases h3 with ⟨v, v', rfl, rfl, h5⟩ | ⟨v, v', rfl, rfl, h5⟩
    · exact hn v hp' h1 m' w' v' h2 h5
    · exact hpn v hp' h1 m' w' v' h2 h5
  unfold evCall at h
  split at h
  · cases h
  · rename_i args hargs
    have hargs := evXs_ok tr hargs
    have hmap : c.args.map a.eval = ⟨c.args.toList.map a.eval⟩ := Array.ext' (by simp)
    split at h
    · rename_i b hb
      obtain ⟨v, hp', h0, rfl⟩ := lift_parts h
      have hf := hf _ (List.mem_singleton.2 rfl)
      obtain ⟨m', v', w', h1, h2, h3⟩ := builtinA_ok (ty := o.type) (cs := c.args.map fun | .const _ => true | _ => false) ok gw gw.as inv hf hargs h0
      refine wp_next hnd (r := .value v') (w1 := w') ?_ (.inl ⟨v', rfl, hn v hp' (List.mem_singleton.2 rfl) m' w' v' h2 h3⟩)
      simp only [execOp, ho, resolve, hb, Sem.run_bind, Sem.run_pure, Result.andThen_ok, invoke]
      rw [hmap]
      exact h1
    · rename_i f hfc
      split at h
      · rename_i g first captured hfv
        have hfv := evX_ok tr hfv
        obtain ⟨xs⟩ := first
        obtain ⟨ys⟩ := captured
        obtain ⟨xs', ys', hfe, hxs, hys⟩ := hfv.func_iff rfl
        have hall := (hxs.append hargs).append hys
        have hres : ∀ w, (execOp a.eval o).run P w = (callFunc g ⟨xs' ++ c.args.toList.map a.eval ++ ys'⟩).run P w := by
          intro w
          simp only [execOp, ho, resolve, hfc, hfe, Deferred.ofValue, Sem.run_bind, Sem.run_pure, Result.andThen_ok, invoke, hmap]
          simp
        split at h
        · rename_i k hk
          obtain ⟨v, hp', h0, rfl⟩ := lift_parts h
          obtain ⟨m', v', w', h2, st, h3⟩ := extH_ok (P := P) ok inv (hf _ (List.mem_singleton.2 rfl)) hall h0
          refine wp_next hnd (r := .value v') (w1 := w') ?_ (.inl ⟨v', rfl, hn v _ (List.mem_singleton.2 rfl) m' w' v' st h3⟩)
          rw [hres, hext.ex g k hk, run_then h2]
          rfl
        · obtain ⟨h1, h2⟩ := hcall _ _ _ _ h m _ w gw inv hall hf
          refine ⟨fun _ _ => trivial, ?_⟩
          rw [Oper.semAt_eq _ _ _ hnd, hres, h1]
          exact ⟨(fun h => by cases h), Fw_calls (r := r0) (h2.mono fun e w' he => by have := fin e w' he; cases e <;> exact this)⟩
      · rename_i b first captured hfv
        obtain ⟨c', hfe, e, hme, rfl⟩ := (evX_ok tr hfv).yield_iff
        obtain ⟨fn, tmps, assign, body, h1, h2⟩ := hcall _ _ _ _ h m _ w gw inv hargs hf e hme
        refine ⟨fun _ _ => trivial, ?_⟩
        have hres : (execOp a.eval o).run P w = .ok (.round e.c fn tmps assign body) w := by
          simp only [execOp, ho, resolve, hfc, hfe, Deferred.ofValue, Sem.run_bind, Sem.run_pure, Result.andThen_ok, invoke, hmap]
          simpa using h1
        rw [Oper.semAt_eq _ _ _ hnd, hres]
        exact ⟨(fun h => by cases h), (h2 r0).mono fun e w' he => by have := fin e w' he; cases e <;> exact this⟩
      · cases h
    · rename_i r nm hfc
      split at h
      · rename_i t u hrv
        obtain ⟨u', hre, hu⟩ := (evX_ok tr hrv).iface_iff
        split at h
        · rename_i g hg
          have hall := RVs.cons hu hargs
          have hres : ∀ w, (execOp a.eval o).run P w = (callFunc g ⟨u' :: c.args.toList.map a.eval⟩).run P w := by
            intro w
            simp only [execOp, ho, resolve, hfc, hre, Sem.run_bind, Sem.run_pure, Result.andThen_ok, invoke, hmap]
            have hex : ∀ (x : Value) (l : List Value), (#[x] ++ (⟨l⟩ : Array Value)).extract 1 (#[x] ++ (⟨l⟩ : Array Value)).size = ⟨l⟩ := fun x l => Array.ext' (by simp)
            rw [hex]
            simp [callMethod, Sem.run_bind, hext.me _ _ _ hg]
          split at h
          · rename_i k hk
            obtain ⟨v, hp', h0, rfl⟩ := lift_parts h
            obtain ⟨m', v', w', h2, st, h3⟩ := extH_ok (P := P) ok inv (hf _ (List.mem_singleton.2 rfl)) hall h0
            refine wp_next hnd (r := .value v') (w1 := w') ?_ (.inl ⟨v', rfl, hn v _ (List.mem_singleton.2 rfl) m' w' v' st h3⟩)
            rw [hres, hext.ex g k hk, run_then h2]
            rfl
          · obtain ⟨h1, h2⟩ := hcall _ _ _ _ h m _ w gw inv hall hf
            refine ⟨fun _ _ => trivial, ?_⟩
            rw [Oper.semAt_eq _ _ _ hnd, hres, h1]
            exact ⟨(fun h => by cases h), Fw_calls (r := r0) (h2.mono fun e w' he => by have := fin e w' he; cases e <;> exact this)⟩
        · split at h
          · rename_i g e ad hmd
            split at h
            · rename_i y hxg hld
              rw [ok.prog] at hmd
              obtain ⟨ad', rfl, had⟩ := hu.ptr_iff
              obtain ⟨y', hy, hyv⟩ := loadA_ok (P := P) (w := w) ok inv had hld
              have hall := RVs.cons hyv hargs
              have hres : ∀ w2, w2 = w → (execOp a.eval o).run P w2 = (callFunc g ⟨y' :: c.args.toList.map a.eval⟩).run P w2 := by
                rintro w2 rfl
                simp only [execOp, ho, resolve, hfc, hre, Sem.run_bind, Sem.run_pure, Result.andThen_ok, invoke, hmap]
                have hex : ∀ (x : Value) (l : List Value), (#[x] ++ (⟨l⟩ : Array Value)).extract 1 (#[x] ++ (⟨l⟩ : Array Value)).size = ⟨l⟩ := fun x l => Array.ext' (by simp)
                rw [hex]
                simp [callMethod, Sem.run_bind, deref_run hmd hy]
              obtain ⟨h1, h2⟩ := hcall _ _ _ _ h m _ w gw inv hall hf
              refine ⟨fun _ _ => trivial, ?_⟩
              rw [Oper.semAt_eq _ _ _ hnd, hres w rfl, h1]
              exact ⟨(fun h => by cases h), Fw_calls (r := r0) (h2.mono fun e w' he => by have := fin e w' he; cases e <;> exact this)⟩
            · cases h
          · cases h
      · cases h
end
section
variable {P : Program} {cx : Cx} (ok : CxOk P cx) {m : Emb} {tm : Tr Value} {hp hp' : Hp} {w : World} {a : Act} {sz : Nat} {ds : List Deferred} (tr : TR m tm a sz ds) (inv : Inv m hp w.heap) (gw : GW cx m w)
include ok tr inv gw
theorem evOp0_ok {r0 : Option Nat} {o : Oper} {v : Value} (hf : Fresh m hp.nx hp'.nx) (h : evOp0 cx tm hp o.op = some (v, hp')) {next : Act → World → Prop} {Q : Exit → Act → World → Prop}
    (hn : ∀ m' w' v', Step m hp w m' hp' w' → RV m' v v' → next (a.put o.dst v') w') : o.wpIn (Fw r0) 0 P a w next Q := by
  have hnd : ∀ c, o.op ≠ .defer c := fun c hc => by rw [hc] at h; cases h
  have now : ∀ x v', keep hp x = some (v, hp') → RV m v v' → next (a.put o.dst v') w := fun x v' hk hv => by
    obtain ⟨-, rfl⟩ := keep_parts hk
    exact hn m w v' (.refl inv) hv
  have look : ∀ {s : Sem Value} {x : Option Value}, execOp a.eval o = (do pure (.value (← s))) → keep hp x = some (v, hp') → (x = some v → Reads P m w s v) → o.wpIn (Fw r0) 0 P a w next Q := fun he hk hr => by
    obtain ⟨h1, rfl⟩ := keep_parts hk
    exact wp_val hnd he ((hr h1).turns inv) hn
  generalize hop : o.op = op at h
  unfold evOp0 at h
  split at h
  · rename_i x
    obtain ⟨h1, rfl⟩ := keep_parts h
    exact wp_next hnd (r := .value (a.eval x)) (w1 := w) (by simp [execOp, hop]) (.inl ⟨_, rfl, now _ _ h (evX_ok tr h1)⟩)
  · rename_i x
    obtain ⟨h1, rfl⟩ := keep_parts h
    exact wp_next hnd (r := .value (a.eval x)) (w1 := w) (by simp [execOp, hop]) (.inl ⟨_, rfl, now _ _ h (evX_ok tr h1)⟩)
  · rename_i c x y
    split at h
    case h_2 => cases h
    rename_i u hu
    split at h
    · rename_i hc
      have hc := boolA_ok gw.as (evX_ok tr hu) hc
      obtain ⟨h1, rfl⟩ := keep_parts h
      exact wp_next hnd (r := .value (a.eval x)) (w1 := w) (by simp [execOp, hop, hc, asBool]) (.inl ⟨_, rfl, now _ _ h (evX_ok tr h1)⟩)
    · rename_i hc
      have hc := boolA_ok gw.as (evX_ok tr hu) hc
      obtain ⟨h1, rfl⟩ := keep_parts h
      exact wp_next hnd (r := .value (a.eval y)) (w1 := w) (by simp [execOp, hop, hc, asBool]) (.inl ⟨_, rfl, now _ _ h (evX_ok tr h1)⟩)
    · cases h
  · rename_i e
    split at h
    · rename_i te hte
      injection h with h
      injection h with h1 h2
      subst h1 h2
      exact wp_val hnd (by simp only [execOp, hop]) (alloc_ok ok inv (hf hp.nx (Nat.le_refl _) (Nat.lt_succ_self _)) hte) hn
    · cases h
  · rename_i e x
    split at h
    · rename_i u hu
      injection h with h
      injection h with h1 h2
      subst h1 h2
      exact wp_val hnd (by simp only [execOp, hop]) (box_ok ok inv (hf hp.nx (Nat.le_refl _) (Nat.lt_succ_self _)) (evX_ok tr hu)) hn
    · cases h
  · rename_i t parts
    split at h
    · rename_i ps hps
      have hmap : parts.map (fun (i, x) => (i, a.eval x)) = ⟨parts.toList.map fun x => (x.1, a.eval x.2)⟩ := Array.ext' (by simp)
      exact look (by simp only [execOp, hop, hmap]) h (fun h1 => buildA_ok ok (evParts_ok tr hps) h1)
    · cases h
  · rename_i t n parts
    split at h
    · rename_i ps hps
      have hmap : parts.map (fun (i, x) => (i, a.eval x)) = ⟨parts.toList.map fun x => (x.1, a.eval x.2)⟩ := Array.ext' (by simp)
      have hnx : hp'.nx = Nat.succ hp.nx := buildSliceA_nx h
      exact wp_val hnd (by simp only [execOp, hop, hmap]) (buildSliceA_ok ok inv (hf hp.nx (Nat.le_refl _) (by rw [hnx]; exact Nat.lt_succ_self _)) (evParts_ok tr hps) h) hn
    · cases h
  · rename_i t x
    split at h
    · rename_i p hp0
      obtain ⟨p', he, ha⟩ := (evX_ok tr hp0).ptr_iff
      exact look (s := loadVar t p') (by simp only [execOp, hop, Instr.loadAt, he, Instr.sureAddr, pure_bind]) h (fun h1 => loadA_ok ok inv ha h1)
    · rename_i k hp0
      obtain ⟨-, he⟩ := (evX_ok tr hp0).chan_iff
      exact look (s := loadVar t ⟨k / 1048576, k % 1048576, none⟩) (by simp only [execOp, hop, Instr.loadAt, he, Instr.sureAddr, pure_bind]) h (fun h1 => loadG_ok ok gw h1)
    · rename_i j nm y z hp0
      obtain ⟨h1, -⟩ := keep_parts h
      obtain ⟨p', he, hr⟩ := loadS_ok ok gw rfl (evX_ok tr hp0) h1
      exact look (s := loadVar t p') (by simp only [execOp, hop, Instr.loadAt, he, Instr.sureAddr, pure_bind]) h (fun _ => hr)
    · rename_i b y z hp0
      obtain ⟨h1, -⟩ := keep_parts h
      obtain ⟨y⟩ := y
      obtain ⟨z⟩ := z
      obtain ⟨p', he, hr⟩ := loadQ_ok ok gw inv (evX_ok tr hp0) h1
      exact look (s := loadVar t p') (by simp only [execOp, hop, Instr.loadAt, he, Instr.sureAddr, pure_bind]) h (fun _ => hr)
    · cases h
  · rename_i t x y
    split at h
    · rename_i p u hp0 hu
      obtain ⟨p', he, ha⟩ := (evX_ok tr hp0).ptr_iff
      split at h
      · rename_i hp2 hst
        injection h with h
        injection h with h1 h2
        subst h1 h2
        obtain ⟨w', r1, r2⟩ := storeA_ok ok inv ha (evX_ok tr hu) hst
        refine wp_next hnd (r := .skip) (w1 := w') ?_ (.inr ⟨rfl, hn m w' undef r2 (undef_rv m)⟩)
        simp only [execOp, hop, Instr.storeAt, he, Instr.sureAddr, pure_bind, Sem.run_bind, r1, Result.andThen_ok, Sem.run_pure]
      · cases h
    · rename_i b y0 z0 u hp0 hu
      obtain ⟨y0⟩ := y0
      obtain ⟨z0⟩ := z0
      split at h
      · rename_i hp2 hst
        injection h with h
        injection h with h1 h2
        subst h1 h2
        obtain ⟨p', w', he, r1, r2⟩ := storeQ_ok ok gw inv (evX_ok tr hp0) (evX_ok tr hu) hst
        refine wp_next hnd (r := .skip) (w1 := w') ?_ (.inr ⟨rfl, hn m w' undef r2 (undef_rv m)⟩)
        simp only [execOp, hop, Instr.storeAt, he, Instr.sureAddr, pure_bind, Sem.run_bind, r1, Result.andThen_ok, Sem.run_pure]
      · cases h
    · cases h
  · rename_i x
    split at h
    · rename_i p hp0
      injection h with h
      injection h with h1 h2
      subst h1 h2
      obtain ⟨p', he, ha⟩ := (evX_ok tr hp0).ptr_iff
      refine wp_next hnd (r := .value (.pointer (some p'))) (w1 := w) (by simp [execOp, hop, he]) (.inl ⟨_, rfl, hn m w _ (.refl inv) (.ptr _ _ ha)⟩)
    · rename_i f y z hp0
      injection h with h
      injection h with h1 h2
      subst h1 h2
      have hv := evX_ok tr hp0
      obtain ⟨y⟩ := y
      obtain ⟨z⟩ := z
      obtain ⟨y', z', he, h3, h4⟩ := hv.func_iff rfl
      rw [he] at hv
      refine wp_next hnd (r := .value (.func (.func f) ⟨y'⟩ ⟨z'⟩)) (w1 := w) (by simp [execOp, hop, he]) (.inl ⟨_, rfl, hn m w _ (.refl inv) hv⟩)
    · rename_i b y z hp0
      split at h
      · rename_i ht
        injection h with h
        injection h with h1 h2
        subst h1 h2
        have hv := evX_ok tr hp0
        unfold yieldOk at ht
        split at ht
        · rename_i hq
          injection hq with q1 q2 q3
          subst q2 q3
          obtain ⟨c', he, hb⟩ := hv.yield_iff
          refine wp_next hnd (r := .value (.func (.yield c') ⟨[]⟩ ⟨[]⟩)) (w1 := w) (by simp [execOp, hop, he]) (.inl ⟨_, rfl, hn m w _ (.refl inv) (.yield _ _ hb)⟩)
        · rename_i hq
          injection hq with q1 q2 q3
          subst q2 q3
          obtain ⟨a', he⟩ := hv.seqp_iff
          rw [he] at hv
          exact wp_next hnd (r := .value (.pointer (some a'))) (w1 := w) (by simp [execOp, hop, he]) (.inl ⟨_, rfl, hn m w _ (.refl inv) hv⟩)
        · cases ht
      · cases h
    · rename_i j nm y z hp0
      split at h
      · rename_i ht
        injection h with h
        injection h with h1 h2
        subst h1 h2
        have hv := evX_ok tr hp0
        have hp3 := isTrue_ok gw.as ht (.cons (.flat (num 3) rfl) (.cons hv (.nil m))) rfl (b := tPtr (a.eval x)) rfl
        obtain ⟨p', he⟩ : ∃ p', a.eval x = .pointer (some p') := by
          unfold tPtr at hp3
          split at hp3
          · rename_i p' hp'; exact ⟨p', hp'⟩
          · cases hp3
        rw [he] at hv
        exact wp_next hnd (r := .value (.pointer (some p'))) (w1 := w) (by simp [execOp, hop, he]) (.inl ⟨_, rfl, hn m w _ (.refl inv) hv⟩)
      · cases h
    · rename_i nm y z hp0
      split at h
      · rename_i ht
        injection h with h
        injection h with h1 h2
        subst h1 h2
        have hv := evX_ok tr hp0
        rw [ok.prog] at ht
        unfold methNil at ht
        split at ht
        · rename_i t u
          obtain ⟨z⟩ := z
          obtain ⟨y', z', he, h3, h4⟩ := hv.func_iff rfl
          obtain ⟨u1, tl, rfl, k1, k2⟩ := h3.head
          obtain rfl := k2.nil_left
          obtain ⟨u', rfl, hu⟩ := k1.iface_iff
          rw [he] at hv
          refine wp_next hnd (r := .value (.func (.method nm) ⟨[.iface t u']⟩ ⟨z'⟩)) (w1 := w) ?_ (.inl ⟨_, rfl, hn m w _ (.refl inv) hv⟩)
          simp [execOp, hop, he, Sem.run_bind, nilAhead_run (P := P) (w := w) ht hu]
        · cases ht
      · cases h
    · rename_i r hp0
      injection h with h
      injection h with h1 h2
      subst h1 h2
      have hv := evX_ok tr hp0
      cases r with
      | none =>
        have he := hv.flat_iff rfl
        rw [he] at hv
        exact wp_next hnd (r := .value (.map none)) (w1 := w) (by simp [execOp, hop, he]) (.inl ⟨_, rfl, hn m w _ (.refl inv) hv⟩)
      | some b =>
        obtain ⟨c, he, -⟩ := hv.map_iff
        rw [he] at hv
        exact wp_next hnd (r := .value (.map (some c))) (w1 := w) (by simp [execOp, hop, he]) (.inl ⟨_, rfl, hn m w _ (.refl inv) hv⟩)
    · rename_i t u hp0
      injection h with h
      injection h with h1 h2
      subst h1 h2
      have hv := evX_ok tr hp0
      obtain ⟨u', he, -⟩ := hv.iface_iff
      rw [he] at hv
      exact wp_next hnd (r := .value (.iface t u')) (w1 := w) (by simp [execOp, hop, he]) (.inl ⟨_, rfl, hn m w _ (.refl inv) hv⟩)
    · cases h
  · rename_i op t x y yt
    split at h
    · rename_i u1 u2 h1 h2
      refine look (s := (do eqGuard op t x y (a.eval x) (a.eval y); binOp op t (a.eval x) (a.eval y))) (by simp only [execOp, hop]) h (fun hb => ?_)
      exact binS_ok ok (w := w) gw.as (evX_ok tr h1) (evX_ok tr h2) x y hb
    · cases h
  · rename_i op t x
    split at h
    · rename_i u hu
      refine look (s := Op.unary op (a.eval x)) (by simp only [execOp, hop]) h (fun hb => ?_)
      exact unS_ok gw.as (evX_ok tr hu) hb
    · cases h
  · rename_i s d x
    split at h
    · rename_i u hu
      exact wp_val hnd (by simp only [execOp, hop]) (convT_ok ok gw inv hf (evX_ok tr hu) h) hn
    · cases h
  · rename_i t x
    split at h
    · rename_i u ti hu hti
      have hti := ok.ty _ _ hti
      split at h
      · cases h
      · rename_i hni
        injection h with h
        injection h with h1 h2
        subst h1 h2
        refine wp_next hnd (r := .value (.iface t (a.eval x))) (w1 := w) ?_ (.inl ⟨_, rfl, hn m w _ (.refl inv) (.iface _ _ _ (evX_ok tr hu))⟩)
        simp only [execOp, hop, Instr.makeInterface, Sem.run_bind, run_under hti, Result.andThen_ok]
        rfl
    · cases h
  · rename_i fn first captured
    split at h
    · rename_i xs ys hxs hys hny
      injection h with h
      injection h with h1 h2
      subst h1 h2
      have h1 := evXs_ok tr hxs
      have h2 := evXs_ok tr hys
      have hm1 : first.map a.eval = ⟨first.toList.map a.eval⟩ := Array.ext' (by simp)
      have hm2 : captured.map a.eval = ⟨captured.toList.map a.eval⟩ := Array.ext' (by simp)
      refine wp_next hnd (r := .value (.func fn (first.map a.eval) (captured.map a.eval))) (w1 := w) (by simp [execOp, hop, Instr.makeFunc]) (.inl ⟨_, rfl, hn m w _ (.refl inv) ?_⟩)
      rw [hm1, hm2]
      exact .func _ hny _ _ _ _ h1.1 h2.1 h1.2 h2.2
    · cases h
  · rename_i t l c
    split at h
    · rename_i u1 u2 h1 h2
      have hnx : hp'.nx = Nat.succ hp.nx := makeSliceT_nx h
      exact wp_val hnd (by simp only [execOp, hop]) (makeSliceT_ok ok gw inv (hf hp.nx (Nat.le_refl _) (by rw [hnx]; exact Nat.lt_succ_self _)) (evX_ok tr h1) (evX_ok tr h2) h) hn
    · cases h
  · rename_i t x lo hi mx
    split at h
    · rename_i u l1 l2 l3 hu h1 h2 h3
      exact look (by simp only [execOp, hop]) h (fun hb => sliceT_ok ok gw.as inv (evX_ok tr hu) (opt_ok tr h1) (opt_ok tr h2) (opt_ok tr h3) hb)
    · cases h
  · rename_i t x f
    split at h
    · rename_i u hu
      exact look (by simp only [execOp, hop]) h (fun hb => fieldAddrT_ok ok gw.as (evX_ok tr hu) hb)
    · cases h
  · rename_i t x f
    split at h
    · rename_i u hu
      exact look (by simp only [execOp, hop]) h (fun hb => fieldA_ok ok (evX_ok tr hu) hb)
    · cases h
  · rename_i t x ix
    split at h
    · rename_i u i hu hi
      exact look (by simp only [execOp, hop]) h (fun hb => indexAddrT_ok ok gw.as (evX_ok tr hu) (evX_ok tr hi) hb)
    · cases h
  · rename_i t x ix
    split at h
    · rename_i u i hu hi
      exact look (by simp only [execOp, hop]) h (fun hb => indexT_ok ok gw.as (evX_ok tr hu) (evX_ok tr hi) hb)
    · cases h
  · rename_i x i
    split at h
    · rename_i vs hu
      obtain ⟨vs⟩ := vs
      obtain ⟨vs', he, hvs⟩ := (evX_ok tr hu).tuple_iff
      refine look (s := Instr.extract (a.eval x) i) (by simp only [execOp, hop]) h (fun hb => ?_)
      obtain ⟨v', h1, h2⟩ := hvs.at_ hb
      exact ⟨v', by simp [he, Instr.extract, h1], h2⟩
    · cases h
  · rename_i t r
    split at h
    · rename_i r0 hr
      have hnx : hp'.nx = Nat.succ hp.nx := by
        unfold makeMapA at h
        split at h
        · cases h
        · split at h
          · injection h with h; injection h with _ h; subst h; rfl
          · injection h with h; injection h with _ h; subst h; rfl
          · cases h
      exact wp_val hnd (by simp only [execOp, hop]) (makeMapA_ok ok inv (hf hp.nx (Nat.le_refl _) (by rw [hnx]; exact Nat.lt_succ_self _)) (opt_ok tr hr) h) hn
    · cases h
  · rename_i t x k b
    split at h
    · rename_i u i hu hi
      exact look (by simp only [execOp, hop]) h (fun hb => lookupA_ok ok gw.as inv (evX_ok tr hu) (evX_ok tr hi) hb)
    · cases h
  · rename_i t x k y
    split at h
    · rename_i u1 u2 u3 h1 h2 h3
      split at h
      · rename_i hp1 hst
        injection h with h
        injection h with e1 e2
        subst e1 e2
        obtain ⟨w', r1, r2⟩ := mapUpdateA_ok ok gw.as inv (evX_ok tr h1) (evX_ok tr h2) (evX_ok tr h3) hst
        refine wp_next hnd (r := .skip) (w1 := w') ?_ (.inr ⟨rfl, hn m w' _ r2 (undef_rv m)⟩)
        simp only [execOp, hop, Sem.run_bind, r1, Result.andThen_ok, Sem.run_pure]
      · cases h
    · cases h
  · rename_i t x k y
    split at h
    · rename_i u1 u2 u3 h1 h2 h3
      split at h
      · rename_i hp1 hst
        injection h with h
        injection h with e1 e2
        subst e1 e2
        obtain ⟨w', r1, r2⟩ := mapUpdateA_ok ok gw.as inv (evX_ok tr h1) (evX_ok tr h2) (evX_ok tr h3) hst
        refine wp_next hnd (r := .skip) (w1 := w') ?_ (.inr ⟨rfl, hn m w' _ r2 (undef_rv m)⟩)
        simp only [execOp, hop, Sem.run_bind, r1, Result.andThen_ok, Sem.run_pure]
      · cases h
    · cases h
  · rename_i t x k
    split at h
    · rename_i u1 u2 h1 h2
      exact wp_val hnd (by simp only [execOp, hop]) (mapEntryA_ok ok gw.as inv (evX_ok tr h1) (evX_ok tr h2) h) hn
    · cases h
  · rename_i t x k y
    split at h
    · rename_i u1 u2 u3 h1 h2 h3
      split at h
      · rename_i hp1 hst
        injection h with h
        injection h with e1 e2
        subst e1 e2
        obtain ⟨w', r1, r2⟩ := entryStoreA_ok (P := P) (t := t) inv (evX_ok tr h1) (evX_ok tr h2) (evX_ok tr h3) hst
        refine wp_next hnd (r := .skip) (w1 := w') ?_ (.inr ⟨rfl, hn m w' _ r2 (undef_rv m)⟩)
        simp only [execOp, hop, Sem.run_bind, r1, Result.andThen_ok, Sem.run_pure]
      · cases h
    · cases h
  · rename_i x xt t b
    split at h
    · rename_i u hu
      exact look (s := Instr.typeAssert (a.eval x) xt t b) (by simp only [execOp, hop]) h (fun hb => assertA_ok (xt := xt) ok (evX_ok tr hu) hb)
    · cases h
  · rename_i t x
    split at h
    · rename_i u hu
      exact wp_val hnd (by simp only [execOp, hop]) (rangeA_ok ok inv hf (evX_ok tr hu) h) hn
    · cases h
  · rename_i x
    split at h
    · rename_i u hu
      exact look (s := Instr.entry (a.eval x)) (by simp only [execOp, hop]) h (fun hb => entryA_ok inv (evX_ok tr hu) hb)
    · cases h
  · cases h
end
section
variable {P : Program} {cx : Cx} (ok : CxOk P cx) (hext : ExtOk P cx) {call : CallF} (hcall : CallOk P cx call) {m : Emb} {tm : Tr Value} {hp : Hp} {w : World} {a : Act} {sz : Nat} {ds : List Deferred} (tr : TR m tm a sz ds) (inv : Inv m hp w.heap) (gw : GW cx m w)
include ok hext hcall tr inv gw
theorem evOp_ok {r0 : Option Nat} {o : Oper} {l : List (Res × Hp)} (hf : ∀ r, r ∈ l → Fresh m hp.nx r.2.nx) (h : evOp cx call tm hp o.op = some l) {next : Act → World → Prop} {Q : Exit → Act → World → Prop}
    (hn : ∀ v hp', (Res.ret v, hp') ∈ l → ∀ m' w' v', Step m hp w m' hp' w' → RV m' v v' → next (a.put o.dst v') w')
    (hpn : ∀ v hp', (Res.pan v, hp') ∈ l → ∀ m' w' v', Step m hp w m' hp' w' → RV m' v v' → Q (.panic [{ v := v', recovered := false }]) a w') : o.wpIn (Fw r0) 0 P a w next Q := by
  generalize hop : o.op = op at h
  unfold evOp at h
  split at h
  · rename_i c
    exact evCall_ok ok hext hcall tr inv gw hop hf h hn hpn
  · rename_i x
    split at h
    · rename_i t v hv
      injection h with h
      subst h
      obtain ⟨v', hve, hr⟩ := (evX_ok tr hv).iface_iff
      refine ⟨fun _ _ => trivial, ?_⟩
      rw [Oper.semAt_eq _ _ _ (fun c hc => by rw [hop] at hc; cases hc)]
      have hrun : (execOp a.eval o).run P w = .halt (.panic (.iface t v')) w := by
        simp [execOp, hop, hve, Instr.panic, goPanic]
      rw [hrun]
      exact hpn _ _ (List.mem_singleton.2 rfl) m w _ (.refl inv) (.iface _ _ _ hr)
    · cases h
  · rename_i x str
    split at h
    · rename_i v hv
      obtain ⟨l0, h1, h2⟩ := bindL_mem h
      obtain ⟨u, hp1, h3, v', w', h4, h5, h6⟩ := nextA_ok (P := P) inv o.type (evX_ok tr hv) h1
      obtain ⟨ys, h7, -, h8⟩ := h2 _ h3
      injection h7 with h7
      subst h7
      refine wp_next (fun c hc => by rw [hop] at hc; cases hc) (r := .value v') (w1 := w') ?_ (.inl ⟨v', rfl, hn u hp1 (h8 _ (List.mem_singleton.2 rfl)) m w' v' h5 h6⟩)
      simp only [execOp, hop, Sem.run_bind, h4, Result.andThen_ok, Sem.run_pure]
    · cases h
  · obtain ⟨v, hp', h0, rfl⟩ := lift_parts h
    rw [← hop] at h0
    exact evOp0_ok ok tr inv gw (hf _ (List.mem_singleton.2 rfl)) h0 (fun m' w' v' st rv => hn v hp' (List.mem_singleton.2 rfl) m' w' v' st rv)
end
end Go.Proofs.YtaepplhgeeaidaaDoor.Ev
