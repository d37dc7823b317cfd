import Derived.Test.YtaepplhgeeaidaaDoorEvQ
import Derived.RecoverIn
set_option linter.unusedVariables false
set_option linter.unusedSimpArgs false
set_option linter.unusedSectionVars false
namespace Go.Proofs.YtaepplhgeeaidaaDoor.Ev
open Go Go.RowKit
def resStep (tmps : Array Value) : ResultVar → Sem Value
  | .tmp t => pure (tmps.getD t undef)
  | .cell a t => do loadVar t (← asAddr (tmps.getD a undef))
theorem resA_ok {P : Program} {cx : Cx} (ok : CxOk P cx) {m : Emb} {tm : Tr Value} {hp : Hp} {w : World} {a : Act} {sz : Nat} {ds : List Deferred} (tr : TR m tm a sz ds) (inv : Inv m hp w.heap) : ∀ (l : List ResultVar) (vs : List Value), resA cx tm hp l = some vs →
    ∃ vs', RVs m vs vs' ∧ (l.mapM (resStep a.tmps)).run P w = .ok vs' w := by
  intro l
  induction l with
  | nil => intro vs h; have h : some [] = some vs := h; injection h with h; subst h; exact ⟨[], .nil m, rfl⟩
  | cons x l ih =>
    intro vs h
    have h : (match (match x with
        | .tmp t => tm.get t
        | .cell a t => match tm.get a with
          | some (.pointer (some p)) => loadA cx hp t p
          | _ => none) with
      | none => none
      | some v => match resA cx tm hp l with
        | none => none
        | some vs => some (v :: vs)) = some vs := h
    split at h
    · cases h
    · rename_i v hv
      split at h
      · cases h
      · rename_i vs2 hvs
        injection h with h
        subst h
        obtain ⟨vs', h1, h2⟩ := ih vs2 hvs
        have hx : ∃ v', RV m v v' ∧ (resStep a.tmps x).run P w = .ok v' w := by
          cases x with
          | tmp t => exact ⟨_, tr.val t v hv, rfl⟩
          | cell b t =>
            simp only at hv
            split at hv
            · rename_i p hp0
              obtain ⟨p', he, ha⟩ := (tr.val b _ hp0).ptr_iff
              obtain ⟨v', k1, k2⟩ := loadA_ok ok inv ha hv
              refine ⟨v', k2, ?_⟩
              simp only [resStep, he, asAddr, pure_bind]
              exact k1
            · cases hv
        obtain ⟨v', k1, k2⟩ := hx
        refine ⟨v' :: vs', .cons k1 h1, ?_⟩
        rw [List.mapM_cons, run_then k2, run_then h2]
        rfl
theorem results_ok {P : Program} {cx : Cx} (ok : CxOk P cx) {m : Emb} {tm : Tr Value} {hp : Hp} {w : World} {a : Act} {sz : Nat} {ds : List Deferred} (tr : TR m tm a sz ds) (inv : Inv m hp w.heap) {fn : Func} {vs : List Value} (h : resA cx tm hp fn.results.toList = some vs) :
    ∃ v', RV m (oneA vs) v' ∧ (results fn a.tmps).run P w = .ok v' w := by
  obtain ⟨vs', h1, h2⟩ := resA_ok ok tr inv _ _ h
  have hm : (fn.results.mapM (resStep a.tmps)).run P w = .ok vs'.toArray w := by
    rw [Array.mapM_eq_mapM_toList]
    simp only [Sem.run_map, h2, Result.andThen_ok]
  have hr : (results fn a.tmps).run P w = .ok (if h : vs'.toArray.size = 1 then vs'.toArray[0] else .tuple vs'.toArray) w := by
    have : results fn a.tmps = (fn.results.mapM (resStep a.tmps) >>= fun vs => pure (if h : vs.size = 1 then vs[0] else .tuple vs)) := by
      unfold results
      congr 1
    rw [this, run_then hm]
    rfl
  refine ⟨_, ?_, hr⟩
  by_cases h1s : vs'.toArray.size = 1
  · rw [dif_pos h1s]
    have hl : vs'.length = 1 := by simpa using h1s
    obtain ⟨v', rfl⟩ : ∃ v', vs' = [v'] := by
      cases vs' with
      | nil => simp at hl
      | cons v' t => cases t with
        | nil => exact ⟨v', rfl⟩
        | cons _ _ => simp at hl
    have hv : vs.length = 1 := h1.1.trans hl
    obtain ⟨v, rfl⟩ : ∃ v, vs = [v] := by
      cases vs with
      | nil => simp at hv
      | cons v t => cases t with
        | nil => exact ⟨v, rfl⟩
        | cons _ _ => simp at hv
    obtain ⟨v2, t, he, h3, -⟩ := h1.head
    injection he with he1 _
    subst he1
    exact h3
  · rw [dif_neg h1s]
    have hl : vs.length ≠ 1 := by rw [h1.1]; simpa using h1s
    unfold oneA
    split
    · exact absurd rfl hl
    · exact .tuple _ _ h1.1 h1.2
theorem fi_parts {fn : Func} {fi : FI} (h : fiOfF fn = some fi) : fn.body = some fi.body ∧ fn.ntmps = fi.ntmps ∧ fn.results.toList = fi.results ∧ (fn.name == "runtime.NumGoroutine") = false := by
  unfold fiOfF at h
  split at h
  · cases h
  · rename_i c hc
    split at h
    · cases h
    · rename_i hn
      injection h with h
      subst h
      exact ⟨hc, rfl, rfl, hn⟩
theorem putPs_ok {m : Emb} {sz : Nat} : ∀ (ps : List Tmp) (args args' : List Value) (tm tm' : Tr Value) (tmps : Array Value), putPs sz ps args tm = some tm' → RVs m args args' → tmps.size = sz → (∀ t v, tm.get t = some v → RV m v (tmps.getD t undef)) →
    args'.length = ps.length ∧ ((ps.zip args').foldl (fun tmps (x : Tmp × Value) => tmps.setIfInBounds x.1 x.2) tmps).size = sz ∧
      ∀ t v, tm'.get t = some v → RV m v (((ps.zip args').foldl (fun tmps (x : Tmp × Value) => tmps.setIfInBounds x.1 x.2) tmps).getD t undef) := by
  intro ps
  induction ps with
  | nil =>
    intro args args' tm tm' tmps h hr hs hv
    cases args with
    | nil =>
      obtain rfl := hr.nil_left
      unfold putPs at h
      injection h with h
      subst h
      exact ⟨rfl, hs, hv⟩
    | cons x xs => unfold putPs at h; cases h
  | cons p ps ih =>
    intro args args' tm tm' tmps h hr hs hv
    cases args with
    | nil => unfold putPs at h; cases h
    | cons x xs =>
      obtain ⟨x', xs', rfl, hx, hxs⟩ := hr.head
      unfold putPs at h
      split at h
      · rename_i hlt
        have hlt := Nat.blt_eq.mp hlt
        obtain ⟨k1, k2, k3⟩ := ih xs xs' (tm.set p x) tm' (tmps.setIfInBounds p x') h hxs (by simpa using hs) (fun t u hu => by
          rw [Tr.get_set] at hu
          rw [Array.getD_eq_getD_getElem?]
          by_cases ht : t = p
          · subst ht
            rw [if_pos rfl] at hu
            injection hu with hu
            subst hu
            have : t < tmps.size := by rw [hs]; exact hlt
            simp [this]
            exact hx
          · rw [if_neg ht] at hu
            have := hv t u hu
            rw [Array.getD_eq_getD_getElem?] at this
            rw [Array.getElem?_setIfInBounds_ne (fun hh => ht hh.symm)]
            exact this)
        exact ⟨by simp [k1], k2, k3⟩
      · cases h
section
variable {F : Fence} {n : Nat} {P : Program} {Q : Exit → Act → List Frame → World → Prop} {a : Act} {cs : List Frame} {w : World}
theorem wpSIn_scope {c : Code} (h : c.wpSIn F n P (fun e a' cs' w' => (∀ l, e ≠ .goto l) ∧ Q e a' cs' w') a cs w) : (Code.scope c).wpSIn F n P Q a cs w := by
  intro b k hb hr hF hroom
  have h0 : (lone (b.atR a (.code (.scope c) :: k)) cs w).fenced P F := fenced_calm hF hroom rfl
  obtain ⟨e, a₁, cs₁, w₁, hl, ⟨hng, hq⟩, harr⟩ := h b (.inScope c :: k) hb hr hF hroom
  cases e with
  | normal => exact ⟨.normal, a₁, cs₁, w₁, hl, hq, .head h0 stepR_scope (StepsIn.trans harr (.one (fenced_calm hF (hl ▸ hroom) rfl) stepR_inScope))⟩
  | exit id =>
    have hx : exitTo id (.inScope c :: k) = exitTo id k := by simp [exitTo]
    exact ⟨.exit id, a₁, cs₁, w₁, hl, hq, fun k' hk => .head h0 stepR_scope (harr.1 k' (by rw [hx]; exact hk)),
      fun hr' hk => let ⟨k₁, h1, h2⟩ := harr.2 hr' (by rw [hx]; exact hk); ⟨k₁, h1, .head h0 stepR_scope h2⟩⟩
  | goto l => exact absurd rfl (hng l)
  | ret => exact ⟨_, a₁, cs₁, w₁, hl, hq, .of_steps (.one h0 stepR_scope) harr⟩
  | panic ch => exact ⟨_, a₁, cs₁, w₁, hl, hq, .of_steps (.one h0 stepR_scope) harr⟩
  | outgrown => exact ⟨_, a₁, cs₁, w₁, hl, hq, .of_steps (.one h0 stepR_scope) harr⟩
def inBlockS (id : Nat) (Q : Exit → Act → List Frame → World → Prop) : Exit → Act → List Frame → World → Prop
  | .exit id', a, cs, w => if id' = id then Q .normal a cs w else Q (.exit id') a cs w
  | e, a, cs, w => Q e a cs w
theorem wpSIn_block {id : Nat} {c : Code} (h : c.wpSIn F n P (inBlockS id Q) a cs w) : (Code.block id c).wpSIn F n P Q a cs w := by
  intro b k hb hr hF hroom
  have h0 : (lone (b.atR a (.code (.block id c) :: k)) cs w).fenced P F := fenced_calm hF hroom rfl
  obtain ⟨e, a₁, cs₁, w₁, hl, hq, harr⟩ := h b (.inBlock id :: k) hb hr hF hroom
  cases e with
  | normal => exact ⟨.normal, a₁, cs₁, w₁, hl, hq, .head h0 stepR_block (StepsIn.trans harr (.one (fenced_calm hF (hl ▸ hroom) rfl) stepR_inBlock))⟩
  | exit id' =>
    by_cases hid : id' = id
    · simp only [inBlockS, hid, if_true] at hq
      exact ⟨.normal, a₁, cs₁, w₁, hl, hq, .head h0 stepR_block (harr.1 k (by simp [exitTo, hid]))⟩
    · simp only [inBlockS, hid, if_false] at hq
      have this : (id == id') = false := by simp; exact fun h => hid h.symm
      have hx : exitTo id' (.inBlock id :: k) = exitTo id' k := by simp [exitTo, this]
      exact ⟨.exit id', a₁, cs₁, w₁, hl, hq, fun k' hk => .head h0 stepR_block (harr.1 k' (by rw [hx]; exact hk)),
        fun hr' hk => let ⟨k₁, h1, h2⟩ := harr.2 hr' (by rw [hx]; exact hk); ⟨k₁, h1, .head h0 stepR_block h2⟩⟩
  | goto l =>
    have hx : gotoIn l (.inBlock id :: k) = gotoIn l k := by simp [gotoIn]
    exact ⟨_, a₁, cs₁, w₁, hl, hq, fun k' hk => .head h0 stepR_block (harr.1 k' (by rw [hx]; exact hk)),
      fun hr' hk => let ⟨k₁, h1, h2⟩ := harr.2 hr' (by rw [hx]; exact hk); ⟨k₁, h1, .head h0 stepR_block h2⟩⟩
  | ret => exact ⟨_, a₁, cs₁, w₁, hl, hq, .of_steps (.one h0 stepR_block) harr⟩
  | panic ch => exact ⟨_, a₁, cs₁, w₁, hl, hq, .of_steps (.one h0 stepR_block) harr⟩
  | outgrown => exact ⟨_, a₁, cs₁, w₁, hl, hq, .of_steps (.one h0 stepR_block) harr⟩
theorem wpSIn_recover {id : Nat} {ops : Array Oper} {o : Oper} {l : List Oper} (ho : ops.toList = o :: l) (hrun : (execOp a.eval o).run P w = .ok .recover w) (hg : o.guard = none) (habout : ∀ f, o.about P w a.eval = some f → F.fn f)
    {v : Value} {cs' : List Frame} (hr0 : recoverD cs = some (v, cs') ∨ (recoverD cs = none ∧ v = .nilIface ∧ cs' = cs)) (hro : F.round = none)
    (h : wpListIn F n P ops (fun e a' w' => Q e a' cs' w') l (a.put o.dst v) w) : (Code.region id ops false).wpSIn F n P Q a cs w := by
  intro b k hb hr hF hroom
  have hlen : cs'.length = cs.length := by
    rcases hr0 with h1 | ⟨-, -, rfl⟩
    · exact recoverD_length h1
    · rfl
  have hsz : ops.size = l.length + 1 := by rw [← Array.length_toList, ho]; rfl
  have ho0 : ops[0]? = some o := by rw [← Array.getElem?_toList, ho]; rfl
  have hrange : List.range ops.size = 0 :: List.range' 1 l.length := by rw [List.range_eq_range', hsz, List.range'_succ]
  have i0 : (lone (b.atR a (.code (.region id ops false) :: k)) cs w).fenced P F := fenced_calm hF hroom rfl
  have s0 := stepR_region (P := P) (b := b) (a := a) (k := k) (cs := cs) (w := w) (id := id) (ops := ops)
  rw [hrange] at s0
  have i1 : (lone (b.atR a (.inRegion ops (0 :: List.range' 1 l.length) :: k)) cs w).fenced P F := fenced_oper hF hroom ho0 habout
  have hw : Region.wanted o (yielded ops a.tmps) = true := by simp [Region.wanted, hg]
  have hgo := stepGR_op (P := P) (b := b) (k := k) (cs := cs) (w := w) (rest := List.range' 1 l.length) ho0 hw
  rw [hr, Oper.semAt_none] at hgo
  have hfin : ∀ v, (b.atR a (.inRegion ops (0 :: List.range' 1 l.length) :: k)).finish v = b.atR (a.put o.dst v) (.inRegion ops (List.range' 1 l.length) :: k) := by
    intro v; rw [Frame.finish_atR, ho0]; rfl
  have hk : (b.atR a (.inRegion ops (0 :: List.range' 1 l.length) :: k)).kind = .deferred := hb
  have htr := tryRecover_deferred hk cs
  have s1 : step P (lone (b.atR a (.inRegion ops (0 :: List.range' 1 l.length) :: k)) cs w) = .next (lone (b.atR (a.put o.dst v) (.inRegion ops (List.range' 1 l.length) :: k)) cs' w) := by
    refine step_lone_go ?_
    rw [hgo, ← hfin]
    rcases hr0 with hrec | ⟨hrec, rfl, rfl⟩
    · simp only [Frame.atR, hr] at htr ⊢
      simp [stepG.apply, hrun, htr, hrec]
    · simp only [Frame.atR, hr] at htr ⊢
      simp [stepG.apply, hrun, htr, hrec]
  have hl2 : wpOpsIn F n P ops (fun e a' w' => Q e a' cs' w') (List.range' 1 l.length) (a.put o.dst v) w := by
    rw [wpOpsIn_eq_wpListIn l 1 (fun j => by rw [Nat.add_comm, ← Array.getElem?_toList, ho]; rfl)]
    exact h
  obtain ⟨e, a', w', hq, harr⟩ := wp_opsIn _ _ _ hl2 b k cs' (hr.trans hro.symm) hF (hlen ▸ hroom)
  exact ⟨e, a', cs', w', hlen, hq, .of_steps (.head i0 s0 (.one i1 s1)) harr⟩
end
theorem recA_parts {ops : List Oper} {o : Oper} {l : List Oper} (h : recA ops = some (o, l)) : ops = o :: l ∧ o.guard = none ∧ ∃ c, o.op = .call c ∧ c.callee = .builtin .recover ∧ c.args.toList = [] := by
  unfold recA at h
  split at h
  · rename_i o' l'
    split at h
    · rename_i c hop hg
      split at h
      · rename_i hc ha
        injection h with h
        injection h with h1 h2
        subst h1 h2
        exact ⟨rfl, hg, c, hop, hc, ha⟩
      · cases h
    · cases h
  · cases h
theorem MS.mono {m m' : Emb} (h : m.le m') {pan : Option Value} {u : FrameMode} (s : MS m pan u) : MS m' pan u := by
  cases s with
  | ret => exact .ret
  | done v' => exact .done v'
  | pan v v' hv => exact .pan v v' (hv.mono h)
theorem MS.recov {m : Emb} {pan : Option Value} {u : FrameMode} (s : MS m pan u) (c₀ : Frame) (cs : List Frame) :
    ∃ v' u', RV m (recV pan) v' ∧ MS m none u' ∧ (recoverD ({ c₀ with mode := u } :: cs) = some (v', { c₀ with mode := u' } :: cs) ∨ (recoverD ({ c₀ with mode := u } :: cs) = none ∧ v' = .nilIface ∧ ({ c₀ with mode := u' } :: cs : List Frame) = { c₀ with mode := u } :: cs)) := by
  cases s with
  | ret => exact ⟨.nilIface, .returning, .flat _ rfl, .ret, .inr ⟨rfl, rfl, rfl⟩⟩
  | done v' => exact ⟨.nilIface, _, .flat _ rfl, .done v', .inr ⟨rfl, rfl, rfl⟩⟩
  | pan v v' hv => exact ⟨v', _, hv, .done v', .inl rfl⟩
theorem MS.settle {m : Emb} {pan : Option Value} {u : FrameMode} (s : MS m pan u) : (pan = none ∧ Go.settle u = .returning) ∨ (∃ v v', pan = some v ∧ RV m v v' ∧ Go.settle u = .panicking [{ v := v', recovered := false }]) := by
  cases s with
  | ret => exact .inl ⟨rfl, rfl⟩
  | done v' => exact .inl ⟨rfl, rfl⟩
  | pan v v' hv => exact .inr ⟨v, v', rfl, hv, rfl⟩
section
variable {P : Program} {cx : Cx} (ok : CxOk P cx) (hext : ExtOk P cx) {call : CallF} (hcall : CallOk P cx call) (hg : GrowOk call)
include ok hext hcall hg
theorem plainS_ok (hdraw : DrawsOk P cx call) {sz n B : Nat} {c : Code} {m : Emb} {fm : Fm} {hp : Hp} {pan : Option Value} {w : World} {a : Act} {c₀ : Frame} {cs : List Frame} {u : FrameMode} {l : List (AX × Fm × Hp × Option Value)} {Q : Exit → Act → List Frame → World → Prop}
    (fs : FS cx none none B sz m fm hp w a) (ms : MS m pan u) (hf : ∀ o, o ∈ l → Fresh m hp.nx o.2.2.1.nx) (h : bindL (evCode cx call sz n none c fm hp) (withPan pan) = some l)
    (hq : ∀ o, o ∈ l → ∀ m' w' a' e u', Step m hp w m' o.2.2.1 w' → FS cx none none B sz m' o.2.1 o.2.2.1 w' a' → ExR m' o.1 e → MS m' o.2.2.2 u' → Q e a' ({ c₀ with mode := u' } :: cs) w') : c.wpSIn Fence.wide 0 P Q a ({ c₀ with mode := u } :: cs) w := by
  obtain ⟨l0, h1, h2⟩ := bindL_one h (g := fun o : AX × Fm × Hp => (o.1, o.2.1, o.2.2, pan)) (fun x ys hx => by injection hx with hx; exact hx.symm)
  refine wpSIn_of_wpIn rfl (evCode_ok (r0 := none) (ro := none) (B := B) ok hext hcall hg hdraw c m fm hp w a l0 _ fs (fun o ho => hf _ (h2 o ho)) h1 (fun o ho m' w' a' e st fs' hx => ?_))
  exact hq _ (h2 o ho) m' w' a' e u st fs' hx (ms.mono st.le)
theorem evCodeS_ok (hdraw : DrawsOk P cx call) {sz n B : Nat} : ∀ (c : Code) (m : Emb) (fm : Fm) (hp : Hp) (pan : Option Value) (w : World) (a : Act) (c₀ : Frame) (cs : List Frame) (u : FrameMode) (l : List (AX × Fm × Hp × Option Value)) (Q : Exit → Act → List Frame → World → Prop),
    FS cx none none B sz m fm hp w a → MS m pan u → (∀ o, o ∈ l → Fresh m hp.nx o.2.2.1.nx) → evCodeS cx call sz n c fm hp pan = some l →
    (∀ o, o ∈ l → ∀ m' w' a' e u', Step m hp w m' o.2.2.1 w' → FS cx none none B sz m' o.2.1 o.2.2.1 w' a' → ExR m' o.1 e → MS m' o.2.2.2 u' → Q e a' ({ c₀ with mode := u' } :: cs) w') → c.wpSIn Fence.wide 0 P Q a ({ c₀ with mode := u } :: cs) w := by
  intro c
  induction c with
  | skip =>
    intro m fm hp pan w a c₀ cs u l Q fs ms hf h hq
    have h : some [(AX.normal, fm, hp, pan)] = some l := h
    injection h with h
    subst h
    exact wpSIn_of_wpIn rfl (wpIn_skip (hq _ (List.mem_singleton.2 rfl) m w a _ u (.refl fs.inv) fs rfl ms))
  | region id ops draw =>
    intro m fm hp pan w a c₀ cs u l Q fs ms hf h hq
    rw [evCodeS_region] at h
    split at h
    · rename_i o l1 hr
      obtain ⟨r1, r2, c, r3, r4, r5⟩ := recA_parts hr
      split at h
      · cases h
      · rename_i tm' hput
        obtain ⟨l0, h1, h2⟩ := bindL_one h (g := fun o : AX × Fm × Hp => (o.1, o.2.1, o.2.2, none)) (fun x ys hx => by injection hx with hx; exact hx.symm)
        obtain ⟨l2, h3, h4⟩ := bindL_mem h1
        obtain ⟨v', u', hv, ms', hrec⟩ := ms.recov c₀ cs
        have tr1 : TR m tm' (a.put o.dst v') sz a.defers := putA_ok fs.tr hv hput
        have hrun : (execOp a.eval o).run P w = .ok .recover w := by
          simp only [execOp, r3, resolve, r4, Sem.run_bind, Sem.run_pure, Result.andThen_ok, invoke, builtin]
        refine wpSIn_recover r1 hrun r2 (fun _ _ => trivial) hrec rfl ?_
        have key := evOps_ok (r0 := none) (rest := []) (Q := fun e a' w' => Q e a' ({ c₀ with mode := u' } :: cs) w') (ops := ops) ok hext hcall hg l1 m tm' hp w (a.put o.dst v') l2 tr1 fs.inv fs.gw (fun r hr => ?_) h3 (fun tm2 hp2 hm m' w' a' st tr => ?_) (fun v tm2 hp2 hm m' w' a' v2 st tr rv => ?_)
        · rw [List.append_nil] at key; exact key
        · obtain ⟨ys, k1, k2, k3⟩ := h4 r hr
          rcases plainEnd_parts k1 with ⟨tm2, hp2, rfl, rfl⟩ | ⟨v, tm2, hp2, rfl, rfl⟩
          · exact hf _ (h2 _ (k3 _ (List.mem_singleton.2 rfl)))
          · exact hf _ (h2 _ (k3 _ (List.mem_singleton.2 rfl)))
        · obtain ⟨ys, k1, k2, k3⟩ := h4 _ hm
          injection k1 with k1
          subst k1
          exact hq _ (h2 _ (k3 _ (List.mem_singleton.2 rfl))) m' w' a' _ u' st (fs.step st tr) rfl (ms'.mono st.le)
        · obtain ⟨ys, k1, k2, k3⟩ := h4 _ hm
          injection k1 with k1
          subst k1
          exact hq _ (h2 _ (k3 _ (List.mem_singleton.2 rfl))) m' w' a' _ u' st (fs.step st tr) ⟨v2, rfl, rv⟩ (ms'.mono st.le)
    · exact plainS_ok ok hext hcall hg hdraw fs ms hf h hq
  | seq c1 c2 ih1 ih2 =>
    intro m fm hp pan w a c₀ cs u l Q fs ms hf h hq
    have h : bindL (evCodeS cx call sz n c1 fm hp pan) (fun o => match o with
      | (.normal, fm', hp', pan') => evCodeS cx call sz n c2 fm' hp' pan'
      | o => some [o]) = some l := h
    obtain ⟨l0, h1, h2⟩ := bindL_mem h
    refine wpSIn_seq (ih1 m fm hp pan w a c₀ cs u l0 _ fs ms (fun o ho => ?_) h1 (fun o ho m1 w1 a1 e u1 st fs1 hx ms1 => ?_))
    · obtain ⟨ys, k1, k2, k3⟩ := h2 o ho
      obtain ⟨x1, x2, x3, x4⟩ := o
      cases ys with
      | nil => exact absurd rfl k2
      | cons y ys =>
        cases x1 with
        | normal => exact (hf y (k3 y List.mem_cons_self)).sub (Nat.le_refl _) (evCodeS_grow hg _ _ _ _ _ k1 y List.mem_cons_self).nx
        | exit id => injection k1 with k1; injection k1 with k1 _; subst k1; exact hf _ (k3 _ List.mem_cons_self)
        | ret => injection k1 with k1; injection k1 with k1 _; subst k1; exact hf _ (k3 _ List.mem_cons_self)
        | pan v => injection k1 with k1; injection k1 with k1 _; subst k1; exact hf _ (k3 _ List.mem_cons_self)
    · obtain ⟨ys, k1, k2, k3⟩ := h2 o ho
      obtain ⟨x1, x2, x3, x4⟩ := o
      cases x1 with
      | normal =>
        subst hx
        exact ih2 m1 x2 x3 x4 w1 a1 c₀ cs u1 ys Q fs1 ms1 (fun o ho => (hf o (k3 o ho)).step st) k1 (fun o ho m2 w2 a2 e u2 st2 fs2 hx2 ms2 => hq o (k3 o ho) m2 w2 a2 e u2 (st.trans st2) fs2 hx2 ms2)
      | exit id => subst hx; injection k1 with k1; subst k1; exact hq _ (k3 _ (List.mem_singleton.2 rfl)) m1 w1 a1 _ u1 st fs1 rfl ms1
      | ret => subst hx; injection k1 with k1; subst k1; exact hq _ (k3 _ (List.mem_singleton.2 rfl)) m1 w1 a1 _ u1 st fs1 rfl ms1
      | pan v => obtain ⟨v', rfl, hv⟩ := hx; injection k1 with k1; subst k1; exact hq _ (k3 _ (List.mem_singleton.2 rfl)) m1 w1 a1 _ u1 st fs1 ⟨v', rfl, hv⟩ ms1
  | cond c c1 c2 ih1 ih2 =>
    intro m fm hp pan w a c₀ cs u l Q fs ms hf h hq
    have h : (match evX fm.tm c with
      | some v => match boolA cx v with
        | some true => evCodeS cx call sz n c1 fm hp pan
        | some false => evCodeS cx call sz n c2 fm hp pan
        | none => none
      | none => none) = some l := h
    split at h
    case h_2 => cases h
    rename_i u0 hu
    split at h
    · rename_i hc
      exact wpSIn_cond (t := true) (boolA_ok fs.gw.as (evX_ok fs.tr hu) hc) (ih1 m fm hp pan w a c₀ cs u l Q fs ms hf h hq)
    · rename_i hc
      exact wpSIn_cond (t := false) (boolA_ok fs.gw.as (evX_ok fs.tr hu) hc) (ih2 m fm hp pan w a c₀ cs u l Q fs ms hf h hq)
    · cases h
  | block id c1 ih =>
    intro m fm hp pan w a c₀ cs u l Q fs ms hf h hq
    have h : bindL (evCodeS cx call sz n c1 fm hp pan) (fun o => match o with
      | (.exit id', fm', hp', pan') => match Nat.beq id' id with
        | true => some [(.normal, fm', hp', pan')]
        | false => some [(.exit id', fm', hp', pan')]
      | o => some [o]) = some l := h
    refine wpSIn_block ?_
    obtain ⟨l0, h1, h2⟩ := bindL_mem h
    refine ih m fm hp pan w a c₀ cs u l0 _ fs ms (fun o ho => ?_) h1 (fun o ho m1 w1 a1 e u1 st fs1 hx ms1 => ?_)
    · obtain ⟨ys, k1, k2, k3⟩ := h2 o ho
      obtain ⟨x1, x2, x3, x4⟩ := o
      cases x1 with
      | exit id' =>
        simp only at k1
        split at k1
        · injection k1 with k1; subst k1; exact hf (.normal, x2, x3, x4) (k3 _ (List.mem_singleton.2 rfl))
        · injection k1 with k1; subst k1; exact hf (.exit id', x2, x3, x4) (k3 _ (List.mem_singleton.2 rfl))
      | normal => injection k1 with k1; subst k1; exact hf _ (k3 _ (List.mem_singleton.2 rfl))
      | ret => injection k1 with k1; subst k1; exact hf _ (k3 _ (List.mem_singleton.2 rfl))
      | pan v => injection k1 with k1; subst k1; exact hf _ (k3 _ (List.mem_singleton.2 rfl))
    · obtain ⟨ys, k1, k2, k3⟩ := h2 o ho
      obtain ⟨x1, x2, x3, x4⟩ := o
      cases x1 with
      | exit id' =>
        subst hx
        simp only at k1
        split at k1
        · rename_i hid
          have hid := Nat.eq_of_beq_eq_true hid
          injection k1 with k1
          subst k1
          simp only [inBlockS, hid, if_true]
          exact hq _ (k3 _ (List.mem_singleton.2 rfl)) m1 w1 a1 _ u1 st fs1 rfl ms1
        · rename_i hid
          have hid := Nat.ne_of_beq_eq_false hid
          injection k1 with k1
          subst k1
          simp only [inBlockS, if_neg hid]
          exact hq _ (k3 _ (List.mem_singleton.2 rfl)) m1 w1 a1 _ u1 st fs1 rfl ms1
      | normal => subst hx; injection k1 with k1; subst k1; exact hq _ (k3 _ (List.mem_singleton.2 rfl)) m1 w1 a1 _ u1 st fs1 rfl ms1
      | ret => subst hx; injection k1 with k1; subst k1; exact hq _ (k3 _ (List.mem_singleton.2 rfl)) m1 w1 a1 _ u1 st fs1 rfl ms1
      | pan v => obtain ⟨v', rfl, hv⟩ := hx; injection k1 with k1; subst k1; exact hq _ (k3 _ (List.mem_singleton.2 rfl)) m1 w1 a1 _ u1 st fs1 ⟨v', rfl, hv⟩ ms1
  | loop c1 ih =>
    intro m fm hp pan w a c₀ cs u l Q fs ms hf h hq
    have h : bindL (evCode cx call sz n none (.loop c1) fm hp) (withPan pan) = some l := h
    exact plainS_ok ok hext hcall hg hdraw fs ms hf h hq
  | rangeFunc g ps ca cb iha ihb => intro m fm hp pan w a c₀ cs u l Q fs ms hf h hq; cases h
  | exit id =>
    intro m fm hp pan w a c₀ cs u l Q fs ms hf h hq
    have h : some [(AX.exit id, fm, hp, pan)] = some l := h
    injection h with h
    subst h
    exact wpSIn_of_wpIn rfl (wpIn_exit (hq _ (List.mem_singleton.2 rfl) m w a _ u (.refl fs.inv) fs rfl ms))
  | scope c1 ih =>
    intro m fm hp pan w a c₀ cs u l Q fs ms hf h hq
    refine wpSIn_scope (ih m fm hp pan w a c₀ cs u l _ fs ms hf h (fun o ho m1 w1 a1 e u1 st fs1 hx ms1 => ?_))
    refine ⟨fun lb he => ?_, hq o ho m1 w1 a1 e u1 st fs1 hx ms1⟩
    subst he
    obtain ⟨x1, x2, x3⟩ := o
    cases x1 with
    | normal => cases hx
    | exit id => cases hx
    | ret => cases hx
    | pan v => obtain ⟨v', hh, -⟩ := hx; cases hh
  | label lb =>
    intro m fm hp pan w a c₀ cs u l Q fs ms hf h hq
    have h : bindL (evCode cx call sz n none (.label lb) fm hp) (withPan pan) = some l := h
    exact plainS_ok ok hext hcall hg hdraw fs ms hf h hq
  | goto lb => intro m fm hp pan w a c₀ cs u l Q fs ms hf h hq; cases h
  | ret =>
    intro m fm hp pan w a c₀ cs u l Q fs ms hf h hq
    have h : some [(AX.ret, fm, hp, pan)] = some l := h
    injection h with h
    subst h
    exact wpSIn_of_wpIn rfl (wpIn_ret (hq _ (List.mem_singleton.2 rfl) m w a _ u (.refl fs.inv) fs rfl ms))
  | refuse msg => intro m fm hp pan w a c₀ cs u l Q fs ms hf h hq; cases h
theorem leaves_ok {fn : Func} {fi : FI} (hfi : fn.results.toList = fi.results) {tmps : Array Value} {sz : Nat} {tm : Tr Value} {m0 : Emb} {hp0 : Hp} {w0 : World} {L : List (Res × Hp)} :
    ∀ (ad : List ADef) (ds : List Deferred) (pan : Option Value) (u : FrameMode) (m : Emb) (hp : Hp) (w : World) (l : List (Option Value × Hp)), Step m0 hp0 w0 m hp w → GW cx m w → TR m tm { tmps := tmps, defers := [] } sz [] → Mk w0.heap.size m w ad ds → MS m pan u → u = settle u →
      (∀ q, q ∈ l → Fresh m hp.nx q.2.nx) → evLeave call ad pan hp = some l → (∀ q, q ∈ l → ∃ ys, retEnd cx fi tm q = some ys ∧ ∀ y, y ∈ ys → y ∈ L) →
      LeavesInM Fence.wide 0 P fn tmps (Fin m0 hp0 w0 L) ds u w := by
  intro ad
  induction ad with
  | nil =>
    intro ds pan u m hp w l st gw tr mk ms hu hf h hret
    obtain rfl := mk.nil
    have h : some [(pan, hp)] = some l := h
    injection h with h
    subst h
    obtain ⟨ys, k1, k2⟩ := hret _ (List.mem_singleton.2 rfl)
    rcases ms.settle with ⟨rfl, hs⟩ | ⟨v, v', rfl, hv, hs⟩
    · rw [hu, hs]
      rcases retEnd_parts k1 with ⟨v, h1, -⟩ | ⟨-, vs, h1, rfl⟩
      · cases h1
      · rw [← hfi] at h1
        obtain ⟨v', r1, r2⟩ := results_ok ok tr st.inv h1
        exact ⟨v', r2, _, hp, k2 _ (List.mem_singleton.2 rfl), m, st, .inl ⟨_, v', rfl, rfl, r1⟩⟩
    · rw [hu, hs]
      rcases retEnd_parts k1 with ⟨v2, h1, rfl⟩ | ⟨h1, -⟩
      · injection h1 with h1
        subst h1
        exact ⟨_, hp, k2 _ (List.mem_singleton.2 rfl), m, st, .inr ⟨_, v', rfl, rfl, hv⟩⟩
      · cases h1
  | cons d ad ih =>
    intro ds pan u m hp w l st gw tr mk ms hu hf h hret
    have hrun : u ≠ .run := by
      intro hh
      rcases ms.settle with ⟨-, hs⟩ | ⟨v, v', -, -, hs⟩
      · rw [← hu, hh] at hs; cases hs
      · rw [← hu, hh] at hs; cases hs
    cases ds with
    | nil => cases d <;> exact mk.elim
    | cons d' ds =>
      cases d with
      | mark =>
        obtain ⟨⟨r, h1, h2, h3, h4, h5⟩, h6⟩ := mk
        rw [evLeave_mark] at h
        have gw' : GW cx m { w with heap := w.heap.setIfInBounds r (.deferred none) } := ⟨fun g t hg => by
          obtain ⟨⟨cs, ty, fr, k1, k2⟩, k3⟩ := gw.at_ g t hg
          refine ⟨⟨cs, ty, fr, ?_, k2⟩, k3⟩
          have hne : r ≠ g := fun hh => by subst hh; rw [h3] at k1; cases k1
          exact (Array.getElem?_setIfInBounds_ne hne).trans k1, gw.as, fun a v hv => by
          obtain ⟨k1, k3⟩ := gw.frz a v hv
          refine ⟨?_, k3⟩
          have hne : r ≠ a.block := fun hh => by
            subst hh
            unfold World.cell? at k1
            rw [h3] at k1
            cases k1
          unfold World.cell? at k1 ⊢
          rw [Array.getElem?_setIfInBounds_ne hne]
          exact k1⟩
        exact ⟨hrun, .inl ⟨r, _, by rw [h1], run_takeDeferred h3, ih ds pan u m hp _ l (st.past _ h2 h4) gw' tr (h6.past h5) ms hu hf h hret⟩⟩
      | call f args =>
        obtain ⟨⟨xs', ys', h1, h2⟩, h3⟩ := mk
        rw [evLeave_call] at h
        obtain ⟨l0, h4, h5⟩ := bindL_mem h
        obtain ⟨c1, c2⟩ := hcall _ _ _ _ h4 m _ w gw st.inv h2 (fun r hr => by
          obtain ⟨zs, k1, k2, k3⟩ := h5 r hr
          obtain ⟨pan', k4, k5⟩ := leaveEnd_parts k1
          cases zs with
          | nil => exact absurd rfl k2
          | cons z zs => exact (hf z (k3 z List.mem_cons_self)).sub (Nat.le_refl _) (evLeave_grow hg _ _ _ _ k5 z List.mem_cons_self).nx)
        refine ⟨hrun, .inr ⟨(fun h => by cases h), .func f, ⟨ys'⟩, f, ⟨xs' ++ ys'⟩, by rw [h1], ?_, fun _ _ => trivial, (c2 u ms).mono ?_⟩⟩
        · rw [h1]
          simp only [invoke, c1]
          simp
        · intro e u' w' hfin
          obtain ⟨pan', hp', hm, m', v', st', rfl, ms'⟩ := hfin
          obtain ⟨zs, k1, k2, k3⟩ := h5 _ hm
          obtain ⟨pan2, k4, k5⟩ := leaveEnd_parts k1
          injection k4 with k4
          subst k4
          have ms2 : MS m' pan' (settle u') := by
            cases ms' with
            | ret => exact .ret
            | done v => exact .ret
            | pan v v2 hv => exact .pan v v2 hv
          have hs2 : settle u' = settle (settle u') := by
            cases ms' with
            | ret => rfl
            | done v => rfl
            | pan v v2 hv => rfl
          exact ih ds pan' (settle u') m' hp' w' zs (st.trans st') (gw.step st') (tr.mono st'.le) (h3.step st') ms2 hs2 (fun q hq => (hf q (k3 q hq)).step st') k5 (fun q hq => hret q (k3 q hq))
end
theorem killAll_step : ∀ (D : List Nat) {m0 m : Emb} {hp0 hp : Hp} {w0 w : World}, Step m0 hp0 w0 m hp w → (∀ b, b ∈ D → b < hp.nx) → ∃ m', Step m0 hp0 w0 m' (killAll hp D) w ∧ m.le m' := by
  intro D
  induction D with
  | nil => intro m0 m hp0 hp w0 w st _; exact ⟨m, st, Emb.le_refl _⟩
  | cons b D ih =>
    intro m0 m hp0 hp w0 w st h
    rw [killAll_cons]
    have s1 := step_kill (w := w) st.inv (h b List.mem_cons_self)
    obtain ⟨m', h1, h2⟩ := ih (st.trans s1) (fun x hx => h x (List.mem_cons_of_mem _ hx))
    exact ⟨m', h1, Emb.le_trans s1.le h2⟩
theorem Step.same {m0 m : Emb} {hp0 hp hp' : Hp} {w0 w : World} (st : Step m0 hp0 w0 m hp w) (h1 : hp'.nx = hp.nx) (h2 : hp'.lo ≤ hp.lo) (h3 : ∀ k, hp'.tr.get k = hp.tr.get k) : Step m0 hp0 w0 m hp' w :=
  ⟨st.le, ⟨fun b e ob hb hob => st.inv.obj b e ob hb (by rw [← h3]; exact hob), st.inv.inj, st.inv.low, fun b ob hob => by rw [h1]; exact st.inv.dom b ob (by rw [← h3]; exact hob)⟩, st.os, st.tape, st.output, st.size, st.keep,
    fun b e hb he hl => st.rng b e (by rw [← h1]; exact hb) he hl, fun b hb => st.far b (by rw [← h1]; exact hb), by rw [h1]; exact st.nx, Nat.le_trans h2 st.lo,
    fun b hb hl => by rw [h3]; exact st.low b hb (Nat.lt_of_lt_of_le hl h2)⟩
theorem Step.unlo {m0 m : Emb} {hp0 hp : Hp} {w0 w : World} (st : Step m0 ⟨hp0.tr, hp0.nx, hp0.nx⟩ w0 m hp w) : Step m0 hp0 w0 m ⟨hp.tr, hp.nx, least hp.lo hp0.lo⟩ w :=
  ⟨st.le, ⟨st.inv.obj, st.inv.inj, st.inv.low, st.inv.dom⟩, st.os, st.tape, st.output, st.size, st.keep, st.rng, st.far, st.nx, least_le_right _ _, fun b hb hl => st.low b hb (Nat.lt_of_lt_of_le hl (least_le_left _ _))⟩
theorem fin_join {m0 : Emb} {hp0 : Hp} {w0 : World} {n0 : Nat} {l : List (Res × Hp)} {e : Ending} {w : World} (hk : ∀ a, a ∈ l → Known ⟨hp0.tr, hp0.nx, hp0.nx⟩ a) (h : Fin m0 ⟨hp0.tr, hp0.nx, hp0.nx⟩ w0 l e w) : Fin m0 hp0 w0 (unloL hp0.lo (joinA n0 l)) e w := by
  obtain ⟨r, hp', hm, m', st, hr⟩ := h
  obtain ⟨c, h1, D, hD, k1, k2, k3, k4⟩ := joinA_mem n0 l hk _ hm
  obtain ⟨m2, h2, h3⟩ := killAll_step D st hD
  refine ⟨r, ⟨c.2.tr, c.2.nx, least c.2.lo hp0.lo⟩, unloL_mem.2 ⟨c, h1, by rw [k1]⟩, m2, (h2.same (by rw [k2, killAll_nx]) k3 k4).unlo, ?_⟩
  rcases hr with ⟨v, v', e1, e2, hv⟩ | ⟨v, v', e1, e2, hv⟩
  · exact .inl ⟨v, v', e1, e2, hv.mono h3⟩
  · exact .inr ⟨v, v', e1, e2, hv.mono h3⟩
theorem enter_tr {P : Program} {m : Emb} {args args' : List Value} (hargs : RVs m args args') {fn : Func} {fi : FI} (p2 : fn.ntmps = fi.ntmps) (hle : args.length ≤ fi.ntmps) (df : List Deferred) :
    TR m (Tr.putList args .nil 0) { tmps := (⟨args'⟩ : Array Value) ++ Array.replicate (fn.ntmps - (⟨args'⟩ : Array Value).size) undef, defers := df } fi.ntmps df := by
  have hlen : args'.length = args.length := hargs.1.symm
  refine ⟨?_, rfl, fun t u hu => ?_⟩
  · rw [Array.size_append, Array.size_replicate]
    show args'.length + (fn.ntmps - args'.length) = _
    omega
  · rw [Tr.get_putList] at hu
    split at hu
    · rename_i ht
      obtain ⟨u', k1, k2⟩ := hargs.at_ hu
      rw [Nat.sub_zero] at k1
      have : ((⟨args'⟩ : Array Value) ++ Array.replicate (fn.ntmps - (⟨args'⟩ : Array Value).size) undef)[t]? = some u' := by
        rw [Array.getElem?_append_left (by show t < args'.length; omega)]
        simpa using k1
      rw [Array.getD_eq_getD_getElem?, this]
      exact k2
    · rw [Tr.get_nil] at hu; cases hu
theorem evFn_step {P : Program} {cx : Cx} (ok : CxOk P cx) (hext : ExtOk P cx) (n d : Nat) (ih : CallOk P cx (evFn cx n d)) (hdraw : DrawsOk P cx (evFn cx n d)) : CallOk P cx (evFn cx n (d + 1)) := by
  intro c args hp l h m args' w gw inv hargs hf
  have hg := evFn_grow cx (fun f o h => (hext.orc f o h).2.1) n d
  cases c with
  | fn f =>
    rw [evFn_fn] at h
    split at h
    · rename_i l0 hl0
      injection h with h
      subst h
      obtain ⟨o, ho, h1⟩ := orR_parts hl0
      obtain ⟨q1, -, q2⟩ := hext.orc f o ho
      exact ⟨q1, q2 args hp _ h1 m args' w gw inv hargs hf⟩
    obtain ⟨fi, l0, hfi, hle, h1, rfl⟩ := evBody_parts h
    obtain ⟨fn, hfn, hfo⟩ := ok.fn f fi hfi
    obtain ⟨p1, p2, p3, p4⟩ := fi_parts hfo
    have hk : ∀ a, a ∈ l0 → Known ⟨hp.tr, hp.nx, hp.nx⟩ a := fun a ha => by
      obtain ⟨l1, x, k1, k2, ys, k3, k4⟩ := bindL_from h1 a ha
      have g := (evCode_grow hg _ _ _ _ k1 x k2).trans (bodyEnd_grow hg k3 a k4)
      exact ⟨Nat.le_refl _, g, g.dom inv.dom⟩
    have hf0 : ∀ r, r ∈ l0 → Fresh m hp.nx r.2.nx := fun r hr => by
      obtain ⟨c, k1, D, hD, q1, q2, q3, q4⟩ := joinA_mem hp.nx l0 hk r hr
      have := hf _ (unloL_mem.2 ⟨c, k1, rfl⟩)
      rw [← q2]
      exact this
    have inv0 : Inv m ⟨hp.tr, hp.nx, hp.nx⟩ w.heap := ⟨inv.obj, inv.inj, inv.low, inv.dom⟩
    refine ⟨fun l w => ?_, ?_⟩
    · have p5 : ¬ fn.name = "runtime.NumGoroutine" := by simpa using p4
      simp [callFunc, hfn, p5, p1]
    · have fs0 : FS cx none none w.heap.size fi.ntmps m ⟨Tr.putList args .nil 0, []⟩ ⟨hp.tr, hp.nx, hp.nx⟩ w { tmps := (⟨args'⟩ : Array Value) ++ Array.replicate (fn.ntmps - (⟨args'⟩ : Array Value).size) undef, defers := [] } := ⟨.inl ⟨rfl, rfl⟩, enter_tr (P := P) hargs p2 hle [], trivial, Nat.le_refl _, inv0, gw⟩
      refine Calls.mono (R := Fin m ⟨hp.tr, hp.nx, hp.nx⟩ w l0) ?_ (fun e w' => fin_join hk)
      refine (callsIn_wide (n := 0)).1 (callsIn_of_wp_marks hfn p1 trivial ?_ rfl)
      obtain ⟨l1, h2, h3⟩ := bindL_mem h1
      refine (evCode_ok (r0 := none) (ro := none) ok hext ih hg hdraw fi.body m _ ⟨hp.tr, hp.nx, hp.nx⟩ w _ l1 _ fs0 (fun o ho => ?_) h2 (fun o ho m' w' a' e st fs' hx => ?_))
      · obtain ⟨ys, k1, k2, k3⟩ := h3 o ho
        cases ys with
        | nil => exact absurd rfl k2
        | cons y ys => exact (hf0 y (k3 y List.mem_cons_self)).sub (Nat.le_refl _) (bodyEnd_grow hg k1 y List.mem_cons_self).nx
      · obtain ⟨ys, k1, k2, k3⟩ := h3 o ho
        obtain ⟨x1, x2, x3⟩ := o
        obtain ⟨pan, q1, q2⟩ := bodyEnd_parts k1
        obtain ⟨l2, q3, q4⟩ := bindL_mem q2
        have tr' : TR m' x2.tm { tmps := a'.tmps, defers := [] } fi.ntmps [] := ⟨fs'.tr.size, rfl, fs'.tr.val⟩
        have leave : ∀ u, MS m' pan u → u = settle u → LeavesInM Fence.wide 0 P fn a'.tmps (Fin m ⟨hp.tr, hp.nx, hp.nx⟩ w l0) a'.defers u w' := fun u ms hu =>
          leaves_ok (L := l0) ok hext ih hg p3 x2.ds a'.defers pan u m' x3 w' l2 st fs'.gw tr' fs'.mks ms hu (fun q hq => by
            obtain ⟨zs, r1, r2, r3⟩ := q4 q hq
            rcases retEnd_parts r1 with ⟨v, -, rfl⟩ | ⟨-, vs, -, rfl⟩
            · exact (hf0 _ (k3 _ (r3 _ (List.mem_singleton.2 rfl)))).step st
            · exact (hf0 _ (k3 _ (r3 _ (List.mem_singleton.2 rfl)))).step st) q3 (fun q hq => by
            obtain ⟨zs, r1, r2, r3⟩ := q4 q hq
            exact ⟨zs, r1, fun y hy => k3 _ (r3 y hy)⟩)
        cases x1 with
        | normal =>
          subst hx
          injection q1 with q1
          subst q1
          exact leave _ .ret rfl
        | ret =>
          subst hx
          injection q1 with q1
          subst q1
          exact leave _ .ret rfl
        | exit id => cases q1
        | pan v =>
          obtain ⟨v', rfl, hv⟩ := hx
          injection q1 with q1
          subst q1
          exact leave _ (.pan v v' hv) rfl
  | yield b =>
    rw [evFn_yield] at h
    obtain ⟨lp, tm0, g1, g2, g3, g4⟩ := evRound_parts h
    obtain ⟨l1, g5, g6⟩ := bindL_mem g4
    intro e he
    obtain ⟨-, -, fn, tmps, df, r1, r2, r3⟩ := loop_rec inv he g1
    obtain ⟨q1, q2, q3⟩ := putPs_ok lp.ps args args' lp.tm tm0 tmps g3 hargs r2 r3
    have hy := run_yield (P := P) (args := ⟨args'⟩) r1 (by simpa using q1)
    refine ⟨_, _, _, _, hy, fun r => ?_⟩
    have hzip : ((⟨lp.ps⟩ : Array Tmp).zip ⟨args'⟩).foldl (fun tmps (x : Tmp × Value) => tmps.setIfInBounds x.1 x.2) tmps = (lp.ps.zip args').foldl (fun tmps (x : Tmp × Value) => tmps.setIfInBounds x.1 x.2) tmps := by
      rw [← Array.foldl_toList]
      simp
    refine roundIn_of_wpIn trivial ?_
    show lp.assign.wpIn (Fw (some e.c)) 0 P _ _ w
    have fs0 : FS cx (some e.c) (some b) 0 lp.sz m ⟨tm0, []⟩ hp w { tmps := ((⟨lp.ps⟩ : Array Tmp).zip ⟨args'⟩).foldl (fun tmps (x : Tmp × Value) => tmps.setIfInBounds x.1 x.2) tmps, defers := [] } :=
      ⟨.inr ⟨b, e, rfl, he, rfl⟩, ⟨by rw [hzip]; exact q2, rfl, by rw [hzip]; exact q3⟩, trivial, Nat.zero_le _, inv, gw⟩
    refine evCode_ok (r0 := some e.c) (ro := some b) ok hext ih hg hdraw lp.assign m _ hp w _ l1 _ fs0 (fun o ho => ?_) g5 (fun o ho m1 w1 a1 e1 st1 fs1 hx => ?_)
    · obtain ⟨ys, k1, k2, k3⟩ := g6 o ho
      obtain ⟨-, lp1, -, -, k4⟩ := roundGo_parts k1
      cases ys with
      | nil => exact absurd rfl k2
      | cons y ys =>
        obtain ⟨l2, z, z1, z2, zs, z3, z4⟩ := bindL_from k4 y List.mem_cons_self
        obtain ⟨-, lp2, -, rfl⟩ := roundEnd_parts z3
        have hn := (evCode_grow hg _ _ _ _ z1 z z2).nx
        have hfy := hf y (k3 y List.mem_cons_self)
        rw [List.mem_singleton.1 z4] at hfy
        simp only [loopSet] at hn hfy
        exact hfy.sub (Nat.le_refl _) hn
    · obtain ⟨ys, k1, k2, k3⟩ := g6 o ho
      obtain ⟨hx1, lp1, g7, g8, k4⟩ := roundGo_parts k1
      obtain ⟨x1, x2, x3⟩ := o
      simp only at hx1 g7 k4 st1 fs1
      subst hx1
      subst hx
      obtain ⟨e1, j1, j2, -⟩ := st1.le b e he
      obtain ⟨-, -, fn1, tmps1, df1, u1, u2, u3⟩ := loop_rec fs1.inv j1 g7
      rw [g8] at u1
      have s2 := step_loop (w := w1) fs1.inv j1 g7 .busy lp1.pend u1
      have hb := run_beginRound (P := P) u1 rfl
      rw [j2] at hb s2
      refine ⟨_, hb, ?_⟩
      obtain ⟨l2, g9, g10⟩ := bindL_mem k4
      have fs2 : FS cx (some e.c) (some b) 0 lp.sz m1 x2 (loopSet x3 b { lp1 with st := .busy }) _ a1 := fs1.step s2 fs1.tr
      refine evCode_ok (r0 := some e.c) (ro := some b) ok hext ih hg hdraw lp.body m1 x2 _ _ a1 l2 _ fs2 (fun o ho => ?_) g9 (fun o ho m2 w2 a2 e2 st2 fs3 hx => ?_)
      · obtain ⟨zs, z1, z2, z3⟩ := g10 o ho
        obtain ⟨-, lp2, -, rfl⟩ := roundEnd_parts z1
        have := hf _ (k3 _ (z3 _ (List.mem_singleton.2 rfl)))
        exact (this.step st1).sub (Nat.le_refl _) (Nat.le_refl _)
      · obtain ⟨zs, z1, z2, z3⟩ := g10 o ho
        obtain ⟨hnp, lp2, g11, rfl⟩ := roundEnd_parts z1
        obtain ⟨y1, y2, y3⟩ := o
        simp only at g11 st2 fs3
        obtain ⟨e2, j3, j4, -⟩ := st2.le b e1 j1
        obtain ⟨-, -, fn2, tmps2, df2, v1, v2, v3⟩ := loop_rec fs3.inv j3 g11
        have hc : e2.c = e.c := j4.trans j2
        have st := (st1.trans s2).trans st2
        have hmem := k3 _ (z3 _ (List.mem_singleton.2 rfl))
        have fin : ∀ (ls : LoopState) (pd : Option JX) (bb : Bool), (Res.ret (.bool bb), loopSet y3 b { lp2 with st := ls, pend := pd }) ∈ l → Fin m hp w l (Ending.returned (.bool bb)) (w2.putObj e.c (.loop { state := ls, pending := pendC pd, fn := fn2, tmps := tmps2, params := ⟨lp2.ps⟩, assign := lp2.assign, body := lp2.body, defers := df2 })) := fun ls pd bb hm => by
          have s3 := step_loop (w := w2) fs3.inv j3 g11 ls pd v1
          rw [hc] at s3
          exact ⟨_, _, hm, m2, st.trans s3, .inl ⟨_, .bool bb, rfl, rfl, .flat _ rfl⟩⟩
        rw [hc] at v1
        cases y1 with
        | normal => subst hx; exact ⟨_, _, run_endRound none v1, fin .ready none true hmem⟩
        | ret => subst hx; exact ⟨_, _, run_endRound (some .ret) v1, fin .done (some .ret) false hmem⟩
        | exit id => subst hx; exact ⟨_, _, run_endRound (some (.exit id)) v1, fin .done (some (.exit id)) false hmem⟩
        | pan v => exact absurd rfl (hnp v)
  | dfr f pan =>
    rw [evFn_dfr] at h
    obtain ⟨fi, hfi, hle, h1⟩ := evDfr_parts h
    obtain ⟨fn, hfn, hfo⟩ := ok.fn f fi hfi
    obtain ⟨p1, p2, p3, p4⟩ := fi_parts hfo
    refine ⟨fun l w => ?_, fun u ms => ?_⟩
    · have p5 : ¬ fn.name = "runtime.NumGoroutine" := by simpa using p4
      simp [callFunc, hfn, p5, p1]
    · refine callsDIn_of_wpSIn hfn p1 trivial (fun c₀ cs hc => ?_)
      have hc0 : c₀ = { c₀ with mode := u } := by subst hc; rfl
      rw [hc0]
      obtain ⟨l1, h2, h3⟩ := bindL_mem h1
      have fs0 : FS cx none none w.heap.size fi.ntmps m ⟨Tr.putList args .nil 0, []⟩ hp w { tmps := (⟨args'⟩ : Array Value) ++ Array.replicate (fn.ntmps - (⟨args'⟩ : Array Value).size) undef, defers := [] } := ⟨.inl ⟨rfl, rfl⟩, enter_tr (P := P) hargs p2 hle [], trivial, Nat.le_refl _, inv, gw⟩
      refine evCodeS_ok ok hext ih hg hdraw fi.body m _ hp pan w _ c₀ cs u l1 _ fs0 ms (fun o ho => ?_) h2 (fun o ho m' w' a' e u' st fs' hx ms' => ?_)
      · obtain ⟨ys, k1, k2, k3⟩ := h3 o ho
        obtain ⟨-, -, -, rfl⟩ := dfrEnd_parts k1
        exact hf _ (k3 _ (List.mem_singleton.2 rfl))
      · obtain ⟨ys, k1, k2, k3⟩ := h3 o ho
        obtain ⟨q1, q2, ⟨vs, q3⟩, rfl⟩ := dfrEnd_parts k1
        obtain ⟨x1, x2, x3, x4⟩ := o
        simp only at q1 q2 q3 st fs' ms'
        have hmk := fs'.mks
        rw [q1] at hmk
        have hdf : a'.defers = [] := hmk.nil
        rw [← p3] at q3
        obtain ⟨v', r1, r2⟩ := results_ok ok fs'.tr st.inv q3
        have hfin : FinD m hp w l (.returned v') u' w' := ⟨x4, x3, k3 _ (List.mem_singleton.2 rfl), m', v', st, rfl, ms'⟩
        cases x1 with
        | normal => subst hx; exact ⟨hdf, u', rfl, v', r2, hfin⟩
        | ret => subst hx; exact ⟨hdf, u', rfl, v', r2, hfin⟩
        | exit id => cases q2
        | pan v => cases q2
end Go.Proofs.YtaepplhgeeaidaaDoor.Ev
