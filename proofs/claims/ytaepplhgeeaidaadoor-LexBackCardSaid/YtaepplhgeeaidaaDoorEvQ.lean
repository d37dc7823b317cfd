import Derived.Test.YtaepplhgeeaidaaDoorEvP
import Derived.LoopN
import Derived.Scope
import Derived.RangeFuncRecord
import Derived.RecoverIn
set_option linter.unusedVariables false
set_option linter.unusedSimpArgs false
set_option linter.unusedSectionVars false
namespace Go.Proofs.YtaepplhgeeaidaaDoor.Ev
open Go Go.RowKit
theorem getD_of {a : Act} {d : Nat} {v : Value} (h : a.tmps.getD d undef = v) (hv : v ≠ undef) : a.tmps[d]? = some v := by
  rw [Array.getD_eq_getD_getElem?] at h
  cases hh : a.tmps[d]? with
  | none => rw [hh] at h; exact absurd h.symm hv
  | some u => rw [hh] at h; simpa using h
theorem wantA_ok {cx : Cx} {m : Emb} {tm : Tr Value} {a : Act} {sz : Nat} {ds : List Deferred} (as : AsOk cx m) (tr : TR m tm a sz ds) {ops : Array Oper} {o : Oper} {b : Bool} (h : wantA cx ops.toList tm o.guard = some b) : Region.wanted o (yielded ops a.tmps) = b := by
  rw [wantA_def] at h
  unfold Region.wanted
  split at h
  · rename_i hg
    injection h with h
    rw [hg]
    exact h
  · rename_i j want hg
    rw [hg]
    split at h
    · cases h
    · rename_i o' ho'
      have ho' : ops[j]? = some o' := by simpa using ho'
      split at h
      · cases h
      · rename_i d hd
        split at h
        · rename_i hc
          injection h with h
          subst h
          obtain ⟨xs, hv, hxs⟩ := (tr.val d _ hc).tuple_iff
          obtain rfl := hxs.nil_left
          show (yielded ops a.tmps j == some want) = false
          have : yielded ops a.tmps j = none := by
            rw [Array.getD_eq_getD_getElem?] at hv
            cases hh : a.tmps[d]? with
            | none => simp [yielded, ho', hd, hh]
            | some u =>
              rw [hh] at hv
              have : u = .tuple ⟨[]⟩ := by simpa using hv
              subst this
              simp [yielded, ho', hd, hh]
          rw [this]
          rfl
        · rename_i u hne hc
          split at h
          · rename_i c hb
            injection h with h
            have hv := boolA_ok as (tr.val d _ hc) hb
            have hget := getD_of hv (by simp [undef])
            show (yielded ops a.tmps j == some want) = b
            rw [← h]
            simp [yielded, ho', hd, hget]
          · cases h
        · cases h
theorem putA_ok {m : Emb} {tm tm' : Tr Value} {a : Act} {sz : Nat} {ds : List Deferred} (tr : TR m tm a sz ds) {dst : Option Tmp} {v v' : Value} (hv : RV m v v') (h : putA sz tm dst v = some tm') : TR m tm' (a.put dst v') sz ds := by
  rw [putA_def] at h
  split at h
  · injection h with h
    subst h
    exact tr
  · rename_i d
    split at h
    · rename_i hlt
      have hlt := Nat.blt_eq.mp hlt
      injection h with h
      subst h
      refine ⟨by simp [Act.put, tr.size], tr.defers, fun t u hu => ?_⟩
      rw [Tr.get_set] at hu
      simp only [Act.put]
      rw [Array.getD_eq_getD_getElem?]
      by_cases ht : t = d
      · subst ht
        rw [if_pos rfl] at hu
        injection hu with hu
        subst hu
        have : t < a.tmps.size := by rw [tr.size]; exact hlt
        simp [this]
        exact hv
      · rw [if_neg ht] at hu
        have := tr.val t u hu
        rw [Array.getD_eq_getD_getElem?] at this
        rw [Array.getElem?_setIfInBounds_ne (fun hh => ht hh.symm)]
        exact this
    · cases h
theorem stepR_scope {P : Program} {b : Frame} {a : Act} {k : List Item} {cs : List Frame} {w : World} {c : Code} : step P (lone (b.atR a (.code (.scope c) :: k)) cs w) = .next (lone (b.atR a (.code c :: .inScope c :: k)) cs w) :=
  step_lone_go (by simp [stepG, stepG.exec, Frame.atR])
theorem stepR_inScope {P : Program} {b : Frame} {a : Act} {k : List Item} {cs : List Frame} {w : World} {c : Code} : step P (lone (b.atR a (.inScope c :: k)) cs w) = .next (lone (b.atR a k) cs w) :=
  step_lone_go (by simp [stepG, stepG.exec, Frame.atR])
theorem wpIn_scope_straight {F : Fence} {n : Nat} {P : Program} {Q : Exit → Act → World → Prop} {a : Act} {w : World} {c : Code} (h : c.wpIn F n P (Exit.noGoto Q) a w) : (Code.scope c).wpIn F n P Q a w := by
  intro b k cs hro hb hr
  have h0 : (lone (b.atR a (.code (.scope c) :: k)) cs w).fenced P F := fenced_calm hb hr rfl
  obtain ⟨e, a₁, w₁, hq, harr⟩ := h b (.inScope c :: k) cs hro hb hr
  cases e with
  | normal => exact ⟨.normal, a₁, w₁, hq, .head h0 stepR_scope (StepsIn.trans harr (.one (fenced_calm hb hr rfl) stepR_inScope))⟩
  | exit id =>
    have hx : exitTo id (.inScope c :: k) = exitTo id k := by simp [exitTo]
    exact ⟨.exit id, a₁, w₁, hq, fun k' hk => .head h0 stepR_scope (harr.1 k' (by rw [hx]; exact hk)),
      fun hr' hk => let ⟨k₁, h1, h2⟩ := harr.2 hr' (by rw [hx]; exact hk); ⟨k₁, h1, .head h0 stepR_scope h2⟩⟩
  | goto l => exact hq.elim
  | ret => exact ⟨_, a₁, w₁, hq, .of_steps (.one h0 stepR_scope) harr⟩
  | panic ch => exact ⟨_, a₁, w₁, hq, .of_steps (.one h0 stepR_scope) harr⟩
  | outgrown => exact ⟨_, a₁, w₁, hq, .of_steps (.one h0 stepR_scope) harr⟩
def Mk (B : Nat) (m : Emb) (w : World) : List ADef → List Deferred → Prop
  | [], [] => True
  | .mark :: as, d :: ds => (∃ r, d = { target := .collected r, args := #[] } ∧ B ≤ r ∧ w.heap[r]? = some (.deferred (some [])) ∧ (∀ b e, m b = some e → e.live = true → e.c ≠ r) ∧ (∀ d', d' ∈ ds → d'.target ≠ .collected r)) ∧ Mk B m w as ds
  | .call f args :: as, d :: ds => (∃ xs' ys' : List Value, d = { target := .fn (.func f) ⟨ys'⟩, args := ⟨xs'⟩ } ∧ RVs m args (xs' ++ ys')) ∧ Mk B m w as ds
  | _, _ => False
theorem Mk.step {B : Nat} {m m' : Emb} {hp hp' : Hp} {w w' : World} (st : Step m hp w m' hp' w') : ∀ {as : List ADef} {ds : List Deferred}, Mk B m w as ds → Mk B m' w' as ds := by
  intro as
  induction as with
  | nil => intro ds h; cases ds with
    | nil => trivial
    | cons d ds => exact h.elim
  | cons x as ih =>
    intro ds h
    cases ds with
    | nil => cases x <;> exact h.elim
    | cons d ds =>
      cases x with
      | mark =>
        obtain ⟨⟨r, h1, h2, h3, h4, h5⟩, h6⟩ := h
        have hr : r < w.heap.size := (Array.getElem?_eq_some_iff.1 h3).1
        refine ⟨⟨r, h1, h2, (st.keep r hr (fun b e _ he hl => h4 b e he hl)).trans h3, fun b e he hl => ?_, h5⟩, ih h6⟩
        by_cases hb : b < hp'.nx
        · rcases st.rng b e hb he hl with ⟨b0, e0, k1, k2, k3, k4⟩ | k
          · rw [← k4]; exact h4 b0 e0 k2 k3
          · omega
        · rw [st.far b (by omega)] at he
          exact h4 b e he hl
      | call f args =>
        obtain ⟨⟨xs', ys', h1, h2⟩, h3⟩ := h
        exact ⟨⟨xs', ys', h1, h2.mono st.le⟩, ih h3⟩
theorem Mk.past {B r : Nat} {m : Emb} {w : World} {o : Obj} : ∀ {as : List ADef} {ds : List Deferred}, Mk B m w as ds → (∀ d', d' ∈ ds → d'.target ≠ .collected r) → Mk B m { w with heap := w.heap.setIfInBounds r o } as ds := by
  intro as
  induction as with
  | nil => intro ds h _; cases ds with
    | nil => trivial
    | cons d ds => exact h.elim
  | cons x as ih =>
    intro ds h hn
    cases ds with
    | nil => cases x <;> exact h.elim
    | cons d ds =>
      cases x with
      | mark =>
        obtain ⟨⟨r', h1, h2, h3, h4, h5⟩, h6⟩ := h
        have hne : r ≠ r' := fun hh => hn d List.mem_cons_self (by rw [h1, hh])
        exact ⟨⟨r', h1, h2, (Array.getElem?_setIfInBounds_ne hne).trans h3, h4, h5⟩, ih h6 (fun d' hd => hn d' (List.mem_cons_of_mem _ hd))⟩
      | call f args =>
        obtain ⟨h1, h3⟩ := h
        exact ⟨h1, ih h3 (fun d' hd => hn d' (List.mem_cons_of_mem _ hd))⟩
theorem Mk.lt {B : Nat} {m : Emb} {w : World} : ∀ {as : List ADef} {ds : List Deferred}, Mk B m w as ds → ∀ d, d ∈ ds → d.target ≠ .collected w.heap.size := by
  intro as
  induction as with
  | nil => intro ds h d hd; cases ds with
    | nil => cases hd
    | cons d ds => exact h.elim
  | cons x as ih =>
    intro ds h d' hd
    cases ds with
    | nil => cases hd
    | cons d ds =>
      cases x with
      | mark =>
        obtain ⟨⟨r, h1, h2, h3, h4, h5⟩, h6⟩ := h
        rcases List.mem_cons.1 hd with rfl | hd
        · have hr : r < w.heap.size := (Array.getElem?_eq_some_iff.1 h3).1
          rw [h1]
          intro hh
          injection hh with hh
          omega
        · exact ih h6 d' hd
      | call f args =>
        obtain ⟨⟨xs', ys', h1, h2⟩, h3⟩ := h
        rcases List.mem_cons.1 hd with rfl | hd
        · rw [h1]; intro hh; cases hh
        · exact ih h3 d' hd
theorem Mk.nil {B : Nat} {m : Emb} {w : World} {ds : List Deferred} (h : Mk B m w [] ds) : ds = [] := by
  cases ds with
  | nil => rfl
  | cons d ds => exact h.elim
def Rn (r0 ro : Option Nat) (m : Emb) : Prop := (r0 = none ∧ ro = none) ∨ ∃ b e, ro = some b ∧ m b = some e ∧ r0 = some e.c
theorem Rn.mono {r0 ro : Option Nat} {m m' : Emb} (h : Rn r0 ro m) (hm : m.le m') : Rn r0 ro m' := by
  rcases h with h | ⟨b, e, h1, h2, h3⟩
  · exact .inl h
  · obtain ⟨e', k1, k2, -⟩ := hm b e h2
    exact .inr ⟨b, e', h1, k1, by rw [h3, k2]⟩
structure FS (cx : Cx) (r0 ro : Option Nat) (B sz : Nat) (m : Emb) (fm : Fm) (hp : Hp) (w : World) (a : Act) : Prop where
  rn : Rn r0 ro m
  tr : TR m fm.tm a sz a.defers
  mks : Mk B m w fm.ds a.defers
  big : B ≤ w.heap.size
  inv : Inv m hp w.heap
  gw : GW cx m w
theorem FS.step {cx : Cx} {r0 ro : Option Nat} {B sz : Nat} {m m' : Emb} {fm : Fm} {tm' : Tr Value} {hp hp' : Hp} {w w' : World} {a a' : Act} (fs : FS cx r0 ro B sz m fm hp w a) (st : Step m hp w m' hp' w') (tr : TR m' tm' a' sz a.defers) : FS cx r0 ro B sz m' ⟨tm', fm.ds⟩ hp' w' a' :=
  ⟨fs.rn.mono st.le, by rw [tr.defers]; exact tr, by rw [tr.defers]; exact fs.mks.step st, Nat.le_trans fs.big st.size, st.inv, fs.gw.step st⟩
theorem loop_rec {m : Emb} {hp : Hp} {h : Array Obj} (inv : Inv m hp h) {b : Nat} {e : Ent} (he : m b = some e) {l : ALoop} (hl : loopOb hp b = some l) :
    e.live = true ∧ e.op = none ∧ ∃ fn tmps df, h[e.c]? = some (.loop { state := l.st, pending := pendC l.pend, fn := fn, tmps := tmps, params := ⟨l.ps⟩, assign := l.assign, body := l.body, defers := df }) ∧
      tmps.size = l.sz ∧ ∀ t v, l.tm.get t = some v → RV m v (tmps.getD t undef) := by
  obtain ⟨h1, h2, fn, tmps, df, h3⟩ := inv.obj b e _ he (loopOb_get hl) (by simp)
  exact ⟨h1, h2, fn, tmps, df, h3⟩
theorem step_loop {m : Emb} {hp : Hp} {w : World} (inv : Inv m hp w.heap) {b : Nat} {e : Ent} (he : m b = some e) {l : ALoop} (hl : loopOb hp b = some l) (st : LoopState) (pend : Option JX) {r : Loop} (hr : w.heap[e.c]? = some (.loop r)) :
    Step m hp w m (loopSet hp b { l with st := st, pend := pend }) (w.putObj e.c (.loop { r with state := st, pending := pendC pend })) := by
  obtain ⟨h1, h2, fn, tmps, df, h3, h4, h5⟩ := loop_rec inv he hl
  rw [hr] at h3
  injection h3 with h3
  injection h3 with h3
  subst h3
  refine step_put inv he (loopOb_get hl) (by simp) ⟨h2, fn, tmps, df, ?_, h4, h5⟩
  have := inv.low b e he
  simp [this]
theorem run_enterLoop_inner {P : Program} {w : World} {l : Nat} {r : Loop} (h : w.heap[l]? = some (.loop r)) (fn : FuncId) (tmps : Array Value) (ps : Array Tmp) (assign body : Code) :
    (Instr.enterLoop fn tmps ps assign body (some l)).run P w =
      .ok (w.heap.size, []) (w.alloc (.loop { state := .ready, pending := none, fn, tmps, params := ps, assign, body, defers := r.defers })) := by
  unfold Instr.enterLoop
  simp only [Sem.run_bind, run_getLoop h, run_newObj_alloc, Result.andThen, Sem.run_pure, World.size_alloc]
theorem enter_ok {P : Program} {cx : Cx} {r0 ro : Option Nat} {B sz : Nat} {m : Emb} {fm : Fm} {hp : Hp} {w : World} {a : Act} (fs : FS cx r0 ro B sz m fm hp w a) (hro : roOk hp ro = true) (hf : m hp.nx = none) (fn : FuncId) (ps : Array Tmp) (assign body : Code) :
    ∃ l mark w1, (Instr.enterLoop fn a.tmps ps assign body r0).run P w = .ok (l, mark) w1 ∧
      Step m hp w (m.put hp.nx ⟨l, 0, none, true⟩) (loopNew hp { st := .ready, pend := none, tm := fm.tm, sz := sz, ps := ps.toList, assign := assign, body := body }) w1 ∧
      Mk B (m.put hp.nx ⟨l, 0, none, true⟩) w1 (markA ro fm.ds) (mark ++ a.defers) := by
  rcases fs.rn with ⟨rfl, rfl⟩ | ⟨b, e, rfl, he, rfl⟩
  · have s1 := step_push (w := w) fs.inv (.deferred (some []))
    refine ⟨_, _, _, run_enterLoop_outer fn a.tmps ps assign body, ?_, ?_⟩
    · have hsz : w.heap.size + 1 = (w.alloc (.deferred (some []))).heap.size := by simp
      rw [hsz]
      refine s1.trans (step_newloop s1.inv hf ⟨rfl, fn, a.tmps, w.heap.size, by rw [getD_push_size]; rfl, fs.tr.size, fs.tr.val⟩)
    · have hsz : w.heap.size + 1 = (w.alloc (.deferred (some []))).heap.size := by simp
      have s2 : Step m hp w (m.put hp.nx ⟨w.heap.size + 1, 0, none, true⟩) (loopNew hp { st := .ready, pend := none, tm := fm.tm, sz := sz, ps := ps.toList, assign := assign, body := body }) ((w.alloc (.deferred (some []))).alloc (.loop { state := .ready, pending := none, fn := fn, tmps := a.tmps, params := ps, assign := assign, body := body, defers := w.heap.size })) := by
        rw [hsz]
        exact s1.trans (step_newloop s1.inv hf ⟨rfl, fn, a.tmps, w.heap.size, by rw [getD_push_size]; rfl, fs.tr.size, fs.tr.val⟩)
      refine ⟨⟨w.heap.size, rfl, fs.big, ?_, fun b e he hl => ?_, fs.mks.lt⟩, fs.mks.step s2⟩
      · show ((w.heap.push (.deferred (some []))).push _)[w.heap.size]? = _
        rw [get_push_lt (by simp), getD_push_size]
      · by_cases hb : b = hp.nx
        · subst hb
          rw [Emb.put_same] at he
          injection he with he
          subst he
          exact Nat.succ_ne_self _
        · rw [Emb.put_other _ _ hb] at he
          have := fs.inv.low b e he
          omega
  · obtain ⟨lp, hlp⟩ : ∃ lp, loopOb hp b = some lp := by
      unfold roOk at hro
      simp only at hro
      split at hro
      · rename_i lp h; exact ⟨lp, h⟩
      · cases hro
    obtain ⟨h1, h2, fn', tmps, df, h3, -⟩ := loop_rec fs.inv he hlp
    have s2 := step_newloop (w := w) fs.inv hf (l := { st := .ready, pend := none, tm := fm.tm, sz := sz, ps := ps.toList, assign := assign, body := body })
      (o := .loop { state := .ready, pending := none, fn := fn, tmps := a.tmps, params := ps, assign := assign, body := body, defers := df }) ⟨rfl, fn, a.tmps, df, by rw [getD_push_size]; rfl, fs.tr.size, fs.tr.val⟩
    exact ⟨_, _, _, run_enterLoop_inner h3 fn a.tmps ps assign body, s2, fs.mks.step s2⟩
def ExR (m : Emb) : AX → Exit → Prop
  | .normal, e => e = .normal
  | .exit id, e => e = .exit id
  | .ret, e => e = .ret
  | .pan v, e => ∃ v', e = .panic [{ v := v', recovered := false }] ∧ RV m v v'
theorem dferA_cons (x : Oper) (l : List Oper) : dferA (x :: l) = match l with
      | [] => match x.op, x.guard with
        | .defer c, none => some ([], x, c)
        | _, _ => none
      | _ :: _ => match dferA l with
        | some (i, o', c) => some (x :: i, o', c)
        | none => none := rfl
theorem dferA_parts : ∀ {ops init : List Oper} {o : Oper} {c : Call}, dferA ops = some (init, o, c) → ops = init ++ [o] ∧ o.op = .defer c ∧ o.guard = none := by
  intro ops
  induction ops with
  | nil => intro init o c h; cases h
  | cons x l ih =>
    intro init o c h
    rw [dferA_cons] at h
    split at h
    · split at h
      · rename_i c' h1 h2
        injection h with h
        injection h with e1 h
        injection h with e2 e3
        subst e1 e2 e3
        exact ⟨rfl, h1, h2⟩
      · cases h
    · split at h
      · rename_i i o' c' hi
        injection h with h
        injection h with e1 h
        injection h with e2 e3
        subst e1 e2 e3
        obtain ⟨h1, h2, h3⟩ := ih hi
        exact ⟨by rw [h1]; rfl, h2, h3⟩
      · cases h
section
variable {r0 : Option Nat} {P : Program} {cx : Cx} (ok : CxOk P cx) (hext : ExtOk P cx) {call : CallF} (hcall : CallOk P cx call) (hg : GrowOk call)
include ok hext hcall hg
omit hg in
theorem evOper_ok {m : Emb} {tm : Tr Value} {hp : Hp} {w : World} {a : Act} {sz : Nat} {ds : List Deferred} (tr : TR m tm a sz ds) (inv : Inv m hp w.heap) (gw : GW cx m w) {ops : Array Oper} {o : Oper} {l : List TSR} (hf : ∀ r, r ∈ l → Fresh m hp.nx r.hp.nx) (h : evOper cx call sz ops.toList o tm hp = some l)
    {K : Act → World → Prop} {Q : Exit → Act → World → Prop} (hk : ∀ tm' hp', TSR.ok tm' hp' ∈ l → ∀ m' w' a', Step m hp w m' hp' w' → TR m' tm' a' sz ds → K a' w')
    (hpn : ∀ v tm' hp', TSR.pan v tm' hp' ∈ l → ∀ m' w' v', Step m hp w m' hp' w' → TR m' tm' a sz ds → RV m' v v' → Q (.panic [{ v := v', recovered := false }]) a w') :
    if Region.wanted o (yielded ops a.tmps) = true then o.wpIn (Fw r0) 0 P a w K Q else K (a.put o.dst undef) w := by
  rcases evOper_parts h with ⟨h1, tm', h2, rfl⟩ | ⟨h1, l0, h2, h3, h4, -, h5⟩
  · rw [wantA_ok gw.as tr h1, if_neg (by simp)]
    exact hk tm' hp (List.mem_singleton.2 rfl) m w _ (.refl inv) (putA_ok tr (undef_rv m) h2)
  · rw [wantA_ok gw.as tr h1, if_pos rfl]
    refine evOp_ok ok hext hcall tr inv gw (fun q hq => ?_) h2 (fun v hp' hm m' w' v' st rv => ?_) (fun v hp' hm m' w' v' st rv => ?_)
    · obtain ⟨r, k1, k2⟩ := h5 q hq
      rw [← k2]; exact hf r k1
    · obtain ⟨tm', k1, k2⟩ := h3 v hp' hm
      exact hk tm' hp' k2 m' w' _ st (putA_ok (tr.mono st.le) rv k1)
    · exact hpn v tm hp' (h4 v hp' hm) m' w' v' st (tr.mono st.le) rv
theorem evOps_ok {sz : Nat} {ds : List Deferred} {ops : Array Oper} {rest : List Oper} {Q : Exit → Act → World → Prop} : ∀ (l : List Oper) (m : Emb) (tm : Tr Value) (hp : Hp) (w : World) (a : Act) (out : List TSR), TR m tm a sz ds → Inv m hp w.heap → GW cx m w → (∀ r, r ∈ out → Fresh m hp.nx r.hp.nx) →
    evOps cx call sz ops.toList l tm hp = some out → (∀ tm' hp', TSR.ok tm' hp' ∈ out → ∀ m' w' a', Step m hp w m' hp' w' → TR m' tm' a' sz ds → wpListIn (Fw r0) 0 P ops Q rest a' w') →
    (∀ v tm' hp', TSR.pan v tm' hp' ∈ out → ∀ m' w' a' v', Step m hp w m' hp' w' → TR m' tm' a' sz ds → RV m' v v' → Q (.panic [{ v := v', recovered := false }]) a' w') → wpListIn (Fw r0) 0 P ops Q (l ++ rest) a w := by
  intro l
  induction l with
  | nil =>
    intro m tm hp w a out tr inv gw hf h hq hpn
    have h : some [TSR.ok tm hp] = some out := h
    injection h with h
    subst h
    exact hq tm hp (List.mem_singleton.2 rfl) m w a (.refl inv) tr
  | cons o l ih =>
    intro m tm hp w a out tr inv gw hf h hq hpn
    rw [evOps_cons] at h
    obtain ⟨l0, h1, h2⟩ := bindL_mem h
    have key := evOper_ok (r0 := r0) ok hext hcall (K := wpListIn (Fw r0) 0 P ops Q (l ++ rest)) (Q := Q) tr inv gw (fun r hr => ?_) h1 (fun tm1 hp1 hm m1 w1 a1 st tr1 => ?_) (fun v tm1 hp1 hm m1 w1 v' st tr1 rv => ?_)
    · show wpListIn (Fw r0) 0 P ops Q (o :: (l ++ rest)) a w
      unfold wpListIn
      split
      · rename_i hw; rw [if_pos hw] at key; exact key
      · rename_i hw; rw [if_neg hw] at key; exact ⟨fun _ _ => trivial, key⟩
    · obtain ⟨ys, k1, k2, k3⟩ := h2 r hr
      cases r with
      | ok tm1 hp1 =>
        cases ys with
        | nil => exact absurd rfl k2
        | cons y ys =>
          have g := evOps_grow hg k1 y List.mem_cons_self
          exact (hf y (k3 y List.mem_cons_self)).sub (Nat.le_refl _) g.nx
      | pan v tm1 hp1 =>
        injection k1 with k1
        subst k1
        exact hf _ (k3 _ (List.mem_singleton.2 rfl))
    · obtain ⟨ys, k1, k2, k3⟩ := h2 _ hm
      exact ih m1 tm1 hp1 w1 a1 ys tr1 st.inv (gw.step st) (fun r hr => (hf r (k3 r hr)).step st) k1 (fun tm2 hp2 hm2 m2 w2 a2 st2 tr2 => hq tm2 hp2 (k3 _ hm2) m2 w2 a2 (st.trans st2) tr2)
        (fun v tm2 hp2 hm2 m2 w2 a2 v' st2 tr2 rv => hpn v tm2 hp2 (k3 _ hm2) m2 w2 a2 v' (st.trans st2) tr2 rv)
    · obtain ⟨ys, k1, k2, k3⟩ := h2 _ hm
      injection k1 with k1
      subst k1
      exact hpn v tm1 hp1 (k3 _ (List.mem_singleton.2 rfl)) m1 w1 a v' st tr1 rv
def DrawsOk (P : Program) (cx : Cx) (call : CallF) : Prop := ∀ (r0 : Option Nat) (sz id : Nat) (ds : List Deferred) (ops : Array Oper) (m : Emb) (tm tm' : Tr Value) (hp hp' : Hp) (w : World) (a : Act) (Q : Exit → Act → World → Prop), TR m tm a sz ds → Inv m hp w.heap → GW cx m w → Fresh m hp.nx hp'.nx →
  drawOk ops.toList = true → evDraw cx call sz ops.toList (befA ops.toList []) ops.toList tm hp [] = some (tm', hp') → (∀ m' w' a', Step m hp w m' hp' w' → TR m' tm' a' sz ds → Q .normal a' w') → (Code.region id ops true).wpIn (Fw r0) 0 P Q a w
theorem evDefer_ok {m : Emb} {tm : Tr Value} {a : Act} {sz : Nat} {ds : List Deferred} (tr : TR m tm a sz ds) {c : Call} {d : ADef} (h : evDefer cx tm c = some d) (ty : TypeId) (w : World) :
    ∃ f args d', d = .call f args ∧ (resolve a.eval c ty).run P w = .ok d' w ∧ ∃ xs' ys' : List Value, d' = { target := .fn (.func f) ⟨ys'⟩, args := ⟨xs'⟩ } ∧ RVs m args (xs' ++ ys') := by
  unfold evDefer at h
  split at h
  · cases h
  · rename_i args hargs
    have hargs := evXs_ok tr hargs
    have hmap : c.args.map a.eval = ⟨c.args.toList.map a.eval⟩ := Array.ext' (by simp)
    split at h
    · rename_i f hfc
      split at h
      · rename_i g first captured hfv
        injection h with h
        subst h
        obtain ⟨xs⟩ := first
        obtain ⟨ys⟩ := captured
        obtain ⟨xs', ys', hfe, hxs, hys⟩ := (evX_ok tr hfv).func_iff rfl
        refine ⟨g, _, { target := .fn (.func g) ⟨ys'⟩, args := ⟨xs'⟩ ++ c.args.map a.eval }, rfl, ?_, xs' ++ c.args.toList.map a.eval, ys', ?_, ?_⟩
        · simp only [resolve, hfc, hfe, Deferred.ofValue, Sem.run_pure]
        · rw [hmap]; simp
        · exact (hxs.append hargs).append hys
      · cases h
    · cases h
theorem iter_ok {c : Code} {body : Fm → Hp → CS} {ro : Option Nat} {B sz : Nat} (hbg : ∀ fm hp l, body fm hp = some l → ∀ o, o ∈ l → Grow hp o.2.2)
    (hb : ∀ (m : Emb) (fm : Fm) (hp : Hp) (w : World) (a : Act) (l : List (AX × Fm × Hp)) (Q : Exit → Act → World → Prop), FS cx r0 ro B sz m fm hp w a → (∀ o, o ∈ l → Fresh m hp.nx o.2.2.nx) → body fm hp = some l →
      (∀ o, o ∈ l → ∀ m' w' a' e, Step m hp w m' o.2.2 w' → FS cx r0 ro B sz m' o.2.1 o.2.2 w' a' → ExR m' o.1 e → Q e a' w') → c.wpIn (Fw r0) 0 P Q a w) :
    ∀ (n : Nat) (m : Emb) (fm : Fm) (hp : Hp) (w : World) (a : Act) (l : List (AX × Fm × Hp)) (Q : Exit → Act → World → Prop), FS cx r0 ro B sz m fm hp w a → (∀ o, o ∈ l → Fresh m hp.nx o.2.2.nx) → iter body n fm hp = some l →
      (∀ o, o ∈ l → ∀ m' w' a' e, Step m hp w m' o.2.2 w' → FS cx r0 ro B sz m' o.2.1 o.2.2 w' a' → ExR m' o.1 e → Q e a' w') → Code.roundsIn (Fw r0) 0 P c Q n a w := by
  intro n
  induction n with
  | zero => intro m fm hp w a l Q _ _ h; cases h
  | succ n ih =>
    intro m fm hp w a l Q fs hf h hq
    rw [iter_succ] at h
    rw [roundsIn_succ]
    obtain ⟨l0, h1, h2⟩ := bindL_mem h
    refine hb m fm hp w a l0 _ fs (fun o ho => ?_) h1 (fun o ho m1 w1 a1 e st fs1 hx => ?_)
    · obtain ⟨ys, k1, k2, k3⟩ := h2 o ho
      obtain ⟨x1, x2, x3⟩ := o
      cases ys with
      | nil => exact absurd rfl k2
      | cons y ys =>
        cases x1 with
        | normal => exact (hf y (k3 y List.mem_cons_self)).sub (Nat.le_refl _) (iter_grow hbg n x2 x3 _ k1 y List.mem_cons_self).nx
        | exit id => injection k1 with k1; injection k1 with k1 _; subst k1; exact hf _ (k3 _ List.mem_cons_self)
        | ret => injection k1 with k1; injection k1 with k1 _; subst k1; exact hf _ (k3 _ List.mem_cons_self)
        | pan v => injection k1 with k1; injection k1 with k1 _; subst k1; exact hf _ (k3 _ List.mem_cons_self)
    · obtain ⟨ys, k1, k2, k3⟩ := h2 o ho
      obtain ⟨x1, x2, x3⟩ := o
      cases x1 with
      | normal =>
        subst hx
        exact ih m1 x2 x3 w1 a1 ys Q fs1 (fun o ho => (hf o (k3 o ho)).step st) k1 (fun o ho m2 w2 a2 e st2 fs2 hx2 => hq o (k3 o ho) m2 w2 a2 e (st.trans st2) fs2 hx2)
      | exit id => subst hx; injection k1 with k1; subst k1; exact hq _ (k3 _ (List.mem_singleton.2 rfl)) m1 w1 a1 _ st fs1 rfl
      | ret => subst hx; injection k1 with k1; subst k1; exact hq _ (k3 _ (List.mem_singleton.2 rfl)) m1 w1 a1 _ st fs1 rfl
      | pan v => obtain ⟨v', rfl, hv⟩ := hx; injection k1 with k1; subst k1; exact hq _ (k3 _ (List.mem_singleton.2 rfl)) m1 w1 a1 _ st fs1 ⟨v', rfl, hv⟩
theorem evRange_ok {sz : Nat} {ro : Option Nat} {B : Nat} {g : Operand} {ps : Array Tmp} {assign body : Code} {m : Emb} {fm : Fm} {hp : Hp} {w : World} {a : Act} {l : List (AX × Fm × Hp)} {Q : Exit → Act → World → Prop}
    (fs : FS cx r0 ro B sz m fm hp w a) (hf : ∀ o, o ∈ l → Fresh m hp.nx o.2.2.nx) (h : evRange cx call sz ro g ps assign body fm hp = some l)
    (hq : ∀ o, o ∈ l → ∀ m' w' a' e, Step m hp w m' o.2.2 w' → FS cx r0 ro B sz m' o.2.1 o.2.2 w' a' → ExR m' o.1 e → Q e a' w') :
    (Code.rangeFunc g ps assign body).wpIn (Fw r0) 0 P Q a w := by
  obtain ⟨hro, f, first, captured, hgv, hx, h0⟩ := evRange_parts h
  obtain ⟨l0, hcl, h2⟩ := bindL_mem h0
  have hnx2 : ∀ q, q ∈ l0 → hp.nx < q.2.nx ∧ Fresh m hp.nx q.2.nx := fun q hq => by
    have g1 := (hg _ _ _ _ hcl q hq).nx
    simp only [loopNew] at g1
    refine ⟨by omega, ?_⟩
    obtain ⟨ys, k1, k2, k3⟩ := h2 q hq
    rcases rangeEnd_parts k1 with ⟨v, hp2, lp, rfl, -, -, rfl⟩ | ⟨v, hp2, rfl, rfl⟩
    · exact hf _ (k3 _ (List.mem_singleton.2 rfl))
    · exact hf _ (k3 _ (List.mem_singleton.2 rfl))
  obtain ⟨q0, hq0⟩ := bindL_ne h0 hcl
  refine wpIn_rangeFunc (fun fn _ => ?_)
  obtain ⟨lb, mark, w1, he, s1, mk1⟩ := enter_ok (P := P) fs hro ((hnx2 q0 hq0).2 hp.nx (Nat.le_refl _) (hnx2 q0 hq0).1) fn ps assign body
  obtain ⟨xs⟩ := first
  obtain ⟨ys⟩ := captured
  obtain ⟨xs', ys', hge, hxs, hys⟩ := (evX_ok fs.tr hgv).func_iff rfl
  have hyl : RV (m.put hp.nx ⟨lb, 0, none, true⟩) (.func (.yield hp.nx) ⟨[]⟩ ⟨[]⟩) (.func (.yield lb) ⟨[]⟩ ⟨[]⟩) := .yield _ _ ⟨_, Emb.put_same _ _ _, rfl⟩
  have hall := ((hxs.mono s1.le).append (RVs.cons hyl (RVs.nil _))).append (hys.mono s1.le)
  obtain ⟨c1, c2⟩ := hcall _ _ _ _ hcl _ _ w1 (fs.gw.step s1) s1.inv hall (fun q hq => (hnx2 q hq).2.step s1)
  refine ⟨lb, mark, w1, { target := .fn (.func f) ⟨ys'⟩, args := ⟨xs'⟩ ++ #[.func (.yield lb) #[] #[]] }, w1, f, ⟨xs' ++ [.func (.yield lb) ⟨[]⟩ ⟨[]⟩] ++ ys'⟩, w1, he, ?_, fun _ _ => trivial, ?_, (fun h => by cases h), Fw_calls (r := r0) ?_⟩
  · have hge' : a.eval g = .func (.func f) ⟨xs'⟩ ⟨ys'⟩ := hge
    have hmm : Array.map a.eval #[Operand.const (Value.func (Fn.yield lb) #[] #[])] = #[Value.func (Fn.yield lb) #[] #[]] := by simp [Act.eval]
    simp only [rangeCall, resolve, Deferred.ofValue, hmm, hge', Sem.run_pure]
  · simp only [invoke, c1]
    simp
  · refine c2.mono fun e w' hh => ?_
    obtain ⟨r, hp2, hm, m2, s2, hr⟩ := hh
    obtain ⟨ys, k1, k2, k3⟩ := h2 _ hm
    have hmk := mk1.step s2
    rcases hr with ⟨v, v', rfl, rfl, -⟩ | ⟨v, v', rfl, rfl, hv⟩
    · rcases rangeEnd_parts k1 with ⟨u, hp3, lp, he1, hlp, hst, rfl⟩ | ⟨u, hp3, he1, -⟩
      · injection he1 with e1 e2
        subst e2
        obtain ⟨e2, q1, q2, -⟩ := s2.le hp.nx _ (Emb.put_same _ _ _)
        obtain ⟨-, -, fn', tmps, df, r1, r2, r3⟩ := loop_rec s2.inv q1 hlp
        have s3 := step_loop (w := w') s2.inv q1 hlp .exhausted lp.pend r1
        have hrun := run_endLoop (P := P) r1 hst
        have hk2 : e2.c = lb := q2
        rw [hk2] at hrun s3
        have s4 := step_kill (w := w'.putObj lb (.loop { state := .exhausted, pending := pendC lp.pend, fn := fn', tmps := tmps, params := ⟨lp.ps⟩, assign := lp.assign, body := lp.body, defers := df })) s3.inv (b := hp.nx) (hnx2 _ hm).1
        have st := ((s1.trans s2).trans s3).trans s4
        have hfs : FS cx r0 ro B sz (m2.kill hp.nx) ⟨fm.tm, markA ro fm.ds⟩ (killA (loopSet hp2 hp.nx { lp with st := .exhausted }) hp.nx) (w'.putObj lb (.loop { state := .exhausted, pending := pendC lp.pend, fn := fn', tmps := tmps, params := ⟨lp.ps⟩, assign := lp.assign, body := lp.body, defers := df })) { a with defers := mark ++ a.defers } :=
          ⟨fs.rn.mono st.le, ⟨fs.tr.size, rfl, fun t v hv => (fs.tr.val t v hv).mono st.le⟩, (hmk.step s3).step s4, Nat.le_trans fs.big st.size, s4.inv, fs.gw.step st⟩
        have key := fun e hx => hq _ (k3 _ (List.mem_singleton.2 rfl)) _ _ _ e st hfs hx
        refine ⟨_, _, hrun, ?_⟩
        cases hpd : lp.pend with
        | none => simp only [hpd, jumpA] at key; simpa [hpd, pendC] using key _ rfl
        | some j =>
          cases j with
          | ret => simp only [hpd, jumpA] at key; simpa [hpd, pendC] using wpIn_ret (key _ rfl)
          | exit id => simp only [hpd, jumpA] at key; simpa [hpd, pendC] using wpIn_exit (key _ rfl)
      · injection he1 with e1 _; cases e1
    · rcases rangeEnd_parts k1 with ⟨u, hp3, lp, he1, hlp, hst, rfl⟩ | ⟨u, hp3, he1, rfl⟩
      · injection he1 with e1 _; cases e1
      · injection he1 with e1 e2
        injection e1 with e1
        subst e1 e2
        have st := s1.trans s2
        have hfs : FS cx r0 ro B sz m2 ⟨fm.tm, markA ro fm.ds⟩ hp2 w' { a with defers := mark ++ a.defers } :=
          ⟨fs.rn.mono st.le, ⟨fs.tr.size, rfl, fun t v hv => (fs.tr.val t v hv).mono st.le⟩, hmk, Nat.le_trans fs.big st.size, s2.inv, fs.gw.step st⟩
        exact hq _ (k3 _ (List.mem_singleton.2 rfl)) m2 _ _ _ st hfs ⟨v', rfl, hv⟩
theorem evRegion_ok {sz id : Nat} {ro : Option Nat} {B : Nat} {ops : Array Oper} {m : Emb} {fm : Fm} {hp : Hp} {w : World} {a : Act} {l : List (AX × Fm × Hp)} {Q : Exit → Act → World → Prop}
    (fs : FS cx r0 ro B sz m fm hp w a) (hf : ∀ o, o ∈ l → Fresh m hp.nx o.2.2.nx) (h : evRegion cx call sz ro ops.toList fm hp = some l)
    (hq : ∀ o, o ∈ l → ∀ m' w' a' e, Step m hp w m' o.2.2 w' → FS cx r0 ro B sz m' o.2.1 o.2.2 w' a' → ExR m' o.1 e → Q e a' w') :
    (Code.region id ops false).wpIn (Fw r0) 0 P Q a w := by
  refine wpIn_region_list ?_
  rcases evRegion_parts h with h | ⟨init, o, c, hd, hro, h⟩
  · obtain ⟨l0, h1, h2⟩ := bindL_mem h
    have key := evOps_ok (r0 := r0) (rest := []) (Q := Q) ok hext hcall hg ops.toList m fm.tm hp w a l0 fs.tr fs.inv fs.gw (fun r hr => ?_) h1 (fun tm' hp' hm m' w' a' st tr => ?_) (fun v tm' hp' hm m' w' a' v' st tr rv => ?_)
    · simpa using key
    · obtain ⟨ys, k1, k2, k3⟩ := h2 r hr
      rcases plainEnd_parts k1 with ⟨tm', hp', rfl, rfl⟩ | ⟨v, tm', hp', rfl, rfl⟩
      · exact hf _ (k3 _ (List.mem_singleton.2 rfl))
      · exact hf _ (k3 _ (List.mem_singleton.2 rfl))
    · obtain ⟨ys, k1, k2, k3⟩ := h2 _ hm
      injection k1 with k1
      subst k1
      exact hq _ (k3 _ (List.mem_singleton.2 rfl)) m' w' a' _ st (fs.step st tr) rfl
    · obtain ⟨ys, k1, k2, k3⟩ := h2 _ hm
      injection k1 with k1
      subst k1
      exact hq _ (k3 _ (List.mem_singleton.2 rfl)) m' w' a' _ st (fs.step st tr) ⟨v', rfl, rv⟩
  · obtain ⟨d1, d2, d3⟩ := dferA_parts hd
    obtain ⟨l0, h1, h2⟩ := bindL_mem h
    have hr0 : r0 = none := by
      rcases fs.rn with ⟨e, -⟩ | ⟨b, e, e1, -⟩
      · exact e
      · rw [hro] at e1; cases e1
    rw [d1] at h1 ⊢
    have d1' : (init ++ [o]) = ops.toList := d1.symm
    rw [d1'] at h1
    refine evOps_ok (r0 := r0) (rest := [o]) (Q := Q) ok hext hcall hg init m fm.tm hp w a l0 fs.tr fs.inv fs.gw (fun r hr => ?_) h1 (fun tm' hp' hm m' w' a' st tr => ?_) (fun v tm' hp' hm m' w' a' v' st tr rv => ?_)
    · obtain ⟨ys, k1, k2, k3⟩ := h2 r hr
      rcases deferEnd_parts k1 with ⟨tm', hp', d, tm2, rfl, -, -, rfl⟩ | ⟨v, tm', hp', rfl, rfl⟩
      · exact hf _ (k3 _ (List.mem_singleton.2 rfl))
      · exact hf _ (k3 _ (List.mem_singleton.2 rfl))
    · obtain ⟨ys, k1, k2, k3⟩ := h2 _ hm
      rcases deferEnd_parts k1 with ⟨tm0, hp0, d, tm2, he, hd1, hput, rfl⟩ | ⟨v, tm0, hp0, he, rfl⟩
      · injection he with e1 e2
        subst e1 e2
        obtain ⟨f, args, d', rfl, hres, xs', ys', hd', hrv⟩ := evDefer_ok (P := P) ok hext hcall hg tr hd1 o.type w'
        unfold wpListIn
        have hw : Region.wanted o (yielded ops a'.tmps) = true := by simp [Region.wanted, d3]
        rw [if_pos hw]
        refine ⟨fun _ _ => trivial, ?_⟩
        subst hr0
        have hrun : (o.semAt none a'.eval).run P w' = .ok (.defer d') w' := by
          simp only [Oper.semAt_none, execOp, d2, Sem.run_bind, hres, Result.andThen_ok, Sem.run_pure]
        show o.uponIn (Fw none) 0 P a' (wpListIn (Fw none) 0 P ops Q []) Q ((o.semAt none a'.eval).run P w')
        rw [hrun]
        show wpListIn (Fw none) 0 P ops Q [] ({ a' with defers := d' :: a'.defers }.put o.dst undef) w'
        have tr2 : TR m' tm2 ({ a' with defers := d' :: a'.defers }.put o.dst undef) sz (d' :: a.defers) :=
          putA_ok (a := { a' with defers := d' :: a'.defers }) ⟨tr.size, by rw [tr.defers], tr.val⟩ (undef_rv m') hput
        refine hq _ (k3 _ (List.mem_singleton.2 rfl)) m' w' _ _ st ⟨fs.rn.mono st.le, ?_, ?_, Nat.le_trans fs.big st.size, st.inv, fs.gw.step st⟩ rfl
        · rw [tr2.defers]; exact tr2
        · rw [tr2.defers]; exact ⟨⟨xs', ys', hd', hrv⟩, fs.mks.step st⟩
      · cases he
    · obtain ⟨ys, k1, k2, k3⟩ := h2 _ hm
      rcases deferEnd_parts k1 with ⟨tm0, hp0, d, tm2, he, hd1, hput, rfl⟩ | ⟨v0, tm0, hp0, he, rfl⟩
      · cases he
      · injection he with e1 e2 e3
        subst e1 e2 e3
        exact hq _ (k3 _ (List.mem_singleton.2 rfl)) m' w' a' _ st (fs.step st tr) ⟨v', rfl, rv⟩
theorem evCode_ok (hdraw : DrawsOk P cx call) {sz n : Nat} {ro : Option Nat} {B : Nat} : ∀ (c : Code) (m : Emb) (fm : Fm) (hp : Hp) (w : World) (a : Act) (l : List (AX × Fm × Hp)) (Q : Exit → Act → World → Prop), FS cx r0 ro B sz m fm hp w a → (∀ o, o ∈ l → Fresh m hp.nx o.2.2.nx) →
    evCode cx call sz n ro c fm hp = some l → (∀ o, o ∈ l → ∀ m' w' a' e, Step m hp w m' o.2.2 w' → FS cx r0 ro B sz m' o.2.1 o.2.2 w' a' → ExR m' o.1 e → Q e a' w') → c.wpIn (Fw r0) 0 P Q a w := by
  intro c
  induction c with
  | skip =>
    intro m fm hp w a l Q fs hf h hq
    have h : some [(AX.normal, fm, hp)] = some l := h
    injection h with h
    subst h
    exact wpIn_skip (hq _ (List.mem_singleton.2 rfl) m w a _ (.refl fs.inv) fs rfl)
  | region id ops draw =>
    intro m fm hp w a l Q fs hf h hq
    rw [evCode_region] at h
    split at h
    · exact evRegion_ok ok hext hcall hg fs hf h hq
    · split at h
      · rename_i hd
        split at h
        · rename_i tm' hp' h1
          injection h with h
          subst h
          exact hdraw r0 sz id a.defers ops m fm.tm _ hp _ w a Q fs.tr fs.inv fs.gw (hf _ (List.mem_singleton.2 rfl)) hd h1 (fun m1 w1 a1 st tr1 => hq _ (List.mem_singleton.2 rfl) m1 w1 a1 _ st (fs.step st tr1) rfl)
        · cases h
      · cases h
  | seq c1 c2 ih1 ih2 =>
    intro m fm hp w a l Q fs hf h hq
    rw [evCode_seq] at h
    refine wpIn_seq ?_
    obtain ⟨l0, h1, h2⟩ := bindL_mem h
    refine ih1 m fm hp w a l0 _ fs (fun o ho => ?_) h1 (fun o ho m1 w1 a1 e st fs1 hx => ?_)
    · obtain ⟨ys, k1, k2, k3⟩ := h2 o ho
      obtain ⟨x1, x2, x3⟩ := o
      cases ys with
      | nil => exact absurd rfl k2
      | cons y ys =>
        cases x1 with
        | normal => exact (hf y (k3 y List.mem_cons_self)).sub (Nat.le_refl _) (evCode_grow hg _ _ _ _ k1 y List.mem_cons_self).nx
        | exit id => injection k1 with k1; injection k1 with k1 _; subst k1; exact hf _ (k3 _ List.mem_cons_self)
        | ret => injection k1 with k1; injection k1 with k1 _; subst k1; exact hf _ (k3 _ List.mem_cons_self)
        | pan v => injection k1 with k1; injection k1 with k1 _; subst k1; exact hf _ (k3 _ List.mem_cons_self)
    · obtain ⟨ys, k1, k2, k3⟩ := h2 o ho
      obtain ⟨x1, x2, x3⟩ := o
      cases x1 with
      | normal =>
        subst hx
        exact ih2 m1 x2 x3 w1 a1 ys Q fs1 (fun o ho => (hf o (k3 o ho)).step st) k1 (fun o ho m2 w2 a2 e st2 fs2 hx2 => hq o (k3 o ho) m2 w2 a2 e (st.trans st2) fs2 hx2)
      | exit id => subst hx; injection k1 with k1; subst k1; exact hq _ (k3 _ (List.mem_singleton.2 rfl)) m1 w1 a1 _ st fs1 rfl
      | ret => subst hx; injection k1 with k1; subst k1; exact hq _ (k3 _ (List.mem_singleton.2 rfl)) m1 w1 a1 _ st fs1 rfl
      | pan v => obtain ⟨v', rfl, hv⟩ := hx; injection k1 with k1; subst k1; exact hq _ (k3 _ (List.mem_singleton.2 rfl)) m1 w1 a1 _ st fs1 ⟨v', rfl, hv⟩
  | cond c c1 c2 ih1 ih2 =>
    intro m fm hp w a l Q fs hf h hq
    rw [evCode_cond] at h
    split at h
    case h_2 => cases h
    rename_i u hu
    split at h
    · rename_i hc
      exact wpIn_cond_true (boolA_ok fs.gw.as (evX_ok fs.tr hu) hc) (ih1 m fm hp w a l Q fs hf h hq)
    · rename_i hc
      exact wpIn_cond_false (boolA_ok fs.gw.as (evX_ok fs.tr hu) hc) (ih2 m fm hp w a l Q fs hf h hq)
    · cases h
  | block id c1 ih =>
    intro m fm hp w a l Q fs hf h hq
    rw [evCode_block] at h
    refine wpIn_block ?_
    obtain ⟨l0, h1, h2⟩ := bindL_mem h
    refine ih m fm hp w a l0 _ fs (fun o ho => ?_) h1 (fun o ho m1 w1 a1 e st fs1 hx => ?_)
    · obtain ⟨ys, k1, k2, k3⟩ := h2 o ho
      obtain ⟨x1, x2, x3⟩ := o
      cases x1 with
      | exit id' =>
        simp only at k1
        split at k1
        · injection k1 with k1; subst k1; exact hf (.normal, x2, x3) (k3 _ (List.mem_singleton.2 rfl))
        · injection k1 with k1; subst k1; exact hf (.exit id', x2, x3) (k3 _ (List.mem_singleton.2 rfl))
      | normal => injection k1 with k1; subst k1; exact hf _ (k3 _ (List.mem_singleton.2 rfl))
      | ret => injection k1 with k1; subst k1; exact hf _ (k3 _ (List.mem_singleton.2 rfl))
      | pan v => injection k1 with k1; subst k1; exact hf _ (k3 _ (List.mem_singleton.2 rfl))
    · obtain ⟨ys, k1, k2, k3⟩ := h2 o ho
      obtain ⟨x1, x2, x3⟩ := o
      cases x1 with
      | exit id' =>
        subst hx
        simp only at k1
        split at k1
        · rename_i hid
          have hid := Nat.eq_of_beq_eq_true hid
          injection k1 with k1
          subst k1
          simp only [Exit.inBlock, hid, if_true]
          exact hq _ (k3 _ (List.mem_singleton.2 rfl)) m1 w1 a1 _ st fs1 rfl
        · rename_i hid
          have hid := Nat.ne_of_beq_eq_false hid
          injection k1 with k1
          subst k1
          simp only [Exit.inBlock, if_neg hid]
          exact hq _ (k3 _ (List.mem_singleton.2 rfl)) m1 w1 a1 _ st fs1 rfl
      | normal => subst hx; injection k1 with k1; subst k1; exact hq _ (k3 _ (List.mem_singleton.2 rfl)) m1 w1 a1 _ st fs1 rfl
      | ret => subst hx; injection k1 with k1; subst k1; exact hq _ (k3 _ (List.mem_singleton.2 rfl)) m1 w1 a1 _ st fs1 rfl
      | pan v => obtain ⟨v', rfl, hv⟩ := hx; injection k1 with k1; subst k1; exact hq _ (k3 _ (List.mem_singleton.2 rfl)) m1 w1 a1 _ st fs1 ⟨v', rfl, hv⟩
  | loop c1 ih =>
    intro m fm hp w a l Q fs hf h hq
    exact wpIn_loop_rounds n (iter_ok (r0 := r0) ok hext hcall hg (fun fm hp l h => evCode_grow hg _ _ _ _ h) (fun m fm hp w a l Q fs hf h hq => ih m fm hp w a l Q fs hf h hq) n m fm hp w a l Q fs hf h hq)
  | rangeFunc g ps ca cb iha ihb => intro m fm hp w a l Q fs hf h hq; exact evRange_ok ok hext hcall hg fs hf h hq
  | exit id =>
    intro m fm hp w a l Q fs hf h hq
    have h : some [(AX.exit id, fm, hp)] = some l := h
    injection h with h
    subst h
    exact wpIn_exit (hq _ (List.mem_singleton.2 rfl) m w a _ (.refl fs.inv) fs rfl)
  | scope c1 ih =>
    intro m fm hp w a l Q fs hf h hq
    refine wpIn_scope_straight (ih m fm hp w a l _ fs hf h (fun o ho m1 w1 a1 e st fs1 hx => ?_))
    have := hq o ho m1 w1 a1 e st fs1 hx
    obtain ⟨x1, x2, x3⟩ := o
    cases x1 with
    | normal => subst hx; exact this
    | exit id => subst hx; exact this
    | ret => subst hx; exact this
    | pan v => obtain ⟨v', rfl, hv⟩ := hx; exact this
  | label lb =>
    intro m fm hp w a l Q fs hf h hq
    have h : some [(AX.normal, fm, hp)] = some l := h
    injection h with h
    subst h
    exact wpIn_label (hq _ (List.mem_singleton.2 rfl) m w a _ (.refl fs.inv) fs rfl)
  | goto lb => intro m fm hp w a l Q fs hf h hq; cases h
  | ret =>
    intro m fm hp w a l Q fs hf h hq
    have h : some [(AX.ret, fm, hp)] = some l := h
    injection h with h
    subst h
    exact wpIn_ret (hq _ (List.mem_singleton.2 rfl) m w a _ (.refl fs.inv) fs rfl)
  | refuse msg => intro m fm hp w a l Q fs hf h hq; cases h
end
end Go.Proofs.YtaepplhgeeaidaaDoor.Ev
