/- Regions in the order of the text, code, calls: what the reckoner says of them, the model says. -/
import Derived.Test.YtcehoogppaadgabGreatDoorEvP
import Derived.LoopN
import Derived.Scope
import Derived.RangeFuncRecord
set_option linter.unusedVariables false
set_option linter.unusedSimpArgs false
set_option linter.unusedSectionVars false
namespace Go.Proofs.YtcehoogppaadgabGreatDoor.Ev
open Go Go.RowKit

theorem getD_of {a : Act} {d : Nat} {v : Value} (h : a.tmps.getD d undef = v) (hv : v ≠ undef) : a.tmps[d]? = some v := by
  rw [Array.getD_eq_getD_getElem?] at h
  cases hh : a.tmps[d]? with
  | none => rw [hh] at h; exact absurd h.symm hv
  | some u => rw [hh] at h; simpa using h

theorem wantA_ok {m : Emb} {tm : Tr Value} {a : Act} {sz : Nat} {ds : List Deferred} (tr : TR m tm a sz ds) {ops : Array Oper} {o : Oper} {b : Bool} (h : wantA ops.toList tm o.guard = some b) : Region.wanted o (yielded ops a.tmps) = b := by
  unfold wantA at h
  unfold Region.wanted
  split at h
  · rename_i hg
    injection h with h
    rw [hg]
    exact h
  · rename_i j want hg
    rw [hg]
    split at h
    · cases h
    · rename_i o' ho'
      have ho' : ops[j]? = some o' := by simpa using ho'
      split at h
      · cases h
      · rename_i d hd
        split at h
        · rename_i c hc
          injection h with h
          have hv := (tr.val d _ hc).flat_iff rfl
          have hget := getD_of hv (by simp [undef])
          show (yielded ops a.tmps j == some want) = b
          rw [← h]
          simp [yielded, ho', hd, hget]
        · rename_i hc
          injection h with h
          subst h
          obtain ⟨xs, hv, hxs⟩ := (tr.val d _ hc).tuple_iff
          obtain rfl := hxs.nil_left
          show (yielded ops a.tmps j == some want) = false
          have : yielded ops a.tmps j = none := by
            rw [Array.getD_eq_getD_getElem?] at hv
            cases hh : a.tmps[d]? with
            | none => simp [yielded, ho', hd, hh]
            | some u =>
              rw [hh] at hv
              have : u = .tuple ⟨[]⟩ := by simpa using hv
              subst this
              simp [yielded, ho', hd, hh]
          rw [this]
          rfl
        · cases h

theorem putA_ok {m : Emb} {tm tm' : Tr Value} {a : Act} {sz : Nat} {ds : List Deferred} (tr : TR m tm a sz ds) {dst : Option Tmp} {v v' : Value} (hv : RV m v v') (h : putA sz tm dst v = some tm') : TR m tm' (a.put dst v') sz ds := by
  unfold putA at h
  split at h
  · injection h with h
    subst h
    exact tr
  · rename_i d
    split at h
    · rename_i hlt
      have hlt := Nat.blt_eq.mp hlt
      injection h with h
      subst h
      refine ⟨by simp [Act.put, tr.size], tr.defers, fun t u hu => ?_⟩
      rw [Tr.get_set] at hu
      simp only [Act.put]
      rw [Array.getD_eq_getD_getElem?]
      by_cases ht : t = d
      · subst ht
        rw [if_pos rfl] at hu
        injection hu with hu
        subst hu
        have : t < a.tmps.size := by rw [tr.size]; exact hlt
        simp [this]
        exact hv
      · rw [if_neg ht] at hu
        have := tr.val t u hu
        rw [Array.getD_eq_getD_getElem?] at this
        rw [Array.getElem?_setIfInBounds_ne (fun hh => ht hh.symm)]
        exact this
    · cases h

theorem stepR_scope {P : Program} {b : Frame} {a : Act} {k : List Item} {cs : List Frame} {w : World} {c : Code} : step P (lone (b.atR a (.code (.scope c) :: k)) cs w) = .next (lone (b.atR a (.code c :: .inScope c :: k)) cs w) :=
  step_lone_go (by simp [stepG, stepG.exec, Frame.atR])
theorem stepR_inScope {P : Program} {b : Frame} {a : Act} {k : List Item} {cs : List Frame} {w : World} {c : Code} : step P (lone (b.atR a (.inScope c :: k)) cs w) = .next (lone (b.atR a k) cs w) :=
  step_lone_go (by simp [stepG, stepG.exec, Frame.atR])

theorem wpIn_scope_straight {F : Fence} {n : Nat} {P : Program} {Q : Exit → Act → World → Prop} {a : Act} {w : World} {c : Code} (h : c.wpIn F n P (Exit.noGoto Q) a w) : (Code.scope c).wpIn F n P Q a w := by
  intro b k cs hro hb hr
  have h0 : (lone (b.atR a (.code (.scope c) :: k)) cs w).fenced P F := fenced_calm hb hr rfl
  obtain ⟨e, a₁, w₁, hq, harr⟩ := h b (.inScope c :: k) cs hro hb hr
  cases e with
  | normal => exact ⟨.normal, a₁, w₁, hq, .head h0 stepR_scope (StepsIn.trans harr (.one (fenced_calm hb hr rfl) stepR_inScope))⟩
  | exit id =>
    have hx : exitTo id (.inScope c :: k) = exitTo id k := by simp [exitTo]
    exact ⟨.exit id, a₁, w₁, hq, fun k' hk => .head h0 stepR_scope (harr.1 k' (by rw [hx]; exact hk)),
      fun hr' hk => let ⟨k₁, h1, h2⟩ := harr.2 hr' (by rw [hx]; exact hk); ⟨k₁, h1, .head h0 stepR_scope h2⟩⟩
  | goto l => exact hq.elim
  | ret => exact ⟨_, a₁, w₁, hq, .of_steps (.one h0 stepR_scope) harr⟩
  | panic ch => exact ⟨_, a₁, w₁, hq, .of_steps (.one h0 stepR_scope) harr⟩
  | outgrown => exact ⟨_, a₁, w₁, hq, .of_steps (.one h0 stepR_scope) harr⟩

/-- The marks among a frame's deferred calls: blocks that the reckoner does not know, laid from block B on. -/
def Mk (B : Nat) (m : Emb) (w : World) : List Deferred → Prop
  | [] => True
  | d :: ds => (∃ r, d = { target := .collected r, args := #[] } ∧ B ≤ r ∧ w.heap[r]? = some (.deferred (some [])) ∧ (∀ b e, m b = some e → e.live = true → e.c ≠ r) ∧ (∀ d', d' ∈ ds → d'.target ≠ .collected r)) ∧ Mk B m w ds

theorem Mk.step {B : Nat} {m m' : Emb} {hp hp' : Hp} {w w' : World} (st : Step m hp w m' hp' w') : ∀ {ds : List Deferred}, Mk B m w ds → Mk B m' w' ds := by
  intro ds
  induction ds with
  | nil => intro _; trivial
  | cons d ds ih =>
    rintro ⟨⟨r, h1, h2, h3, h4, h5⟩, h6⟩
    have hr : r < w.heap.size := (Array.getElem?_eq_some_iff.1 h3).1
    refine ⟨⟨r, h1, h2, (st.keep r hr (fun b e _ he hl => h4 b e he hl)).trans h3, fun b e he hl => ?_, h5⟩, ih h6⟩
    by_cases hb : b < hp'.nx
    · rcases st.rng b e hb he hl with ⟨b0, e0, k1, k2, k3, k4⟩ | k
      · rw [← k4]; exact h4 b0 e0 k2 k3
      · omega
    · rw [st.far b (by omega)] at he
      exact h4 b e he hl

theorem Mk.past {B r : Nat} {m : Emb} {w : World} {o : Obj} : ∀ {ds : List Deferred}, Mk B m w ds → (∀ d', d' ∈ ds → d'.target ≠ .collected r) → Mk B m { w with heap := w.heap.setIfInBounds r o } ds := by
  intro ds
  induction ds with
  | nil => intro _ _; trivial
  | cons d ds ih =>
    rintro ⟨⟨r', h1, h2, h3, h4, h5⟩, h6⟩ hn
    have hne : r ≠ r' := fun hh => hn d List.mem_cons_self (by rw [h1, hh])
    exact ⟨⟨r', h1, h2, (Array.getElem?_setIfInBounds_ne hne).trans h3, h4, h5⟩, ih h6 (fun d' hd => hn d' (List.mem_cons_of_mem _ hd))⟩

theorem Mk.lt {B : Nat} {m : Emb} {w : World} : ∀ {ds : List Deferred}, Mk B m w ds → ∀ d, d ∈ ds → d.target ≠ .collected w.heap.size := by
  intro ds
  induction ds with
  | nil => intro _ d hd; cases hd
  | cons d ds ih =>
    rintro ⟨⟨r, h1, h2, h3, h4, h5⟩, h6⟩ d' hd
    rcases List.mem_cons.1 hd with rfl | hd
    · have hr : r < w.heap.size := (Array.getElem?_eq_some_iff.1 h3).1
      rw [h1]
      intro hh
      injection hh with hh
      omega
    · exact ih h6 d' hd

/-- In which round the frame is. -/
def Rn (r0 ro : Option Nat) (m : Emb) : Prop := (r0 = none ∧ ro = none) ∨ ∃ b e, ro = some b ∧ m b = some e ∧ r0 = some e.c
theorem Rn.mono {r0 ro : Option Nat} {m m' : Emb} (h : Rn r0 ro m) (hm : m.le m') : Rn r0 ro m' := by
  rcases h with h | ⟨b, e, h1, h2, h3⟩
  · exact .inl h
  · obtain ⟨e', k1, k2, -⟩ := hm b e h2
    exact .inr ⟨b, e', h1, k1, by rw [h3, k2]⟩

/-- A frame, as the reckoner knows it. -/
structure FS (cx : Cx) (r0 ro : Option Nat) (B sz : Nat) (m : Emb) (tm : Tr Value) (hp : Hp) (w : World) (a : Act) : Prop where
  rn : Rn r0 ro m
  tr : TR m tm a sz a.defers
  mks : Mk B m w a.defers
  big : B ≤ w.heap.size
  inv : Inv m hp w.heap
  gw : GW cx m w

theorem FS.step {cx : Cx} {r0 ro : Option Nat} {B sz : Nat} {m m' : Emb} {tm tm' : Tr Value} {hp hp' : Hp} {w w' : World} {a a' : Act} (fs : FS cx r0 ro B sz m tm hp w a) (st : Step m hp w m' hp' w') (tr : TR m' tm' a' sz a.defers) : FS cx r0 ro B sz m' tm' hp' w' a' :=
  ⟨fs.rn.mono st.le, by rw [tr.defers]; exact tr, by rw [tr.defers]; exact fs.mks.step st, Nat.le_trans fs.big st.size, st.inv, fs.gw.step st⟩

theorem loopOb_get {hp : Hp} {b : Nat} {l : ALoop} (h : loopOb hp b = some l) : hp.tr.get b = some (.loop l) := by
  unfold loopOb at h
  split at h
  · rename_i l' hl
    injection h with h
    rw [hl, h]
  · cases h

/-- The model's record. -/
theorem loop_rec {m : Emb} {hp : Hp} {h : Array Obj} (inv : Inv m hp h) {b : Nat} {e : Ent} (he : m b = some e) {l : ALoop} (hl : loopOb hp b = some l) :
    e.live = true ∧ e.op = none ∧ ∃ fn tmps df, h[e.c]? = some (.loop { state := l.st, pending := pendC l.pend, fn := fn, tmps := tmps, params := ⟨l.ps⟩, assign := l.assign, body := l.body, defers := df }) ∧
      tmps.size = l.sz ∧ ∀ t v, l.tm.get t = some v → RV m v (tmps.getD t undef) := by
  obtain ⟨h1, h2, fn, tmps, df, h3⟩ := inv.obj b e _ he (loopOb_get hl) (by simp)
  exact ⟨h1, h2, fn, tmps, df, h3⟩

/-- The record is written. -/
theorem step_loop {m : Emb} {hp : Hp} {w : World} (inv : Inv m hp w.heap) {b : Nat} {e : Ent} (he : m b = some e) {l : ALoop} (hl : loopOb hp b = some l) (st : LoopState) (pend : Option JX) {r : Loop} (hr : w.heap[e.c]? = some (.loop r)) :
    Step m hp w m (loopSet hp b { l with st := st, pend := pend }) (w.putObj e.c (.loop { r with state := st, pending := pendC pend })) := by
  obtain ⟨h1, h2, fn, tmps, df, h3, h4, h5⟩ := loop_rec inv he hl
  rw [hr] at h3
  injection h3 with h3
  injection h3 with h3
  subst h3
  refine step_put inv he (loopOb_get hl) (by simp) ⟨h2, fn, tmps, df, ?_, h4, h5⟩
  have := inv.low b e he
  simp [this]

theorem run_enterLoop_inner {P : Program} {w : World} {l : Nat} {r : Loop} (h : w.heap[l]? = some (.loop r)) (fn : FuncId) (tmps : Array Value) (ps : Array Tmp) (assign body : Code) :
    (Instr.enterLoop fn tmps ps assign body (some l)).run P w =
      .ok (w.heap.size, []) (w.alloc (.loop { state := .ready, pending := none, fn, tmps, params := ps, assign, body, defers := r.defers })) := by
  unfold Instr.enterLoop
  simp only [Sem.run_bind, run_getLoop h, run_newObj_alloc, Result.andThen, Sem.run_pure, World.size_alloc]

/-- The beginning of a loop over a function. -/
theorem enter_ok {P : Program} {cx : Cx} {r0 ro : Option Nat} {B sz : Nat} {m : Emb} {tm : Tr Value} {hp : Hp} {w : World} {a : Act} (fs : FS cx r0 ro B sz m tm hp w a) (hro : roOk hp ro = true) (hf : m hp.nx = none) (fn : FuncId) (ps : Array Tmp) (assign body : Code) :
    ∃ l mark w1, (Instr.enterLoop fn a.tmps ps assign body r0).run P w = .ok (l, mark) w1 ∧
      Step m hp w (m.put hp.nx ⟨l, 0, none, true⟩) (loopNew hp { st := .ready, pend := none, tm := tm, sz := sz, ps := ps.toList, assign := assign, body := body }) w1 ∧
      Mk B (m.put hp.nx ⟨l, 0, none, true⟩) w1 (mark ++ a.defers) := by
  rcases fs.rn with ⟨rfl, rfl⟩ | ⟨b, e, rfl, he, rfl⟩
  · have s1 := step_push (w := w) fs.inv (.deferred (some []))
    refine ⟨_, _, _, run_enterLoop_outer fn a.tmps ps assign body, ?_, ?_⟩
    · have hsz : w.heap.size + 1 = (w.alloc (.deferred (some []))).heap.size := by simp
      rw [hsz]
      refine s1.trans (step_newloop s1.inv hf ⟨rfl, fn, a.tmps, w.heap.size, by rw [getD_push_size]; rfl, fs.tr.size, fs.tr.val⟩)
    · have hsz : w.heap.size + 1 = (w.alloc (.deferred (some []))).heap.size := by simp
      have s2 : Step m hp w (m.put hp.nx ⟨w.heap.size + 1, 0, none, true⟩) (loopNew hp { st := .ready, pend := none, tm := tm, sz := sz, ps := ps.toList, assign := assign, body := body }) ((w.alloc (.deferred (some []))).alloc (.loop { state := .ready, pending := none, fn := fn, tmps := a.tmps, params := ps, assign := assign, body := body, defers := w.heap.size })) := by
        rw [hsz]
        exact s1.trans (step_newloop s1.inv hf ⟨rfl, fn, a.tmps, w.heap.size, by rw [getD_push_size]; rfl, fs.tr.size, fs.tr.val⟩)
      refine ⟨⟨w.heap.size, rfl, fs.big, ?_, fun b e he hl => ?_, fs.mks.lt⟩, fs.mks.step s2⟩
      · show ((w.heap.push (.deferred (some []))).push _)[w.heap.size]? = _
        rw [get_push_lt (by simp), getD_push_size]
      · by_cases hb : b = hp.nx
        · subst hb
          rw [Emb.put_same] at he
          injection he with he
          subst he
          exact Nat.succ_ne_self _
        · rw [Emb.put_other _ _ hb] at he
          have := fs.inv.low b e he
          omega
  · obtain ⟨lp, hlp⟩ : ∃ lp, loopOb hp b = some lp := by
      unfold roOk at hro
      simp only at hro
      split at hro
      · rename_i lp h; exact ⟨lp, h⟩
      · cases hro
    obtain ⟨h1, h2, fn', tmps, df, h3, -⟩ := loop_rec fs.inv he hlp
    have s2 := step_newloop (w := w) fs.inv hf (l := { st := .ready, pend := none, tm := tm, sz := sz, ps := ps.toList, assign := assign, body := body })
      (o := .loop { state := .ready, pending := none, fn := fn, tmps := a.tmps, params := ps, assign := assign, body := body, defers := df }) ⟨rfl, fn, a.tmps, df, by rw [getD_push_size]; rfl, fs.tr.size, fs.tr.val⟩
    exact ⟨_, _, _, run_enterLoop_inner h3 fn a.tmps ps assign body, s2, by simpa using fs.mks.step s2⟩

section
variable {r0 : Option Nat} {P : Program} {cx : Cx} (ok : CxOk P cx) (hext : ExtOk P cx) {call : CallF} (hcall : CallOk P cx call) (hnx : NxOk call)
include ok hext hcall hnx

theorem evOper_ok {m : Emb} {tm tm' : Tr Value} {hp hp' : Hp} {w : World} {a : Act} {sz : Nat} {ds : List Deferred} (tr : TR m tm a sz ds) (inv : Inv m hp w.heap) (gw : GW cx m w) {ops : Array Oper} {o : Oper} (hf : Fresh m hp.nx hp'.nx) (h : evOper cx call sz ops.toList o tm hp = some (tm', hp'))
    {K : Act → World → Prop} {Q : Exit → Act → World → Prop} (hk : ∀ m' w' a', Step m hp w m' hp' w' → TR m' tm' a' sz ds → K a' w') :
    if Region.wanted o (yielded ops a.tmps) = true then o.wpIn (Fw r0) 0 P a w K Q else K (a.put o.dst undef) w := by
  rcases evOper_parts hnx h with ⟨h1, h2, rfl⟩ | ⟨h1, v, h2, h3⟩
  · rw [wantA_ok tr h1, if_neg (by simp)]
    exact hk m w _ (.refl inv) (putA_ok tr (undef_rv m) h2)
  · rw [wantA_ok tr h1, if_pos rfl]
    exact evOp_ok ok hext hcall tr inv gw hf h2 (fun m' w' v' st rv => hk m' w' _ st (putA_ok (tr.mono st.le) rv h3))

theorem evOps_ok {sz : Nat} {ds : List Deferred} {ops : Array Oper} {Q : Exit → Act → World → Prop} {tm' : Tr Value} {hp' : Hp} : ∀ (l : List Oper) (m : Emb) (tm : Tr Value) (hp : Hp) (w : World) (a : Act), TR m tm a sz ds → Inv m hp w.heap → GW cx m w → Fresh m hp.nx hp'.nx →
    evOps cx call sz ops.toList l tm hp = some (tm', hp') → (∀ m' w' a', Step m hp w m' hp' w' → TR m' tm' a' sz ds → Q .normal a' w') → wpListIn (Fw r0) 0 P ops Q l a w := by
  intro l
  induction l with
  | nil =>
    intro m tm hp w a tr inv gw hf h hq
    have h : some (tm, hp) = some (tm', hp') := h
    injection h with h
    injection h with h1 h2
    subst h1 h2
    exact hq m w a (.refl inv) tr
  | cons o l ih =>
    intro m tm hp w a tr inv gw hf h hq
    rw [evOps_cons] at h
    split at h
    · cases h
    · rename_i tm1 hp1 h1
      have n1 := evOper_nx hnx h1
      have n2 := evOps_nx hnx h
      have key := evOper_ok (r0 := r0) ok hext hcall hnx (K := wpListIn (Fw r0) 0 P ops Q l) (Q := Q) tr inv gw (hf.sub (Nat.le_refl _) n2) h1 (fun m1 w1 a1 st tr1 =>
        ih m1 tm1 hp1 w1 a1 tr1 st.inv (gw.step st) (hf.step st) h (fun m2 w2 a2 st2 tr2 => hq m2 w2 a2 (st.trans st2) tr2))
      unfold wpListIn
      split
      · rename_i hw; rw [if_pos hw] at key; exact key
      · rename_i hw; rw [if_neg hw] at key; exact ⟨fun _ _ => trivial, key⟩

/-- A region that draws. -/
def DrawsOk (P : Program) (cx : Cx) (call : CallF) : Prop := ∀ (r0 : Option Nat) (sz id : Nat) (ds : List Deferred) (ops : Array Oper) (m : Emb) (tm tm' : Tr Value) (hp hp' : Hp) (w : World) (a : Act) (Q : Exit → Act → World → Prop), TR m tm a sz ds → Inv m hp w.heap → GW cx m w → Fresh m hp.nx hp'.nx →
  drawOk ops.toList = true → evDraw cx call sz ops.toList (befA ops.toList []) ops.toList 0 tm hp = some (tm', hp') → (∀ m' w' a', Step m hp w m' hp' w' → TR m' tm' a' sz ds → Q .normal a' w') → (Code.region id ops true).wpIn (Fw r0) 0 P Q a w

def exitOf : AX → Exit
  | .normal => .normal
  | .exit id => .exit id
  | .ret => .ret

theorem iter_ok {c : Code} {body : Tr Value → Hp → CS} {ro : Option Nat} {B sz : Nat} (hbn : ∀ tm hp x tm' hp', body tm hp = some (x, tm', hp') → hp.nx ≤ hp'.nx)
    (hb : ∀ (m : Emb) (tm : Tr Value) (hp : Hp) (w : World) (a : Act) (x : AX) (tm' : Tr Value) (hp' : Hp) (Q : Exit → Act → World → Prop), FS cx r0 ro B sz m tm hp w a → Fresh m hp.nx hp'.nx → body tm hp = some (x, tm', hp') →
      (∀ m' w' a', Step m hp w m' hp' w' → FS cx r0 ro B sz m' tm' hp' w' a' → Q (exitOf x) a' w') → c.wpIn (Fw r0) 0 P Q a w) :
    ∀ (n : Nat) (m : Emb) (tm : Tr Value) (hp : Hp) (w : World) (a : Act) (x : AX) (tm' : Tr Value) (hp' : Hp) (Q : Exit → Act → World → Prop), FS cx r0 ro B sz m tm hp w a → Fresh m hp.nx hp'.nx → iter body n tm hp = some (x, tm', hp') →
      (∀ m' w' a', Step m hp w m' hp' w' → FS cx r0 ro B sz m' tm' hp' w' a' → Q (exitOf x) a' w') → Code.roundsIn (Fw r0) 0 P c Q n a w := by
  intro n
  induction n with
  | zero => intro m tm hp w a x tm' hp' Q _ _ h; cases h
  | succ n ih =>
    intro m tm hp w a x tm' hp' Q fs hf h hq
    rw [iter_succ] at h
    rw [roundsIn_succ]
    split at h
    · rename_i tm1 hp1 h1
      have n2 := iter_nx hbn _ _ _ _ _ _ h
      exact hb m tm hp w a .normal tm1 hp1 _ fs (hf.sub (Nat.le_refl _) n2) h1 (fun m1 w1 a1 st fs1 =>
        ih m1 tm1 hp1 w1 a1 x tm' hp' Q fs1 (hf.step st) h (fun m2 w2 a2 st2 fs2 => hq m2 w2 a2 (st.trans st2) fs2))
    · rename_i hne
      refine hb m tm hp w a x tm' hp' _ fs hf h (fun m1 w1 a1 st fs1 => ?_)
      cases x with
      | normal => exact (hne _ _ h).elim
      | exit id => exact hq m1 w1 a1 st fs1
      | ret => exact hq m1 w1 a1 st fs1

theorem evRange_ok {sz : Nat} {ro : Option Nat} {B : Nat} {g : Operand} {ps : Array Tmp} {assign body : Code} {m : Emb} {tm : Tr Value} {hp : Hp} {w : World} {a : Act} {x : AX} {tm' : Tr Value} {hp' : Hp} {Q : Exit → Act → World → Prop}
    (fs : FS cx r0 ro B sz m tm hp w a) (hf : Fresh m hp.nx hp'.nx) (h : evRange cx call sz ro g ps assign body tm hp = some (x, tm', hp')) (hq : ∀ m' w' a', Step m hp w m' hp' w' → FS cx r0 ro B sz m' tm' hp' w' a' → Q (exitOf x) a' w') :
    (Code.rangeFunc g ps assign body).wpIn (Fw r0) 0 P Q a w := by
  obtain ⟨hro, f, first, captured, v, hp2, lp, hg, hx, hcl, hlp, hst, rfl, htm, rfl⟩ := evRange_parts h
  subst htm
  have hn2 := hnx _ _ _ _ _ hcl
  simp only [loopNew] at hn2
  have hf2 : Fresh m hp.nx hp2.nx := hf
  refine wpIn_rangeFunc (fun fn _ => ?_)
  obtain ⟨l, mark, w1, he, s1, mk1⟩ := enter_ok (P := P) fs hro (hf2 hp.nx (Nat.le_refl _) (by omega)) fn ps assign body
  obtain ⟨xs⟩ := first
  obtain ⟨ys⟩ := captured
  obtain ⟨xs', ys', hge, hxs, hys⟩ := (evX_ok fs.tr hg).func_iff rfl
  have hyl : RV (m.put hp.nx ⟨l, 0, none, true⟩) (.func (.yield hp.nx) ⟨[]⟩ ⟨[]⟩) (.func (.yield l) ⟨[]⟩ ⟨[]⟩) := .yield _ _ ⟨_, Emb.put_same _ _ _, rfl⟩
  have hall := ((hxs.mono s1.le).append (RVs.cons hyl (RVs.nil _))).append (hys.mono s1.le)
  obtain ⟨c1, c2⟩ := hcall _ _ _ _ _ hcl _ _ w1 (fs.gw.step s1) s1.inv hall (hf2.step s1)
  refine ⟨l, mark, w1, { target := .fn (.func f) ⟨ys'⟩, args := ⟨xs'⟩ ++ #[.func (.yield l) #[] #[]] }, w1, f, ⟨xs' ++ [.func (.yield l) ⟨[]⟩ ⟨[]⟩] ++ ys'⟩, w1, he, ?_, fun _ _ => trivial, ?_, (fun h => by cases h), Fw_calls (r := r0) ?_⟩
  · have hge' : a.eval g = .func (.func f) ⟨xs'⟩ ⟨ys'⟩ := hge
    have hmm : Array.map a.eval #[Operand.const (Value.func (Fn.yield l) #[] #[])] = #[Value.func (Fn.yield l) #[] #[]] := by simp [Act.eval]
    simp only [rangeCall, resolve, Deferred.ofValue, hmm, hge', Sem.run_pure]
  · simp only [invoke, c1]
    simp
  · refine c2.mono fun e w' hh => ?_
    obtain ⟨m2, v', rfl, s2, -⟩ := hh
    obtain ⟨e2, k1, k2, -⟩ := s2.le hp.nx _ (Emb.put_same _ _ _)
    obtain ⟨-, -, fn', tmps, df, r1, r2, r3⟩ := loop_rec s2.inv k1 hlp
    have s3 := step_loop (w := w') s2.inv k1 hlp .exhausted lp.pend r1
    have hrun := run_endLoop (P := P) r1 hst
    have hk2 : e2.c = l := k2
    rw [hk2] at hrun s3
    have s := (s1.trans s2).trans s3
    have hfs : FS cx r0 ro B sz m2 tm' (loopSet hp2 hp.nx { lp with st := .exhausted }) (w'.putObj l (.loop { state := .exhausted, pending := pendC lp.pend, fn := fn', tmps := tmps, params := ⟨lp.ps⟩, assign := lp.assign, body := lp.body, defers := df })) { a with defers := mark ++ a.defers } :=
      ⟨fs.rn.mono s.le, ⟨fs.tr.size, rfl, fun t v hv => (fs.tr.val t v hv).mono s.le⟩, (mk1.step s2).step s3, Nat.le_trans fs.big s.size, s3.inv, fs.gw.step s⟩
    have key := hq m2 _ _ s hfs
    refine ⟨_, _, hrun, ?_⟩
    cases hpd : lp.pend with
    | none => simp only [hpd, jumpA, exitOf] at key; simpa [hpd, pendC] using key
    | some j =>
      cases j with
      | ret => simp only [hpd, jumpA, exitOf] at key; simpa [hpd, pendC] using wpIn_ret key
      | exit id => simp only [hpd, jumpA, exitOf] at key; simpa [hpd, pendC] using wpIn_exit key

theorem evCode_ok (hdraw : DrawsOk P cx call) {sz n : Nat} {ro : Option Nat} {B : Nat} : ∀ (c : Code) (m : Emb) (tm : Tr Value) (hp : Hp) (w : World) (a : Act) (x : AX) (tm' : Tr Value) (hp' : Hp) (Q : Exit → Act → World → Prop), FS cx r0 ro B sz m tm hp w a → Fresh m hp.nx hp'.nx →
    evCode cx call sz n ro c tm hp = some (x, tm', hp') → (∀ m' w' a', Step m hp w m' hp' w' → FS cx r0 ro B sz m' tm' hp' w' a' → Q (exitOf x) a' w') → c.wpIn (Fw r0) 0 P Q a w := by
  intro c
  induction c with
  | skip =>
    intro m tm hp w a x tm' hp' Q fs hf h hq
    have h : some (AX.normal, tm, hp) = some (x, tm', hp') := h
    injection h with h
    injection h with h1 h
    injection h with h2 h3
    subst h1 h2 h3
    exact wpIn_skip (hq m w a (.refl fs.inv) fs)
  | region id ops draw =>
    intro m tm hp w a x tm' hp' Q fs hf h hq
    rw [evCode_region] at h
    split at h
    · split at h
      · rename_i h1
        injection h with h
        injection h with e1 h
        injection h with e2 e3
        subst e1 e2 e3
        exact wpIn_region_list (evOps_ok ok hext hcall hnx ops.toList m tm hp w a fs.tr fs.inv fs.gw hf h1 (fun m1 w1 a1 st tr1 => hq m1 w1 a1 st (fs.step st tr1)))
      · cases h
    · split at h
      · rename_i hd
        split at h
        · rename_i h1
          injection h with h
          injection h with e1 h
          injection h with e2 e3
          subst e1 e2 e3
          exact hdraw r0 sz id a.defers ops m tm _ hp _ w a Q fs.tr fs.inv fs.gw hf hd h1 (fun m1 w1 a1 st tr1 => hq m1 w1 a1 st (fs.step st tr1))
        · cases h
      · cases h
  | seq c1 c2 ih1 ih2 =>
    intro m tm hp w a x tm' hp' Q fs hf h hq
    rw [evCode_seq] at h
    refine wpIn_seq ?_
    split at h
    · rename_i tm1 hp1 h1
      have n2 := evCode_nx hnx _ _ _ _ _ _ h
      exact ih1 m tm hp w a .normal tm1 hp1 _ fs (hf.sub (Nat.le_refl _) n2) h1 (fun m1 w1 a1 st fs1 =>
        ih2 m1 tm1 hp1 w1 a1 x tm' hp' Q fs1 (hf.step st) h (fun m2 w2 a2 st2 fs2 => hq m2 w2 a2 (st.trans st2) fs2))
    · rename_i hne
      refine ih1 m tm hp w a x tm' hp' _ fs hf h (fun m1 w1 a1 st fs1 => ?_)
      cases x with
      | normal => exact (hne _ _ h).elim
      | exit id => exact hq m1 w1 a1 st fs1
      | ret => exact hq m1 w1 a1 st fs1
  | cond c c1 c2 ih1 ih2 =>
    intro m tm hp w a x tm' hp' Q fs hf h hq
    rw [evCode_cond] at h
    split at h
    · rename_i hc
      exact wpIn_cond_true ((evX_ok fs.tr hc).flat_iff rfl) (ih1 m tm hp w a x tm' hp' Q fs hf h hq)
    · rename_i hc
      exact wpIn_cond_false ((evX_ok fs.tr hc).flat_iff rfl) (ih2 m tm hp w a x tm' hp' Q fs hf h hq)
    · cases h
  | block id c1 ih =>
    intro m tm hp w a x tm' hp' Q fs hf h hq
    rw [evCode_block] at h
    refine wpIn_block ?_
    split at h
    · rename_i id' tm1 hp1 h1
      split at h
      · rename_i hid
        have hid := Nat.eq_of_beq_eq_true hid
        injection h with h
        injection h with e1 h
        injection h with e2 e3
        subst e1 e2 e3
        refine ih m tm hp w a (.exit id') _ _ _ fs hf h1 (fun m1 w1 a1 st fs1 => ?_)
        simp only [exitOf, Exit.inBlock, hid, if_true]
        exact hq m1 w1 a1 st fs1
      · rename_i hid
        have hid := Nat.ne_of_beq_eq_false hid
        injection h with h
        injection h with e1 h
        injection h with e2 e3
        subst e1 e2 e3
        refine ih m tm hp w a (.exit id') _ _ _ fs hf h1 (fun m1 w1 a1 st fs1 => ?_)
        simp only [exitOf, Exit.inBlock, if_neg hid]
        exact hq m1 w1 a1 st fs1
    · rename_i hne
      refine ih m tm hp w a x tm' hp' _ fs hf h (fun m1 w1 a1 st fs1 => ?_)
      cases x with
      | normal => exact hq m1 w1 a1 st fs1
      | exit id => exact (hne _ _ _ h).elim
      | ret => exact hq m1 w1 a1 st fs1
  | loop c1 ih =>
    intro m tm hp w a x tm' hp' Q fs hf h hq
    exact wpIn_loop_rounds n (iter_ok (r0 := r0) ok hext hcall hnx (fun tm hp x tm' hp' h => evCode_nx hnx _ _ _ _ _ _ h) (fun m tm hp w a x tm' hp' Q fs hf h hq => ih m tm hp w a x tm' hp' Q fs hf h hq) n m tm hp w a x tm' hp' Q fs hf h hq)
  | rangeFunc g ps ca cb iha ihb => intro m tm hp w a x tm' hp' Q fs hf h hq; exact evRange_ok ok hext hcall hnx fs hf h hq
  | exit id =>
    intro m tm hp w a x tm' hp' Q fs hf h hq
    have h : some (AX.exit id, tm, hp) = some (x, tm', hp') := h
    injection h with h
    injection h with h1 h
    injection h with h2 h3
    subst h1 h2 h3
    exact wpIn_exit (hq m w a (.refl fs.inv) fs)
  | scope c1 ih =>
    intro m tm hp w a x tm' hp' Q fs hf h hq
    refine wpIn_scope_straight (ih m tm hp w a x tm' hp' _ fs hf h (fun m1 w1 a1 st fs1 => ?_))
    have := hq m1 w1 a1 st fs1
    cases x <;> exact this
  | label l =>
    intro m tm hp w a x tm' hp' Q fs hf h hq
    have h : some (AX.normal, tm, hp) = some (x, tm', hp') := h
    injection h with h
    injection h with h1 h
    injection h with h2 h3
    subst h1 h2 h3
    exact wpIn_label (hq m w a (.refl fs.inv) fs)
  | goto l => intro m tm hp w a x tm' hp' Q fs hf h hq; cases h
  | ret =>
    intro m tm hp w a x tm' hp' Q fs hf h hq
    have h : some (AX.ret, tm, hp) = some (x, tm', hp') := h
    injection h with h
    injection h with h1 h
    injection h with h2 h3
    subst h1 h2 h3
    exact wpIn_ret (hq m w a (.refl fs.inv) fs)
  | refuse s => intro m tm hp w a x tm' hp' Q fs hf h hq; cases h
end
end Go.Proofs.YtcehoogppaadgabGreatDoor.Ev
