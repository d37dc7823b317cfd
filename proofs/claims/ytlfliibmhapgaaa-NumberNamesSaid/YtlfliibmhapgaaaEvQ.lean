/- Regions in the order of the text, code, calls: what the reckoner says of them, the model says. -/
import Derived.Test.YtlfliibmhapgaaaEvP
import Derived.LoopN
import Derived.Scope
set_option linter.unusedVariables false
set_option linter.unusedSimpArgs false
set_option linter.unusedSectionVars false
namespace Go.Proofs.Ytlfliibmhapgaaa.Ev
open Go Go.RowKit

theorem getD_of {a : Act} {d : Nat} {v : Value} (h : a.tmps.getD d undef = v) (hv : v ≠ undef) : a.tmps[d]? = some v := by
  rw [Array.getD_eq_getD_getElem?] at h
  cases hh : a.tmps[d]? with
  | none => rw [hh] at h; exact absurd h.symm hv
  | some u => rw [hh] at h; simpa using h

theorem wantA_ok {m : Emb} {tm : Tr Value} {a : Act} {sz : Nat} (tr : TR m tm a sz) {ops : Array Oper} {o : Oper} {b : Bool} (h : wantA ops.toList tm o.guard = some b) : Region.wanted o (yielded ops a.tmps) = b := by
  unfold wantA at h
  unfold Region.wanted
  split at h
  · rename_i hg
    injection h with h
    rw [hg]
    exact h
  · rename_i j want hg
    rw [hg]
    split at h
    · cases h
    · rename_i o' ho'
      have ho' : ops[j]? = some o' := by simpa using ho'
      split at h
      · cases h
      · rename_i d hd
        split at h
        · rename_i c hc
          injection h with h
          have hv := (tr.val d _ hc).flat_iff rfl
          have hget := getD_of hv (by simp [undef])
          show (yielded ops a.tmps j == some want) = b
          rw [← h]
          simp [yielded, ho', hd, hget]
        · rename_i hc
          injection h with h
          subst h
          obtain ⟨xs, hv, hxs⟩ := (tr.val d _ hc).tuple_iff
          obtain rfl := hxs.nil_left
          show (yielded ops a.tmps j == some want) = false
          have : yielded ops a.tmps j = none := by
            rw [Array.getD_eq_getD_getElem?] at hv
            cases hh : a.tmps[d]? with
            | none => simp [yielded, ho', hd, hh]
            | some u =>
              rw [hh] at hv
              have : u = .tuple ⟨[]⟩ := by simpa using hv
              subst this
              simp [yielded, ho', hd, hh]
          rw [this]
          rfl
        · cases h

theorem putA_ok {m : Emb} {tm tm' : Tr Value} {a : Act} {sz : Nat} (tr : TR m tm a sz) {dst : Option Tmp} {v v' : Value} (hv : RV m v v') (h : putA sz tm dst v = some tm') : TR m tm' (a.put dst v') sz := by
  unfold putA at h
  split at h
  · injection h with h
    subst h
    exact tr
  · rename_i d
    split at h
    · rename_i hlt
      have hlt := Nat.blt_eq.mp hlt
      injection h with h
      subst h
      refine ⟨by simp [Act.put, tr.size], tr.defers, fun t u hu => ?_⟩
      rw [Tr.get_set] at hu
      simp only [Act.put]
      rw [Array.getD_eq_getD_getElem?]
      by_cases ht : t = d
      · subst ht
        rw [if_pos rfl] at hu
        injection hu with hu
        subst hu
        have : t < a.tmps.size := by rw [tr.size]; exact hlt
        simp [this]
        exact hv
      · rw [if_neg ht] at hu
        have := tr.val t u hu
        rw [Array.getD_eq_getD_getElem?] at this
        rw [Array.getElem?_setIfInBounds_ne (fun hh => ht hh.symm)]
        exact this
    · cases h

theorem stepR_scope {P : Program} {b : Frame} {a : Act} {k : List Item} {cs : List Frame} {w : World} {c : Code} : step P (lone (b.atR a (.code (.scope c) :: k)) cs w) = .next (lone (b.atR a (.code c :: .inScope c :: k)) cs w) :=
  step_lone_go (by simp [stepG, stepG.exec, Frame.atR])
theorem stepR_inScope {P : Program} {b : Frame} {a : Act} {k : List Item} {cs : List Frame} {w : World} {c : Code} : step P (lone (b.atR a (.inScope c :: k)) cs w) = .next (lone (b.atR a k) cs w) :=
  step_lone_go (by simp [stepG, stepG.exec, Frame.atR])

theorem wpIn_scope_straight {F : Fence} {n : Nat} {P : Program} {Q : Exit → Act → World → Prop} {a : Act} {w : World} {c : Code} (h : c.wpIn F n P (Exit.noGoto Q) a w) : (Code.scope c).wpIn F n P Q a w := by
  intro b k cs hro hb hr
  have h0 : (lone (b.atR a (.code (.scope c) :: k)) cs w).fenced P F := fenced_calm hb hr rfl
  obtain ⟨e, a₁, w₁, hq, harr⟩ := h b (.inScope c :: k) cs hro hb hr
  cases e with
  | normal => exact ⟨.normal, a₁, w₁, hq, .head h0 stepR_scope (StepsIn.trans harr (.one (fenced_calm hb hr rfl) stepR_inScope))⟩
  | exit id =>
    have hx : exitTo id (.inScope c :: k) = exitTo id k := by simp [exitTo]
    exact ⟨.exit id, a₁, w₁, hq, fun k' hk => .head h0 stepR_scope (harr.1 k' (by rw [hx]; exact hk)),
      fun hr' hk => let ⟨k₁, h1, h2⟩ := harr.2 hr' (by rw [hx]; exact hk); ⟨k₁, h1, .head h0 stepR_scope h2⟩⟩
  | goto l => exact hq.elim
  | ret => exact ⟨_, a₁, w₁, hq, .of_steps (.one h0 stepR_scope) harr⟩
  | panic ch => exact ⟨_, a₁, w₁, hq, .of_steps (.one h0 stepR_scope) harr⟩
  | outgrown => exact ⟨_, a₁, w₁, hq, .of_steps (.one h0 stepR_scope) harr⟩

section
variable {r0 : Option Nat} {P : Program} {cx : Cx} (ok : CxOk P cx) (hext : ExtOk P cx) {call : CallF} (hcall : CallOk P call) (hnx : NxOk call)
include ok hext hcall hnx

theorem evOper_ok {m : Emb} {tm tm' : Tr Value} {hp hp' : Hp} {w : World} {a : Act} {sz : Nat} (tr : TR m tm a sz) (inv : Inv m hp w.heap) {ops : Array Oper} {o : Oper} (hf : Fresh m hp.nx hp'.nx) (h : evOper cx call sz ops.toList o tm hp = some (tm', hp'))
    {K : Act → World → Prop} {Q : Exit → Act → World → Prop} (hk : ∀ m' w' a', Step m hp w m' hp' w' → TR m' tm' a' sz → K a' w') :
    if Region.wanted o (yielded ops a.tmps) = true then o.wpIn (Fw r0) 0 P a w K Q else K (a.put o.dst undef) w := by
  rcases evOper_parts hnx h with ⟨h1, h2, rfl⟩ | ⟨h1, v, h2, h3⟩
  · rw [wantA_ok tr h1, if_neg (by simp)]
    exact hk m w _ (.refl inv) (putA_ok tr (undef_rv m) h2)
  · rw [wantA_ok tr h1, if_pos rfl]
    exact evOp_ok ok hext hcall tr inv hf h2 (fun m' w' v' st rv => hk m' w' _ st (putA_ok (tr.mono st.le) rv h3))

theorem evOps_ok {sz : Nat} {ops : Array Oper} {Q : Exit → Act → World → Prop} {tm' : Tr Value} {hp' : Hp} : ∀ (l : List Oper) (m : Emb) (tm : Tr Value) (hp : Hp) (w : World) (a : Act), TR m tm a sz → Inv m hp w.heap → Fresh m hp.nx hp'.nx →
    evOps cx call sz ops.toList l tm hp = some (tm', hp') → (∀ m' w' a', Step m hp w m' hp' w' → TR m' tm' a' sz → Q .normal a' w') → wpListIn (Fw r0) 0 P ops Q l a w := by
  intro l
  induction l with
  | nil =>
    intro m tm hp w a tr inv hf h hq
    have h : some (tm, hp) = some (tm', hp') := h
    injection h with h
    injection h with h1 h2
    subst h1 h2
    exact hq m w a (.refl inv) tr
  | cons o l ih =>
    intro m tm hp w a tr inv hf h hq
    rw [evOps_cons] at h
    split at h
    · cases h
    · rename_i tm1 hp1 h1
      have n1 := evOper_nx hnx h1
      have n2 := evOps_nx hnx h
      have key := evOper_ok (r0 := r0) ok hext hcall hnx (K := wpListIn (Fw r0) 0 P ops Q l) (Q := Q) tr inv (hf.sub (Nat.le_refl _) n2) h1 (fun m1 w1 a1 st tr1 =>
        ih m1 tm1 hp1 w1 a1 tr1 st.inv (hf.step st) h (fun m2 w2 a2 st2 tr2 => hq m2 w2 a2 (st.trans st2) tr2))
      unfold wpListIn
      split
      · rename_i hw; rw [if_pos hw] at key; exact key
      · rename_i hw; rw [if_neg hw] at key; exact ⟨fun _ _ => trivial, key⟩

/-- A region that draws. -/
def DrawsOk (P : Program) (cx : Cx) (call : CallF) : Prop := ∀ (r0 : Option Nat) (sz id : Nat) (ops : Array Oper) (m : Emb) (tm tm' : Tr Value) (hp hp' : Hp) (w : World) (a : Act) (Q : Exit → Act → World → Prop), TR m tm a sz → Inv m hp w.heap → Fresh m hp.nx hp'.nx →
  drawOk ops.toList = true → evDraw cx call sz ops.toList (befA ops.toList []) ops.toList 0 tm hp = some (tm', hp') → (∀ m' w' a', Step m hp w m' hp' w' → TR m' tm' a' sz → Q .normal a' w') → (Code.region id ops true).wpIn (Fw r0) 0 P Q a w

def exitOf : AX → Exit
  | .normal => .normal
  | .exit id => .exit id
  | .ret => .ret

theorem iter_ok {c : Code} {body : Tr Value → Hp → CS} {sz : Nat} (hbn : ∀ tm hp x tm' hp', body tm hp = some (x, tm', hp') → hp.nx ≤ hp'.nx)
    (hb : ∀ (m : Emb) (tm : Tr Value) (hp : Hp) (w : World) (a : Act) (x : AX) (tm' : Tr Value) (hp' : Hp) (Q : Exit → Act → World → Prop), TR m tm a sz → Inv m hp w.heap → Fresh m hp.nx hp'.nx → body tm hp = some (x, tm', hp') →
      (∀ m' w' a', Step m hp w m' hp' w' → TR m' tm' a' sz → Q (exitOf x) a' w') → c.wpIn (Fw r0) 0 P Q a w) :
    ∀ (n : Nat) (m : Emb) (tm : Tr Value) (hp : Hp) (w : World) (a : Act) (x : AX) (tm' : Tr Value) (hp' : Hp) (Q : Exit → Act → World → Prop), TR m tm a sz → Inv m hp w.heap → Fresh m hp.nx hp'.nx → iter body n tm hp = some (x, tm', hp') →
      (∀ m' w' a', Step m hp w m' hp' w' → TR m' tm' a' sz → Q (exitOf x) a' w') → Code.roundsIn (Fw r0) 0 P c Q n a w := by
  intro n
  induction n with
  | zero => intro m tm hp w a x tm' hp' Q _ _ _ h; cases h
  | succ n ih =>
    intro m tm hp w a x tm' hp' Q tr inv hf h hq
    rw [iter_succ] at h
    rw [roundsIn_succ]
    split at h
    · rename_i tm1 hp1 h1
      have n2 := iter_nx hbn _ _ _ _ _ _ h
      exact hb m tm hp w a .normal tm1 hp1 _ tr inv (hf.sub (Nat.le_refl _) n2) h1 (fun m1 w1 a1 st tr1 =>
        ih m1 tm1 hp1 w1 a1 x tm' hp' Q tr1 st.inv (hf.step st) h (fun m2 w2 a2 st2 tr2 => hq m2 w2 a2 (st.trans st2) tr2))
    · rename_i hne
      refine hb m tm hp w a x tm' hp' _ tr inv hf h (fun m1 w1 a1 st tr1 => ?_)
      cases x with
      | normal => exact (hne _ _ h).elim
      | exit id => exact hq m1 w1 a1 st tr1
      | ret => exact hq m1 w1 a1 st tr1

theorem evCode_ok (hdraw : DrawsOk P cx call) {sz n : Nat} : ∀ (c : Code) (m : Emb) (tm : Tr Value) (hp : Hp) (w : World) (a : Act) (x : AX) (tm' : Tr Value) (hp' : Hp) (Q : Exit → Act → World → Prop), TR m tm a sz → Inv m hp w.heap → Fresh m hp.nx hp'.nx →
    evCode cx call sz n c tm hp = some (x, tm', hp') → (∀ m' w' a', Step m hp w m' hp' w' → TR m' tm' a' sz → Q (exitOf x) a' w') → c.wpIn (Fw r0) 0 P Q a w := by
  intro c
  induction c with
  | skip =>
    intro m tm hp w a x tm' hp' Q tr inv hf h hq
    have h : some (AX.normal, tm, hp) = some (x, tm', hp') := h
    injection h with h
    injection h with h1 h
    injection h with h2 h3
    subst h1 h2 h3
    exact wpIn_skip (hq m w a (.refl inv) tr)
  | region id ops draw =>
    intro m tm hp w a x tm' hp' Q tr inv hf h hq
    rw [evCode_region] at h
    split at h
    · split at h
      · rename_i h1
        injection h with h
        injection h with e1 h
        injection h with e2 e3
        subst e1 e2 e3
        exact wpIn_region_list (evOps_ok ok hext hcall hnx ops.toList m tm hp w a tr inv hf h1 hq)
      · cases h
    · split at h
      · rename_i hd
        split at h
        · rename_i h1
          injection h with h
          injection h with e1 h
          injection h with e2 e3
          subst e1 e2 e3
          exact hdraw r0 sz id ops m tm _ hp _ w a Q tr inv hf hd h1 hq
        · cases h
      · cases h
  | seq c1 c2 ih1 ih2 =>
    intro m tm hp w a x tm' hp' Q tr inv hf h hq
    rw [evCode_seq] at h
    refine wpIn_seq ?_
    split at h
    · rename_i tm1 hp1 h1
      have n2 := evCode_nx hnx _ _ _ _ _ _ h
      exact ih1 m tm hp w a .normal tm1 hp1 _ tr inv (hf.sub (Nat.le_refl _) n2) h1 (fun m1 w1 a1 st tr1 =>
        ih2 m1 tm1 hp1 w1 a1 x tm' hp' Q tr1 st.inv (hf.step st) h (fun m2 w2 a2 st2 tr2 => hq m2 w2 a2 (st.trans st2) tr2))
    · rename_i hne
      refine ih1 m tm hp w a x tm' hp' _ tr inv hf h (fun m1 w1 a1 st tr1 => ?_)
      cases x with
      | normal => exact (hne _ _ h).elim
      | exit id => exact hq m1 w1 a1 st tr1
      | ret => exact hq m1 w1 a1 st tr1
  | cond c c1 c2 ih1 ih2 =>
    intro m tm hp w a x tm' hp' Q tr inv hf h hq
    rw [evCode_cond] at h
    split at h
    · rename_i hc
      exact wpIn_cond_true ((evX_ok tr hc).flat_iff rfl) (ih1 m tm hp w a x tm' hp' Q tr inv hf h hq)
    · rename_i hc
      exact wpIn_cond_false ((evX_ok tr hc).flat_iff rfl) (ih2 m tm hp w a x tm' hp' Q tr inv hf h hq)
    · cases h
  | block id c1 ih =>
    intro m tm hp w a x tm' hp' Q tr inv hf h hq
    rw [evCode_block] at h
    refine wpIn_block ?_
    split at h
    · rename_i id' tm1 hp1 h1
      split at h
      · rename_i hid
        have hid := Nat.eq_of_beq_eq_true hid
        injection h with h
        injection h with e1 h
        injection h with e2 e3
        subst e1 e2 e3
        refine ih m tm hp w a (.exit id') _ _ _ tr inv hf h1 (fun m1 w1 a1 st tr1 => ?_)
        simp only [exitOf, Exit.inBlock, hid, if_true]
        exact hq m1 w1 a1 st tr1
      · rename_i hid
        have hid := Nat.ne_of_beq_eq_false hid
        injection h with h
        injection h with e1 h
        injection h with e2 e3
        subst e1 e2 e3
        refine ih m tm hp w a (.exit id') _ _ _ tr inv hf h1 (fun m1 w1 a1 st tr1 => ?_)
        simp only [exitOf, Exit.inBlock, if_neg hid]
        exact hq m1 w1 a1 st tr1
    · rename_i hne
      refine ih m tm hp w a x tm' hp' _ tr inv hf h (fun m1 w1 a1 st tr1 => ?_)
      cases x with
      | normal => exact hq m1 w1 a1 st tr1
      | exit id => exact (hne _ _ _ h).elim
      | ret => exact hq m1 w1 a1 st tr1
  | loop c1 ih =>
    intro m tm hp w a x tm' hp' Q tr inv hf h hq
    exact wpIn_loop_rounds n (iter_ok (r0 := r0) ok hext hcall hnx (fun tm hp x tm' hp' h => evCode_nx hnx _ _ _ _ _ _ h) (fun m tm hp w a x tm' hp' Q tr inv hf h hq => ih m tm hp w a x tm' hp' Q tr inv hf h hq) n m tm hp w a x tm' hp' Q tr inv hf h hq)
  | rangeFunc f ps a b iha ihb => intro m tm hp w a x tm' hp' Q tr inv hf h hq; cases h
  | exit id =>
    intro m tm hp w a x tm' hp' Q tr inv hf h hq
    have h : some (AX.exit id, tm, hp) = some (x, tm', hp') := h
    injection h with h
    injection h with h1 h
    injection h with h2 h3
    subst h1 h2 h3
    exact wpIn_exit (hq m w a (.refl inv) tr)
  | scope c1 ih =>
    intro m tm hp w a x tm' hp' Q tr inv hf h hq
    refine wpIn_scope_straight (ih m tm hp w a x tm' hp' _ tr inv hf h (fun m1 w1 a1 st tr1 => ?_))
    have := hq m1 w1 a1 st tr1
    cases x <;> exact this
  | label l =>
    intro m tm hp w a x tm' hp' Q tr inv hf h hq
    have h : some (AX.normal, tm, hp) = some (x, tm', hp') := h
    injection h with h
    injection h with h1 h
    injection h with h2 h3
    subst h1 h2 h3
    exact wpIn_label (hq m w a (.refl inv) tr)
  | goto l => intro m tm hp w a x tm' hp' Q tr inv hf h hq; cases h
  | ret =>
    intro m tm hp w a x tm' hp' Q tr inv hf h hq
    have h : some (AX.ret, tm, hp) = some (x, tm', hp') := h
    injection h with h
    injection h with h1 h
    injection h with h2 h3
    subst h1 h2 h3
    exact wpIn_ret (hq m w a (.refl inv) tr)
  | refuse s => intro m tm hp w a x tm' hp' Q tr inv hf h hq; cases h
end
end Go.Proofs.Ytlfliibmhapgaaa.Ev
