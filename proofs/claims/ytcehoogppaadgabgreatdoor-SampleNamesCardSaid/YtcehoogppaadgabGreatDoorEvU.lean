/- What the reckoner does not write stays; what it does not look at does not matter. -/
import Derived.Test.YtcehoogppaadgabGreatDoorEvR
set_option linter.unusedVariables false
set_option linter.unusedSimpArgs false
set_option linter.unusedSectionVars false
namespace Go.Proofs.YtcehoogppaadgabGreatDoor.Ev
open Go Go.RowKit

def Dom (hp : Hp) : Prop := ∀ b ob, hp.tr.get b = some ob → b < hp.nx

structure Grow (hp hp' : Hp) : Prop where
  nx : hp.nx ≤ hp'.nx
  lo : hp'.lo ≤ hp.lo
  low : ∀ b, b < hp.nx → b < hp'.lo → hp'.tr.get b = hp.tr.get b
  dom : Dom hp → Dom hp'

theorem Grow.refl (hp : Hp) : Grow hp hp := ⟨Nat.le_refl _, Nat.le_refl _, fun _ _ _ => rfl, id⟩
theorem Grow.trans {a b c : Hp} (h : Grow a b) (k : Grow b c) : Grow a c :=
  ⟨Nat.le_trans h.nx k.nx, Nat.le_trans k.lo h.lo, fun x hx hl => (k.low x (Nat.lt_of_lt_of_le hx h.nx) hl).trans (h.low x hx (Nat.lt_of_lt_of_le hl k.lo)), fun d => k.dom (h.dom d)⟩

theorem grow_new (hp : Hp) (o : AObj) : Grow hp { tr := hp.tr.set hp.nx o, nx := Nat.succ hp.nx, lo := hp.lo } :=
  ⟨Nat.le_succ _, Nat.le_refl _, fun b hb _ => by simp only [Tr.get_set, if_neg (show b ≠ hp.nx by omega)], fun d b ob h => by
    simp only [Tr.get_set] at h
    by_cases hb : b = hp.nx
    · subst hb; exact Nat.lt_succ_self _
    · rw [if_neg hb] at h; exact Nat.lt_succ_of_lt (d b ob h)⟩

theorem grow_set {hp : Hp} {b : Nat} (o : AObj) (hb : Dom hp → b < hp.nx) : Grow hp { tr := hp.tr.set b o, nx := hp.nx, lo := least b hp.lo } :=
  ⟨Nat.le_refl _, least_le_right _ _, fun x hx hl => by
    have : x ≠ b := fun hh => by
      have := least_le_left b hp.lo
      simp only at hl
      omega
    simp only [Tr.get_set, if_neg this], fun d x ob h => by
    simp only [Tr.get_set] at h
    by_cases hx : x = b
    · subst hx; exact hb d
    · rw [if_neg hx] at h; exact d x ob h⟩

theorem putRow_grow {hp hp' : Hp} {a : Addr} {l : List Value} (h : putRow hp a l = some hp') : Grow hp hp' := by
  unfold putRow at h
  split at h
  · rename_i hob
    split at h
    · split at h
      · injection h with h; subst h; exact grow_set _ (fun d => d _ _ hob)
      · cases h
    · cases h
  · cases h

theorem growA_grow {hp hp' : Hp} {te : TI} {e : TypeId} {str : Bool} {need : Nat} {l : List Value} {v : Value} (h : growA hp te e str need l = some (v, hp')) : Grow hp hp' := by
  unfold growA at h
  split at h
  · injection h with h; injection h with _ h; subst h; exact grow_new _ _
  · cases h

theorem killA_grow {hp : Hp} {b : Nat} {ob : AObj} (h : hp.tr.get b = some ob) : Grow hp (killA hp b) := grow_set _ (fun d => d _ _ h)

theorem appendA_grow {cx : Cx} {hp hp' : Hp} {t u : TypeId} {s x v : Value} (h : appendA cx hp t u s x = some (v, hp')) : Grow hp hp' := by
  unfold appendA at h
  repeat' (split at h)
  all_goals first
    | (cases h; done)
    | (injection h with h; injection h with _ h; subst h; exact Grow.refl _)
    | (rename_i hput; injection h with h; injection h with _ h; subst h; exact putRow_grow hput)
    | exact growA_grow h
    | (apply Grow.trans ?_ (growA_grow h); apply killA_grow; assumption)

theorem copyA_grow {cx : Cx} {hp hp' : Hp} {t : TypeId} {d x v : Value} (h : copyA cx hp t d x = some (v, hp')) : Grow hp hp' := by
  unfold copyA at h
  repeat' (split at h)
  all_goals first
    | (cases h; done)
    | (injection h with h; injection h with _ h; subst h; exact Grow.refl _)
    | (rename_i hput; injection h with h; injection h with _ h; subst h; exact putRow_grow hput)

theorem clearA_grow {cx : Cx} {hp hp' : Hp} {t : TypeId} {x v : Value} (h : clearA cx hp t x = some (v, hp')) : Grow hp hp' := by
  unfold clearA at h
  repeat' (split at h)
  all_goals first
    | (cases h; done)
    | (injection h with h; injection h with _ h; subst h; exact Grow.refl _)
    | (rename_i hput; injection h with h; injection h with _ h; subst h; exact putRow_grow hput)

theorem mapOb_get {hp : Hp} {x : Value} {b : Nat} {es : List MapEntry} {c : Nat} (h : mapOb hp x = some (b, es, c)) : hp.tr.get b = some (.map es c) := by
  unfold mapOb at h
  split at h
  · split at h
    · rename_i hob
      injection h with h
      injection h with h1 h
      injection h with h2 h3
      subst h1 h2 h3
      exact hob
    · cases h
  · cases h

theorem mapSet_grow {hp : Hp} {x : Value} {b : Nat} {es : List MapEntry} {c : Nat} (h : mapOb hp x = some (b, es, c)) (es' : List MapEntry) (c' : Nat) : Grow hp (mapSet hp b es' c') := grow_set _ (fun d => d _ _ (mapOb_get h))

theorem makeMapA_grow {cx : Cx} {hp hp' : Hp} {t : TypeId} {r : Option Value} {v : Value} (h : makeMapA cx hp t r = some (v, hp')) : Grow hp hp' := by
  unfold makeMapA at h
  repeat' (split at h)
  all_goals first
    | (cases h; done)
    | (injection h with h; injection h with _ h; subst h; exact grow_new _ _)

theorem mapUpdateA_grow {cx : Cx} {hp hp' : Hp} {t : TypeId} {x k v : Value} (h : mapUpdateA cx hp t x k v = some hp') : Grow hp hp' := by
  unfold mapUpdateA at h
  repeat' (split at h)
  all_goals first
    | (cases h; done)
    | (injection h with h; subst h; apply mapSet_grow; assumption)

theorem mapEntryA_grow {cx : Cx} {hp hp' : Hp} {t : TypeId} {x k v : Value} (h : mapEntryA cx hp t x k = some (v, hp')) : Grow hp hp' := by
  unfold mapEntryA at h
  repeat' (split at h)
  all_goals first
    | (cases h; done)
    | (injection h with h; injection h with _ h; subst h; apply mapSet_grow; assumption)

theorem entryStoreA_grow {hp hp' : Hp} {x s v : Value} (h : entryStoreA hp x s v = some hp') : Grow hp hp' := by
  unfold entryStoreA at h
  repeat' (split at h)
  all_goals first
    | (cases h; done)
    | (injection h with h; subst h; apply mapSet_grow; assumption)

theorem deleteA_grow {cx : Cx} {hp hp' : Hp} {t : TypeId} {x k : Value} (h : deleteA cx hp t x k = some hp') : Grow hp hp' := by
  unfold deleteA at h
  repeat' (split at h)
  all_goals first
    | (cases h; done)
    | (injection h with h; subst h; exact Grow.refl _)
    | (injection h with h; subst h; apply mapSet_grow; assumption)

theorem builtinA_grow {cx : Cx} {hp hp' : Hp} {b : Builtin} {ts : List TypeId} {args : List Value} {v : Value} (h : builtinA cx hp b ts args = some (v, hp')) : Grow hp hp' := by
  unfold builtinA at h
  split at h
  case h_8 => exact appendA_grow h
  case h_9 => exact copyA_grow h
  case h_10 => exact clearA_grow h
  case h_7 =>
    repeat' (split at h)
    all_goals first
      | (cases h; done)
      | (injection h with h; injection h with _ h; subst h; apply killA_grow; assumption)
  all_goals
    repeat' (split at h)
    all_goals first
      | (cases h; done)
      | (injection h with h; injection h with _ h; subst h; exact Grow.refl _)
      | (rename_i hst; injection h with h; injection h with _ h; subst h; exact deleteA_grow hst)

theorem convA_grow {cx : Cx} {hp hp' : Hp} {s d : TypeId} {x v : Value} (h : convA cx hp s d x = some (v, hp')) : Grow hp hp' := by
  unfold convA at h
  repeat' (split at h)
  all_goals first
    | (cases h; done)
    | (injection h with h; injection h with _ h; subst h; exact Grow.refl _)
    | (injection h with h; injection h with _ h; subst h; exact grow_new _ _)
    | (rename_i hob; injection h with h; injection h with _ h; subst h; exact grow_set _ (fun d => d _ _ hob))

theorem storeA_grow {cx : Cx} {hp hp' : Hp} {t : TypeId} {a : Addr} {v : Value} (h : storeA cx hp t a v = some hp') : Grow hp hp' := by
  unfold storeA at h
  repeat' (split at h)
  all_goals first
    | (cases h; done)
    | exact putRow_grow h

theorem buildSliceA_grow {cx : Cx} {hp hp' : Hp} {t : TypeId} {n : Nat} {ps : List (Nat × Value)} {v : Value} (h : buildSliceA cx hp t n ps = some (v, hp')) : Grow hp hp' := by
  unfold buildSliceA at h
  repeat' (split at h)
  all_goals first
    | (cases h; done)
    | (injection h with h; injection h with _ h; subst h; exact grow_new _ _)
theorem makeSliceA_grow {cx : Cx} {hp hp' : Hp} {t : TypeId} {l c v : Value} (h : makeSliceA cx hp t l c = some (v, hp')) : Grow hp hp' := by
  unfold makeSliceA at h
  repeat' (split at h)
  all_goals first
    | (cases h; done)
    | (injection h with h; injection h with _ h; subst h; exact grow_new _ _)

def GrowOk (call : CallF) : Prop := ∀ f args hp v hp', call f args hp = some (v, hp') → Grow hp hp'

section
variable {cx : Cx} {call : CallF} (hc : GrowOk call) {tm : Tr Value} {hp hp' : Hp}
include hc

theorem GrowOk.nx : NxOk call := fun f args hp v hp' h => (hc f args hp v hp' h).nx

theorem evCall_grow {c : Call} {v : Value} (h : evCall cx call tm hp c = some (v, hp')) : Grow hp hp' := by
  unfold evCall at h
  repeat' (split at h)
  all_goals first
    | (cases h; done)
    | exact builtinA_grow h
    | exact hc _ _ _ _ _ h
    | (obtain ⟨-, rfl⟩ := keep_parts h; exact Grow.refl _)

theorem evOp_grow {o : Op} {v : Value} (h : evOp cx call tm hp o = some (v, hp')) : Grow hp hp' := by
  unfold evOp at h
  split at h
  all_goals
    repeat' (split at h)
    all_goals first
      | (cases h; done)
      | (obtain ⟨-, rfl⟩ := keep_parts h; exact Grow.refl _)
      | (injection h with h; injection h with _ h; subst h; exact Grow.refl _)
      | (injection h with h; injection h with _ h; subst h; exact grow_new _ _)
      | exact buildSliceA_grow h
      | exact makeSliceA_grow h
      | exact makeMapA_grow h
      | exact mapEntryA_grow h
      | exact convA_grow h
      | exact evCall_grow hc h
      | (rename_i hst; injection h with h; injection h with _ h; subst h; exact storeA_grow hst)
      | (rename_i hst; injection h with h; injection h with _ h; subst h; exact mapUpdateA_grow hst)
      | (rename_i hst; injection h with h; injection h with _ h; subst h; exact entryStoreA_grow hst)

theorem evOper_grow {sz : Nat} {all : List Oper} {o : Oper} {tm' : Tr Value} (h : evOper cx call sz all o tm hp = some (tm', hp')) : Grow hp hp' := by
  rcases evOper_parts (GrowOk.nx hc) h with ⟨-, -, rfl⟩ | ⟨-, v, h1, -⟩
  · exact Grow.refl _
  · exact evOp_grow hc h1

theorem evOps_grow {sz : Nat} {all : List Oper} : ∀ {l : List Oper} {tm tm' : Tr Value} {hp hp' : Hp}, evOps cx call sz all l tm hp = some (tm', hp') → Grow hp hp' := by
  intro l
  induction l with
  | nil => intro tm tm' hp hp' h; have h : some (tm, hp) = some (tm', hp') := h; injection h with h; injection h with _ h; subst h; exact Grow.refl _
  | cons o l ih =>
    intro tm tm' hp hp' h
    rw [evOps_cons] at h
    split at h
    · cases h
    · rename_i tm1 hp1 h1
      exact (evOper_grow hc h1).trans (ih h)

theorem evDraw_grow {sz : Nat} {all : List Oper} {bef : List Nat} : ∀ {l : List Oper} {i : Nat} {tm tm' : Tr Value} {hp hp' : Hp}, evDraw cx call sz all bef l i tm hp = some (tm', hp') → Grow hp hp' := by
  intro l
  induction l with
  | nil => intro i tm tm' hp hp' h; have h : some (tm, hp) = some (tm', hp') := h; injection h with h; injection h with _ h; subst h; exact Grow.refl _
  | cons o l ih =>
    intro i tm tm' hp hp' h
    rw [evDraw_cons] at h
    split at h
    · cases h
    · rename_i tm1 hp1 h1
      have g := evOper_grow hc h1
      split at h
      · rename_i hq
        have hq := Nat.le_of_ble_eq_true hq
        have g2 := ih h
        exact Grow.trans (b := { tr := hp1.tr, nx := hp1.nx, lo := hp.lo }) ⟨g.nx, Nat.le_refl _, fun b hb _ => g.low b hb (Nat.lt_of_lt_of_le hb hq), g.dom⟩ g2
      · split at h
        · have g2 := ih h
          exact Grow.trans (b := { tr := hp1.tr, nx := hp1.nx, lo := least hp1.lo hp.lo }) ⟨g.nx, least_le_right _ _, fun b hb hl => g.low b hb (Nat.lt_of_lt_of_le hl (least_le_left _ _)), g.dom⟩ g2
        · cases h

omit hc in
theorem iter_grow {body : Tr Value → Hp → CS} (hb : ∀ tm hp x tm' hp', body tm hp = some (x, tm', hp') → Grow hp hp') : ∀ (n : Nat) (tm : Tr Value) (hp : Hp) (x : AX) (tm' : Tr Value) (hp' : Hp), iter body n tm hp = some (x, tm', hp') → Grow hp hp' := by
  intro n
  induction n with
  | zero => intro tm hp x tm' hp' h; cases h
  | succ n ih =>
    intro tm hp x tm' hp' h
    rw [iter_succ] at h
    split at h
    · rename_i tm1 hp1 h1
      exact (hb _ _ _ _ _ h1).trans (ih _ _ _ _ _ h)
    · exact hb _ _ _ _ _ h

omit hc in
theorem loopSet_grow {hp : Hp} {b : Nat} {l l' : ALoop} (h : loopOb hp b = some l) : Grow hp (loopSet hp b l') := grow_set _ (fun d => d _ _ (loopOb_get h))

theorem evRange_grow {sz : Nat} {ro : Option Nat} {g : Operand} {ps : Array Tmp} {a b : Code} {x : AX} {tm' : Tr Value} (h : evRange cx call sz ro g ps a b tm hp = some (x, tm', hp')) : Grow hp hp' := by
  obtain ⟨-, f, first, captured, v, hp2, lp, -, -, hcall, hlp, -, -, -, rfl⟩ := evRange_parts h
  exact ((grow_new hp (.loop _)).trans (hc _ _ _ _ _ hcall)).trans (loopSet_grow hlp)

theorem evCode_grow {sz n : Nat} {ro : Option Nat} : ∀ (c : Code) (tm : Tr Value) (hp : Hp) (x : AX) (tm' : Tr Value) (hp' : Hp), evCode cx call sz n ro c tm hp = some (x, tm', hp') → Grow hp hp' := by
  intro c
  induction c with
  | skip => intro tm hp x tm' hp' h; have h : some (AX.normal, tm, hp) = some (x, tm', hp') := h; injection h with h; injection h with _ h; injection h with _ h; subst h; exact Grow.refl _
  | region id ops draw =>
    intro tm hp x tm' hp' h
    rw [evCode_region] at h
    split at h
    · split at h
      · rename_i h1
        injection h with h; injection h with _ h; injection h with _ h; subst h
        exact evOps_grow hc h1
      · cases h
    · split at h
      · split at h
        · rename_i h1
          injection h with h; injection h with _ h; injection h with _ h; subst h
          exact evDraw_grow hc h1
        · cases h
      · cases h
  | seq a b iha ihb =>
    intro tm hp x tm' hp' h
    rw [evCode_seq] at h
    split at h
    · rename_i tm1 hp1 h1
      exact (iha _ _ _ _ _ h1).trans (ihb _ _ _ _ _ h)
    · exact iha _ _ _ _ _ h
  | cond c a b iha ihb =>
    intro tm hp x tm' hp' h
    rw [evCode_cond] at h
    split at h
    · exact iha _ _ _ _ _ h
    · exact ihb _ _ _ _ _ h
    · cases h
  | block id a ih =>
    intro tm hp x tm' hp' h
    rw [evCode_block] at h
    split at h
    · rename_i h1
      split at h
      · injection h with h; injection h with _ h; injection h with _ h; subst h; exact ih _ _ _ _ _ h1
      · injection h with h; injection h with _ h; injection h with _ h; subst h; exact ih _ _ _ _ _ h1
    · exact ih _ _ _ _ _ h
  | loop a ih => intro tm hp x tm' hp' h; exact iter_grow (fun tm hp x tm' hp' h => ih tm hp x tm' hp' h) n tm hp x tm' hp' h
  | rangeFunc f ps a b iha ihb => intro tm hp x tm' hp' h; exact evRange_grow hc h
  | exit id => intro tm hp x tm' hp' h; have h : some (AX.exit id, tm, hp) = some (x, tm', hp') := h; injection h with h; injection h with _ h; injection h with _ h; subst h; exact Grow.refl _
  | scope a ih => intro tm hp x tm' hp' h; exact ih tm hp x tm' hp' h
  | label l => intro tm hp x tm' hp' h; have h : some (AX.normal, tm, hp) = some (x, tm', hp') := h; injection h with h; injection h with _ h; injection h with _ h; subst h; exact Grow.refl _
  | goto l => intro tm hp x tm' hp' h; cases h
  | ret => intro tm hp x tm' hp' h; have h : some (AX.ret, tm, hp) = some (x, tm', hp') := h; injection h with h; injection h with _ h; injection h with _ h; subst h; exact Grow.refl _
  | refuse s => intro tm hp x tm' hp' h; cases h
end

theorem evFn_grow (cx : Cx) (n : Nat) : ∀ d, GrowOk (evFn cx n d) := by
  intro d
  induction d with
  | zero => intro c args hp v hp' h; rw [evFn_zero] at h; cases h
  | succ d ih =>
    intro c args hp v hp' h
    cases c with
    | fn f =>
      rw [evFn_fn] at h
      obtain ⟨fi, x, tm, l, -, -, h1, -, -, -⟩ := evBody_parts h
      exact evCode_grow ih _ _ _ _ _ _ h1
    | yield b =>
      rw [evFn_yield] at h
      obtain ⟨lp, tm0, tm1, hp1, lp1, x, tm2, hp2, lp2, -, -, -, h1, h5, -, h2, h8, -, rfl⟩ := evRound_parts h
      exact (((evCode_grow ih _ _ _ _ _ _ h1).trans (loopSet_grow h5)).trans (evCode_grow ih _ _ _ _ _ _ h2)).trans (loopSet_grow h8)

theorem evX_congr {tm tm' : Tr Value} {x : Operand} (h : ∀ t, x = .tmp t → tm.get t = tm'.get t) : evX tm x = evX tm' x := by
  cases x with
  | tmp t => exact h t rfl
  | const c => rfl
  | global g => rfl
  | func f => rfl

theorem evXs_congr {tm tm' : Tr Value} : ∀ {l : List Operand}, (∀ t, Operand.tmp t ∈ l → tm.get t = tm'.get t) → evXs tm l = evXs tm' l := by
  intro l
  induction l with
  | nil => intro _; rfl
  | cons x l ih =>
    intro h
    have h1 : evX tm x = evX tm' x := evX_congr (fun t ht => h t (by rw [ht]; exact List.mem_cons_self))
    have h2 := ih (fun t ht => h t (List.mem_cons_of_mem _ ht))
    show (match evX tm x with | none => none | some v => match evXs tm l with | none => none | some vs => some (v :: vs)) = (match evX tm' x with | none => none | some v => match evXs tm' l with | none => none | some vs => some (v :: vs))
    rw [h1, h2]

theorem evParts_congr {tm tm' : Tr Value} : ∀ {l : List (Nat × Operand)}, (∀ t, Operand.tmp t ∈ l.map (·.2) → tm.get t = tm'.get t) → evParts tm l = evParts tm' l := by
  intro l
  induction l with
  | nil => intro _; rfl
  | cons x l ih =>
    intro h
    have h1 : evX tm x.2 = evX tm' x.2 := evX_congr (fun t ht => h t (by simp [ht]))
    have h2 := ih (fun t ht => h t (List.mem_cons_of_mem _ ht))
    show (match evX tm x.2 with | none => none | some v => match evParts tm l with | none => none | some vs => some ((x.1, v) :: vs)) = (match evX tm' x.2 with | none => none | some v => match evParts tm' l with | none => none | some vs => some ((x.1, v) :: vs))
    rw [h1, h2]

theorem opt_congr {tm tm' : Tr Value} {x : Option Operand} (h : ∀ t, x = some (.tmp t) → tm.get t = tm'.get t) : opt tm x = opt tm' x := by
  cases x with
  | none => rfl
  | some x =>
    show (match evX tm x with | some v => some (some v) | none => none) = (match evX tm' x with | some v => some (some v) | none => none)
    rw [evX_congr (fun t ht => h t (by rw [ht]))]

theorem evOp_congr {cx : Cx} {call : CallF} {tm tm' : Tr Value} {hp : Hp} {o : Op} (h : ∀ t, Operand.tmp t ∈ o.operands.toList → tm.get t = tm'.get t) : evOp cx call tm hp o = evOp cx call tm' hp o := by
  have hx : ∀ x, x ∈ o.operands.toList → evX tm x = evX tm' x := fun x hm => evX_congr (fun t ht => h t (by rw [← ht]; exact hm))
  cases o <;> simp only [evOp] <;> simp only [Op.operands] at h hx
  case build t parts => rw [evParts_congr (l := parts.toList) (fun t ht => h t (by simpa using ht))]
  case buildSlice t n parts => rw [evParts_congr (l := parts.toList) (fun t ht => h t (by simpa using ht))]
  case makeFunc fn first captured =>
    rw [evXs_congr (l := first.toList) (fun t ht => h t (by simp; exact .inl (by simpa using ht))), evXs_congr (l := captured.toList) (fun t ht => h t (by simp; exact .inr (by simpa using ht)))]
  case makeMap t r => rw [opt_congr (x := r) (fun t ht => h t (by simp [ht]))]
  case slice t x lo hi mx =>
    rw [hx x (by simp), opt_congr (x := lo) (fun t ht => h t (by simp [ht])), opt_congr (x := hi) (fun t ht => h t (by simp [ht])), opt_congr (x := mx) (fun t ht => h t (by simp [ht]))]
  case call c =>
    unfold evCall
    simp only [Call.operands] at h hx
    rw [evXs_congr (l := c.args.toList) (fun t ht => h t (by simp; exact .inr (by simpa using ht)))]
    split
    · rfl
    · split
      · rfl
      · rename_i f hf
        rw [hx f (by simp [hf])]
      · rename_i r nm hf
        rw [hx r (by simp [hf])]
  all_goals first
    | rfl
    | (rw [hx _ (by simp)]; done)
    | (rw [hx _ (by simp), hx _ (by simp)]; done)
    | (rename_i c a b; rw [hx c (by simp), hx a (by simp), hx b (by simp)]; done)
    | (rename_i a b c; rw [hx a (by simp), hx b (by simp)]; done)
    | (rename_i a b; rw [hx a (by simp), hx b (by simp)]; done)
    | (rename_i t a b; rw [hx a (by simp), hx b (by simp)]; done)
    | (rename_i op t x y yt; rw [hx x (by simp), hx y (by simp)]; done)

/-- What looks at no memory, in whatever memory. -/
theorem evOp_pure {cx : Cx} {call : CallF} {tm : Tr Value} {o : Op} (h : pureOp o = true) : ∃ r : Option Value, ∀ hp, evOp cx call tm hp o = keep hp r := by
  cases o <;> first
    | (cases h; done)
    | skip
  case move x => exact ⟨evX tm x, fun _ => rfl⟩
  case assign x => exact ⟨evX tm x, fun _ => rfl⟩
  case pick c a b =>
    cases hc : evX tm c with
    | none => exact ⟨none, fun _ => by simp [evOp, hc, keep]⟩
    | some v =>
      cases v with
      | bool t => cases t with
        | false => exact ⟨evX tm b, fun _ => by simp [evOp, hc]⟩
        | true => exact ⟨evX tm a, fun _ => by simp [evOp, hc]⟩
      | _ => exact ⟨none, fun _ => by simp [evOp, hc, keep]⟩
  case binOp op t x y yt =>
    cases hx : evX tm x with
    | none => exact ⟨none, fun _ => by simp [evOp, hx, keep]⟩
    | some u => cases hy : evX tm y with
      | none => exact ⟨none, fun _ => by simp [evOp, hx, hy, keep]⟩
      | some v => exact ⟨binA cx op t u v, fun _ => by simp [evOp, hx, hy]⟩
  case unOp op t x =>
    cases hx : evX tm x with
    | none => exact ⟨none, fun _ => by simp [evOp, hx, keep]⟩
    | some u => exact ⟨unA op u, fun _ => by simp [evOp, hx]⟩
  case fieldAddr t x f =>
    cases hx : evX tm x with
    | none => exact ⟨none, fun _ => by simp [evOp, hx, keep]⟩
    | some u => exact ⟨fieldAddrA cx t u f, fun _ => by simp [evOp, hx]⟩
  case field t x f =>
    cases hx : evX tm x with
    | none => exact ⟨none, fun _ => by simp [evOp, hx, keep]⟩
    | some u => exact ⟨fieldA cx t u f, fun _ => by simp [evOp, hx]⟩
  case indexAddr t x y =>
    cases hx : evX tm x with
    | none => exact ⟨none, fun _ => by simp [evOp, hx, keep]⟩
    | some u => cases hy : evX tm y with
      | none => exact ⟨none, fun _ => by simp [evOp, hx, hy, keep]⟩
      | some v => exact ⟨indexAddrA cx t u v, fun _ => by simp [evOp, hx, hy]⟩
  case index t x y =>
    cases hx : evX tm x with
    | none => exact ⟨none, fun _ => by simp [evOp, hx, keep]⟩
    | some u => cases hy : evX tm y with
      | none => exact ⟨none, fun _ => by simp [evOp, hx, hy, keep]⟩
      | some v => exact ⟨indexA cx t u v, fun _ => by simp [evOp, hx, hy]⟩
  case extract x i =>
    cases hx : evX tm x with
    | none => exact ⟨none, fun _ => by simp [evOp, hx, keep]⟩
    | some u => cases u with
      | tuple vs => exact ⟨vs.toList[i]?, fun _ => by simp [evOp, hx]⟩
      | _ => exact ⟨none, fun _ => by simp [evOp, hx, keep]⟩
  case typeAssert x xt t b =>
    cases hx : evX tm x with
    | none => exact ⟨none, fun _ => by simp [evOp, hx, keep]⟩
    | some u => exact ⟨assertA cx u t b, fun _ => by simp [evOp, hx]⟩
  case makeFunc fn first captured =>
    cases hx : evXs tm first.toList with
    | none => exact ⟨none, fun _ => by simp [evOp, hx, keep]⟩
    | some u => cases hy : evXs tm captured.toList with
      | none => exact ⟨none, fun _ => by simp [evOp, hx, hy, keep]⟩
      | some v => cases hn : noYield fn with
        | true => exact ⟨some (.func fn ⟨u⟩ ⟨v⟩), fun _ => by simp [evOp, hx, hy, hn, keep]⟩
        | false => exact ⟨none, fun _ => by simp [evOp, hx, hy, hn, keep]⟩
  case makeInterface t x =>
    cases hx : evX tm x with
    | none => exact ⟨none, fun _ => by simp [evOp, hx, keep]⟩
    | some u => cases ht : cx.t t with
      | none => exact ⟨none, fun _ => by simp [evOp, hx, ht, keep]⟩
      | some ti => cases hd : ti.desc <;> first
        | (refine ⟨none, fun _ => ?_⟩; simp [evOp, hx, ht, hd, keep]; done)
        | (refine ⟨some (.iface t u), fun _ => ?_⟩; simp [evOp, hx, ht, hd, keep]; done)
  case nilCheck x =>
    cases hx : evX tm x with
    | none => exact ⟨none, fun _ => by simp [evOp, hx, keep]⟩
    | some u => cases u with
      | pointer p => cases p with
        | none => exact ⟨none, fun _ => by simp [evOp, hx, keep]⟩
        | some p => exact ⟨some (.pointer (some p)), fun _ => by simp [evOp, hx, keep]⟩
      | func fn y z => cases fn with
        | func f => exact ⟨some (.func (.func f) y z), fun _ => by simp [evOp, hx, keep]⟩
        | yield b => exact ⟨some (.func (.yield b) ⟨[]⟩ ⟨[]⟩), fun _ => by simp [evOp, hx, keep]⟩
        | _ => exact ⟨none, fun _ => by simp [evOp, hx, keep]⟩
      | map r => exact ⟨some (.map r), fun _ => by simp [evOp, hx, keep]⟩
      | iface t v => exact ⟨some (.iface t v), fun _ => by simp [evOp, hx, keep]⟩
      | _ => exact ⟨none, fun _ => by simp [evOp, hx, keep]⟩
end Go.Proofs.YtcehoogppaadgabGreatDoor.Ev
