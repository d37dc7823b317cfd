import Derived.Test.YtaepplhgeeaidaaDoorEvR
section
set_option linter.unusedVariables false
set_option linter.unusedSimpArgs false
set_option linter.unusedSectionVars false
namespace Go.Proofs.YtaepplhgeeaidaaDoor.Ev
open Go Go.RowKit
theorem evX_congr {tm tm' : Tr Value} {x : Operand} (h : ∀ t, x = .tmp t → tm.get t = tm'.get t) : evX tm x = evX tm' x := by
  cases x with
  | tmp t => exact h t rfl
  | const c => rfl
  | global g => rfl
  | func f => rfl
theorem evXs_congr {tm tm' : Tr Value} : ∀ {l : List Operand}, (∀ t, Operand.tmp t ∈ l → tm.get t = tm'.get t) → evXs tm l = evXs tm' l := by
  intro l
  induction l with
  | nil => intro _; rfl
  | cons x l ih =>
    intro h
    have h1 : evX tm x = evX tm' x := evX_congr (fun t ht => h t (by rw [ht]; exact List.mem_cons_self))
    have h2 := ih (fun t ht => h t (List.mem_cons_of_mem _ ht))
    show (match evX tm x with | none => none | some v => match evXs tm l with | none => none | some vs => some (v :: vs)) = (match evX tm' x with | none => none | some v => match evXs tm' l with | none => none | some vs => some (v :: vs))
    rw [h1, h2]
theorem evParts_congr {tm tm' : Tr Value} : ∀ {l : List (Nat × Operand)}, (∀ t, Operand.tmp t ∈ l.map (·.2) → tm.get t = tm'.get t) → evParts tm l = evParts tm' l := by
  intro l
  induction l with
  | nil => intro _; rfl
  | cons x l ih =>
    intro h
    have h1 : evX tm x.2 = evX tm' x.2 := evX_congr (fun t ht => h t (by simp [ht]))
    have h2 := ih (fun t ht => h t (List.mem_cons_of_mem _ ht))
    show (match evX tm x.2 with | none => none | some v => match evParts tm l with | none => none | some vs => some ((x.1, v) :: vs)) = (match evX tm' x.2 with | none => none | some v => match evParts tm' l with | none => none | some vs => some ((x.1, v) :: vs))
    rw [h1, h2]
theorem opt_congr {tm tm' : Tr Value} {x : Option Operand} (h : ∀ t, x = some (.tmp t) → tm.get t = tm'.get t) : opt tm x = opt tm' x := by
  cases x with
  | none => rfl
  | some x =>
    show (match evX tm x with | some v => some (some v) | none => none) = (match evX tm' x with | some v => some (some v) | none => none)
    rw [evX_congr (fun t ht => h t (by rw [ht]))]
theorem evOp0_congr {cx : Cx} {tm tm' : Tr Value} {hp : Hp} {o : Op} (h : ∀ t, Operand.tmp t ∈ o.operands.toList → tm.get t = tm'.get t) : evOp0 cx tm hp o = evOp0 cx tm' hp o := by
  have hx : ∀ x, x ∈ o.operands.toList → evX tm x = evX tm' x := fun x hm => evX_congr (fun t ht => h t (by rw [← ht]; exact hm))
  cases o <;> simp only [evOp0] <;> simp only [Op.operands] at h hx
  case build t parts => rw [evParts_congr (l := parts.toList) (fun t ht => h t (by simpa using ht))]
  case buildSlice t n parts => rw [evParts_congr (l := parts.toList) (fun t ht => h t (by simpa using ht))]
  case makeFunc fn first captured =>
    rw [evXs_congr (l := first.toList) (fun t ht => h t (by simp; exact .inl (by simpa using ht))), evXs_congr (l := captured.toList) (fun t ht => h t (by simp; exact .inr (by simpa using ht)))]
  case makeMap t r => rw [opt_congr (x := r) (fun t ht => h t (by simp [ht]))]
  case slice t x lo hi mx =>
    rw [hx x (by simp), opt_congr (x := lo) (fun t ht => h t (by simp [ht])), opt_congr (x := hi) (fun t ht => h t (by simp [ht])), opt_congr (x := mx) (fun t ht => h t (by simp [ht]))]
  all_goals first
    | rfl
    | (rw [hx _ (by simp)]; done)
    | (rw [hx _ (by simp), hx _ (by simp)]; done)
    | (rename_i c a b; rw [hx c (by simp), hx a (by simp), hx b (by simp)]; done)
    | (rename_i a b c; rw [hx a (by simp), hx b (by simp)]; done)
    | (rename_i a b; rw [hx a (by simp), hx b (by simp)]; done)
    | (rename_i t a b; rw [hx a (by simp), hx b (by simp)]; done)
    | (rename_i op t x y yt; rw [hx x (by simp), hx y (by simp)]; done)
theorem evOp_congr {cx : Cx} {call : CallF} {tm tm' : Tr Value} {hp : Hp} {o : Op} (h : ∀ t, Operand.tmp t ∈ o.operands.toList → tm.get t = tm'.get t) : evOp cx call tm hp o = evOp cx call tm' hp o := by
  have hx : ∀ x, x ∈ o.operands.toList → evX tm x = evX tm' x := fun x hm => evX_congr (fun t ht => h t (by rw [← ht]; exact hm))
  have h0 := evOp0_congr (cx := cx) (hp := hp) h
  cases o
  case call c =>
    simp only [evOp]
    simp only [Op.operands] at h hx
    unfold evCall
    simp only [Call.operands] at h hx
    rw [evXs_congr (l := c.args.toList) (fun t ht => h t (by simp; exact .inr (by simpa using ht)))]
    split
    · rfl
    · split
      · rfl
      · rename_i f hf
        rw [hx f (by simp [hf])]
      · rename_i r nm hf
        rw [hx r (by simp [hf])]
  case panic x => simp only [evOp]; rw [hx x (by simp [Op.operands])]
  case next x str => simp only [evOp]; rw [hx x (by simp [Op.operands])]
  all_goals (simp only [evOp]; rw [h0])
theorem evOp0_pure {cx : Cx} {tm : Tr Value} {o : Op} (h : pureOp o = true) : ∃ r : Option Value, ∀ hp, evOp0 cx tm hp o = keep hp r := by
  cases o <;> first
    | (cases h; done)
    | skip
  case move x => exact ⟨evX tm x, fun _ => rfl⟩
  case assign x => exact ⟨evX tm x, fun _ => rfl⟩
  case pick c a b =>
    cases hc : evX tm c with
    | none => exact ⟨none, fun _ => by simp [evOp0, hc, keep]⟩
    | some v =>
      cases hb : boolA cx v with
      | some t => cases t with
        | false => exact ⟨evX tm b, fun _ => by simp [evOp0, hc, hb]⟩
        | true => exact ⟨evX tm a, fun _ => by simp [evOp0, hc, hb]⟩
      | none => exact ⟨none, fun _ => by simp [evOp0, hc, hb, keep]⟩
  case binOp op t x y yt =>
    cases hx : evX tm x with
    | none => exact ⟨none, fun _ => by simp [evOp0, hx, keep]⟩
    | some u => cases hy : evX tm y with
      | none => exact ⟨none, fun _ => by simp [evOp0, hx, hy, keep]⟩
      | some v => exact ⟨binS cx op t (cOp x || cOp y) u v, fun _ => by simp [evOp0, hx, hy]⟩
  case unOp op t x =>
    cases hx : evX tm x with
    | none => exact ⟨none, fun _ => by simp [evOp0, hx, keep]⟩
    | some u => exact ⟨unS op u, fun _ => by simp [evOp0, hx]⟩
  case fieldAddr t x f =>
    cases hx : evX tm x with
    | none => exact ⟨none, fun _ => by simp [evOp0, hx, keep]⟩
    | some u => exact ⟨fieldAddrT cx t u f, fun _ => by simp [evOp0, hx]⟩
  case field t x f =>
    cases hx : evX tm x with
    | none => exact ⟨none, fun _ => by simp [evOp0, hx, keep]⟩
    | some u => exact ⟨fieldA cx t u f, fun _ => by simp [evOp0, hx]⟩
  case indexAddr t x y =>
    cases hx : evX tm x with
    | none => exact ⟨none, fun _ => by simp [evOp0, hx, keep]⟩
    | some u => cases hy : evX tm y with
      | none => exact ⟨none, fun _ => by simp [evOp0, hx, hy, keep]⟩
      | some v => exact ⟨indexAddrT cx t u v, fun _ => by simp [evOp0, hx, hy]⟩
  case index t x y =>
    cases hx : evX tm x with
    | none => exact ⟨none, fun _ => by simp [evOp0, hx, keep]⟩
    | some u => cases hy : evX tm y with
      | none => exact ⟨none, fun _ => by simp [evOp0, hx, hy, keep]⟩
      | some v => exact ⟨indexT cx t u v, fun _ => by simp [evOp0, hx, hy]⟩
  case extract x i =>
    cases hx : evX tm x with
    | none => exact ⟨none, fun _ => by simp [evOp0, hx, keep]⟩
    | some u => cases u with
      | tuple vs => exact ⟨vs.toList[i]?, fun _ => by simp [evOp0, hx]⟩
      | _ => exact ⟨none, fun _ => by simp [evOp0, hx, keep]⟩
  case typeAssert x xt t b =>
    cases hx : evX tm x with
    | none => exact ⟨none, fun _ => by simp [evOp0, hx, keep]⟩
    | some u => exact ⟨assertA cx u t b, fun _ => by simp [evOp0, hx]⟩
  case makeFunc fn first captured =>
    cases hx : evXs tm first.toList with
    | none => exact ⟨none, fun _ => by simp [evOp0, hx, keep]⟩
    | some u => cases hy : evXs tm captured.toList with
      | none => exact ⟨none, fun _ => by simp [evOp0, hx, hy, keep]⟩
      | some v => cases hn : noYield fn with
        | true => exact ⟨some (.func fn ⟨u⟩ ⟨v⟩), fun _ => by simp [evOp0, hx, hy, hn, keep]⟩
        | false => exact ⟨none, fun _ => by simp [evOp0, hx, hy, hn, keep]⟩
  case makeInterface t x =>
    cases hx : evX tm x with
    | none => exact ⟨none, fun _ => by simp [evOp0, hx, keep]⟩
    | some u => cases ht : cx.t t with
      | none => exact ⟨none, fun _ => by simp [evOp0, hx, ht, keep]⟩
      | some ti => cases hd : ti.desc <;> first
        | (refine ⟨none, fun _ => ?_⟩; simp [evOp0, hx, ht, hd, keep]; done)
        | (refine ⟨some (.iface t u), fun _ => ?_⟩; simp [evOp0, hx, ht, hd, keep]; done)
  case nilCheck x =>
    cases hx : evX tm x with
    | none => exact ⟨none, fun _ => by simp [evOp0, hx, keep]⟩
    | some u => cases u with
      | pointer p => cases p with
        | none => exact ⟨none, fun _ => by simp [evOp0, hx, keep]⟩
        | some p => exact ⟨some (.pointer (some p)), fun _ => by simp [evOp0, hx, keep]⟩
      | func fn y z => cases fn with
        | func f => exact ⟨some (.func (.func f) y z), fun _ => by simp [evOp0, hx, keep]⟩
        | yield b =>
          cases ht : yieldOk (.func (.yield b) y z) with
          | true => exact ⟨some (.func (.yield b) y z), fun _ => by simp [evOp0, hx, keep, ht]⟩
          | false => exact ⟨none, fun _ => by simp [evOp0, hx, keep, ht]⟩
        | methodOf j nm =>
          cases ht : isTrue cx [num 3, .func (.methodOf j nm) y z] with
          | true => exact ⟨some (.func (.methodOf j nm) y z), fun _ => by simp [evOp0, hx, keep, ht]⟩
          | false => exact ⟨none, fun _ => by simp [evOp0, hx, keep, ht]⟩
        | method nm =>
          cases ht : methNil cx.P nm y with
          | true => exact ⟨some (.func (.method nm) y z), fun _ => by simp [evOp0, hx, keep, ht]⟩
          | false => exact ⟨none, fun _ => by simp [evOp0, hx, keep, ht]⟩
        | _ => exact ⟨none, fun _ => by simp [evOp0, hx, keep]⟩
      | map r => exact ⟨some (.map r), fun _ => by simp [evOp0, hx, keep]⟩
      | iface t v => exact ⟨some (.iface t v), fun _ => by simp [evOp0, hx, keep]⟩
      | _ => exact ⟨none, fun _ => by simp [evOp0, hx, keep]⟩
theorem evOp_pure {cx : Cx} {call : CallF} {tm : Tr Value} {o : Op} (h : pureOp o = true) : ∃ r : Option Value, ∀ hp, evOp cx call tm hp o = lift (keep hp r) := by
  obtain ⟨r, hr⟩ := evOp0_pure (cx := cx) (tm := tm) h
  refine ⟨r, fun hp => ?_⟩
  rw [← hr hp]
  cases o <;> first
    | rfl
    | (simp [pureOp] at h)
theorem lift_keep {hp hp' : Hp} {r : Option Value} {v : Value} (h : lift (keep hp r) = some [(.ret v, hp')]) : r = some v ∧ hp' = hp := by
  obtain ⟨u, hp2, h1, h2⟩ := lift_parts h
  injection h2 with h2 _
  injection h2 with h2 h3
  injection h2 with h2
  subst h2 h3
  exact keep_parts h1
end Go.Proofs.YtaepplhgeeaidaaDoor.Ev
end
section
set_option linter.unusedVariables false
set_option linter.unusedSimpArgs false
set_option linter.unusedSectionVars false
namespace Go.Proofs.YtaepplhgeeaidaaDoor.Ev
open Go Go.RowKit
def Dep (ops : Array Oper) (D : Nat → Prop) (j : Nat) : Prop := ∀ o, ops[j]? = some o → ∀ e, e ∈ o.after.toList → Region.binds .any e = true → D e.on
def Closed (ops : Array Oper) (D : Nat → Prop) : Prop := ∀ j, D j → Dep ops D j
inductive Before (ops : Array Oper) (i : Nat) : Nat → Prop
  | edge (j : Nat) (o : Oper) (e : Edge) (ho : ops[j]? = some o) (he : e ∈ o.after.toList) (hb : Region.binds .any e = true) (hi : e.on = i) : Before ops i j
  | step (k j : Nat) (o : Oper) (e : Edge) (ho : ops[j]? = some o) (he : e ∈ o.after.toList) (hb : Region.binds .any e = true) (hk : e.on = k) (h : Before ops i k) : Before ops i j
theorem Before.mem {ops : Array Oper} {D : Nat → Prop} (hcl : Closed ops D) {i j : Nat} (h : Before ops i j) : Dep ops D j → D i := by
  induction h with
  | edge j o e ho he hb hi => intro hd; rw [← hi]; exact hd o ho e he hb
  | step k j o e ho he hb hk h ih => intro hd; exact ih (hcl k (by rw [← hk]; exact hd o ho e he hb))
theorem fold_bits (acc : List Nat) (i : Nat) : ∀ (es : List Edge) (s : Nat), (es.foldl (fun s e => match Region.binds .any e, Nat.blt e.on acc.length with
      | true, true => s ||| 2 ^ e.on ||| acc.getD e.on 0
      | _, _ => s) s).testBit i = true → s.testBit i = true ∨ ∃ e, e ∈ es ∧ Region.binds .any e = true ∧ (e.on = i ∨ (acc.getD e.on 0).testBit i = true) := by
  intro es
  induction es with
  | nil => intro s h; exact .inl h
  | cons e es ih =>
    intro s h
    rw [List.foldl_cons] at h
    rcases ih _ h with h1 | ⟨e', h1, h2, h3⟩
    · split at h1
      · rename_i hb _
        rw [Nat.testBit_or, Nat.testBit_or, Bool.or_eq_true, Bool.or_eq_true] at h1
        rcases h1 with (h1 | h1) | h1
        · exact .inl h1
        · rw [Nat.testBit_two_pow] at h1
          exact .inr ⟨e, List.mem_cons_self, hb, .inl (by simpa using h1)⟩
        · exact .inr ⟨e, List.mem_cons_self, hb, .inr h1⟩
      · exact .inl h1
    · exact .inr ⟨e', List.mem_cons_of_mem _ h1, h2, h3⟩
theorem befA_ok {ops : Array Oper} : ∀ (l pre : List Oper) (acc : List Nat), ops.toList = pre ++ l → acc.length = pre.length → (∀ j i, (acc.getD j 0).testBit i = true → Before ops i j) →
    ∀ j i, ((befA l acc).getD j 0).testBit i = true → Before ops i j := by
  intro l
  induction l with
  | nil => intro pre acc _ _ hg; exact hg
  | cons o l ih =>
    intro pre acc hops hlen hg
    refine ih (pre ++ [o]) _ (by simpa using hops) (by simp [hlen]) (fun j i hb => ?_)
    have ho : ops[acc.length]? = some o := by
      rw [← Array.getElem?_toList, hops, hlen]
      simp
    by_cases hj : j < acc.length
    · rw [List.getD_eq_getElem?_getD, List.getElem?_append_left hj, ← List.getD_eq_getElem?_getD] at hb
      exact hg j i hb
    · by_cases hj2 : j = acc.length
      · subst hj2
        rw [List.getD_eq_getElem?_getD, List.getElem?_append_right (Nat.le_refl _), Nat.sub_self] at hb
        simp only [List.getElem?_cons_zero, Option.getD_some] at hb
        rcases fold_bits acc i _ _ hb with h1 | ⟨e, h1, h2, h3⟩
        · simp at h1
        · rcases h3 with h3 | h3
          · exact .edge _ o e ho h1 h2 h3
          · exact .step e.on _ o e ho h1 h2 rfl (hg _ _ h3)
      · rw [List.getD_eq_getElem?_getD, List.getElem?_eq_none (by simp; omega)] at hb
        simp at hb
theorem befA_all {ops : Array Oper} {i j : Nat} (h : ((befA ops.toList []).getD j 0).testBit i = true) : Before ops i j :=
  befA_ok ops.toList [] [] rfl rfl (fun j i h => by simp at h) j i h
theorem zip_mem {l : List Oper} {i : Nat} {o : Oper} (h : l[i]? = some o) : (o, i) ∈ l.zipIdx := by
  rw [List.mem_zipIdx_iff_getElem?]
  exact h
theorem back_of {ops : Array Oper} (h : backA ops.toList = true) {i : Nat} {o : Oper} (ho : ops[i]? = some o) {e : Edge} (he : e ∈ o.after.toList) (hb : Region.binds .any e = true) : e.on < i := by
  unfold backA at h
  rw [List.all_eq_true] at h
  have h1 := h (o, i) (zip_mem (by simpa using ho))
  simp only [List.all_eq_true] at h1
  have h2 := h1 e he
  rw [hb] at h2
  simpa using h2
theorem tmps_of {ops : Array Oper} (h : tmpsA ops.toList (befA ops.toList []) = true) {i j : Nat} {o o' : Oper} {t : Tmp} (ho : ops[i]? = some o) (ho' : ops[j]? = some o') (hd : o.dst = some t) (hne : i ≠ j) (hl : t ∈ looksA o' ops.toList ∨ o'.dst = some t) :
    (i < j ∧ Before ops i j) ∨ (j < i ∧ Before ops j i) := by
  unfold tmpsA at h
  rw [List.all_eq_true] at h
  have h1 := h (o, i) (zip_mem (by simpa using ho))
  simp only [hd, List.all_eq_true] at h1
  have h2 := h1 (o', j) (zip_mem (by simpa using ho'))
  simp only [Bool.or_eq_true, Bool.not_eq_true', beq_iff_eq, Bool.or_eq_false_iff] at h2
  rcases h2 with (h2 | h2) | h2
  · exact absurd h2 hne
  · rcases hl with hl | hl
    · have := h2.1
      rw [List.contains_eq_mem] at this
      simp [hl] at this
    · have := h2.2
      simp [hl] at this
  · by_cases hij : i < j
    · rw [if_pos hij] at h2
      exact .inl ⟨hij, befA_all h2⟩
    · rw [if_neg hij] at h2
      exact .inr ⟨by omega, befA_all h2⟩
theorem zip_mem' {α : Type} {l : List α} {i : Nat} {o : α} (h : l[i]? = some o) : (o, i) ∈ l.zipIdx := by
  rw [List.mem_zipIdx_iff_getElem?]
  exact h
theorem marks_of {ops : Array Oper} {ms : List DMk} (h : marksOk (befA ops.toList []) ms = true) {i j : Nat} {x y : DMk} (hx : ms[i]? = some x) (hy : ms[j]? = some y) (hne : j ≠ i) (hw : writesM x = true) (hid : idleM y = false) (hap : apartM x y = false) :
    (j < i ∧ Before ops j i) ∨ (i < j ∧ Before ops i j) := by
  unfold marksOk at h
  rw [List.all_eq_true] at h
  have h1 := h (x, i) (zip_mem' hx)
  simp only [hw, Bool.not_true, Bool.false_or, List.all_eq_true] at h1
  have h2 := h1 (y, j) (zip_mem' hy)
  simp only [Bool.or_eq_true, beq_iff_eq, hid, hap, Bool.false_eq_true, or_false] at h2
  rcases h2 with h2 | h2
  · exact absurd h2 hne
  · by_cases hij : j < i
    · rw [if_pos hij] at h2
      exact .inl ⟨hij, befA_all h2⟩
    · rw [if_neg hij] at h2
      exact .inr ⟨by omega, befA_all h2⟩
structure Chain (cx : Cx) (call : CallF) (sz : Nat) (all : List Oper) (TM : Nat → Tr Value) (HP H : Nat → Hp) (i : Nat) (o : Oper) : Prop where
  ev : evOper cx call sz all o (TM i) { tr := (HP i).tr, nx := (HP i).nx, lo := (HP i).nx } = some [.ok (TM (i + 1)) (H i)]
  tr : (HP (i + 1)).tr = (H i).tr
  nx : (HP (i + 1)).nx = (H i).nx
  lo : (HP (i + 1)).lo ≤ (HP i).lo
  lo2 : (HP (i + 1)).lo ≤ (H i).lo
theorem chain_of {cx : Cx} {call : CallF} {sz : Nat} {all : List Oper} {bef : List Nat} : ∀ (l : List Oper) (i : Nat) (tm tm' : Tr Value) (hp hp' : Hp) (ms : List DMk), evDraw cx call sz all bef l tm hp ms = some (tm', hp') →
    ∃ (TM : Nat → Tr Value) (HP H : Nat → Hp) (ml : List DMk), TM i = tm ∧ HP i = hp ∧ TM (i + l.length) = tm' ∧ HP (i + l.length) = hp' ∧ (∀ k o, l[k]? = some o → Chain cx call sz all TM HP H (i + k) o) ∧
      (∀ k o, l[k]? = some o → ml[k]? = some (dmkA cx all o (TM (i + k)) (HP (i + k)) (H (i + k)))) ∧ marksOk bef (ms ++ ml) = true := by
  intro l
  induction l with
  | nil =>
    intro i tm tm' hp hp' ms h
    rw [evDraw_nil] at h
    split at h
    · rename_i hm
      injection h with h
      injection h with h1 h2
      subst h1 h2
      exact ⟨fun _ => tm, fun _ => hp, fun _ => hp, [], rfl, rfl, rfl, rfl, fun k o h => by simp at h, fun k o h => by simp at h, by rw [List.append_nil]; exact hm⟩
    · cases h
  | cons o l ih =>
    intro i tm tm' hp hp' ms h
    rw [evDraw_cons] at h
    split at h
    · rename_i tm1 hp1 h1
      obtain ⟨TM, HP, H, ml, t1, t2, t3, t4, t5, t6, t7⟩ := ih (i + 1) _ _ _ _ _ h
      refine ⟨fun j => if j = i then tm else TM j, fun j => if j = i then hp else HP j, fun j => if j = i then hp1 else H j, dmkA cx all o tm hp hp1 :: ml, by simp, by simp, ?_, ?_, fun k o' hk => ?_, fun k o' hk => ?_, ?_⟩
      · simp only [List.length_cons]
        rw [if_neg (by omega), show i + (l.length + 1) = i + 1 + l.length from by omega]
        exact t3
      · simp only [List.length_cons]
        rw [if_neg (by omega), show i + (l.length + 1) = i + 1 + l.length from by omega]
        exact t4
      · cases k with
        | zero =>
          simp only [List.getElem?_cons_zero, Option.some.injEq] at hk
          subst hk
          refine ⟨?_, ?_, ?_, ?_, ?_⟩ <;> simp only [Nat.add_zero, if_true, if_neg (show i + 1 ≠ i by omega), t1, t2]
          · exact h1
          · exact least_le_right _ _
          · exact least_le_left _ _
        | succ k =>
          simp only [List.getElem?_cons_succ] at hk
          have c := t5 k o' hk
          rw [show i + 1 + k = i + (k + 1) from by omega] at c
          refine ⟨?_, ?_, ?_, ?_, ?_⟩ <;> simp only [if_neg (show i + (k + 1) ≠ i by omega), if_neg (show i + (k + 1) + 1 ≠ i by omega)]
          · exact c.ev
          · exact c.tr
          · exact c.nx
          · exact c.lo
          · exact c.lo2
      · cases k with
        | zero =>
          simp only [List.getElem?_cons_zero, Option.some.injEq] at hk
          subst hk
          simp
        | succ k =>
          simp only [List.getElem?_cons_succ] at hk ⊢
          have c := t6 k o' hk
          rw [show i + 1 + k = i + (k + 1) from by omega] at c
          simp only [if_neg (show i + (k + 1) ≠ i by omega)]
          exact c
      · rw [List.append_assoc] at t7
        exact t7
    · cases h
noncomputable def Tr.only (t : Tr Value) (l : List Nat) : Tr Value := l.foldl (fun acc k => match t.get k with
  | some v => acc.set k v
  | none => acc) .nil
theorem get_fold (t : Tr Value) (k : Nat) : ∀ (l : List Nat) (acc : Tr Value), (l.foldl (fun acc k => match t.get k with
  | some v => acc.set k v
  | none => acc) acc).get k = if k ∈ l then (match t.get k with | some v => some v | none => acc.get k) else acc.get k := by
  intro l
  induction l with
  | nil => intro acc; simp
  | cons x l ih =>
    intro acc
    rw [List.foldl_cons, ih]
    by_cases hx : k = x
    · subst hx
      cases hg : t.get k with
      | none => simp
      | some v => simp [Tr.get_set]
    · have : (match t.get x with | some v => acc.set x v | none => acc).get k = acc.get k := by
        cases t.get x with
        | none => rfl
        | some v => simp only [Tr.get_set, if_neg hx]
      rw [this]
      simp [hx]
theorem get_only (t : Tr Value) (l : List Nat) (k : Nat) : (t.only l).get k = if k ∈ l then t.get k else none := by
  unfold Tr.only
  rw [get_fold]
  split
  · cases t.get k <;> first | rfl | exact Tr.get_nil k
  · exact Tr.get_nil k
structure Cum (m0 : Emb) (h0 : Hp) (w0 : World) (N LO : Nat) (m : Emb) (w : World) : Prop where
  le : m0.le m
  os : w.os = w0.os
  tape : w.tape = w0.tape
  output : w.output = w0.output
  size : w0.heap.size ≤ w.heap.size
  keep : ∀ c, c < w0.heap.size → (∀ b e, b < h0.nx → m0 b = some e → e.live = true → e.c ≠ c) → w.heap[c]? = w0.heap[c]?
  rng : ∀ b e, b < N → m b = some e → e.live = true → (∃ b0 e0, b0 < h0.nx ∧ m0 b0 = some e0 ∧ e0.live = true ∧ e0.c = e.c) ∨ w0.heap.size ≤ e.c
  far : ∀ b, N ≤ b → m b = m0 b
  low : ∀ b, b < h0.nx → b < LO → m b = m0 b
theorem Cum.step {m0 m m' : Emb} {h0 h h' : Hp} {w0 w w' : World} {N LO : Nat} (c : Cum m0 h0 w0 N LO m w) (s : Step m h w m' h' w') (h1 : h'.nx ≤ N) (h2 : ∀ b, b < h0.nx → b < LO → b < h.nx ∧ b < h'.lo) : Cum m0 h0 w0 N LO m' w' where
  le := Emb.le_trans c.le s.le
  os := s.os.trans c.os
  tape := s.tape.trans c.tape
  output := s.output.trans c.output
  size := Nat.le_trans c.size s.size
  keep := fun k hk hh => (s.keep k (Nat.lt_of_lt_of_le hk c.size) (fun b e hb he hl => by
    rcases c.rng b e (Nat.lt_of_lt_of_le hb (Nat.le_trans s.nx h1)) he hl with ⟨b0, e0, k1, k2, k3, k4⟩ | k1
    · rw [← k4]; exact hh b0 e0 k1 k2 k3
    · omega)).trans (c.keep k hk hh)
  rng := fun b e hb he hl => by
    by_cases hbn : b < h'.nx
    · rcases s.rng b e hbn he hl with ⟨b0, e0, k1, k2, k3, k4⟩ | k1
      · rcases c.rng b0 e0 (Nat.lt_of_lt_of_le k1 (Nat.le_trans s.nx h1)) k2 k3 with ⟨b1, e1, q1, q2, q3, q4⟩ | q1
        · exact .inl ⟨b1, e1, q1, q2, q3, q4.trans k4⟩
        · exact .inr (by omega)
      · exact .inr (Nat.le_trans c.size k1)
    · rw [s.far b (by omega)] at he
      exact c.rng b e hb he hl
  far := fun b hb => (s.far b (by omega)).trans (c.far b hb)
  low := fun b hb hl => ((s.low b (h2 b hb hl).1 (h2 b hb hl).2).2).trans (c.low b hb hl)
end Go.Proofs.YtaepplhgeeaidaaDoor.Ev
end
