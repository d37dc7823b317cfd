/- Regions that draw their order: whatever order is drawn. -/
import Derived.Test.YtgcoieddgagpbaaDoorEvV
set_option linter.unusedVariables false
set_option linter.unusedSimpArgs false
set_option linter.unusedSectionVars false
namespace Go.Proofs.YtgcoieddgagpbaaDoor.Ev
open Go Go.RowKit

/-- The reckoner's way through a region. -/
structure Way (cx : Cx) (call : CallF) (sz : Nat) (ops : Array Oper) (TM : Nat → Tr Value) (HP H : Nat → Hp) : Prop where
  chain : ∀ i o, ops[i]? = some o → Chain cx call sz ops.toList (befA ops.toList []) TM HP H i o
  back : backA ops.toList = true
  tmps : tmpsA ops.toList (befA ops.toList []) = true
  dom : Dom (HP 0)

def Quiet (HP H : Nat → Hp) (i : Nat) : Prop := (HP i).nx ≤ (H i).lo

section
variable {P : Program} {cx : Cx} {call : CallF} (hg : GrowOk call) {sz : Nat} {ops : Array Oper} {TM : Nat → Tr Value} {HP H : Nat → Hp} (way : Way cx call sz ops TM HP H)
include hg way

theorem way_grow {i : Nat} (hi : i < ops.size) : Grow { tr := (HP i).tr, nx := (HP i).nx, lo := (HP i).nx } (H i) := evOper_grow hg (way.chain i ops[i] (Array.getElem?_eq_getElem hi)).ev _ (List.mem_singleton.2 rfl)

theorem way_nx : ∀ (d i : Nat), i + d ≤ ops.size → (HP i).nx ≤ (HP (i + d)).nx := by
  intro d
  induction d with
  | zero => intro i _; exact Nat.le_refl _
  | succ d ih =>
    intro i h
    have h1 := ih i (by omega)
    have c := way.chain (i + d) ops[i + d] (Array.getElem?_eq_getElem (by omega))
    have g := way_grow hg way (i := i + d) (by omega)
    have h2 := g.nx
    simp only at h2
    rw [show i + (d + 1) = i + d + 1 from by omega, c.nx]
    omega

theorem way_nx' {i k : Nat} (h : i ≤ k) (hk : k ≤ ops.size) : (HP i).nx ≤ (HP k).nx := by
  have := way_nx hg way (k - i) i (by omega)
  rwa [show i + (k - i) = k from by omega] at this

theorem way_lo : ∀ (d i : Nat), i + d ≤ ops.size → (HP (i + d)).lo ≤ (HP i).lo := by
  intro d
  induction d with
  | zero => intro i _; exact Nat.le_refl _
  | succ d ih =>
    intro i h
    have h1 := ih i (by omega)
    have c := way.chain (i + d) ops[i + d] (Array.getElem?_eq_getElem (by omega))
    rw [show i + (d + 1) = i + d + 1 from by omega]
    exact Nat.le_trans c.lo h1

theorem way_lo' {i k : Nat} (h : i ≤ k) (hk : k ≤ ops.size) : (HP k).lo ≤ (HP i).lo := by
  have := way_lo hg way (k - i) i (by omega)
  rwa [show i + (k - i) = k from by omega] at this

theorem way_same : ∀ (d i : Nat), i + d ≤ ops.size → (∀ j, i ≤ j → j < i + d → Quiet HP H j) → ∀ b, b < (HP i).nx → (HP (i + d)).tr.get b = (HP i).tr.get b := by
  intro d
  induction d with
  | zero => intro i _ _ b _; rfl
  | succ d ih =>
    intro i h hq b hb
    have h1 := ih i (by omega) (fun j h1 h2 => hq j h1 (by omega)) b hb
    have c := way.chain (i + d) ops[i + d] (Array.getElem?_eq_getElem (by omega))
    have g := way_grow hg way (i := i + d) (by omega)
    have hn := way_nx hg way d i (by omega)
    have q := hq (i + d) (by omega) (by omega)
    unfold Quiet at q
    rw [show i + (d + 1) = i + d + 1 from by omega, c.tr, g.low b (by simp only; omega) (by omega)]
    exact h1

theorem way_same' {i k : Nat} (h : i ≤ k) (hk : k ≤ ops.size) (hq : ∀ j, i ≤ j → j < k → Quiet HP H j) {b : Nat} (hb : b < (HP i).nx) : (HP k).tr.get b = (HP i).tr.get b := by
  have := way_same hg way (k - i) i (by omega) (fun j h1 h2 => hq j h1 (by omega)) b hb
  rwa [show i + (k - i) = k from by omega] at this

theorem way_dom : ∀ (i : Nat), i ≤ ops.size → Dom (HP i) := by
  intro i
  induction i with
  | zero => intro _; exact way.dom
  | succ i ih =>
    intro h
    have c := way.chain i ops[i] (Array.getElem?_eq_getElem (by omega))
    have g := way_grow hg way (i := i) (by omega)
    have d := g.dom (fun b ob hb => ih (by omega) b ob hb)
    intro b ob hb
    rw [c.nx]
    rw [c.tr] at hb
    exact d b ob hb

theorem put_get {tm tm' : Tr Value} {dst : Option Tmp} {v : Value} (h : putA sz tm dst v = some tm') (t : Nat) : (dst = some t → t < sz ∧ tm'.get t = some v) ∧ (dst ≠ some t → tm'.get t = tm.get t) := by
  unfold putA at h
  split at h
  · injection h with h
    subst h
    exact ⟨fun hh => (Option.some_ne_none _ hh.symm).elim, fun _ => rfl⟩
  · rename_i d
    split at h
    · rename_i hlt
      have hlt := Nat.blt_eq.mp hlt
      injection h with h
      subst h
      refine ⟨fun h => ?_, fun h => ?_⟩
      · obtain rfl : d = t := Option.some.inj h
        exact ⟨hlt, by rw [Tr.get_set, if_pos rfl]⟩
      · rw [Tr.get_set, if_neg (fun hh => h (by rw [hh]))]
    · cases h

/-- What the operation leaves. -/
theorem way_put {i : Nat} {o : Oper} (ho : ops[i]? = some o) : ∃ v, putA sz (TM i) o.dst v = some (TM (i + 1)) ∧
    ((wantA ops.toList (TM i) o.guard = some false ∧ v = undef ∧ H i = { tr := (HP i).tr, nx := (HP i).nx, lo := (HP i).nx }) ∨
      (wantA ops.toList (TM i) o.guard = some true ∧ evOp cx call (TM i) { tr := (HP i).tr, nx := (HP i).nx, lo := (HP i).nx } o.op = some [(.ret v, H i)])) := by
  have h := (way.chain i o ho).ev
  unfold evOper at h
  split at h
  · cases h
  · rename_i hw
    split at h
    · cases h
    · rename_i tm' hput
      injection h with h
      injection h with h _
      injection h with h1 h2
      subst h1
      exact ⟨undef, hput, .inl ⟨hw, rfl, h2.symm⟩⟩
  · rename_i hw
    obtain ⟨q, h1, h2⟩ := bindL_single h
    rcases evRes_parts h2 with ⟨v, hp', tm', rfl, h3, h4⟩ | ⟨v, hp', rfl, h4⟩
    · injection h4 with h4 _
      injection h4 with e1 e2
      subst e1 e2
      exact ⟨v, h3, .inr ⟨hw, h1⟩⟩
    · injection h4 with h4 _; cases h4

theorem way_tm {t : Nat} : ∀ (d i : Nat), i + d ≤ ops.size → (∀ j o, i ≤ j → j < i + d → ops[j]? = some o → o.dst ≠ some t) → (TM (i + d)).get t = (TM i).get t := by
  intro d
  induction d with
  | zero => intro i _ _; rfl
  | succ d ih =>
    intro i h hq
    have ho : ops[i + d]? = some ops[i + d] := Array.getElem?_eq_getElem (by omega)
    obtain ⟨v, hv, -⟩ := way_put hg way ho
    rw [show i + (d + 1) = i + d + 1 from by omega, (put_get hg way hv t).2 (hq (i + d) _ (by omega) (by omega) ho)]
    exact ih i (by omega) (fun j o h1 h2 h3 => hq j o h1 (by omega) h3)

theorem way_tm' {t i k : Nat} (h : i ≤ k) (hk : k ≤ ops.size) (hq : ∀ j o, i ≤ j → j < k → ops[j]? = some o → o.dst ≠ some t) : (TM k).get t = (TM i).get t := by
  have := way_tm hg way (t := t) (k - i) i (by omega) (fun j o h1 h2 h3 => hq j o h1 (by omega) h3)
  rwa [show i + (k - i) = k from by omega] at this

omit hg way in
theorem last_writer (t : Tmp) : ∀ i : Nat, (∃ (j : Nat) (o : Oper), j < i ∧ ops[j]? = some o ∧ o.dst = some t ∧ ∀ (k : Nat) (o' : Oper), j < k → k < i → ops[k]? = some o' → o'.dst ≠ some t) ∨ (∀ (k : Nat) (o' : Oper), k < i → ops[k]? = some o' → o'.dst ≠ some t) := by
  intro i
  induction i with
  | zero => exact .inr (fun k o' h => by omega)
  | succ i ih =>
    by_cases hw : ∃ o, ops[i]? = some o ∧ o.dst = some t
    · obtain ⟨o, ho, hd⟩ := hw
      exact .inl ⟨i, o, Nat.lt_succ_self i, ho, hd, fun k o' h1 h2 => by omega⟩
    · have hn : ∀ o, ops[i]? = some o → o.dst ≠ some t := fun o ho hd => hw ⟨o, ho, hd⟩
      rcases ih with ⟨j, o, h1, h2, h3, h4⟩ | h
      · refine .inl ⟨j, o, by omega, h2, h3, fun k o' k1 k2 k3 => ?_⟩
        by_cases hk : k = i
        · subst hk; exact hn o' k3
        · exact h4 k o' k1 (by omega) k3
      · refine .inr (fun k o' k1 k2 => ?_)
        by_cases hk : k = i
        · subst hk; exact hn o' k2
        · exact h k o' (by omega) k2

/-- The state behind the operations of 'D'. -/
structure DS (cx : Cx) (m0 : Emb) (w0 : World) (TM : Nat → Tr Value) (HP H : Nat → Hp) (sz : Nat) (ops : Array Oper) (dl : List Deferred) (D : Nat → Prop) (m : Emb) (a : Act) (w : World) : Prop where
  sub : ∀ i, D i → i < ops.size
  closed : Closed ops D
  size : a.tmps.size = sz
  defers : a.defers = dl
  valA : ∀ i o t, D i → ops[i]? = some o → o.dst = some t → (∀ j o', i < j → D j → ops[j]? = some o' → o'.dst ≠ some t) → ∀ v, (TM (i + 1)).get t = some v → RV m v (a.tmps.getD t undef)
  valB : ∀ t, (∀ j o', D j → ops[j]? = some o' → o'.dst ≠ some t) → ∀ v, (TM 0).get t = some v → RV m v (a.tmps.getD t undef)
  heap : ∃ X, X ≤ ops.size ∧ (∀ y, y < X → ¬ Quiet HP H y → D y) ∧ (X = ops.size ∨ (¬ Quiet HP H X ∧ ¬ D X)) ∧ Inv m (HP X) w.heap
  fresh : ∀ j, j < ops.size → ¬ D j → ∀ b, (HP j).nx ≤ b → b < (HP (j + 1)).nx → m b = none
  gw : GW cx m w
  cum : Cum m0 (HP 0) w0 (HP ops.size).nx (HP ops.size).lo m w

variable {m0 : Emb} {w0 : World} {dl : List Deferred} {D : Nat → Prop} {m : Emb} {a : Act} {w : World} (ds : DS cx m0 w0 TM HP H sz ops dl D m a w)
include ds

/-- What a ready operation looks at. -/
theorem ds_slot {i : Nat} {o : Oper} (ho : ops[i]? = some o) (hn : ¬ D i) (hdep : Dep ops D i) {t : Tmp} (ht : t ∈ looksA o ops.toList) {v : Value} (hv : (TM i).get t = some v) : RV m v (a.tmps.getD t undef) := by
  have hi : i < ops.size := by
    rcases Nat.lt_or_ge i ops.size with h | h
    · exact h
    · rw [Array.getElem?_eq_none h] at ho; cases ho
  have late : ∀ k o', i < k → D k → ops[k]? = some o' → o'.dst ≠ some t := fun k o' hk hd hok hdst => by
    rcases tmps_of way.tmps hok ho hdst (by omega) (.inl ht) with ⟨h1, -⟩ | ⟨-, h2⟩
    · omega
    · exact hn (h2.mem ds.closed (ds.closed k hd))
  rcases last_writer (ops := ops) t i with ⟨j, oj, h1, h2, h3, h4⟩ | h
  · have hd : D j := by
      rcases tmps_of way.tmps h2 ho h3 (by omega) (.inl ht) with ⟨-, h⟩ | ⟨h, -⟩
      · exact h.mem ds.closed hdep
      · omega
    refine ds.valA j oj t hd h2 h3 (fun k o' k1 k2 k3 => ?_) v ?_
    · rcases Nat.lt_trichotomy k i with hk | hk | hk
      · exact h4 k o' k1 hk k3
      · subst hk; exact absurd k2 hn
      · exact late k o' hk k2 k3
    · rw [← way_tm' hg way (t := t) (i := j + 1) (k := i) (by omega) (by omega) (fun k o' k1 k2 k3 => h4 k o' (by omega) k2 k3)]
      exact hv
  · refine ds.valB t (fun k o' k1 k2 => ?_) v ?_
    · rcases Nat.lt_trichotomy k i with hk | hk | hk
      · exact h k o' hk k2
      · subst hk; exact absurd k1 hn
      · exact late k o' hk k1 k2
    · rw [← way_tm' hg way (t := t) (i := 0) (k := i) (by omega) (by omega) (fun k o' _ k2 k3 => h k o' k2 k3)]
      exact hv

/-- The temporaries behind one operation more. -/
theorem ds_vals {i : Nat} {o : Oper} (ho : ops[i]? = some o) (hn : ¬ D i) {m' : Emb} (hm : m.le m') {v v' : Value} (hput : putA sz (TM i) o.dst v = some (TM (i + 1))) (hv : RV m' v v') :
    (a.put o.dst v').tmps.size = sz ∧ (a.put o.dst v').defers = dl ∧
    (∀ k ok t, (D k ∨ k = i) → ops[k]? = some ok → ok.dst = some t → (∀ j o', k < j → (D j ∨ j = i) → ops[j]? = some o' → o'.dst ≠ some t) → ∀ u, (TM (k + 1)).get t = some u → RV m' u ((a.put o.dst v').tmps.getD t undef)) ∧
    (∀ t, (∀ j o', (D j ∨ j = i) → ops[j]? = some o' → o'.dst ≠ some t) → ∀ u, (TM 0).get t = some u → RV m' u ((a.put o.dst v').tmps.getD t undef)) := by
  have same : ∀ t, o.dst ≠ some t → (a.put o.dst v').tmps.getD t undef = a.tmps.getD t undef := fun t ht => by
    cases hd : o.dst with
    | none => rfl
    | some d =>
      have : d ≠ t := fun hh => ht (by rw [hd, hh])
      simp only [Act.put, Array.getD_eq_getD_getElem?]
      rw [Array.getElem?_setIfInBounds_ne this]
  have here : ∀ t, o.dst = some t → (a.put o.dst v').tmps.getD t undef = v' := fun t ht => by
    have hlt := ((put_get hg way hput t).1 ht).1
    rw [ht]
    simp only [Act.put, Array.getD_eq_getD_getElem?]
    have : t < a.tmps.size := by rw [ds.size]; exact hlt
    simp [this]
  refine ⟨?_, ?_, fun k ok t hk hok hdst hlater u hu => ?_, fun t hlater u hu => ?_⟩
  · cases hd : o.dst with
    | none => exact ds.size
    | some d => simp [Act.put, ds.size]
  · cases hd : o.dst with
    | none => exact ds.defers
    | some d => exact ds.defers
  · by_cases hki : k = i
    · subst hki
      rw [ho] at hok
      injection hok with hok
      subst hok
      rw [here t hdst]
      rw [((put_get hg way hput t).1 hdst).2] at hu
      injection hu with hu
      subst hu
      exact hv
    · have hdk : D k := hk.resolve_right hki
      have hod : o.dst ≠ some t := fun hh => by
        rcases Nat.lt_or_gt_of_ne hki with h1 | h1
        · exact hlater i o h1 (.inr rfl) ho hh
        · rcases tmps_of way.tmps ho hok hh (fun h => hki h.symm) (.inr hdst) with ⟨-, h2⟩ | ⟨h2, -⟩
          · exact hn (h2.mem ds.closed (ds.closed k hdk))
          · omega
      rw [same t hod]
      exact (ds.valA k ok t hdk hok hdst (fun j o' h1 h2 h3 => hlater j o' h1 (.inl h2) h3) u hu).mono hm
  · have hod : o.dst ≠ some t := hlater i o (.inr rfl) ho
    rw [same t hod]
    exact (ds.valB t (fun j o' h1 h2 => hlater j o' (.inl h1) h2) u hu).mono hm

theorem ds_closed {i : Nat} (hdep : Dep ops D i) : Closed ops (fun j => D j ∨ j = i) := fun j hj o ho e he hb => by
  rcases hj with hj | rfl
  · exact .inl (ds.closed j hj o ho e he hb)
  · exact .inl (hdep o ho e he hb)

end
end Go.Proofs.YtgcoieddgagpbaaDoor.Ev
