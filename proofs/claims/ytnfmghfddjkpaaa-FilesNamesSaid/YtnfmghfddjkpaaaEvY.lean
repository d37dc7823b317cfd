/- What the reckoner says of a call, the model says: the whole. -/
import Derived.Test.YtnfmghfddjkpaaaEvX
set_option linter.unusedVariables false
set_option linter.unusedSimpArgs false
set_option linter.unusedSectionVars false
namespace Go.Proofs.Ytnfmghfddjkpaaa.Ev
open Go Go.RowKit

/-- What is listed. -/
def Ld (l : Array Bool) (i : Nat) : Prop := l.getD i false = true

theorem ld_set {l : Array Bool} {i : Nat} (hi : i < l.size) : Ld (l.setIfInBounds i true) = fun j => Ld l j ∨ j = i := by
  funext j
  unfold Ld
  simp only [Array.getD_eq_getD_getElem?]
  by_cases hj : i = j
  · subst hj
    simp [hi]
  · rw [Array.getElem?_setIfInBounds_ne hj]
    exact propext ⟨.inl, fun h => h.elim id (fun h => absurd h.symm hj)⟩

/-- How many are not listed. -/
def todo (l : Array Bool) : Nat := (l.toList.filter (fun b => !b)).length

theorem todo_list : ∀ (l : List Bool) (i : Nat), l[i]? = some false → ((l.set i true).filter (fun b => !b)).length + 1 = (l.filter (fun b => !b)).length := by
  intro l
  induction l with
  | nil => intro i h; simp at h
  | cons b l ih =>
    intro i h
    cases i with
    | zero =>
      simp only [List.getElem?_cons_zero, Option.some.injEq] at h
      subst h
      simp
    | succ i =>
      simp only [List.getElem?_cons_succ] at h
      have := ih i h
      rw [List.set_cons_succ]
      cases b <;> simp only [List.filter_cons, Bool.not_false, Bool.not_true, if_true, Bool.false_eq_true, if_false, List.length_cons] <;> omega

theorem todo_set {l : Array Bool} {i : Nat} (hi : i < l.size) (h : ¬ Ld l i) : todo (l.setIfInBounds i true) + 1 = todo l := by
  unfold todo
  rw [Array.toList_setIfInBounds]
  refine todo_list _ _ ?_
  unfold Ld at h
  rw [Array.getD_eq_getD_getElem?, Array.getElem?_eq_getElem hi] at h
  rw [Array.getElem?_toList, Array.getElem?_eq_getElem hi]
  simpa using h

theorem todo_zero {l : Array Bool} (h : todo l = 0) {i : Nat} (hi : i < l.size) : Ld l i := by
  refine Classical.byContradiction (fun hn => ?_)
  have := todo_set hi hn
  omega

theorem ready_iff {ops : Array Oper} {l : Array Bool} (hs : l.size = ops.size) {i : Nat} : i ∈ Region.ready .any ops l ↔ i < ops.size ∧ ¬ Ld l i ∧ Dep ops (Ld l) i := by
  unfold Region.ready
  rw [List.mem_filter, List.mem_range]
  constructor
  · rintro ⟨h1, h2⟩
    rw [Bool.and_eq_true] at h2
    obtain ⟨h2, h3⟩ := h2
    refine ⟨h1, ?_, fun o ho e he hb => ?_⟩
    · unfold Ld
      rw [Array.getD_eq_getD_getElem?, Array.getElem?_eq_getElem (by omega)] at h2 ⊢
      simpa using h2
    · rw [ho] at h3
      simp only [Option.map_some, Option.getD_some] at h3
      rw [← Array.all_toList, List.all_eq_true] at h3
      have := h3 e he
      rw [hb] at this
      unfold Ld
      simpa using this
  · rintro ⟨h1, h2, h3⟩
    refine ⟨h1, ?_⟩
    rw [Bool.and_eq_true]
    constructor
    · unfold Ld at h2
      rw [Array.getD_eq_getD_getElem?, Array.getElem?_eq_getElem (by omega)] at h2 ⊢
      simpa using h2
    · have ho : ops[i]? = some ops[i] := Array.getElem?_eq_getElem h1
      rw [ho]
      simp only [Option.map_some, Option.getD_some]
      rw [← Array.all_toList, List.all_eq_true]
      intro e he
      by_cases hb : Region.binds .any e = true
      · have := h3 _ ho e he hb
        unfold Ld at this
        rw [hb]
        simpa using this
      · simp [hb]

/-- Where nothing is ready all is listed. -/
theorem all_listed {ops : Array Oper} (hback : backA ops.toList = true) {l : Array Bool} (hs : l.size = ops.size) (h : Region.ready .any ops l = []) : ∀ i, i < ops.size → Ld l i := by
  intro i
  induction i using Nat.strongRecOn with
  | _ i ih =>
    intro hi
    refine Classical.byContradiction (fun hn => ?_)
    have : i ∈ Region.ready .any ops l := (ready_iff hs).2 ⟨hi, hn, fun o ho e he hb => ih _ (back_of hback ho he hb) (by have := back_of hback ho he hb; omega)⟩
    rw [h] at this
    cases this

section
variable {r0 : Option Nat} {P : Program} {cx : Cx} (ok : CxOk P cx) (hext : ExtOk P cx) {call : CallF} (hcall : CallOk P cx call) (hg : GrowOk call) {sz : Nat} {ops : Array Oper} {TM : Nat → Tr Value} {HP H : Nat → Hp} (way : Way cx call sz ops TM HP H)
include ok hext hcall hg way

theorem any_ok {m0 : Emb} {w0 : World} {dl : List Deferred} {Q : Exit → Act → World → Prop} (hq : ∀ m a w, DS cx m0 w0 TM HP H sz ops dl (fun i => i < ops.size) m a w → Q .normal a w) :
    ∀ (fuel : Nat) (l : Array Bool) (m : Emb) (a : Act) (w : World), l.size = ops.size → todo l ≤ fuel → DS cx m0 w0 TM HP H sz ops dl (Ld l) m a w → wpAnyIn (Fw r0) 0 P .any ops Q fuel l a w := by
  intro fuel
  have done : ∀ (l : Array Bool) (m : Emb) (a : Act) (w : World), DS cx m0 w0 TM HP H sz ops dl (Ld l) m a w → (∀ i, i < ops.size → Ld l i) → Q .normal a w := fun l m a w ds hall => by
    have : Ld l = fun i => i < ops.size := by
      funext i
      exact propext ⟨fun h => ds.sub i h, fun h => hall i h⟩
    rw [this] at ds
    exact hq m a w ds
  induction fuel with
  | zero =>
    intro l m a w hs ht ds
    have hall : ∀ i, i < ops.size → Ld l i := fun i hi => todo_zero (by omega) (by omega)
    refine ⟨?_, done l m a w ds hall⟩
    cases hr : Region.ready .any ops l with
    | nil => rfl
    | cons i t =>
      have : i ∈ Region.ready .any ops l := by rw [hr]; exact List.mem_cons_self
      obtain ⟨h1, h2, -⟩ := (ready_iff hs).1 this
      exact absurd (hall i h1) h2
  | succ fuel ih =>
    intro l m a w hs ht ds
    refine ⟨fun hr => done l m a w ds (all_listed way.back hs hr), fun i hi => ?_⟩
    obtain ⟨h1, h2, h3⟩ := (ready_iff hs).1 hi
    have ho : ops[i]? = some ops[i] := Array.getElem?_eq_getElem h1
    have key := ds_step (r0 := r0) ok hext hcall hg way ds ho h2 h3 (K := wpAnyIn (Fw r0) 0 P .any ops Q fuel (l.setIfInBounds i true)) (Q := Q) (fun m' a' w' ds' => by
      have hil : i < l.size := by omega
      have := todo_set hil h2
      exact ih (l.setIfInBounds i true) m' a' w' (by simpa using hs) (by omega) (by rw [ld_set hil]; exact ds'))
    unfold wpOpIn
    rw [ho]
    simp only
    split
    · rename_i hw; rw [if_pos hw] at key; exact key
    · rename_i hw; rw [if_neg hw] at key; exact ⟨fun _ _ => trivial, key⟩
end

theorem draws_ok {P : Program} {cx : Cx} (ok : CxOk P cx) (hext : ExtOk P cx) (hmix : P.follows .mixedOrders = true) {call : CallF} (hcall : CallOk P cx call) (hg : GrowOk call) : DrawsOk P cx call := by
  intro r0 sz id dl ops m tm tm' hp hp' w a Q tr inv gw hf hd hev hq
  have g := evDraw_grow hg hev
  obtain ⟨TM, HP, H, ml, t1, t2, t3, t4, t5, t6, t7⟩ := chain_of ops.toList 0 _ _ _ _ _ hev
  rw [Nat.zero_add, Array.length_toList] at t3 t4
  unfold drawOk at hd
  rw [Bool.and_eq_true] at hd
  have way : Way cx call sz ops TM HP H := ⟨fun i o ho => by have := t5 i o (by simpa using ho); rwa [Nat.zero_add] at this, ⟨ml, by rw [List.nil_append] at t7; exact t7, fun i hi => by
    have ho : ops[i]? = some ops[i] := Array.getElem?_eq_getElem hi
    have := t6 i ops[i] (by simp)
    rw [this, Nat.zero_add]
    unfold mkOf
    rw [ho]⟩, hd.1, hd.2, by rw [t2]; exact inv.dom⟩
  refine wpIn_region_any hmix ?_
  have hsz : (Array.replicate ops.size false).size = ops.size := by simp
  have hne : ∀ i, ¬ Ld (Array.replicate ops.size false) i := fun i h => by
    unfold Ld at h
    rw [Array.getD_eq_getD_getElem?] at h
    by_cases hi : i < ops.size
    · simp [hi] at h
    · simp [hi] at h
  have hst : Step m hp w m hp { w with drawn := w.drawn + 1 } := .drawn inv _
  refine any_ok (r0 := r0) (dl := dl) ok hext hcall hg way (m0 := m) (w0 := { w with drawn := w.drawn + 1 }) (fun m' a' w' ds => ?_) ops.size _ m a _ hsz ?_ ?_
  · -- all has been carried out
    obtain ⟨Y, hY, hYn, invY⟩ := ds.heap
    have hall : ∀ b, Y.tr.get b = (HP ops.size).tr.get b := fun b => hY b ops.size ⟨Nat.le_refl _, fun y hy _ => hy, .inl rfl⟩
    have invX : Inv m' (HP ops.size) w'.heap := ⟨fun b e ob h1 h2 h3 => invY.obj b e ob h1 (by rw [hall]; exact h2) h3, invY.inj, invY.low, way_dom hg way _ (Nat.le_refl _)⟩
    have c := ds.cum
    rw [t2, t4] at c
    rw [t4] at invX
    refine hq m' w' a' ⟨c.le, invX, c.os, c.tape, c.output, c.size, c.keep, c.rng, c.far, g.nx, g.lo, fun b h1 h2 => ⟨g.low b h1 h2, c.low b h1 h2⟩⟩ ⟨ds.size, ds.defers, fun t v hv => ?_⟩
    rcases last_writer (ops := ops) t ops.size with ⟨j, o, k1, k2, k3, k4⟩ | k
    · refine ds.valA j o t k1 k2 k3 (fun i o' h1 h2 h3 => k4 i o' h1 h2 h3) v ?_
      rw [← way_tm' hg way (t := t) (i := j + 1) (k := ops.size) (by omega) (Nat.le_refl _) (fun i o' h1 h2 h3 => k4 i o' (by omega) h2 h3), t3]
      exact hv
    · refine ds.valB t (fun i o' h1 h2 => k i o' h1 h2) v ?_
      rw [← way_tm' hg way (t := t) (i := 0) (k := ops.size) (by omega) (Nat.le_refl _) (fun i o' _ h2 h3 => k i o' h2 h3), t3]
      exact hv
  · -- so many are to be carried out
    unfold todo
    have h1 := List.length_filter_le (fun b => !b) (Array.replicate ops.size false).toList
    exact Nat.le_trans h1 (by simp)
  · -- the beginning
    have hfr : Fresh m (HP 0).nx (HP ops.size).nx := by rw [t2, t4]; exact hf
    have inv0 : Inv m (HP 0) w.heap := by rw [t2]; exact inv
    let F : Nat → Nat := fun b => Classical.choose (fst_ex ops TM HP H (Ld (Array.replicate ops.size false)) b)
    have hF : ∀ b, Fst ops TM HP H (Ld (Array.replicate ops.size false)) b (F b) := fun b => Classical.choose_spec (fst_ex ops TM HP H (Ld (Array.replicate ops.size false)) b)
    obtain ⟨t, ht⟩ := Tr.exists_fun (fun b => (HP (F b)).tr.get b) (HP ops.size).nx
    refine ⟨fun i h => absurd h (hne i), fun j h => absurd h (hne j), tr.size, tr.defers, fun i o t h => absurd h (hne i), fun t _ v hv => tr.val t v (by rw [t1] at hv; exact hv),
      ⟨{ tr := t, nx := (HP ops.size).nx, lo := (HP ops.size).nx }, fun b k hk => ?_, rfl, ⟨fun b e ob h1 h2 h3 => ?_, inv.inj, inv.low, fun b ob h => ?_⟩⟩, fun j h1 _ b h2 h3 => ?_, gw, ?_⟩
    · simp only
      rw [ht]
      split
      · rw [fst_one (hF b) hk]
      · rename_i hb
        cases hg2 : (HP k).tr.get b with
        | none => rfl
        | some ob =>
          have h1 := way_dom hg way k hk.1 b ob hg2
          have h2 := way_nx' hg way hk.1 (Nat.le_refl _)
          omega
    · simp only at h2
      rw [ht] at h2
      split at h2
      · rename_i hbN
        by_cases hb : b < (HP 0).nx
        · rw [way_same' hg way (Nat.zero_le _) (hF b).1 hb (fun y _ h2 h3 => hne y ((hF b).2.1 y h2 h3))] at h2
          exact inv0.obj b e ob h1 h2 h3
        · rw [hfr b (by omega) hbN] at h1
          cases h1
      · cases h2
    · simp only at h ⊢
      rw [ht] at h
      split at h
      · assumption
      · cases h
    · have h4 := way_nx' hg way (i := 0) (k := j) (Nat.zero_le _) (by omega)
      have h5 := way_nx' hg way (i := j + 1) (k := ops.size) (by omega) (Nat.le_refl _)
      exact hfr b (by omega) (by omega)
    · refine ⟨Emb.le_refl m, rfl, rfl, rfl, Nat.le_refl _, fun _ _ _ => rfl, fun b e hb he hl => ?_, fun _ _ => rfl, fun _ _ _ => rfl⟩
      by_cases hbn : b < (HP 0).nx
      · exact .inl ⟨b, e, hbn, he, hl, rfl⟩
      · rw [hfr b (by omega) hb] at he
        cases he

/-- THE WHOLE: what the reckoner says of a call holds in the model. -/
theorem calls_ok {P : Program} {cx : Cx} (ok : CxOk P cx) (hext : ExtOk P cx) (hmix : P.follows .mixedOrders = true) (n d : Nat) : CallOk P cx (evFn cx n d) := by
  have key : ∀ d, CallOk P cx (evFn cx n d) := by
    intro d
    induction d with
    | zero => intro c args hp l h; rw [evFn_zero] at h; cases h
    | succ d ih => exact evFn_step ok hext n d ih (draws_ok ok hext hmix ih (evFn_grow cx (fun f o h => (hext.orc f o h).2.1) n d))
  exact key d
end Go.Proofs.Ytnfmghfddjkpaaa.Ev
