import Derived.Test.YtaepplhgeeaidaaDoorEvD
import Derived.Laws.Sem
set_option linter.unusedVariables false
set_option linter.unusedSimpArgs false
namespace Go.Proofs.YtaepplhgeeaidaaDoor.Ev
open Go Go.RowKit
theorem run_then {α β : Type} {P : Program} {s : Sem α} {f : α → Sem β} {w w1 : World} {a : α} (h : s.run P w = .ok a w1) : (s >>= f).run P w = (f a).run P w1 := by
  rw [Sem.run_bind, h]; rfl
theorem add_at (c o k : Nat) : (⟨c, o, none⟩ : Addr).add k = ⟨c, o + k, none⟩ := by
  unfold Addr.add
  split
  · rename_i h; subst h; rfl
  · rfl
theorem ra_add {m : Emb} {a a' : Addr} (h : RA m a a') (k : Nat) : RA m (a.add k) (a'.add k) := by
  obtain ⟨h1, e, he, ha⟩ := h
  obtain ⟨b, off, sp⟩ := a
  simp only at h1
  subst h1
  subst ha
  exact ⟨by rw [add_at], e, by rw [add_at]; exact he, by rw [add_at, add_at, Nat.add_assoc]⟩
theorem add_block (a : Addr) (k : Nat) : (a.add k).block = a.block := by unfold Addr.add; split <;> rfl
theorem add_off (a : Addr) (k : Nat) : (a.add k).off = a.off + k := by
  unfold Addr.add
  split
  · rename_i h; subst h; rfl
  · rfl
section
variable {P : Program} {t : TypeId} {ti : TI} (h : tiOf P t = some ti)
include h
theorem ti_parts : ∃ i, P.info? t = some i ∧ P.underlying t = some ti.desc ∧ i.zero = some ti.zero ∧ ti.size = i.size ∧ ti.bytes = i.bytes ∧ ti.eqOk = (!(P.eqGuardType P.depth t) && !(P.stoodInHeld t)) ∧ (cellsOf ti.zero).all flat = true := by
  unfold tiOf at h
  split at h
  · cases h
  · rename_i i hi
    split at h
    · cases h
    · rename_i d hd
      split at h
      · cases h
      · rename_i z hz
        split at h
        · cases h
        · rename_i hfl
          injection h with h
          subst h
          exact ⟨i, hi, hd, hz, rfl, rfl, rfl, hfl⟩
theorem ti_cmp : ∃ i, P.info? t = some i ∧ ti.cmp = i.comparable := by
  unfold tiOf at h
  split at h
  · cases h
  · rename_i i hi
    split at h
    · cases h
    · split at h
      · cases h
      · split at h
        · cases h
        · injection h with h
          subst h
          exact ⟨i, hi, rfl⟩
theorem run_under (w : World) : (underlying t).run P w = .ok ti.desc w := by
  obtain ⟨i, h1, h2, -⟩ := ti_parts h
  simp [underlying, h2]
theorem run_info (w : World) : ∃ i, (typeInfo t).run P w = .ok i w ∧ i.size = ti.size ∧ i.bytes = ti.bytes ∧ i.zero = some ti.zero := by
  obtain ⟨i, h1, h2, h3, h4, h5, -⟩ := ti_parts h
  exact ⟨i, by simp [typeInfo, h1], h4.symm, h5.symm, h3⟩
theorem run_size (w : World) : (sizeOf t).run P w = .ok ti.size w := by
  obtain ⟨i, h1, h2, -⟩ := run_info h w
  simp [sizeOf, h1, h2]
theorem run_zero (w : World) : (zeroValue t).run P w = .ok ti.zero w := by
  obtain ⟨i, h1, h2, h3, h4⟩ := run_info h w
  simp [zeroValue, h1, h4]
theorem run_isAgg (w : World) : (isAgg t).run P w = .ok (isAggD ti.desc) w := by
  simp only [isAgg, Sem.run_bind, run_under h, Result.andThen_ok]
  cases ti.desc <;> simp [isAggD]
end
theorem cells_list (v : Value) : v.cells.toList = cellsOf v := by cases v <;> rfl
theorem cells_size (v : Value) : v.cells.size = (cellsOf v).length := by rw [← cells_list]; simp
theorem len_eq {α : Type} (l : List α) : len l = l.length := by
  induction l with
  | nil => rfl
  | cons x l ih => show Nat.succ (len l) = _; rw [ih]; rfl
theorem allCell_cons (x : Value) (l : List Value) : allCell (x :: l) = (isCell x && allCell l) := by
  show Bool.rec (motive := fun _ => Bool) false (allCell l) (isCell x) = _
  cases isCell x <;> rfl
theorem isCell_eq (v : Value) : isCell v = v.oneCell' := by cases v <;> rfl
theorem isCell_ty {ty : Nat} {v : Value} (h : tyOk ty v = true) : isCell v = true := by cases v <;> first | rfl | (simp [tyOk] at h)
theorem RV.cell {m : Emb} {v v' : Value} (h : RV m v v') : isCell v' = isCell v := by
  cases h <;> first
    | rfl
    | (rename_i ht; exact isCell_ty ht)
theorem RVs.allCell {m : Emb} {l l' : List Value} (h : RVs m l l') : Ev.allCell l' = Ev.allCell l := by
  induction l generalizing l' with
  | nil => rw [h.nil_left]
  | cons x l ih =>
    obtain ⟨x', t, rfl, h1, h2⟩ := h.head
    rw [allCell_cons, allCell_cons, h1.cell, ih h2]
theorem RV.cells {m : Emb} {v v' : Value} (h : RV m v v') : RVs m (cellsOf v) (cellsOf v') := by
  cases h with
  | agg xs xs' h1 h2 => exact ⟨h1, h2⟩
  | flat _ hf =>
    cases v <;> first | exact .cons (.flat _ hf) (.nil m) | (simp [Ev.flat] at hf)
  | ptr a a' h => exact .cons (.ptr _ _ h) (.nil m)
  | slice a a' n c c' h => exact .cons (.slice _ _ _ _ _ h) (.nil m)
  | map b c h => exact .cons (.map _ _ h) (.nil m)
  | func fn hn xs xs' ys ys' a b c d => exact .cons (.func fn hn xs xs' ys ys' a b c d) (.nil m)
  | yield b c h => exact .cons (.yield b c h) (.nil m)
  | seq b n k c' a' hn hc h => exact .cons (.seq b n k c' a' hn hc h) (.nil m)
  | seqp b i kd j z o a' hi h => exact .cons (.seqp b i kd j z o a' hi h) (.nil m)
  | glob g o h => exact .cons (.glob g o h) (.nil m)
  | iface t v v' h => exact .cons (.iface t v v' h) (.nil m)
  | tuple xs xs' h1 h2 => exact .cons (.tuple xs xs' h1 h2) (.nil m)
  | sym k nm xs ys v d hd ht =>
    have hc : cellsOf v' = [v'] := by cases v' <;> first | rfl | (simp [tyOk] at ht)
    rw [hc]
    exact .cons (.sym k nm xs ys v' d hd ht) (.nil m)
theorem run_loadFrom {P : Program} {w : World} {a : Addr} : ∀ (l : List Value) (i : Nat) (acc : Array Value), (∀ j v, l[j]? = some v → w.cell? (a.add (i + j)) = some v) →
    (loadCellsFrom a i l.length acc).run P w = .ok (acc ++ l.toArray) w := by
  intro l
  induction l with
  | nil => intro i acc _; simp [loadCellsFrom]
  | cons x l ih =>
    intro i acc h
    have h0 : w.cell? (a.add i) = some x := by simpa using h 0 x rfl
    simp only [List.length_cons, loadCellsFrom, Sem.run_bind, run_load, h0, Result.andThen_ok]
    rw [ih (i + 1) (acc.push x) (fun j v hv => by
      have := h (j + 1) v (by simpa using hv)
      rwa [show i + 1 + j = i + (j + 1) from by omega])]
    simp
theorem run_loadCells {P : Program} {w : World} {a : Addr} {l : List Value} {n : Nat} (hn : l.length = n) (h : ∀ j v, l[j]? = some v → w.cell? (a.add j) = some v) : (loadCells a n).run P w = .ok ⟨l⟩ w := by
  subst hn
  have := run_loadFrom (P := P) l 0 #[] (fun j v hv => by simpa using h j v hv)
  simpa [loadCells] using this
theorem cell_of {w : World} {c o : Nat} {cs : Array Value} {ty : TypeId} {fr : Nat × Nat} (h : w.heap[c]? = some (.cells cs ty fr)) : w.cell? ⟨c, o, none⟩ = cs[o]? := by
  simp [World.cell?, h]
theorem getRow_parts {hp : Hp} {a : Addr} {n : Nat} {l : List Value} (h : getRow hp a n = some l) : ∃ t k ty op str, hp.tr.get a.block = some (.cells t k ty op str) ∧ a.off + n ≤ k ∧ l.length = n ∧ ∀ j, j < n → l[j]? = t.get (a.off + j) := by
  unfold getRow at h
  split at h
  · rename_i t k ty op str hob
    split at h
    · rename_i hle
      obtain ⟨h1, h2⟩ := Tr.list_spec _ _ _ _ h
      exact ⟨t, k, ty, op, str, hob, Nat.le_of_ble_eq_true hle, h1, h2⟩
    · cases h
  · cases h
theorem getRow_spec {m : Emb} {hp : Hp} {w : World} (inv : Inv m hp w.heap) {a a' : Addr} (ha : RA m a a') {n : Nat} {l : List Value} (h : getRow hp a n = some l) :
    ∃ l', RVs m l l' ∧ l'.length = n ∧ ∀ j v, l'[j]? = some v → w.cell? (a'.add j) = some v := by
  obtain ⟨t, k, ty, op, str, hob, hle, hlen, hl⟩ := getRow_parts h
  obtain ⟨hsp, e, he, rfl⟩ := ha
  obtain ⟨-, -, cs, fr, hcs, hrel, -⟩ := inv.obj _ e _ he hob (by simp)
  refine ⟨(List.range n).map fun j => cs.getD (e.o + (a.off + j)) undef, .of_at (by simp [hlen]) (fun i v v' hv hv' => ?_), by simp, fun j v hv => ?_⟩
  · have hi : i < n := by
      rcases Nat.lt_or_ge i n with h | h
      · exact h
      · rw [List.getElem?_eq_none (by omega)] at hv; cases hv
    obtain ⟨u, u', h1, h2, h3⟩ := hrel (a.off + i) (by omega)
    rw [hl i hi, h1] at hv
    injection hv with hv
    subst hv
    simp only [List.getElem?_map, List.getElem?_range hi, Option.map_some] at hv'
    injection hv' with hv'
    subst hv'
    have : cs.getD (e.o + (a.off + i)) undef = u' := by simp [Array.getD_eq_getD_getElem?, h2]
    rw [this]
    exact h3
  · have hi : j < n := by
      rcases Nat.lt_or_ge j n with h | h
      · exact h
      · rw [List.getElem?_eq_none (by simpa using h)] at hv; cases hv
    simp only [List.getElem?_map, List.getElem?_range hi, Option.map_some] at hv
    injection hv with hv
    subst hv
    obtain ⟨u, u', h1, h2, h3⟩ := hrel (a.off + j) (by omega)
    rw [add_at, cell_of hcs, Nat.add_assoc, h2]
    simp [Array.getD_eq_getD_getElem?, h2]
theorem getRow_run {m : Emb} {hp : Hp} {w : World} (P : Program) (inv : Inv m hp w.heap) {a a' : Addr} (ha : RA m a a') {n : Nat} {l : List Value} (h : getRow hp a n = some l) :
    ∃ l', RVs m l l' ∧ (loadCells a' n).run P w = .ok ⟨l'⟩ w := by
  obtain ⟨l', h1, h2, h3⟩ := getRow_spec inv ha h
  exact ⟨l', h1, run_loadCells h2 h3⟩
def writeL (cs : Array Value) (o : Nat) : List Value → Array Value
  | [] => cs
  | v :: l => writeL (cs.setIfInBounds o v) (o + 1) l
theorem writeL_size : ∀ (l : List Value) (cs : Array Value) (o : Nat), (writeL cs o l).size = cs.size := by
  intro l
  induction l with
  | nil => intro cs o; rfl
  | cons v l ih => intro cs o; rw [writeL, ih]; simp
theorem writeL_get : ∀ (l : List Value) (cs : Array Value) (o i : Nat), o + l.length ≤ cs.size → (writeL cs o l)[i]? = if o ≤ i ∧ i < o + l.length then l[i - o]? else cs[i]? := by
  intro l
  induction l with
  | nil => intro cs o i _; rw [if_neg (by simp only [List.length_nil]; omega)]; rfl
  | cons v l ih =>
    intro cs o i h
    simp only [List.length_cons] at h
    rw [writeL, ih _ _ _ (by simp; omega)]
    by_cases h1 : i = o
    · subst h1
      rw [if_neg (by omega), if_pos (by simp), Nat.sub_self, Array.getElem?_setIfInBounds_self_of_lt (by omega)]
      rfl
    · rw [Array.getElem?_setIfInBounds_ne (fun hh => h1 hh.symm)]
      by_cases h2 : o ≤ i ∧ i < o + (v :: l).length
      · rw [if_pos h2, if_pos (by simp only [List.length_cons] at h2; omega)]
        obtain ⟨d, hd⟩ : ∃ d, i - o = d + 1 := ⟨i - o - 1, by omega⟩
        rw [hd, show i - (o + 1) = d from by omega]
        rfl
      · rw [if_neg h2, if_neg (by simp only [List.length_cons] at h2; omega)]
theorem setIf_setIf {α : Type} (h : Array α) (c : Nat) (x y : α) : (h.setIfInBounds c x).setIfInBounds c y = h.setIfInBounds c y := by
  apply Array.ext_getElem?
  intro i
  by_cases hi : c = i
  · subst hi
    by_cases hc : c < h.size
    · simp [hc]
    · simp [hc]
  · rw [Array.getElem?_setIfInBounds_ne hi, Array.getElem?_setIfInBounds_ne hi, Array.getElem?_setIfInBounds_ne hi]
theorem setIf_self {α : Type} (h : Array α) (c : Nat) (x : α) (hx : h[c]? = some x) : h.setIfInBounds c x = h := by
  apply Array.ext_getElem?
  intro i
  by_cases hi : c = i
  · subst hi
    have hc : c < h.size := by
      rcases Nat.lt_or_ge c h.size with hlt | hge
      · exact hlt
      · rw [Array.getElem?_eq_none hge] at hx; cases hx
    rw [hx]
    simp [hc]
  · rw [Array.getElem?_setIfInBounds_ne hi]
theorem setCell_heap {w : World} {c o : Nat} {cs : Array Value} {ty : TypeId} {fr : Nat × Nat} (h : w.heap[c]? = some (.cells cs ty fr)) (v : Value) :
    w.setCell ⟨c, o, none⟩ v = { w with heap := w.heap.setIfInBounds c (.cells (cs.setIfInBounds o v) ty fr) } := by
  have : w.heap.modify c (fun
      | .cells c' elem frozen => .cells (if (none : Option Nat).isSome then c' else c'.setIfInBounds o v) elem frozen
      | o => o) = w.heap.setIfInBounds c (.cells (cs.setIfInBounds o v) ty fr) := by
    apply Array.ext_getElem?
    intro i
    rw [Array.getElem?_modify]
    have hc : c < w.heap.size := by
      rcases Nat.lt_or_ge c w.heap.size with hlt | hge
      · exact hlt
      · rw [Array.getElem?_eq_none hge] at h; cases h
    by_cases hi : c = i
    · subst hi
      rw [if_pos rfl, h]
      simp [hc]
    · rw [if_neg hi, Array.getElem?_setIfInBounds_ne hi]
  unfold World.setCell
  exact congrArg (fun hh => { w with heap := hh }) this
theorem run_storeFrom {P : Program} {c o : Nat} {ty : TypeId} {fr : Nat × Nat} : ∀ (l : List Value) (i : Nat) (w : World) (cs : Array Value), w.heap[c]? = some (.cells cs ty fr) → Ev.allCell l = true →
    o + i + l.length ≤ cs.size → (∀ j, j < cs.size → ¬(fr.1 ≤ j ∧ j < fr.2)) → (storeCells ⟨c, o, none⟩ l i).run P w = .ok () { w with heap := w.heap.setIfInBounds c (.cells (writeL cs (o + i) l) ty fr) } := by
  intro l
  induction l with
  | nil =>
    intro i w cs h _ _ _
    simp only [storeCells, Sem.run_pure, writeL]
    rw [setIf_self _ _ _ h]
  | cons v l ih =>
    intro i w cs h hc hle hfr
    rw [allCell_cons, Bool.and_eq_true] at hc
    simp only [List.length_cons] at hle
    have hcell : w.cell? ((⟨c, o, none⟩ : Addr).add i) = some (cs[o + i]'(by omega)) := by
      rw [add_at, cell_of h, Array.getElem?_eq_getElem]
    have hf : w.frozen? ((⟨c, o, none⟩ : Addr).add i) = false := by
      rw [add_at]
      have := hfr (o + i) (by omega)
      simp only [World.frozen?, h]
      by_cases h1 : fr.1 ≤ o + i
      · have h2 : ¬(o + i < fr.2) := fun h3 => this ⟨h1, h3⟩
        simp [h2]
      · simp [h1]
    have hst : (store ((⟨c, o, none⟩ : Addr).add i) v).run P w = .ok () (w.setCell ((⟨c, o, none⟩ : Addr).add i) v) := by
      rw [run_store P w _ v _ (by rw [← isCell_eq]; exact hc.1), hcell]
      simp [hf]
    simp only [storeCells]
    rw [run_then hst, add_at, setCell_heap h v]
    have hc2 : c < w.heap.size := by
      rcases Nat.lt_or_ge c w.heap.size with hlt | hge
      · exact hlt
      · rw [Array.getElem?_eq_none hge] at h; cases h
    rw [ih (i + 1) _ (cs.setIfInBounds (o + i) v) (by simp [hc2]) hc.2 (by simp; omega) (by simpa using hfr)]
    simp only [setIf_setIf, writeL]
    rfl
theorem putRow_run {m : Emb} {hp hp' : Hp} {w : World} (P : Program) (inv : Inv m hp w.heap) {a a' : Addr} (ha : RA m a a') {l l' : List Value} (hl : RVs m l l') (h : putRow hp a l = some hp') :
    ∃ w', (storeCells a' l').run P w = .ok () w' ∧ Step m hp w m hp' w' := by
  unfold putRow at h
  split at h
  · rename_i t k ty op str hob
    split at h
    · rename_i hle
      split at h
      · rename_i hcell
        injection h with h
        subst h
        have hle := Nat.le_of_ble_eq_true hle
        rw [len_eq] at hle
        obtain ⟨hsp, e, he, rfl⟩ := ha
        obtain ⟨-, -, cs, fr, hcs, hrel, h1, h2, h3⟩ := inv.obj _ e _ he hob (by simp)
        have hsz : ∀ i, i < k → e.o + i < cs.size := fun i hi => by
          obtain ⟨u, u', -, k2, -⟩ := hrel i hi
          rcases Nat.lt_or_ge (e.o + i) cs.size with hlt | hge
          · exact hlt
          · rw [Array.getElem?_eq_none hge] at k2; cases k2
        have hll : l'.length = l.length := hl.1.symm
        rcases Nat.eq_zero_or_pos l'.length with h0 | h0
        · have e1 : l' = [] := List.eq_nil_of_length_eq_zero h0
          have e2 : l = [] := List.eq_nil_of_length_eq_zero (by omega)
          subst e1 e2
          refine ⟨{ w with heap := w.heap.setIfInBounds e.c (.cells cs ty fr) }, ?_, step_write inv he hob hcs rfl hrel h3⟩
          rw [setIf_self _ _ _ hcs]
          rfl
        have hbound : e.o + a.off + l'.length ≤ cs.size := by
          have := hsz (a.off + (l'.length - 1)) (by omega); omega
        refine ⟨_, run_storeFrom l' 0 w cs hcs (by rw [hl.allCell]; exact hcell) (by simpa using hbound) h3.none_, ?_⟩
        refine step_write inv he hob hcs (by rw [writeL_size]) (fun i hi => ?_) h3
        obtain ⟨u, u', k1, k2, k3⟩ := hrel i hi
        rw [Nat.add_zero, Tr.get_putList, writeL_get _ _ _ _ hbound]
        by_cases hin : a.off ≤ i ∧ i < a.off + l.length
        · rw [if_pos hin, if_pos (by omega)]
          have hv : l[i - a.off]? = some (l[i - a.off]'(by omega)) := List.getElem?_eq_getElem _
          obtain ⟨v', k4, k5⟩ := hl.at_ hv
          exact ⟨_, v', hv, by rw [show e.o + i - (e.o + a.off) = i - a.off from by omega]; exact k4, k5⟩
        · rw [if_neg hin, if_neg (by omega)]
          exact ⟨u, u', k1, k2, k3⟩
      · cases h
    · cases h
  · cases h
end Go.Proofs.YtaepplhgeeaidaaDoor.Ev
