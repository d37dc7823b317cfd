/- Maps. -/
import Derived.Test.YtnfmghfddjkpaaaEvM
set_option linter.unusedVariables false
set_option linter.unusedSimpArgs false
namespace Go.Proofs.Ytnfmghfddjkpaaa.Ev
open Go Go.RowKit

/-- A new map. -/
theorem step_newM {m : Emb} {hp : Hp} {w : World} (inv : Inv m hp w.heap) (hf : m hp.nx = none) :
    Step m hp w (m.put hp.nx ⟨w.heap.size, 0, none, true⟩) { tr := hp.tr.set hp.nx (.map [] 0), nx := Nat.succ hp.nx, lo := hp.lo }
      { w with heap := w.heap.push (.map #[] 0) } := by
  have hle : m.le (m.put hp.nx ⟨w.heap.size, 0, none, true⟩) := Emb.le_put _ hf
  refine ⟨hle, ⟨?_, ?_, ?_, ?_⟩, rfl, rfl, rfl, by simp, fun c hc _ => get_push_lt hc, ?_, ?_, Nat.le_succ _, Nat.le_refl _, ?_⟩
  · intro b e ob he hob hd
    by_cases hb : b = hp.nx
    · subst hb
      rw [Emb.put_same] at he
      injection he with he
      subst he
      simp only [Tr.get_set, if_true] at hob
      injection hob with hob
      subst hob
      exact ⟨rfl, rfl, [], getD_push_size, .nil⟩
    · rw [Emb.put_other _ _ hb] at he
      simp only [Tr.get_set, if_neg hb] at hob
      obtain ⟨l1, l2⟩ := inv.obj b e ob he hob hd
      exact ⟨l1, (l2.mono hle).heap (get_push_lt (inv.low b e he))⟩
  · intro b b' e e' he he' hl hl' hc
    by_cases hb : b = hp.nx <;> by_cases hb' : b' = hp.nx
    · rw [hb, hb']
    · subst hb
      rw [Emb.put_same] at he
      injection he with he
      subst he
      rw [Emb.put_other _ _ hb'] at he'
      have := inv.low b' e' he'
      simp only at hc
      omega
    · subst hb'
      rw [Emb.put_same] at he'
      injection he' with he'
      subst he'
      rw [Emb.put_other _ _ hb] at he
      have := inv.low b e he
      simp only at hc
      omega
    · rw [Emb.put_other _ _ hb] at he
      rw [Emb.put_other _ _ hb'] at he'
      exact inv.inj b b' e e' he he' hl hl' hc
  · intro b e he
    simp only [Array.size_push]
    by_cases hb : b = hp.nx
    · subst hb
      rw [Emb.put_same] at he
      injection he with he
      subst he
      exact Nat.lt_succ_self _
    · rw [Emb.put_other _ _ hb] at he
      have := inv.low b e he
      omega
  · intro b ob hob
    simp only [Tr.get_set] at hob
    by_cases hb : b = hp.nx
    · subst hb; exact Nat.lt_succ_self _
    · rw [if_neg hb] at hob
      exact Nat.lt_succ_of_lt (inv.dom b ob hob)
  · intro b e hb he hl
    by_cases hbn : b = hp.nx
    · subst hbn
      rw [Emb.put_same] at he
      injection he with he
      subst he
      exact .inr (Nat.le_refl _)
    · rw [Emb.put_other _ _ hbn] at he
      exact .inl ⟨b, e, by simp only at hb; omega, he, hl, rfl⟩
  · intro b hb
    exact Emb.put_other _ _ (by simp only at hb; omega)
  · intro b hb _
    exact ⟨by simp only [Tr.get_set, if_neg (show b ≠ hp.nx by omega)], Emb.put_other _ _ (by omega)⟩

/-- One map is written. -/
theorem step_mapSet {m : Emb} {hp : Hp} {w : World} (inv : Inv m hp w.heap) {b : Nat} {e : Ent} (he : m b = some e) {es0 es es' : List MapEntry} {c0 clock : Nat}
    (hob : hp.tr.get b = some (.map es0 c0)) (hrel : RMs m es es') :
    Step m hp w m (mapSet hp b es clock) { w with heap := w.heap.setIfInBounds e.c (.map ⟨es'⟩ clock) } := by
  have hlt : e.c < w.heap.size := inv.low b e he
  obtain ⟨hl, h1, h2⟩ := inv.obj b e _ he hob (by simp)
  have hget : ∀ c, c ≠ e.c → (w.heap.setIfInBounds e.c (.map ⟨es'⟩ clock))[c]? = w.heap[c]? := fun c hc => Array.getElem?_setIfInBounds_ne (fun h => hc h.symm)
  refine ⟨Emb.le_refl _, ⟨?_, inv.inj, ?_, ?_⟩, rfl, rfl, rfl, by simp, ?_, fun b e hb he hl => .inl ⟨b, e, hb, he, hl, rfl⟩, fun _ _ => rfl, Nat.le_refl _, least_le_right _ _, ?_⟩
  · intro b' e' ob he' hob' hd
    unfold mapSet at hob'
    by_cases hb : b' = b
    · subst hb
      rw [he] at he'
      injection he' with he'
      subst he'
      simp only [Tr.get_set, if_true] at hob'
      injection hob' with hob'
      subst hob'
      exact ⟨hl, h1, es', by simp [hlt], hrel⟩
    · simp only [Tr.get_set, if_neg hb] at hob'
      obtain ⟨l1, l2⟩ := inv.obj b' e' ob he' hob' hd
      exact ⟨l1, l2.heap (hget _ (fun hc => hb (inv.inj b' b e' e he' he l1 hl hc)))⟩
  · intro b' e' he'
    simpa using inv.low b' e' he'
  · intro b' ob hob'
    unfold mapSet at hob'
    simp only [Tr.get_set] at hob'
    by_cases hb : b' = b
    · subst hb; exact inv.dom b' _ hob
    · rw [if_neg hb] at hob'
      exact inv.dom b' ob hob'
  · intro c hc h
    exact hget c (fun hh => h b e (inv.dom b _ hob) he hl hh.symm)
  · intro b' hb' hlo
    unfold mapSet at hlo ⊢
    have : b' ≠ b := fun hh => by
      have := least_le_left b hp.lo
      simp only at hlo
      omega
    exact ⟨by simp only [Tr.get_set, if_neg this], rfl⟩

/-! Entries. -/
theorem RMs.at_ {m : Emb} {es es' : List MapEntry} (r : RMs m es es') : ∀ (i : Nat) (x : MapEntry), es[i]? = some x → ∃ x', es'[i]? = some x' ∧ RM m x x' := by
  induction r with
  | nil => intro i x h; simp at h
  | @cons x0 x0' es es' h0 r ih =>
    intro i x h
    cases i with
    | zero => simp only [List.getElem?_cons_zero, Option.some.injEq] at h; subst h; exact ⟨x0', rfl, h0⟩
    | succ i => simp only [List.getElem?_cons_succ] at h ⊢; exact ih i x h

theorem RMs.length {m : Emb} {es es' : List MapEntry} (r : RMs m es es') : es'.length = es.length := by
  induction r with
  | nil => rfl
  | cons _ _ ih => simp [ih]

theorem RMs.snoc {m : Emb} {es es' : List MapEntry} (r : RMs m es es') {x x' : MapEntry} (h : RM m x x') : RMs m (es ++ [x]) (es' ++ [x']) := by
  induction r with
  | nil => exact .cons h .nil
  | cons h0 _ ih => exact .cons h0 ih

theorem RMs.modify {m : Emb} {f f' : MapEntry → MapEntry} (hf : ∀ x x', RM m x x' → RM m (f x) (f' x')) {es es' : List MapEntry} (r : RMs m es es') : ∀ i, RMs m (es.modify i f) (es'.modify i f') := by
  induction r with
  | nil => intro i; cases i <;> exact .nil
  | cons h0 r ih =>
    intro i
    cases i with
    | zero => simpa [List.modify_zero_cons] using RMs.cons (hf _ _ h0) r
    | succ i => simpa [List.modify_succ_cons] using RMs.cons h0 (ih i)

theorem RMs.erase {m : Emb} {es es' : List MapEntry} (r : RMs m es es') : ∀ i, RMs m (es.eraseIdx i) (es'.eraseIdx i) := by
  induction r with
  | nil => intro i; exact .nil
  | cons h0 r ih =>
    intro i
    cases i with
    | zero => exact r
    | succ i => exact .cons h0 (ih i)

theorem bytes_same (a b : ByteArray) : (a == b) = true ↔ a = b := by
  obtain ⟨a⟩ := a
  obtain ⟨b⟩ := b
  show (a == b) = true ↔ _
  simp

theorem sameNow_flat {d : TypeDesc} {a b : Value} {r : Bool} (h : Instr.sameNow d a b = some r) : flat a = true ∧ flat b = true := by
  unfold Instr.sameNow at h
  split at h <;> first | exact ⟨rfl, rfl⟩ | cases h

theorem sameNow_same {d : TypeDesc} {a b : Value} (h : Instr.sameNow d a b = some true) (n : Nat) : Instr.sameBits n b a = true := by
  unfold Instr.sameNow at h
  split at h
  · split at h
    · rename_i hk
      subst hk
      injection h with h
      have := eq_of_beq h
      subst this
      simp [Instr.sameBits]
    · cases h
  · rename_i a b
    injection h with h
    have h : (a == b) = true := h
    have : a = b := (bytes_same a b).1 h
    subst this
    simpa [Instr.sameBits] using h
  · injection h with h
    have := eq_of_beq h
    subst this
    simp [Instr.sameBits]
  · cases h

/-- What is found here is found there. -/
theorem findNow_rel {m : Emb} {d : TypeDesc} {k k' : Value} (hk : RV m k k') {es es' : List MapEntry} (r : RMs m es es') : ∀ (i : Nat),
    (Instr.findNow d k es i = some none → Instr.findNow d k' es' i = some none) ∧
    (∀ j v, Instr.findNow d k es i = some (some (j, v)) → ∃ v', Instr.findNow d k' es' i = some (some (j, v')) ∧ RV m v v' ∧ k' = k ∧ i ≤ j ∧ ∃ x', es'[j - i]? = some x' ∧ Instr.sameBits 10000 x'.key k' = true) := by
  induction r with
  | nil => intro i; exact ⟨fun _ => rfl, fun j v h => by simp [Instr.findNow] at h⟩
  | @cons x x' es es' h0 r ih =>
    intro i
    obtain ⟨hkey, hval, -⟩ := h0
    cases hs : Instr.sameNow d k x.key with
    | none => exact ⟨fun h => by simp [Instr.findNow, hs] at h, fun j v h => by simp [Instr.findNow, hs] at h⟩
    | some b =>
      obtain ⟨f1, f2⟩ := sameNow_flat hs
      have e1 := hk.flat_iff f1
      have e2 := hkey.flat_iff f2
      have hs' : Instr.sameNow d k' x'.key = some b := by rw [e1, e2]; exact hs
      cases b with
      | true =>
        refine ⟨fun h => by simp [Instr.findNow, hs] at h, fun j v h => ?_⟩
        simp only [Instr.findNow, hs, Option.some.injEq, Prod.mk.injEq] at h
        obtain ⟨rfl, rfl⟩ := h
        exact ⟨x'.val, by simp [Instr.findNow, hs'], hval, e1, Nat.le_refl _, x', by simp, sameNow_same hs' _⟩
      | false =>
        obtain ⟨g1, g2⟩ := ih (i + 1)
        refine ⟨fun h => ?_, fun j v h => ?_⟩
        · simp only [Instr.findNow, hs] at h
          simpa only [Instr.findNow, hs'] using g1 h
        · simp only [Instr.findNow, hs] at h
          obtain ⟨v', h1, h2, h3, h4, x1, h5, h6⟩ := g2 j v h
          refine ⟨v', by simpa only [Instr.findNow, hs'] using h1, h2, h3, by omega, x1, ?_, h6⟩
          rw [show j - i = (j - (i + 1)) + 1 by omega, List.getElem?_cons_succ]
          exact h5

/-! The operations. -/
theorem undef_rv (m : Emb) : RV m undef undef := .tuple _ _ rfl (fun i hi => by simp at hi)

theorem zero_rv {m : Emb} {z : Value} (h : (cellsOf z).all flat = true) : RV m z z := by
  cases z with
  | agg cs => obtain ⟨l⟩ := cs; exact .agg _ _ rfl (flat_rvs (m := m) h).2
  | _ => exact .flat _ (by simpa [cellsOf] using h)

theorem getObj_run {P : Program} {w : World} {r : Nat} {es : Array MapEntry} {c : Nat} (h : w.heap[r]? = some (.map es c)) : (getObj r).run P w = .ok (.map es c) w := by
  simp [getObj, Sem.run, h]

theorem setObj_run {P : Program} {w : World} {r : Nat} {o : Obj} {es : Array MapEntry} {c : Nat} (h : w.heap[r]? = some (.map es c)) : (setObj r o).run P w = .ok () { w with heap := w.heap.setIfInBounds r o } := by
  simp [setObj, Sem.run, h]

theorem newObj_run {P : Program} {w : World} {es : Array MapEntry} {c : Nat} : (newObj (.map es c)).run P w = .ok w.heap.size { w with heap := w.heap.push (.map es c) } := by
  rfl

theorem checkKey_run {P : Program} {w : World} {kt : TypeId} {d : TypeDesc} {k : Value} (hd : (underlying kt).run P w = .ok d w) (hp : plainKey d = true) (e : Bool) (n : Nat) : (Instr.checkKey e (n + 1) kt k).run P w = .ok () w := by
  unfold Instr.checkKey
  simp only [Sem.run_bind, hd, Result.andThen_ok]
  cases d <;> first | (cases hp; done) | simp

theorem findKey_run {P : Program} {w : World} {kt : TypeId} {d : TypeDesc} {k : Value} {es : List MapEntry} {r : Option (Nat × Value)} (hd : (underlying kt).run P w = .ok d w) (hf : Instr.findNow d k es 0 = some r) : (Instr.findKey kt k es).run P w = .ok r w := by
  simp [Instr.findKey, Sem.run_bind, hd, hf]

theorem keyThatStays_run {P : Program} {w : World} {a b : Value} (h : Instr.sameBits 10000 a b = true) : (Instr.keyThatStays a b).run P w = .ok b w := by
  simp [Instr.keyThatStays, h]

/-! Keys that are structs of plain parts. -/
theorem rvs_same {m : Emb} : ∀ {l l' : List Value}, RVs m l l' → l.all flat = true → l' = l
  | [], l', h, _ => h.nil_left
  | x :: l, l', h, hf => by
    simp only [List.all_cons, Bool.and_eq_true] at hf
    obtain ⟨x', t, rfl, h1, h2⟩ := h.head
    rw [h1.flat_iff hf.1, rvs_same h2 hf.2]
theorem const_same {m : Emb} {v v' : Value} (hc : constOk v = true) (h : RV m v v') : v' = v := by
  cases v with
  | agg cs =>
    obtain ⟨xs⟩ := cs
    obtain ⟨xs', rfl, hx⟩ := h.agg_iff
    have hc : xs.all flat = true := hc
    rw [rvs_same hx hc]
  | _ => exact h.flat_iff hc
theorem checkFields_run {P : Program} {w : World} {e : Bool} {n : Nat} {cs : Array Value} : ∀ (fs : List Field),
    (∀ f, f ∈ fs → ∃ tf v, (underlying f.type).run P w = .ok tf w ∧ plainKey tf = true ∧ (part f.type cs f.offset).run P w = .ok v w) →
    (forIn fs PUnit.unit (fun (f : Field) (_ : PUnit) => (if f.name ≠ "_" then (do
      let v ← part f.type cs f.offset
      Instr.checkKey e (n + 1) f.type v
      pure (ForInStep.yield PUnit.unit)) else pure (ForInStep.yield PUnit.unit) : Sem (ForInStep PUnit)))).run P w = .ok PUnit.unit w := by
  intro fs
  induction fs with
  | nil => intro _; rfl
  | cons f fs ih =>
    intro h
    obtain ⟨tf, v, h1, h2, h3⟩ := h f List.mem_cons_self
    have ih := ih (fun g hg => h g (List.mem_cons_of_mem _ hg))
    rw [List.forIn_cons]
    by_cases hn : f.name ≠ "_"
    · rw [if_pos hn, Sem.run_bind, Sem.run_bind, h3]
      show (((Instr.checkKey e (n + 1) f.type v >>= fun _ => pure (ForInStep.yield PUnit.unit)) : Sem (ForInStep PUnit)).run P w).andThen _ = _
      rw [Sem.run_bind, checkKey_run h1 h2]
      exact ih
    · rw [if_neg hn, Sem.run_bind]
      exact ih

section
variable {P : Program} {cx : Cx} (ok : CxOk P cx) {m : Emb} {w : World}
include ok
theorem keyOkS_run {kt : TypeId} {d : TypeDesc} {k : Value} (hd : (underlying kt).run P w = .ok d w) (h : keyOkS cx d k = true) (e : Bool) (n : Nat) : (Instr.checkKey e (n + 2) kt k).run P w = .ok () w ∧ constOk k = true := by
  unfold keyOkS at h
  split at h
  · rename_i fs cs
    rw [Bool.and_eq_true] at h
    refine ⟨?_, h.1⟩
    unfold Instr.checkKey
    simp only [Sem.run_bind, hd, Result.andThen_ok]
    rw [← Array.forIn_toList]
    rw [checkFields_run fs.toList fun f hf => ?_]
    · rfl
    have hf := List.all_eq_true.1 h.2 f hf
    split at hf
    · rename_i tf v htf hpart
      have hrv : RVs (⟨fun _ => none, fun _ => undef, fun _ _ => none⟩ : Emb) cs.toList cs.toList := flat_rvs h.1
      obtain ⟨v', p1, -⟩ := partA_ok (m := ⟨fun _ => none, fun _ => undef, fun _ _ => none⟩) ok (w := w) hrv hpart
      exact ⟨tf.desc, v', run_under (ok.ty _ _ htf) w, hf, p1⟩
    · cases hf
  · cases h

theorem findS_rel (as : AsOk cx m) {kt : TypeId} {k k' : Value} (hk : RV m k k') (hkc : constOk k = true) {es es' : List MapEntry} (r : RMs m es es') : ∀ (i : Nat),
    (findS cx kt k es i = some none → (Instr.findAsking kt k' es' i).run P w = .ok none w) ∧
    (∀ j v, findS cx kt k es i = some (some (j, v)) → ∃ v', (Instr.findAsking kt k' es' i).run P w = .ok (some (j, v')) w ∧ RV m v v' ∧ i ≤ j ∧ ∃ x', es'[j - i]? = some x' ∧ Instr.sameBits 10000 x'.key k' = true) := by
  have ek := const_same hkc hk
  induction r with
  | nil => intro i; exact ⟨(fun _ => rfl), (fun j v h => by cases h)⟩
  | @cons x x' es es' h0 r ih =>
    intro i
    obtain ⟨hkey, hval, -⟩ := h0
    have hdef : findS cx kt k (x :: es) i = match constOk x.key, eqA cx 9 kt k x.key, Instr.sameBits 10000 x.key k with
      | true, some true, true => some (some (i, x.val))
      | true, some false, _ => findS cx kt k es (i + 1)
      | _, _, _ => none := rfl
    rw [hdef]
    split
    · rename_i hc he hs
      have ex := const_same hc hkey
      have hrun : (Op.equal kt k' x'.key).run P w = .ok true w := eqA_ok ok as (w := w) 9 10000 kt k x.key k' x'.key true (by omega) hk hkey he
      refine ⟨(fun h => by cases h), fun j v h => ?_⟩
      injection h with h
      injection h with h
      injection h with h1 h2
      subst h1 h2
      refine ⟨x'.val, ?_, hval, Nat.le_refl _, x', by simp, by rw [ex, ek]; exact hs⟩
      unfold Instr.findAsking
      rw [run_then hrun]
      rfl
    · rename_i hc he
      have hrun : (Op.equal kt k' x'.key).run P w = .ok false w := eqA_ok ok as (w := w) 9 10000 kt k x.key k' x'.key false (by omega) hk hkey he
      obtain ⟨g1, g2⟩ := ih (i + 1)
      have hstep : (Instr.findAsking kt k' (x' :: es') i).run P w = (Instr.findAsking kt k' es' (i + 1)).run P w := by
        conv => lhs; unfold Instr.findAsking
        rw [run_then hrun]
        rfl
      refine ⟨fun h => by rw [hstep]; exact g1 h, fun j v h => ?_⟩
      obtain ⟨v', h1, h2, h3, y, h4, h5⟩ := g2 j v h
      refine ⟨v', by rw [hstep]; exact h1, h2, by omega, y, ?_, h5⟩
      rw [show j - i = (j - (i + 1)) + 1 by omega, List.getElem?_cons_succ]
      exact h4
    · exact ⟨(fun h => by cases h), (fun j v h => by cases h)⟩

/-- What is found here is found there, whatever the kind of key. -/
theorem find_any (as : AsOk cx m) {kt : TypeId} {d : TypeDesc} {k k' : Value} (hk : RV m k k') {es es' : List MapEntry} (r : RMs m es es') (hd : (underlying kt).run P w = .ok d w) :
    (∀ q, findA cx kt d k es = some q → ∀ e, (Instr.checkKey e 10000 kt k').run P w = .ok () w) ∧
    (findA cx kt d k es = some none → (Instr.findKey kt k' es').run P w = .ok none w) ∧
    (∀ j v, findA cx kt d k es = some (some (j, v)) → ∃ v', (Instr.findKey kt k' es').run P w = .ok (some (j, v')) w ∧ RV m v v' ∧ ∃ x', es'[j]? = some x' ∧ Instr.sameBits 10000 x'.key k' = true) := by
  cases hp : plainKey d with
  | true =>
    have hdef : findA cx kt d k es = Instr.findNow d k es 0 := by unfold findA; rw [hp]
    obtain ⟨f1, f2⟩ := findNow_rel (d := d) hk r 0
    refine ⟨fun q _ e => checkKey_run hd hp e 9999, fun h => findKey_run hd (f1 (by rw [← hdef]; exact h)), fun j v h => ?_⟩
    obtain ⟨v', q1, q2, -, -, x1, q4, q5⟩ := f2 j v (by rw [← hdef]; exact h)
    exact ⟨v', findKey_run hd q1, q2, x1, q4, q5⟩
  | false =>
    have hdef : findA cx kt d k es = match keyOkS cx d k with
      | true => findS cx kt k es 0
      | false => none := by unfold findA; simp only [hp]; cases keyOkS cx d k <;> rfl
    cases hko : keyOkS cx d k with
    | false => rw [hdef, hko]; exact ⟨(fun q h => by cases h), (fun h => by cases h), (fun j v h => by cases h)⟩
    | true =>
      rw [hdef, hko]
      obtain ⟨c1, c2⟩ := keyOkS_run ok hd hko false 9998
      have ek := const_same c2 hk
      obtain ⟨f1, f2⟩ := findS_rel ok as (w := w) hk c2 r (kt := kt) 0
      have hst : ∀ q, Instr.findNow d k' es' 0 = some q → es' = [] := fun q hq => by
        cases es' with
        | nil => rfl
        | cons y ys =>
          unfold keyOkS at hko
          split at hko
          · simp [Instr.findNow, Instr.sameNow] at hq
          · cases hko
      have hfk : (Instr.findKey kt k' es').run P w = (Instr.findAsking kt k' es').run P w := by
        unfold Instr.findKey
        rw [run_then hd]
        cases hn : Instr.findNow d k' es' 0 with
        | none => rfl
        | some q =>
          obtain rfl := hst q hn
          have : q = none := by simp [Instr.findNow] at hn; exact hn.symm
          subst this
          rfl
      refine ⟨fun q _ e => by rw [ek]; exact (keyOkS_run ok hd hko e 9998).1, fun h => by rw [hfk]; exact f1 h, fun j v h => ?_⟩
      obtain ⟨v', q1, q2, -, x1, q4, q5⟩ := f2 j v h
      exact ⟨v', by rw [hfk]; exact q1, q2, x1, by simpa using q4, q5⟩
end

section
variable {P : Program} {cx : Cx} (ok : CxOk P cx) {m : Emb} {hp : Hp} {w : World}
include ok

theorem mapTy_ok {t kt : TypeId} {d : TypeDesc} {z : Value} (h : mapTy cx t = some (kt, d, z)) :
    ∃ et, (∀ w, (underlying t).run P w = .ok (.map kt et) w) ∧ (∀ w, (underlying kt).run P w = .ok d w) ∧ (plainKey d || structD d) = true ∧ (∀ w, (zeroValue et).run P w = .ok z w) ∧ ∀ m, RV m z z := by
  unfold mapTy at h
  split at h
  · cases h
  · rename_i ti hti
    split at h
    · rename_i kt' et hde
      split at h
      · rename_i tk te htk hte
        split at h
        · rename_i hpk
          injection h with h
          injection h with h0 h
          injection h with h1 h2
          subst h0 h1 h2
          have hti := ok.ty _ _ hti
          have htk := ok.ty _ _ htk
          have hte := ok.ty _ _ hte
          refine ⟨et, fun w => by rw [run_under hti, hde], fun w => run_under htk w, hpk, fun w => run_zero hte w, fun m => ?_⟩
          obtain ⟨i, -, -, -, -, -, -, hz⟩ := ti_parts hte
          exact zero_rv hz
        · cases h
      · cases h
    · cases h

omit ok in
theorem mapOb_ok (inv : Inv m hp w.heap) {x x' : Value} (hx : RV m x x') {b : Nat} {es : List MapEntry} {c : Nat} (h : mapOb hp x = some (b, es, c)) :
    ∃ e es', m b = some e ∧ x' = .map (some e.c) ∧ hp.tr.get b = some (.map es c) ∧ w.heap[e.c]? = some (.map ⟨es'⟩ c) ∧ RMs m es es' := by
  unfold mapOb at h
  split at h
  · rename_i b0
    split at h
    · rename_i es0 c0 hob
      injection h with h
      injection h with h1 h
      injection h with h2 h3
      subst h1 h2 h3
      obtain ⟨cc, rfl, e, he, rfl⟩ := hx.map_iff
      obtain ⟨-, -, es', h1, h2⟩ := inv.obj _ e _ he hob (by simp)
      exact ⟨e, es', he, rfl, hob, h1, h2⟩
    · cases h
  · cases h

theorem makeMapA_ok (inv : Inv m hp w.heap) (hf : m hp.nx = none) {t : TypeId} {r r' : Option Value} {v : Value} {hp' : Hp} (hr : RO m r r') (h : makeMapA cx hp t r = some (v, hp')) : Turns P m hp w (Instr.makeMap t r') v hp' := by
  unfold makeMapA at h
  split at h
  · cases h
  · rename_i dz hmt
    obtain ⟨et, h1, -⟩ := mapTy_ok ok hmt
    have st := step_newM inv hf
    have rv : RV (m.put hp.nx ⟨w.heap.size, 0, none, true⟩) (.map (some hp.nx)) (.map (some w.heap.size)) := .map _ _ ⟨_, Emb.put_same _ _ _, rfl⟩
    split at h
    · injection h with h
      injection h with e1 e2
      subst e1 e2
      have : r' = none := by rcases hr with ⟨-, h⟩ | ⟨u, u', h, -⟩ <;> first | exact h | cases h
      subst this
      exact ⟨_, _, _, by simp [Instr.makeMap, Sem.run_bind, newObj_run], st, rv⟩
    · injection h with h
      injection h with e1 e2
      subst e1 e2
      rcases hr with ⟨h0, -⟩ | ⟨u, u', h0, h2, h3⟩
      · cases h0
      · injection h0 with h0
        subst h0
        obtain rfl := h3.flat_iff rfl
        subst h2
        exact ⟨_, _, _, by simp [Instr.makeMap, Sem.run_bind, h1, asInt, asIntOf, newObj_run], st, rv⟩
    · cases h

theorem lookupA_ok (as : AsOk cx m) (inv : Inv m hp w.heap) {t : TypeId} {x x' k k' v : Value} {b : Bool} (hx : RV m x x') (hk : RV m k k') (h : lookupA cx hp t x k b = some v) : Reads P m w (Instr.lookup t x' k' b) v := by
  unfold lookupA at h
  split at h
  · cases h
  · rename_i kt d z hmt
    obtain ⟨et, h1, h2, h3, h4, h5⟩ := mapTy_ok ok hmt
    split at h
    · cases h
    · rename_i es hes
      have hes : ∃ es', RMs m es es' ∧ ((x' = .map none ∧ es' = []) ∨ ∃ r c, x' = .map (some r) ∧ w.heap[r]? = some (.map ⟨es'⟩ c)) := by
        unfold mapEs at hes
        split at hes
        · injection hes with hes
          subst hes
          obtain rfl := hx.flat_iff rfl
          exact ⟨[], .nil, .inl ⟨rfl, rfl⟩⟩
        · split at hes
          · rename_i hob
            injection hes with hes
            subst hes
            obtain ⟨e, es', g1, rfl, g3, g4, g5⟩ := mapOb_ok inv hx hob
            exact ⟨es', g5, .inr ⟨_, _, rfl, g4⟩⟩
          · cases hes
      obtain ⟨es', hrel, hget⟩ := hes
      obtain ⟨ck, f1, f2⟩ := find_any ok as (w := w) hk hrel (h2 w)
      have run : ∀ r, (∀ e, (Instr.checkKey e 10000 kt k').run P w = .ok () w) → (Instr.findKey kt k' es').run P w = .ok r w → (Instr.lookup t x' k' b).run P w = .ok (if b then .tuple #[(r.map (·.2)).getD z, .bool r.isSome] else (r.map (·.2)).getD z) w := by
        intro r hc hr
        rcases hget with ⟨rfl, rfl⟩ | ⟨r0, c0, rfl, hg⟩
        · cases r <;> simp [Instr.lookup, Sem.run_bind, h1, hc, hr, h4]
        · cases r <;> simp [Instr.lookup, Sem.run_bind, h1, getObj_run hg, hc, hr, h4]
      split at h
      · cases h
      · rename_i hfn
        have := run _ (ck _ hfn) (f1 hfn)
        split at h
        · injection h with h
          subst h
          refine ⟨_, this, ?_⟩
          have := RVs.cons (h5 m) (RVs.cons (.flat (.bool false) rfl) (RVs.nil m)); exact .tuple _ _ this.1 this.2
        · injection h with h
          subst h
          exact ⟨_, this, h5 m⟩
      · rename_i j u hfn
        obtain ⟨u', g1, g2, -⟩ := f2 _ _ hfn
        have := run _ (ck _ hfn) g1
        split at h
        · injection h with h
          subst h
          refine ⟨_, this, ?_⟩
          have := RVs.cons g2 (RVs.cons (.flat (.bool true) rfl) (RVs.nil m)); exact .tuple _ _ this.1 this.2
        · injection h with h
          subst h
          exact ⟨_, this, g2⟩

theorem mapUpdateA_ok (as : AsOk cx m) (inv : Inv m hp w.heap) {t : TypeId} {x x' k k' v v' : Value} {hp' : Hp} (hx : RV m x x') (hk : RV m k k') (hv : RV m v v') (h : mapUpdateA cx hp t x k v = some hp') :
    ∃ w', (Instr.mapUpdate t x' k' v').run P w = .ok () w' ∧ Step m hp w m hp' w' := by
  unfold mapUpdateA at h
  split at h
  · cases h
  · rename_i kt d z hmt
    obtain ⟨et, h1, h2, h3, h4, h5⟩ := mapTy_ok ok hmt
    split at h
    · cases h
    · rename_i b es clock hob
      obtain ⟨e, es', g1, rfl, g3, g4, g5⟩ := mapOb_ok inv hx hob
      obtain ⟨ck, f1, f2⟩ := find_any ok as (w := w) hk g5 (h2 w)
      split at h
      · cases h
      · rename_i hfn
        injection h with h
        subst h
        refine ⟨_, ?_, step_mapSet inv g1 g3 (es' := es' ++ [{ key := k', val := v', born := clock }]) (g5.snoc ⟨hk, hv, rfl⟩)⟩
        simp [Instr.mapUpdate, Sem.run_bind, h1, getObj_run g4, ck _ hfn, f1 hfn, setObj_run g4]
      · rename_i j u hfn
        obtain ⟨u', q1, q2, x1, q4, q5⟩ := f2 _ _ hfn
        injection h with h
        subst h
        refine ⟨_, ?_, step_mapSet inv g1 g3 (es' := es'.modify j fun e => { e with key := k', val := v' }) (RMs.modify (f := fun e => { e with key := k, val := v }) (f' := fun e => { e with key := k', val := v' }) (fun x x' hxx => ⟨hk, hv, hxx.2.2⟩) g5 j)⟩
        simp [Instr.mapUpdate, Sem.run_bind, h1, getObj_run g4, ck _ hfn, q1, setObj_run g4, q4, keyThatStays_run q5]

theorem mapEntryA_ok (as : AsOk cx m) (inv : Inv m hp w.heap) {t : TypeId} {x x' k k' v : Value} {hp' : Hp} (hx : RV m x x') (hk : RV m k k') (h : mapEntryA cx hp t x k = some (v, hp')) : Turns P m hp w (Instr.mapEntry t x' k') v hp' := by
  unfold mapEntryA at h
  split at h
  · cases h
  · rename_i kt d z hmt
    obtain ⟨et, h1, h2, h3, h4, h5⟩ := mapTy_ok ok hmt
    split at h
    · cases h
    · rename_i b es clock hob
      obtain ⟨e, es', g1, rfl, g3, g4, g5⟩ := mapOb_ok inv hx hob
      obtain ⟨ck, f1, f2⟩ := find_any ok as (w := w) hk g5 (h2 w)
      split at h
      · cases h
      · rename_i hfn
        injection h with h
        injection h with e1 e2
        subst e1 e2
        refine ⟨m, .tuple ⟨[z, .int .i64 (.ofNat clock)]⟩, _, ?_, step_mapSet inv g1 g3 (es' := es' ++ [{ key := k', val := z, born := clock }]) (g5.snoc ⟨hk, h5 m, rfl⟩), ?_⟩
        · simp [Instr.mapEntry, Sem.run_bind, h1, getObj_run g4, ck _ hfn, f1 hfn, setObj_run g4, h4, goInt]
        · have := RVs.cons (h5 m) (RVs.cons (.flat (.int .i64 (.ofNat clock)) rfl) (RVs.nil m)); exact .tuple _ _ this.1 this.2
      · rename_i j u hfn
        obtain ⟨u', q1, q2, x1, q4, q5⟩ := f2 _ _ hfn
        split at h
        · rename_i y hy
          injection h with h
          injection h with e1 e2
          subst e1 e2
          obtain ⟨y', hy', hyr⟩ := g5.at_ _ _ hy
          rw [q4] at hy'
          injection hy' with hy'
          subst hy'
          refine ⟨m, .tuple ⟨[u', .int .i64 (.ofNat x1.born)]⟩, _, ?_, step_mapSet inv g1 g3 (es' := es'.modify j fun e => { e with key := k' }) (RMs.modify (f := fun e => { e with key := k }) (f' := fun e => { e with key := k' }) (fun x x' hxx => ⟨hk, hxx.2.1, hxx.2.2⟩) g5 j), ?_⟩
          · simp [Instr.mapEntry, Sem.run_bind, h1, getObj_run g4, ck _ hfn, q1, setObj_run g4, q4, keyThatStays_run q5, goInt]
          · rw [hyr.2.2]
            have := RVs.cons q2 (RVs.cons (.flat (.int .i64 (.ofNat x1.born)) rfl) (RVs.nil m)); exact .tuple _ _ this.1 this.2
        · cases h

theorem deleteA_ok (as : AsOk cx m) (inv : Inv m hp w.heap) {t : TypeId} {x x' k k' : Value} {hp' : Hp} {ts : Array TypeId} {ty : TypeId} (ht : ts[0]? = some t) (hx : RV m x x') (hk : RV m k k') (h : deleteA cx hp t x k = some hp') :
    Turns P m hp w (Builtin.delete_ ts ty #[x', k']) (.tuple ⟨[]⟩) hp' := by
  unfold deleteA at h
  split at h
  · cases h
  · rename_i kt d z hmt
    obtain ⟨et, h1, h2, h3, h4, h5⟩ := mapTy_ok ok hmt
    split at h
    · split at h
      · rename_i hpk
        injection h with h
        subst h
        obtain rfl := hx.flat_iff rfl
        exact ⟨m, .tuple ⟨[]⟩, w, by simp [Builtin.delete_, ht, Sem.run_bind, h1, checkKey_run (h2 w) hpk], .refl inv, undef_rv m⟩
      · cases h
    · split at h
      · cases h
      · rename_i b es clock hob
        obtain ⟨e, es', g1, rfl, g3, g4, g5⟩ := mapOb_ok inv hx hob
        obtain ⟨ck, f1, f2⟩ := find_any ok as (w := w) hk g5 (h2 w)
        split at h
        · cases h
        · rename_i hfn
          injection h with h
          subst h
          refine ⟨m, .tuple ⟨[]⟩, _, ?_, step_mapSet inv g1 g3 g5, undef_rv m⟩
          simp [Builtin.delete_, ht, Sem.run_bind, h1, getObj_run g4, ck _ hfn, f1 hfn, setObj_run g4]
        · rename_i j u hfn
          obtain ⟨u', q1, q2, x1, q4, q5⟩ := f2 _ _ hfn
          injection h with h
          subst h
          refine ⟨m, .tuple ⟨[]⟩, _, ?_, step_mapSet inv g1 g3 (es' := es'.eraseIdx j) (g5.erase j), undef_rv m⟩
          have hj : j < es'.length := by
            rcases Nat.lt_or_ge j es'.length with h | h
            · exact h
            · rw [List.getElem?_eq_none h] at q4; cases q4
          simp [Builtin.delete_, ht, Sem.run_bind, h1, getObj_run g4, ck _ hfn, q1, setObj_run g4, Array.eraseIdxIfInBounds, hj]

theorem lenM_ok (inv : Inv m hp w.heap) {t : TypeId} {x x' v : Value} {ts : Array TypeId} {ty : TypeId} (ht : ts[0]? = some t) (hx : RV m x x') (h : lenM cx hp t x = some v) : Reads P m w (Builtin.len_ ts ty #[x']) v := by
  unfold lenM at h
  split at h
  · cases h
  · rename_i ti hti
    have hti := ok.ty _ _ hti
    split at h
    · rename_i k e hd
      split at h
      · rename_i b es c hob
        obtain ⟨e, es', g1, rfl, g3, g4, g5⟩ := mapOb_ok inv hx hob
        injection h with h
        subst h
        exact .same (by simp [Builtin.len_, ht, run_under hti, hd, goInt, getObj_run g4, g5.length, len_eq]) rfl
      · cases h
    · cases h
end

theorem entryStoreA_ok {P : Program} {m : Emb} {hp : Hp} {w : World} (inv : Inv m hp w.heap) {t : TypeId} {x x' s s' v v' : Value} {hp' : Hp} (hx : RV m x x') (hs : RV m s s') (hv : RV m v v') (h : entryStoreA hp x s v = some hp') :
    ∃ w', (Instr.entryStore t x' s' v').run P w = .ok () w' ∧ Step m hp w m hp' w' := by
  unfold entryStoreA at h
  split at h
  · rename_i b es clock q n hob
    obtain ⟨e, es', g1, rfl, g3, g4, g5⟩ := mapOb_ok inv hx hob
    obtain rfl := hs.flat_iff rfl
    split at h
    · rename_i i hi
      injection h with h
      subst h
      have hi' : es'.findIdx? (fun e => (e.born : Int) == n) = some i := by
        rw [← hi]
        clear hi g4 g3 hob
        induction g5 with
        | nil => rfl
        | cons h0 r ih => simp only [List.findIdx?_cons, h0.2.2, ih]
      refine ⟨_, ?_, step_mapSet inv g1 g3 (es' := es'.modify i fun e => { e with val := v' }) (RMs.modify (f := fun e => { e with val := v }) (f' := fun e => { e with val := v' }) (fun x x' hxx => ⟨hxx.1, hv, hxx.2.2⟩) g5 i)⟩
      simp [Instr.entryStore, Sem.run_bind, getObj_run g4, setObj_run g4, asInt, asIntOf, hi']
    · cases h
  · cases h
end Go.Proofs.Ytnfmghfddjkpaaa.Ev
