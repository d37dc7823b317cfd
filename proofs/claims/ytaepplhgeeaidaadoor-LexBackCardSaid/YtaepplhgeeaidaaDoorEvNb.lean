import Derived.Test.YtaepplhgeeaidaaDoorEvM
import Derived.Maps.RangeRun
import Derived.RangeFuncRecord
section
set_option linter.unusedVariables false
set_option linter.unusedSimpArgs false
namespace Go.Proofs.YtaepplhgeeaidaaDoor.Ev
open Go Go.RowKit
theorem step_newM {m : Emb} {hp : Hp} {w : World} (inv : Inv m hp w.heap) (hf : m hp.nx = none) :
    Step m hp w (m.put hp.nx ⟨w.heap.size, 0, none, true⟩) { tr := hp.tr.set hp.nx (.map [] 0), nx := Nat.succ hp.nx, lo := hp.lo }
      { w with heap := w.heap.push (.map #[] 0) } := by
  have hle : m.le (m.put hp.nx ⟨w.heap.size, 0, none, true⟩) := Emb.le_put _ hf
  refine ⟨hle, ⟨?_, ?_, ?_, ?_⟩, rfl, rfl, rfl, by simp, fun c hc _ => get_push_lt hc, ?_, ?_, Nat.le_succ _, Nat.le_refl _, ?_⟩
  · intro b e ob he hob hd
    by_cases hb : b = hp.nx
    · subst hb
      rw [Emb.put_same] at he
      injection he with he
      subst he
      simp only [Tr.get_set, if_true] at hob
      injection hob with hob
      subst hob
      exact ⟨rfl, rfl, [], getD_push_size, .nil⟩
    · rw [Emb.put_other _ _ hb] at he
      simp only [Tr.get_set, if_neg hb] at hob
      obtain ⟨l1, l2⟩ := inv.obj b e ob he hob hd
      exact ⟨l1, (l2.mono hle).heap (get_push_lt (inv.low b e he))⟩
  · intro b b' e e' he he' hl hl' hc
    by_cases hb : b = hp.nx <;> by_cases hb' : b' = hp.nx
    · rw [hb, hb']
    · subst hb
      rw [Emb.put_same] at he
      injection he with he
      subst he
      rw [Emb.put_other _ _ hb'] at he'
      have := inv.low b' e' he'
      simp only at hc
      omega
    · subst hb'
      rw [Emb.put_same] at he'
      injection he' with he'
      subst he'
      rw [Emb.put_other _ _ hb] at he
      have := inv.low b e he
      simp only at hc
      omega
    · rw [Emb.put_other _ _ hb] at he
      rw [Emb.put_other _ _ hb'] at he'
      exact inv.inj b b' e e' he he' hl hl' hc
  · intro b e he
    simp only [Array.size_push]
    by_cases hb : b = hp.nx
    · subst hb
      rw [Emb.put_same] at he
      injection he with he
      subst he
      exact Nat.lt_succ_self _
    · rw [Emb.put_other _ _ hb] at he
      have := inv.low b e he
      omega
  · intro b ob hob
    simp only [Tr.get_set] at hob
    by_cases hb : b = hp.nx
    · subst hb; exact Nat.lt_succ_self _
    · rw [if_neg hb] at hob
      exact Nat.lt_succ_of_lt (inv.dom b ob hob)
  · intro b e hb he hl
    by_cases hbn : b = hp.nx
    · subst hbn
      rw [Emb.put_same] at he
      injection he with he
      subst he
      exact .inr (Nat.le_refl _)
    · rw [Emb.put_other _ _ hbn] at he
      exact .inl ⟨b, e, by simp only at hb; omega, he, hl, rfl⟩
  · intro b hb
    exact Emb.put_other _ _ (by simp only at hb; omega)
  · intro b hb _
    exact ⟨by simp only [Tr.get_set, if_neg (show b ≠ hp.nx by omega)], Emb.put_other _ _ (by omega)⟩
theorem step_mapSet {m : Emb} {hp : Hp} {w : World} (inv : Inv m hp w.heap) {b : Nat} {e : Ent} (he : m b = some e) {es0 es es' : List MapEntry} {c0 clock : Nat}
    (hob : hp.tr.get b = some (.map es0 c0)) (hrel : RMs m es es') :
    Step m hp w m (mapSet hp b es clock) { w with heap := w.heap.setIfInBounds e.c (.map ⟨es'⟩ clock) } := by
  have hlt : e.c < w.heap.size := inv.low b e he
  obtain ⟨hl, h1, h2⟩ := inv.obj b e _ he hob (by simp)
  have hget : ∀ c, c ≠ e.c → (w.heap.setIfInBounds e.c (.map ⟨es'⟩ clock))[c]? = w.heap[c]? := fun c hc => Array.getElem?_setIfInBounds_ne (fun h => hc h.symm)
  refine ⟨Emb.le_refl _, ⟨?_, inv.inj, ?_, ?_⟩, rfl, rfl, rfl, by simp, ?_, fun b e hb he hl => .inl ⟨b, e, hb, he, hl, rfl⟩, fun _ _ => rfl, Nat.le_refl _, least_le_right _ _, ?_⟩
  · intro b' e' ob he' hob' hd
    unfold mapSet at hob'
    by_cases hb : b' = b
    · subst hb
      rw [he] at he'
      injection he' with he'
      subst he'
      simp only [Tr.get_set, if_true] at hob'
      injection hob' with hob'
      subst hob'
      exact ⟨hl, h1, es', by simp [hlt], hrel⟩
    · simp only [Tr.get_set, if_neg hb] at hob'
      obtain ⟨l1, l2⟩ := inv.obj b' e' ob he' hob' hd
      exact ⟨l1, l2.heap (hget _ (fun hc => hb (inv.inj b' b e' e he' he l1 hl hc)))⟩
  · intro b' e' he'
    simpa using inv.low b' e' he'
  · intro b' ob hob'
    unfold mapSet at hob'
    simp only [Tr.get_set] at hob'
    by_cases hb : b' = b
    · subst hb; exact inv.dom b' _ hob
    · rw [if_neg hb] at hob'
      exact inv.dom b' ob hob'
  · intro c hc h
    exact hget c (fun hh => h b e (inv.dom b _ hob) he hl hh.symm)
  · intro b' hb' hlo
    unfold mapSet at hlo ⊢
    have : b' ≠ b := fun hh => by
      have := least_le_left b hp.lo
      simp only at hlo
      omega
    exact ⟨by simp only [Tr.get_set, if_neg this], rfl⟩
theorem RMs.at_ {m : Emb} {es es' : List MapEntry} (r : RMs m es es') : ∀ (i : Nat) (x : MapEntry), es[i]? = some x → ∃ x', es'[i]? = some x' ∧ RM m x x' := by
  induction r with
  | nil => intro i x h; simp at h
  | @cons x0 x0' es es' h0 r ih =>
    intro i x h
    cases i with
    | zero => simp only [List.getElem?_cons_zero, Option.some.injEq] at h; subst h; exact ⟨x0', rfl, h0⟩
    | succ i => simp only [List.getElem?_cons_succ] at h ⊢; exact ih i x h
theorem RMs.length {m : Emb} {es es' : List MapEntry} (r : RMs m es es') : es'.length = es.length := by
  induction r with
  | nil => rfl
  | cons _ _ ih => simp [ih]
theorem RMs.snoc {m : Emb} {es es' : List MapEntry} (r : RMs m es es') {x x' : MapEntry} (h : RM m x x') : RMs m (es ++ [x]) (es' ++ [x']) := by
  induction r with
  | nil => exact .cons h .nil
  | cons h0 _ ih => exact .cons h0 ih
theorem RMs.modify {m : Emb} {f f' : MapEntry → MapEntry} (hf : ∀ x x', RM m x x' → RM m (f x) (f' x')) {es es' : List MapEntry} (r : RMs m es es') : ∀ i, RMs m (es.modify i f) (es'.modify i f') := by
  induction r with
  | nil => intro i; cases i <;> exact .nil
  | cons h0 r ih =>
    intro i
    cases i with
    | zero => simpa [List.modify_zero_cons] using RMs.cons (hf _ _ h0) r
    | succ i => simpa [List.modify_succ_cons] using RMs.cons h0 (ih i)
theorem RMs.erase {m : Emb} {es es' : List MapEntry} (r : RMs m es es') : ∀ i, RMs m (es.eraseIdx i) (es'.eraseIdx i) := by
  induction r with
  | nil => intro i; exact .nil
  | cons h0 r ih =>
    intro i
    cases i with
    | zero => exact r
    | succ i => exact .cons h0 (ih i)
theorem bytes_same (a b : ByteArray) : (a == b) = true ↔ a = b := by
  obtain ⟨a⟩ := a
  obtain ⟨b⟩ := b
  show (a == b) = true ↔ _
  simp
theorem sameNow_flat {d : TypeDesc} {a b : Value} {r : Bool} (h : Instr.sameNow d a b = some r) : flat a = true ∧ flat b = true := by
  unfold Instr.sameNow at h
  split at h <;> first | exact ⟨rfl, rfl⟩ | cases h
theorem sameNow_same {d : TypeDesc} {a b : Value} (h : Instr.sameNow d a b = some true) (n : Nat) : Instr.sameBits n b a = true := by
  unfold Instr.sameNow at h
  split at h
  · split at h
    · rename_i hk
      subst hk
      injection h with h
      have := eq_of_beq h
      subst this
      simp [Instr.sameBits]
    · cases h
  · rename_i a b
    injection h with h
    have h : (a == b) = true := h
    have : a = b := (bytes_same a b).1 h
    subst this
    simpa [Instr.sameBits] using h
  · injection h with h
    have := eq_of_beq h
    subst this
    simp [Instr.sameBits]
  · cases h
theorem findNow_rel {m : Emb} {d : TypeDesc} {k k' : Value} (hk : RV m k k') {es es' : List MapEntry} (r : RMs m es es') : ∀ (i : Nat),
    (Instr.findNow d k es i = some none → Instr.findNow d k' es' i = some none) ∧
    (∀ j v, Instr.findNow d k es i = some (some (j, v)) → ∃ v', Instr.findNow d k' es' i = some (some (j, v')) ∧ RV m v v' ∧ k' = k ∧ i ≤ j ∧ ∃ x', es'[j - i]? = some x' ∧ Instr.sameBits 10000 x'.key k' = true) := by
  induction r with
  | nil => intro i; exact ⟨fun _ => rfl, fun j v h => by simp [Instr.findNow] at h⟩
  | @cons x x' es es' h0 r ih =>
    intro i
    obtain ⟨hkey, hval, -⟩ := h0
    cases hs : Instr.sameNow d k x.key with
    | none => exact ⟨fun h => by simp [Instr.findNow, hs] at h, fun j v h => by simp [Instr.findNow, hs] at h⟩
    | some b =>
      obtain ⟨f1, f2⟩ := sameNow_flat hs
      have e1 := hk.flat_iff f1
      have e2 := hkey.flat_iff f2
      have hs' : Instr.sameNow d k' x'.key = some b := by rw [e1, e2]; exact hs
      cases b with
      | true =>
        refine ⟨fun h => by simp [Instr.findNow, hs] at h, fun j v h => ?_⟩
        simp only [Instr.findNow, hs, Option.some.injEq, Prod.mk.injEq] at h
        obtain ⟨rfl, rfl⟩ := h
        exact ⟨x'.val, by simp [Instr.findNow, hs'], hval, e1, Nat.le_refl _, x', by simp, sameNow_same hs' _⟩
      | false =>
        obtain ⟨g1, g2⟩ := ih (i + 1)
        refine ⟨fun h => ?_, fun j v h => ?_⟩
        · simp only [Instr.findNow, hs] at h
          simpa only [Instr.findNow, hs'] using g1 h
        · simp only [Instr.findNow, hs] at h
          obtain ⟨v', h1, h2, h3, h4, x1, h5, h6⟩ := g2 j v h
          refine ⟨v', by simpa only [Instr.findNow, hs'] using h1, h2, h3, by omega, x1, ?_, h6⟩
          rw [show j - i = (j - (i + 1)) + 1 by omega, List.getElem?_cons_succ]
          exact h5
theorem undef_rv (m : Emb) : RV m undef undef := .tuple _ _ rfl (fun i hi => by simp at hi)
theorem zero_rv {m : Emb} {z : Value} (h : (cellsOf z).all flat = true) : RV m z z := by
  cases z with
  | agg cs => obtain ⟨l⟩ := cs; exact .agg _ _ rfl (flat_rvs (m := m) h).2
  | _ => exact .flat _ (by simpa [cellsOf] using h)
theorem getObj_run {P : Program} {w : World} {r : Nat} {es : Array MapEntry} {c : Nat} (h : w.heap[r]? = some (.map es c)) : (getObj r).run P w = .ok (.map es c) w := by
  simp [getObj, Sem.run, h]
theorem setObj_run {P : Program} {w : World} {r : Nat} {o : Obj} {es : Array MapEntry} {c : Nat} (h : w.heap[r]? = some (.map es c)) : (setObj r o).run P w = .ok () { w with heap := w.heap.setIfInBounds r o } := by
  simp [setObj, Sem.run, h]
theorem newObj_run {P : Program} {w : World} {es : Array MapEntry} {c : Nat} : (newObj (.map es c)).run P w = .ok w.heap.size { w with heap := w.heap.push (.map es c) } := by
  rfl
theorem checkKey_run {P : Program} {w : World} {kt : TypeId} {d : TypeDesc} {k : Value} (hd : (underlying kt).run P w = .ok d w) (hp : plainKey d = true) (e : Bool) (n : Nat) : (Instr.checkKey e (n + 1) kt k).run P w = .ok () w := by
  unfold Instr.checkKey
  simp only [Sem.run_bind, hd, Result.andThen_ok]
  cases d <;> first | (cases hp; done) | simp
theorem findKey_run {P : Program} {w : World} {kt : TypeId} {d : TypeDesc} {k : Value} {es : List MapEntry} {r : Option (Nat × Value)} (hd : (underlying kt).run P w = .ok d w) (hf : Instr.findNow d k es 0 = some r) : (Instr.findKey kt k es).run P w = .ok r w := by
  simp [Instr.findKey, Sem.run_bind, hd, hf]
theorem keyThatStays_run {P : Program} {w : World} {a b : Value} (h : Instr.sameBits 10000 a b = true) : (Instr.keyThatStays a b).run P w = .ok b w := by
  simp [Instr.keyThatStays, h]
theorem rvs_same {m : Emb} : ∀ {l l' : List Value}, RVs m l l' → l.all flat = true → l' = l
  | [], l', h, _ => h.nil_left
  | x :: l, l', h, hf => by
    simp only [List.all_cons, Bool.and_eq_true] at hf
    obtain ⟨x', t, rfl, h1, h2⟩ := h.head
    rw [h1.flat_iff hf.1, rvs_same h2 hf.2]
theorem const_same {m : Emb} {v v' : Value} (hc : constOk v = true) (h : RV m v v') : v' = v := by
  cases v with
  | agg cs =>
    obtain ⟨xs⟩ := cs
    obtain ⟨xs', rfl, hx⟩ := h.agg_iff
    have hc : xs.all flat = true := hc
    rw [rvs_same hx hc]
  | _ => exact h.flat_iff hc
theorem checkFields_run {P : Program} {w : World} {e : Bool} {n : Nat} {cs : Array Value} : ∀ (fs : List Field),
    (∀ f, f ∈ fs → ∃ tf v, (underlying f.type).run P w = .ok tf w ∧ plainKey tf = true ∧ (part f.type cs f.offset).run P w = .ok v w) →
    (forIn fs PUnit.unit (fun (f : Field) (_ : PUnit) => (if f.name ≠ "_" then (do
      let v ← part f.type cs f.offset
      Instr.checkKey e (n + 1) f.type v
      pure (ForInStep.yield PUnit.unit)) else pure (ForInStep.yield PUnit.unit) : Sem (ForInStep PUnit)))).run P w = .ok PUnit.unit w := by
  intro fs
  induction fs with
  | nil => intro _; rfl
  | cons f fs ih =>
    intro h
    obtain ⟨tf, v, h1, h2, h3⟩ := h f List.mem_cons_self
    have ih := ih (fun g hg => h g (List.mem_cons_of_mem _ hg))
    rw [List.forIn_cons]
    by_cases hn : f.name ≠ "_"
    · rw [if_pos hn, Sem.run_bind, Sem.run_bind, h3]
      show (((Instr.checkKey e (n + 1) f.type v >>= fun _ => pure (ForInStep.yield PUnit.unit)) : Sem (ForInStep PUnit)).run P w).andThen _ = _
      rw [Sem.run_bind, checkKey_run h1 h2]
      exact ih
    · rw [if_neg hn, Sem.run_bind]
      exact ih
section
variable {P : Program} {cx : Cx} (ok : CxOk P cx) {m : Emb} {w : World}
include ok
theorem keyOkS_run {kt : TypeId} {d : TypeDesc} {k : Value} (hd : (underlying kt).run P w = .ok d w) (h : keyOkS cx d k = true) (e : Bool) (n : Nat) : (Instr.checkKey e (n + 2) kt k).run P w = .ok () w ∧ constOk k = true := by
  unfold keyOkS at h
  split at h
  · rename_i fs cs
    rw [Bool.and_eq_true] at h
    refine ⟨?_, h.1⟩
    unfold Instr.checkKey
    simp only [Sem.run_bind, hd, Result.andThen_ok]
    rw [← Array.forIn_toList]
    rw [checkFields_run fs.toList fun f hf => ?_]
    · rfl
    have hf := List.all_eq_true.1 h.2 f hf
    split at hf
    · rename_i tf v htf hpart
      have hrv : RVs (⟨fun _ => none, fun _ => undef, fun _ _ => none⟩ : Emb) cs.toList cs.toList := flat_rvs h.1
      obtain ⟨v', p1, -⟩ := partA_ok (m := ⟨fun _ => none, fun _ => undef, fun _ _ => none⟩) ok (w := w) hrv hpart
      exact ⟨tf.desc, v', run_under (ok.ty _ _ htf) w, hf, p1⟩
    · cases hf
  · cases h
theorem findS_rel (as : AsOk cx m) {kt : TypeId} {k k' : Value} (hk : RV m k k') (hkc : constOk k = true) {es es' : List MapEntry} (r : RMs m es es') : ∀ (i : Nat),
    (findS cx kt k es i = some none → (Instr.findAsking kt k' es' i).run P w = .ok none w) ∧
    (∀ j v, findS cx kt k es i = some (some (j, v)) → ∃ v', (Instr.findAsking kt k' es' i).run P w = .ok (some (j, v')) w ∧ RV m v v' ∧ i ≤ j ∧ ∃ x', es'[j - i]? = some x' ∧ Instr.sameBits 10000 x'.key k' = true) := by
  have ek := const_same hkc hk
  induction r with
  | nil => intro i; exact ⟨(fun _ => rfl), (fun j v h => by cases h)⟩
  | @cons x x' es es' h0 r ih =>
    intro i
    obtain ⟨hkey, hval, -⟩ := h0
    have hdef : findS cx kt k (x :: es) i = match constOk x.key, eqA cx 9 kt k x.key, Instr.sameBits 10000 x.key k with
      | true, some true, true => some (some (i, x.val))
      | true, some false, _ => findS cx kt k es (i + 1)
      | _, _, _ => none := rfl
    rw [hdef]
    split
    · rename_i hc he hs
      have ex := const_same hc hkey
      have hrun : (Op.equal kt k' x'.key).run P w = .ok true w := eqA_ok ok as (w := w) 9 10000 kt k x.key k' x'.key true (by omega) hk hkey he
      refine ⟨(fun h => by cases h), fun j v h => ?_⟩
      injection h with h
      injection h with h
      injection h with h1 h2
      subst h1 h2
      refine ⟨x'.val, ?_, hval, Nat.le_refl _, x', by simp, by rw [ex, ek]; exact hs⟩
      unfold Instr.findAsking
      rw [run_then hrun]
      rfl
    · rename_i hc he
      have hrun : (Op.equal kt k' x'.key).run P w = .ok false w := eqA_ok ok as (w := w) 9 10000 kt k x.key k' x'.key false (by omega) hk hkey he
      obtain ⟨g1, g2⟩ := ih (i + 1)
      have hstep : (Instr.findAsking kt k' (x' :: es') i).run P w = (Instr.findAsking kt k' es' (i + 1)).run P w := by
        conv => lhs; unfold Instr.findAsking
        rw [run_then hrun]
        rfl
      refine ⟨fun h => by rw [hstep]; exact g1 h, fun j v h => ?_⟩
      obtain ⟨v', h1, h2, h3, y, h4, h5⟩ := g2 j v h
      refine ⟨v', by rw [hstep]; exact h1, h2, by omega, y, ?_, h5⟩
      rw [show j - i = (j - (i + 1)) + 1 by omega, List.getElem?_cons_succ]
      exact h4
    · exact ⟨(fun h => by cases h), (fun j v h => by cases h)⟩
theorem find_any (as : AsOk cx m) {kt : TypeId} {d : TypeDesc} {k k' : Value} (hk : RV m k k') {es es' : List MapEntry} (r : RMs m es es') (hd : (underlying kt).run P w = .ok d w) :
    (∀ q, findA cx kt d k es = some q → ∀ e, (Instr.checkKey e 10000 kt k').run P w = .ok () w) ∧
    (findA cx kt d k es = some none → (Instr.findKey kt k' es').run P w = .ok none w) ∧
    (∀ j v, findA cx kt d k es = some (some (j, v)) → ∃ v', (Instr.findKey kt k' es').run P w = .ok (some (j, v')) w ∧ RV m v v' ∧ ∃ x', es'[j]? = some x' ∧ Instr.sameBits 10000 x'.key k' = true) := by
  cases hp : plainKey d with
  | true =>
    have hdef : findA cx kt d k es = Instr.findNow d k es 0 := by unfold findA; rw [hp]
    obtain ⟨f1, f2⟩ := findNow_rel (d := d) hk r 0
    refine ⟨fun q _ e => checkKey_run hd hp e 9999, fun h => findKey_run hd (f1 (by rw [← hdef]; exact h)), fun j v h => ?_⟩
    obtain ⟨v', q1, q2, -, -, x1, q4, q5⟩ := f2 j v (by rw [← hdef]; exact h)
    exact ⟨v', findKey_run hd q1, q2, x1, q4, q5⟩
  | false =>
    have hdef : findA cx kt d k es = match keyOkS cx d k with
      | true => findS cx kt k es 0
      | false => none := by unfold findA; simp only [hp]; cases keyOkS cx d k <;> rfl
    cases hko : keyOkS cx d k with
    | false => rw [hdef, hko]; exact ⟨(fun q h => by cases h), (fun h => by cases h), (fun j v h => by cases h)⟩
    | true =>
      rw [hdef, hko]
      obtain ⟨c1, c2⟩ := keyOkS_run ok hd hko false 9998
      have ek := const_same c2 hk
      obtain ⟨f1, f2⟩ := findS_rel ok as (w := w) hk c2 r (kt := kt) 0
      have hst : ∀ q, Instr.findNow d k' es' 0 = some q → es' = [] := fun q hq => by
        cases es' with
        | nil => rfl
        | cons y ys =>
          unfold keyOkS at hko
          split at hko
          · simp [Instr.findNow, Instr.sameNow] at hq
          · cases hko
      have hfk : (Instr.findKey kt k' es').run P w = (Instr.findAsking kt k' es').run P w := by
        unfold Instr.findKey
        rw [run_then hd]
        cases hn : Instr.findNow d k' es' 0 with
        | none => rfl
        | some q =>
          obtain rfl := hst q hn
          have : q = none := by simp [Instr.findNow] at hn; exact hn.symm
          subst this
          rfl
      refine ⟨fun q _ e => by rw [ek]; exact (keyOkS_run ok hd hko e 9998).1, fun h => by rw [hfk]; exact f1 h, fun j v h => ?_⟩
      obtain ⟨v', q1, q2, -, x1, q4, q5⟩ := f2 j v h
      exact ⟨v', by rw [hfk]; exact q1, q2, x1, by simpa using q4, q5⟩
end
section
variable {P : Program} {cx : Cx} (ok : CxOk P cx) {m : Emb} {hp : Hp} {w : World}
include ok
theorem mapTy_ok {t kt : TypeId} {d : TypeDesc} {z : Value} (h : mapTy cx t = some (kt, d, z)) :
    ∃ et, (∀ w, (underlying t).run P w = .ok (.map kt et) w) ∧ (∀ w, (underlying kt).run P w = .ok d w) ∧ (plainKey d || structD d) = true ∧ (∀ w, (zeroValue et).run P w = .ok z w) ∧ ∀ m, RV m z z := by
  unfold mapTy at h
  split at h
  · cases h
  · rename_i ti hti
    split at h
    · rename_i kt' et hde
      split at h
      · rename_i tk te htk hte
        split at h
        · rename_i hpk
          injection h with h
          injection h with h0 h
          injection h with h1 h2
          subst h0 h1 h2
          have hti := ok.ty _ _ hti
          have htk := ok.ty _ _ htk
          have hte := ok.ty _ _ hte
          refine ⟨et, fun w => by rw [run_under hti, hde], fun w => run_under htk w, hpk, fun w => run_zero hte w, fun m => ?_⟩
          obtain ⟨i, -, -, -, -, -, -, hz⟩ := ti_parts hte
          exact zero_rv hz
        · cases h
      · cases h
    · cases h
omit ok in
theorem mapOb_ok (inv : Inv m hp w.heap) {x x' : Value} (hx : RV m x x') {b : Nat} {es : List MapEntry} {c : Nat} (h : mapOb hp x = some (b, es, c)) :
    ∃ e es', m b = some e ∧ x' = .map (some e.c) ∧ hp.tr.get b = some (.map es c) ∧ w.heap[e.c]? = some (.map ⟨es'⟩ c) ∧ RMs m es es' := by
  unfold mapOb at h
  split at h
  · rename_i b0
    split at h
    · rename_i es0 c0 hob
      injection h with h
      injection h with h1 h
      injection h with h2 h3
      subst h1 h2 h3
      obtain ⟨cc, rfl, e, he, rfl⟩ := hx.map_iff
      obtain ⟨-, -, es', h1, h2⟩ := inv.obj _ e _ he hob (by simp)
      exact ⟨e, es', he, rfl, hob, h1, h2⟩
    · cases h
  · cases h
theorem makeMapA_ok (inv : Inv m hp w.heap) (hf : m hp.nx = none) {t : TypeId} {r r' : Option Value} {v : Value} {hp' : Hp} (hr : RO m r r') (h : makeMapA cx hp t r = some (v, hp')) : Turns P m hp w (Instr.makeMap t r') v hp' := by
  unfold makeMapA at h
  split at h
  · cases h
  · rename_i dz hmt
    obtain ⟨et, h1, -⟩ := mapTy_ok ok hmt
    have st := step_newM inv hf
    have rv : RV (m.put hp.nx ⟨w.heap.size, 0, none, true⟩) (.map (some hp.nx)) (.map (some w.heap.size)) := .map _ _ ⟨_, Emb.put_same _ _ _, rfl⟩
    split at h
    · injection h with h
      injection h with e1 e2
      subst e1 e2
      have : r' = none := by rcases hr with ⟨-, h⟩ | ⟨u, u', h, -⟩ <;> first | exact h | cases h
      subst this
      exact ⟨_, _, _, by simp [Instr.makeMap, Sem.run_bind, newObj_run], st, rv⟩
    · injection h with h
      injection h with e1 e2
      subst e1 e2
      rcases hr with ⟨h0, -⟩ | ⟨u, u', h0, h2, h3⟩
      · cases h0
      · injection h0 with h0
        subst h0
        obtain rfl := h3.flat_iff rfl
        subst h2
        exact ⟨_, _, _, by simp [Instr.makeMap, Sem.run_bind, h1, asInt, asIntOf, newObj_run], st, rv⟩
    · cases h
theorem lookupA_ok (as : AsOk cx m) (inv : Inv m hp w.heap) {t : TypeId} {x x' k k' v : Value} {b : Bool} (hx : RV m x x') (hk : RV m k k') (h : lookupA cx hp t x k b = some v) : Reads P m w (Instr.lookup t x' k' b) v := by
  unfold lookupA at h
  split at h
  · cases h
  · rename_i kt d z hmt
    obtain ⟨et, h1, h2, h3, h4, h5⟩ := mapTy_ok ok hmt
    split at h
    · cases h
    · rename_i es hes
      have hes : ∃ es', RMs m es es' ∧ ((x' = .map none ∧ es' = []) ∨ ∃ r c, x' = .map (some r) ∧ w.heap[r]? = some (.map ⟨es'⟩ c)) := by
        unfold mapEs at hes
        split at hes
        · injection hes with hes
          subst hes
          obtain rfl := hx.flat_iff rfl
          exact ⟨[], .nil, .inl ⟨rfl, rfl⟩⟩
        · split at hes
          · rename_i hob
            injection hes with hes
            subst hes
            obtain ⟨e, es', g1, rfl, g3, g4, g5⟩ := mapOb_ok inv hx hob
            exact ⟨es', g5, .inr ⟨_, _, rfl, g4⟩⟩
          · cases hes
      obtain ⟨es', hrel, hget⟩ := hes
      obtain ⟨ck, f1, f2⟩ := find_any ok as (w := w) hk hrel (h2 w)
      have run : ∀ r, (∀ e, (Instr.checkKey e 10000 kt k').run P w = .ok () w) → (Instr.findKey kt k' es').run P w = .ok r w → (Instr.lookup t x' k' b).run P w = .ok (if b then .tuple #[(r.map (·.2)).getD z, .bool r.isSome] else (r.map (·.2)).getD z) w := by
        intro r hc hr
        rcases hget with ⟨rfl, rfl⟩ | ⟨r0, c0, rfl, hg⟩
        · cases r <;> simp [Instr.lookup, Sem.run_bind, h1, hc, hr, h4]
        · cases r <;> simp [Instr.lookup, Sem.run_bind, h1, getObj_run hg, hc, hr, h4]
      split at h
      · cases h
      · rename_i hfn
        have := run _ (ck _ hfn) (f1 hfn)
        split at h
        · injection h with h
          subst h
          refine ⟨_, this, ?_⟩
          have := RVs.cons (h5 m) (RVs.cons (.flat (.bool false) rfl) (RVs.nil m)); exact .tuple _ _ this.1 this.2
        · injection h with h
          subst h
          exact ⟨_, this, h5 m⟩
      · rename_i j u hfn
        obtain ⟨u', g1, g2, -⟩ := f2 _ _ hfn
        have := run _ (ck _ hfn) g1
        split at h
        · injection h with h
          subst h
          refine ⟨_, this, ?_⟩
          have := RVs.cons g2 (RVs.cons (.flat (.bool true) rfl) (RVs.nil m)); exact .tuple _ _ this.1 this.2
        · injection h with h
          subst h
          exact ⟨_, this, g2⟩
theorem mapUpdateA_ok (as : AsOk cx m) (inv : Inv m hp w.heap) {t : TypeId} {x x' k k' v v' : Value} {hp' : Hp} (hx : RV m x x') (hk : RV m k k') (hv : RV m v v') (h : mapUpdateA cx hp t x k v = some hp') :
    ∃ w', (Instr.mapUpdate t x' k' v').run P w = .ok () w' ∧ Step m hp w m hp' w' := by
  unfold mapUpdateA at h
  split at h
  · cases h
  · rename_i kt d z hmt
    obtain ⟨et, h1, h2, h3, h4, h5⟩ := mapTy_ok ok hmt
    split at h
    · cases h
    · rename_i b es clock hob
      obtain ⟨e, es', g1, rfl, g3, g4, g5⟩ := mapOb_ok inv hx hob
      obtain ⟨ck, f1, f2⟩ := find_any ok as (w := w) hk g5 (h2 w)
      split at h
      · cases h
      · rename_i hfn
        injection h with h
        subst h
        refine ⟨_, ?_, step_mapSet inv g1 g3 (es' := es' ++ [{ key := k', val := v', born := clock }]) (g5.snoc ⟨hk, hv, rfl⟩)⟩
        simp [Instr.mapUpdate, Sem.run_bind, h1, getObj_run g4, ck _ hfn, f1 hfn, setObj_run g4]
      · rename_i j u hfn
        obtain ⟨u', q1, q2, x1, q4, q5⟩ := f2 _ _ hfn
        injection h with h
        subst h
        refine ⟨_, ?_, step_mapSet inv g1 g3 (es' := es'.modify j fun e => { e with key := k', val := v' }) (RMs.modify (f := fun e => { e with key := k, val := v }) (f' := fun e => { e with key := k', val := v' }) (fun x x' hxx => ⟨hk, hv, hxx.2.2⟩) g5 j)⟩
        simp [Instr.mapUpdate, Sem.run_bind, h1, getObj_run g4, ck _ hfn, q1, setObj_run g4, q4, keyThatStays_run q5]
theorem mapEntryA_ok (as : AsOk cx m) (inv : Inv m hp w.heap) {t : TypeId} {x x' k k' v : Value} {hp' : Hp} (hx : RV m x x') (hk : RV m k k') (h : mapEntryA cx hp t x k = some (v, hp')) : Turns P m hp w (Instr.mapEntry t x' k') v hp' := by
  unfold mapEntryA at h
  split at h
  · cases h
  · rename_i kt d z hmt
    obtain ⟨et, h1, h2, h3, h4, h5⟩ := mapTy_ok ok hmt
    split at h
    · cases h
    · rename_i b es clock hob
      obtain ⟨e, es', g1, rfl, g3, g4, g5⟩ := mapOb_ok inv hx hob
      obtain ⟨ck, f1, f2⟩ := find_any ok as (w := w) hk g5 (h2 w)
      split at h
      · cases h
      · rename_i hfn
        injection h with h
        injection h with e1 e2
        subst e1 e2
        refine ⟨m, .tuple ⟨[z, .int .i64 (.ofNat clock)]⟩, _, ?_, step_mapSet inv g1 g3 (es' := es' ++ [{ key := k', val := z, born := clock }]) (g5.snoc ⟨hk, h5 m, rfl⟩), ?_⟩
        · simp [Instr.mapEntry, Sem.run_bind, h1, getObj_run g4, ck _ hfn, f1 hfn, setObj_run g4, h4, goInt]
        · have := RVs.cons (h5 m) (RVs.cons (.flat (.int .i64 (.ofNat clock)) rfl) (RVs.nil m)); exact .tuple _ _ this.1 this.2
      · rename_i j u hfn
        obtain ⟨u', q1, q2, x1, q4, q5⟩ := f2 _ _ hfn
        split at h
        · rename_i y hy
          injection h with h
          injection h with e1 e2
          subst e1 e2
          obtain ⟨y', hy', hyr⟩ := g5.at_ _ _ hy
          rw [q4] at hy'
          injection hy' with hy'
          subst hy'
          refine ⟨m, .tuple ⟨[u', .int .i64 (.ofNat x1.born)]⟩, _, ?_, step_mapSet inv g1 g3 (es' := es'.modify j fun e => { e with key := k' }) (RMs.modify (f := fun e => { e with key := k }) (f' := fun e => { e with key := k' }) (fun x x' hxx => ⟨hk, hxx.2.1, hxx.2.2⟩) g5 j), ?_⟩
          · simp [Instr.mapEntry, Sem.run_bind, h1, getObj_run g4, ck _ hfn, q1, setObj_run g4, q4, keyThatStays_run q5, goInt]
          · rw [hyr.2.2]
            have := RVs.cons q2 (RVs.cons (.flat (.int .i64 (.ofNat x1.born)) rfl) (RVs.nil m)); exact .tuple _ _ this.1 this.2
        · cases h
theorem deleteA_ok (as : AsOk cx m) (inv : Inv m hp w.heap) {t : TypeId} {x x' k k' : Value} {hp' : Hp} {ts : Array TypeId} {ty : TypeId} (ht : ts[0]? = some t) (hx : RV m x x') (hk : RV m k k') (h : deleteA cx hp t x k = some hp') :
    Turns P m hp w (Builtin.delete_ ts ty #[x', k']) (.tuple ⟨[]⟩) hp' := by
  unfold deleteA at h
  split at h
  · cases h
  · rename_i kt d z hmt
    obtain ⟨et, h1, h2, h3, h4, h5⟩ := mapTy_ok ok hmt
    split at h
    · split at h
      · rename_i hpk
        injection h with h
        subst h
        obtain rfl := hx.flat_iff rfl
        exact ⟨m, .tuple ⟨[]⟩, w, by simp [Builtin.delete_, ht, Sem.run_bind, h1, checkKey_run (h2 w) hpk], .refl inv, undef_rv m⟩
      · cases h
    · split at h
      · cases h
      · rename_i b es clock hob
        obtain ⟨e, es', g1, rfl, g3, g4, g5⟩ := mapOb_ok inv hx hob
        obtain ⟨ck, f1, f2⟩ := find_any ok as (w := w) hk g5 (h2 w)
        split at h
        · cases h
        · rename_i hfn
          injection h with h
          subst h
          refine ⟨m, .tuple ⟨[]⟩, _, ?_, step_mapSet inv g1 g3 g5, undef_rv m⟩
          simp [Builtin.delete_, ht, Sem.run_bind, h1, getObj_run g4, ck _ hfn, f1 hfn, setObj_run g4]
        · rename_i j u hfn
          obtain ⟨u', q1, q2, x1, q4, q5⟩ := f2 _ _ hfn
          injection h with h
          subst h
          refine ⟨m, .tuple ⟨[]⟩, _, ?_, step_mapSet inv g1 g3 (es' := es'.eraseIdx j) (g5.erase j), undef_rv m⟩
          have hj : j < es'.length := by
            rcases Nat.lt_or_ge j es'.length with h | h
            · exact h
            · rw [List.getElem?_eq_none h] at q4; cases q4
          simp [Builtin.delete_, ht, Sem.run_bind, h1, getObj_run g4, ck _ hfn, q1, setObj_run g4, Array.eraseIdxIfInBounds, hj]
theorem lenM_ok (inv : Inv m hp w.heap) {t : TypeId} {x x' v : Value} {ts : Array TypeId} {ty : TypeId} (ht : ts[0]? = some t) (hx : RV m x x') (h : lenM cx hp t x = some v) : Reads P m w (Builtin.len_ ts ty #[x']) v := by
  unfold lenM at h
  split at h
  · cases h
  · rename_i ti hti
    have hti := ok.ty _ _ hti
    split at h
    · rename_i k e hd
      split at h
      · rename_i b es c hob
        obtain ⟨e, es', g1, rfl, g3, g4, g5⟩ := mapOb_ok inv hx hob
        injection h with h
        subst h
        exact .same (by simp [Builtin.len_, ht, run_under hti, hd, goInt, getObj_run g4, g5.length, len_eq]) rfl
      · cases h
    · cases h
end
theorem entryStoreA_ok {P : Program} {m : Emb} {hp : Hp} {w : World} (inv : Inv m hp w.heap) {t : TypeId} {x x' s s' v v' : Value} {hp' : Hp} (hx : RV m x x') (hs : RV m s s') (hv : RV m v v') (h : entryStoreA hp x s v = some hp') :
    ∃ w', (Instr.entryStore t x' s' v').run P w = .ok () w' ∧ Step m hp w m hp' w' := by
  unfold entryStoreA at h
  split at h
  · rename_i b es clock q n hob
    obtain ⟨e, es', g1, rfl, g3, g4, g5⟩ := mapOb_ok inv hx hob
    obtain rfl := hs.flat_iff rfl
    split at h
    · rename_i i hi
      injection h with h
      subst h
      have hi' : es'.findIdx? (fun e => (e.born : Int) == n) = some i := by
        rw [← hi]
        clear hi g4 g3 hob
        induction g5 with
        | nil => rfl
        | cons h0 r ih => simp only [List.findIdx?_cons, h0.2.2, ih]
      refine ⟨_, ?_, step_mapSet inv g1 g3 (es' := es'.modify i fun e => { e with val := v' }) (RMs.modify (f := fun e => { e with val := v }) (f' := fun e => { e with val := v' }) (fun x x' hxx => ⟨hxx.1, hv, hxx.2.2⟩) g5 i)⟩
      simp [Instr.entryStore, Sem.run_bind, getObj_run g4, setObj_run g4, asInt, asIntOf, hi']
    · cases h
  · cases h
end Go.Proofs.YtaepplhgeeaidaaDoor.Ev
end
section
set_option linter.unusedVariables false
set_option linter.unusedSimpArgs false
set_option linter.unusedSectionVars false
namespace Go.Proofs.YtaepplhgeeaidaaDoor.Ev
open Go Go.RowKit
theorem step_killw {m : Emb} {hp : Hp} {w : World} (inv : Inv m hp w.heap) {b : Nat} {e : Ent} (he : m b = some e) (hl : e.live = true) (hb : b < hp.nx) (ob : Obj) :
    Step m hp w (m.kill b) (killA hp b) { w with heap := w.heap.setIfInBounds e.c ob } := by
  have s := step_kill (w := w) inv hb
  have hget : ∀ c, c ≠ e.c → (w.heap.setIfInBounds e.c ob)[c]? = w.heap[c]? := fun c hc => Array.getElem?_setIfInBounds_ne (fun h => hc h.symm)
  refine ⟨s.le, ⟨?_, s.inv.inj, ?_, s.inv.dom⟩, rfl, rfl, rfl, by simp, ?_, ?_, s.far, s.nx, s.lo, s.low⟩
  · intro x e' o' he' ho' hd
    obtain ⟨l1, l2⟩ := s.inv.obj x e' o' he' ho' hd
    refine ⟨l1, l2.heap (hget _ (fun hc => ?_))⟩
    by_cases hx : x = b
    · subst hx
      simp only [killA, Tr.get_set, if_true] at ho'
      injection ho' with ho'
      exact hd ho'.symm
    · rw [Emb.kill_other m hx] at he'
      exact hx (inv.inj x b e' e he' he l1 hl hc)
  · intro x e' he'
    simpa using s.inv.low x e' he'
  · intro c hc h
    exact hget c (fun hh => h b e hb he hl hh.symm)
  · intro x e' hx he' hl'
    exact s.rng x e' hx he' hl'
theorem loadBytes_run {P : Program} {w : World} : ∀ (l : List Value) (bs : List UInt8) (a : Addr) (acc : ByteArray), bytesA l = some bs → (∀ j v, l[j]? = some v → w.cell? (a.add j) = some v) → a.spot = none →
    (Go.loadBytes a acc l.length).run P w = .ok ⟨acc.data ++ bs.toArray⟩ w := by
  intro l
  induction l with
  | nil =>
    intro bs a acc h _ _
    have h : some [] = some bs := h
    injection h with h
    subst h
    simp [Go.loadBytes]
  | cons x l ih =>
    intro bs a acc h hc hsp
    rw [bytesA_cons] at h
    split at h
    · rename_i n
      split at h
      · rename_i bs2 hbs
        injection h with h
        subst h
        have h0 : w.cell? a = some (.int .u8 n) := hc 0 _ rfl
        obtain ⟨ab, ao, asp⟩ := a
        simp only at hsp
        subst hsp
        simp only [List.length_cons, Go.loadBytes, Sem.run_bind, run_load, h0, Result.andThen_ok]
        rw [ih bs2 _ _ hbs (fun j v hv => by
          have := hc (j + 1) v (by simpa using hv)
          rw [add_at] at this ⊢
          rw [add_at]
          rwa [show ao + 1 + j = ao + (j + 1) from by omega]) (by rw [add_at])]
        congr 2
        simp [ByteArray.push]
      · cases h
    · cases h
theorem unsafe_zero {P : Program} {w : World} (p : Option Addr) (q : IntKind) (t : TypeId) (ts : List TypeId) {ty : TypeId} : (Builtin.unsafeString_ ⟨t :: ts⟩ ty ⟨[.pointer p, .int q (.ofNat 0)]⟩).run P w = .ok (.string .empty) w := by
  cases p <;> rfl
theorem unsafe_run {P : Program} {w : World} {p : Addr} {q : IntKind} {n : Nat} {t e ty : TypeId} {ts : List TypeId} {s : ByteArray} (hn : n ≠ 0) (hb : n ≤ 9223372036854775807) (he : (elemOf t).run P w = .ok e w) (hv : (variablesAt p e n).run P w = .ok true w)
    (hl : (Go.loadBytes p .empty n).run P w = .ok s w) : (Builtin.unsafeString_ ⟨t :: ts⟩ ty ⟨[.pointer (some p), .int q (.ofNat n)]⟩).run P w = .ok (.string s) (w.freeze p n) := by
  have hmax : IntKind.i64.max = 9223372036854775807 := by decide
  show ((do
    let n' ← asInt (.int q (.ofNat n))
    if n' < 0 then runtimePanic (.error _)
    if n' > IntKind.i64.max then unsupported (.unsafePointer _)
    if n' = 0 then pure (.string .empty)
    else if ← variablesAt p (← elemOf t) n'.toNat then do
      let s ← Go.loadBytes p .empty n'.toNat
      freeze p n'.toNat
      pure (.string s)
    else unsupported (.unsafePointer _)) : Sem Value).run P w = _
  have e1 : ¬ (Int.ofNat n < 0) := by simp only [Int.ofNat_eq_natCast]; omega
  have e2 : ¬ (Int.ofNat n > IntKind.i64.max) := by rw [hmax]; simp only [Int.ofNat_eq_natCast]; omega
  have e3 : ¬ (Int.ofNat n = 0) := by simp only [Int.ofNat_eq_natCast]; omega
  have e4 : (Int.ofNat n).toNat = n := rfl
  simp only [asInt, asIntOf, Sem.run_bind, Sem.run_pure, Result.andThen_ok, if_neg e1, if_neg e2, if_neg e3, e4, he, hv, if_true, hl, run_freeze]
section
variable {P : Program} {cx : Cx} (ok : CxOk P cx) {m : Emb} {hp : Hp} {w : World}
include ok
theorem minmaxA_ok (as : AsOk cx m) {mx : Bool} {l l' : List Value} {v : Value} {ts : Array TypeId} {ty : TypeId} (hl : RVs m l l') (h : minmaxA mx l = some v) :
    Reads P m w (if mx = true then Builtin.max_ ts ty ⟨l'⟩ else Builtin.min_ ts ty ⟨l'⟩) v := by
  unfold minmaxA at h
  split at h
  · rename_i k x k' y
    obtain ⟨x', t, rfl, h1, h2⟩ := hl.head
    obtain ⟨y', t, rfl, h3, h4⟩ := h2.head
    obtain rfl := h4.nil_left
    obtain rfl := h1.flat_iff rfl
    obtain rfl := h3.flat_iff rfl
    injection h with h
    subst h
    cases mx
    · exact .same (by simp [Builtin.min_, Builtin.min2, List.foldlM]) rfl
    · exact .same (by simp [Builtin.max_, Builtin.max2, List.foldlM]) rfl
  · rename_i x y hne
    split at h
    case h_2 => cases h
    rename_i hsf h3 hty
    injection h with h
    subst h
    obtain ⟨x', t, rfl, h1, h2⟩ := hl.head
    obtain ⟨y', t, rfl, h3', h4⟩ := h2.head
    obtain rfl := h4.nil_left
    rw [Bool.and_eq_true] at hsf hty
    obtain ⟨hty, htk⟩ := hty
    rw [Bool.and_eq_true] at hty htk
    have h3 := Nat.le_of_ble_eq_true h3
    obtain ⟨k, n, rfl, hk⟩ := has_int hty.1 h1 h3
    obtain ⟨k', n', rfl, hk'⟩ := has_int hty.2 h3' h3
    obtain rfl := code_inj (hk.trans hk'.symm)
    have hx : tyOk (symTy2 x y) (.int k n) = true := has_tyOk hty.1 h1 htk.1 hsf.1
    have hy : tyOk (symTy2 x y) (.int k n') = true := has_tyOk hty.2 h3' htk.2 hsf.2
    have h5 : RVs m [.bool mx, x, y] [.bool mx, .int k n, .int k n'] := .cons (.flat _ rfl) (.cons h1 (.cons h3' (.nil m)))
    have h6 : [Value.bool mx, x, y].all symFlat = true := by simp only [List.all_cons, hsf.1, hsf.2]; rfl
    cases mx
    · refine ⟨.int k (if n' < n then n' else n), by simp [Builtin.min_, Builtin.min2, List.foldlM], RV.app (k := 3) h5 h6 (by rw [as.ops 3 _ (by omega)]; rfl) ?_⟩
      split
      · exact hy
      · exact hx
    · refine ⟨.int k (if n' > n then n' else n), by simp [Builtin.max_, Builtin.max2, List.foldlM], RV.app (k := 3) h5 h6 (by rw [as.ops 3 _ (by omega)]; rfl) ?_⟩
      split
      · exact hy
      · exact hx
  · cases h
theorem clearM_ok (inv : Inv m hp w.heap) {t : TypeId} {x x' v : Value} {hp' : Hp} {ts : Array TypeId} {ty : TypeId} (hts : ts[0]? = some t) (hx : RV m x x') (h : clearM cx hp t x = some (v, hp')) :
    Turns P m hp w (Builtin.clear_ ts ty #[x']) v hp' := by
  unfold clearM at h
  split at h
  · cases h
  · rename_i ti hti
    have hu := run_under (ok.ty _ _ hti) w
    split at h
    · rename_i b es clock hob
      injection h with h
      injection h with e1 e2
      subst e1 e2
      obtain ⟨e, es', g1, rfl, g3, g4, g5⟩ := mapOb_ok inv hx hob
      refine ⟨m, .tuple ⟨[]⟩, _, ?_, step_mapSet inv g1 g3 (es' := []) .nil, undef_rv m⟩
      cases hd : ti.desc <;> simp [Builtin.clear_, hts, hu, hd, Sem.run_bind, getObj_run g4, setObj_run g4]
    · split at h
      · injection h with h
        injection h with e1 e2
        subst e1 e2
        obtain rfl := hx.flat_iff rfl
        refine Reads.turns inv ⟨.tuple ⟨[]⟩, ?_, undef_rv m⟩
        cases hd : ti.desc <;> simp [Builtin.clear_, hts, hu, hd]
      · cases h
theorem builtinA_ok (gw : GW cx m w) (as : AsOk cx m) (inv : Inv m hp w.heap) {b : Builtin} {ts : List TypeId} {args args' : List Value} {v : Value} {hp' : Hp} (hf : Fresh m hp.nx hp'.nx) {ty : TypeId} {cs : Array Bool} (ha : RVs m args args')
    (h : builtinA cx hp b ts args = some (v, hp')) : ∃ m' v' w', (builtin b ⟨ts⟩ ty cs ⟨args'⟩).run P w = .ok (.value v') w' ∧ Step m hp w m' hp' w' ∧ RV m' v v' := by
  have up : ∀ (s : Sem Value), Turns P m hp w s v hp' → ∃ m' v' w', ((do pure (.value (← s))) : Sem Next).run P w = .ok (.value v') w' ∧ Step m hp w m' hp' w' ∧ RV m' v v' := by
    rintro s ⟨m', v', w', h1, h2, h3⟩
    exact ⟨m', v', w', by rw [run_then h1]; rfl, h2, h3⟩
  unfold builtinA at h
  split at h
  · rename_i t ts x
    obtain ⟨x', tl, rfl, h1, h2⟩ := ha.head
    obtain rfl := h2.nil_left
    split at h
    · rename_i v0 hv
      injection h with h
      injection h with e1 e2
      subst e1 e2
      exact up _ ((lenA_ok (ty := ty) ok as (ts := ⟨t :: ts⟩) rfl h1 hv).turns inv)
    · split at h
      · rename_i v0 hv
        injection h with h
        injection h with e1 e2
        subst e1 e2
        exact up _ ((lenM_ok (ty := ty) ok inv (ts := ⟨t :: ts⟩) rfl h1 hv).turns inv)
      · cases h
  · rename_i t ts x k
    obtain ⟨x', tl, rfl, h1, h2⟩ := ha.head
    obtain ⟨k', tl, rfl, h3, h4⟩ := h2.head
    obtain rfl := h4.nil_left
    split at h
    · rename_i hp0 hv
      injection h with h
      injection h with e1 e2
      subst e1 e2
      exact up _ (deleteA_ok (ty := ty) ok as inv (ts := ⟨t :: ts⟩) rfl h1 h3 hv)
    · cases h
  · rename_i t ts x
    obtain ⟨x', tl, rfl, h1, h2⟩ := ha.head
    obtain rfl := h2.nil_left
    split at h
    · rename_i v0 hv
      injection h with h
      injection h with e1 e2
      subst e1 e2
      exact up _ ((capA_ok (ty := ty) ok inv (ts := ⟨t :: ts⟩) rfl h1 hv).turns inv)
    · cases h
  · rename_i a n c
    obtain ⟨x', tl, rfl, h1, h2⟩ := ha.head
    obtain rfl := h2.nil_left
    split at h
    · rename_i b1 b2
      have b1 := Nat.ne_of_beq_eq_false b1
      have b2 := Nat.ne_of_beq_eq_false b2
      injection h with h
      injection h with e1 e2
      subst e1 e2
      obtain ⟨a', c', rfl, hsp, en, he, hr⟩ := h1.slice_iff
      have hra : RA m a a' ∧ c' ≠ 0 := by
        rcases hr with ⟨-, r2, r3⟩ | ⟨tot, z, -, r2, r3, r4, r5, -⟩
        · exact ⟨⟨hsp, en, he, r2⟩, by omega⟩
        · rcases r4 with r4 | r4
          · exact absurd r4.1 b2
          · obtain ⟨b', o', s'⟩ := a'
            simp only at r2 r3 r4
            exact ⟨⟨hsp, en, he, by rw [r2, r3, r4]⟩, by omega⟩
      refine up _ (Reads.turns inv ⟨_, ?_, .ptr _ _ hra.1⟩)
      change (if c' ≠ 0 then (pure (.pointer (some a')) : Sem Value) else _).run P w = _
      rw [if_pos hra.2]
      rfl
    · cases h
  · rename_i n c
    obtain ⟨x', tl, rfl, h1, h2⟩ := ha.head
    obtain rfl := h2.nil_left
    obtain rfl := h1.flat_iff rfl
    injection h with h
    injection h with e1 e2
    subst e1 e2
    exact up _ (Reads.turns inv (.same rfl rfl))
  · rename_i t ts p q
    obtain ⟨x1, tl, rfl, h1, h2⟩ := ha.head
    obtain ⟨x2, tl, rfl, h3, h4⟩ := h2.head
    obtain rfl := h4.nil_left
    obtain rfl := h3.flat_iff rfl
    injection h with h
    injection h with e1 e2
    subst e1 e2
    cases p with
    | none => obtain rfl := h1.flat_iff rfl; exact up _ (Reads.turns inv (.same (unsafe_zero _ _ _ _) rfl))
    | some p => obtain ⟨p', rfl, -⟩ := h1.ptr_iff; exact up _ (Reads.turns inv (.same (unsafe_zero _ _ _ _) rfl))
  · rename_i t ts a q n hn0
    obtain ⟨x1, tl, rfl, h1, h2⟩ := ha.head
    obtain ⟨x2, tl, rfl, h3, h4⟩ := h2.head
    obtain rfl := h4.nil_left
    obtain rfl := h3.flat_iff rfl
    obtain ⟨a', rfl, hra⟩ := h1.ptr_iff
    split at h
    · rename_i ti hti
      have hti := ok.ty _ _ hti
      split at h
      · rename_i e hd
        split at h
        · rename_i te hte
          have hte := ok.ty _ _ hte
          split at h
          · rename_i hd8
            split at h
            · rename_i tb nb e' op str hob
              split at h
              · rename_i hee
                rw [Bool.and_eq_true] at hee
                have hsmall := hee.2
                have hee := Bool.and_eq_true_iff.1 hee.1
                have h1e := Nat.eq_of_beq_eq_true hee.1
                have h1s := Nat.eq_of_beq_eq_true hee.2
                subst h1e
                split at h
                · rename_i l hl
                  split at h
                  · rename_i bs hbs
                    injection h with h
                    injection h with e1 e2
                    subst e1 e2
                    have hn : n ≠ 0 := fun h0 => by subst h0; first | exact hn0 rfl | exact hn0 | exact hn0.elim
                    obtain ⟨l', k1, k2, k3⟩ := getRow_spec inv hra hl
                    have hll := bytesA_rv k1 hbs
                    subst hll
                    obtain ⟨_, _, _, _, _, p1, p2, -, -⟩ := getRow_parts hl
                    rw [hob] at p1
                    injection p1 with p1
                    injection p1 with p1a p1b
                    subst p1a p1b
                    obtain ⟨hsp, en, he, rfl⟩ := hra
                    obtain ⟨hlive, -, cs0, fr, hcs, hrel, -⟩ := inv.obj _ en _ he hob (by simp)
                    have hb : en.o + a.off + n ≤ cs0.size := by
                      obtain ⟨u, u', -, q2, -⟩ := hrel (a.off + n - 1) (by omega)
                      rcases Nat.lt_or_ge (en.o + (a.off + n - 1)) cs0.size with hlt | hge
                      · omega
                      · rw [Array.getElem?_eq_none hge] at q2; cases q2
                    have hsm : n ≤ 9223372036854775807 := Nat.le_of_ble_eq_true hsmall
                    have hcell : P.cellsOf e = 1 := by rw [cellsOf_ti ok hte]; exact h1s
                    have hv : (variablesAt ⟨en.c, en.o + a.off, none⟩ e n).run P w = .ok true w := by
                      simp only [variablesAt, Sem.run_bind, run_program, run_shape, shape_of hcs, Result.andThen_ok, Sem.run_pure, hcell, Nat.div_one, liesAt_self hcell hb]
                    have hel : (elemOf t).run P w = .ok e w := by
                      simp [elemOf, run_under hti, hd]
                    have hload := loadBytes_run (P := P) (w := w) _ bs ⟨en.c, en.o + a.off, none⟩ .empty hbs k3 rfl
                    rw [k2] at hload
                    have hfz := freeze_heap (o := en.o + a.off) (n := n) hcs hn
                    refine ⟨m.kill a.block, .string ⟨⟨bs⟩⟩, _, ?_, step_killw (w := w) inv he hlive (inv.dom _ _ hob) (.cells cs0 e (if fr.1 == fr.2 then (en.o + a.off, en.o + a.off + n) else (min fr.1 (en.o + a.off), max fr.2 (en.o + a.off + n)))), .flat _ rfl⟩
                    have hr := unsafe_run (P := P) (w := w) (q := q) (n := n) (ty := ty) (ts := ts) (t := t) (e := e) (p := ⟨en.c, en.o + a.off, none⟩) hn (by omega) hel hv hload
                    rw [hfz] at hr
                    exact (run_then hr).trans (by
                      show Result.ok (Next.value (.string ⟨#[] ++ bs.toArray⟩)) _ = _
                      rw [Array.empty_append])
                  · cases h
                · cases h
              · cases h
            · cases h
          · cases h
        · cases h
      · cases h
    · cases h
  · rename_i t u s x
    obtain ⟨s', tl, rfl, h1, h2⟩ := ha.head
    obtain ⟨x', tl, rfl, h3, h4⟩ := h2.head
    obtain rfl := h4.nil_left
    exact up _ (appendT_ok ok gw inv hf h1 h3 h)
  · rename_i t ts d x
    obtain ⟨s', tl, rfl, h1, h2⟩ := ha.head
    obtain ⟨x', tl, rfl, h3, h4⟩ := h2.head
    obtain rfl := h4.nil_left
    exact up _ (copyA_ok (ty := ty) ok inv (ts := ⟨t :: ts⟩) rfl h1 h3 h)
  · rename_i t ts x
    obtain ⟨x', tl, rfl, h1, h2⟩ := ha.head
    obtain rfl := h2.nil_left
    split at h
    · rename_i r hr
      injection h with h
      subst h
      exact up _ (clearA_ok (ty := ty) ok inv (ts := ⟨t :: ts⟩) rfl h1 hr)
    · exact up _ (clearM_ok (ty := ty) ok inv (ts := ⟨t :: ts⟩) rfl h1 h)
  · split at h
    · rename_i v0 hv
      injection h with h
      injection h with e1 e2
      subst e1 e2
      have := minmaxA_ok (P := P) (w := w) (ts := ⟨ts⟩) (ty := ty) ok as ha hv
      exact up _ (this.turns inv)
    · cases h
  · split at h
    · rename_i v0 hv
      injection h with h
      injection h with e1 e2
      subst e1 e2
      have := minmaxA_ok (P := P) (w := w) (ts := ⟨ts⟩) (ty := ty) ok as ha hv
      exact up _ (this.turns inv)
    · cases h
  · cases h
end
def extS : ExtK → Array Value → Sem Value
  | .add64 => fun args => do
    let (x, y, c) ← Extern.MathBitsCarry.three "Add64" args
    pure (Extern.MathBitsCarry.pair ((x + y + c) % Extern.MathBitsCarry.m64) ((x + y + c) / Extern.MathBitsCarry.m64))
  | .sub64 => fun args => do
    let (x, y, b) ← Extern.MathBitsCarry.three "Sub64" args
    pure (Extern.MathBitsCarry.pair ((x + Extern.MathBitsCarry.m64 - y - b) % Extern.MathBitsCarry.m64) (if x < y + b then 1 else 0))
  | .cmpstr => Extern.BytealgCompare.compare
  | .noEscape => Extern.AbiNoEscape.same
  | .mapClone => Extern.MapsClone.clone
  | .overlaps t => Extern.SlicesOverlaps.overlaps #[t, t] #[]
theorem three_run {P : Program} {w : World} {q1 q2 q3 : IntKind} {x y c : Nat} (nm : String) (hc : c ≤ 1) : (Extern.MathBitsCarry.three nm ⟨[.int q1 (.ofNat x), .int q2 (.ofNat y), .int q3 (.ofNat c)]⟩).run P w = .ok (x, y, c) w := by
  match c, hc with
  | 0, _ => rfl
  | 1, _ => rfl
theorem extA_ok {P : Program} {m : Emb} {w : World} {k : ExtK} {args args' : List Value} {v : Value} (ha : RVs m args args') (h : extA k args = some v) : Reads P m w (extS k ⟨args'⟩) v := by
  unfold extA at h
  split at h
  · rename_i q1 x q2 y q3 c
    obtain ⟨x1, t, rfl, h1, h2⟩ := ha.head
    obtain ⟨x2, t, rfl, h3, h4⟩ := h2.head
    obtain ⟨x3, t, rfl, h5, h6⟩ := h4.head
    obtain rfl := h6.nil_left
    obtain rfl := h1.flat_iff rfl
    obtain rfl := h3.flat_iff rfl
    obtain rfl := h5.flat_iff rfl
    split at h
    · rename_i hc
      have hc := Nat.le_of_ble_eq_true hc
      injection h with h
      subst h
      refine ⟨_, ?_, .tuple _ _ rfl (fun i hi => ?_)⟩
      · simp only [extS]
        rw [run_then (three_run _ hc)]
        rfl
      · match i, hi with
        | 0, _ => exact .flat _ rfl
        | 1, _ => exact .flat _ rfl
    · cases h
  · rename_i q1 x q2 y q3 c
    obtain ⟨x1, t, rfl, h1, h2⟩ := ha.head
    obtain ⟨x2, t, rfl, h3, h4⟩ := h2.head
    obtain ⟨x3, t, rfl, h5, h6⟩ := h4.head
    obtain rfl := h6.nil_left
    obtain rfl := h1.flat_iff rfl
    obtain rfl := h3.flat_iff rfl
    obtain rfl := h5.flat_iff rfl
    split at h
    · rename_i hc
      have hc := Nat.le_of_ble_eq_true hc
      injection h with h
      subst h
      refine ⟨_, ?_, .tuple _ _ rfl (fun i hi => ?_)⟩
      · simp only [extS]
        rw [run_then (three_run _ hc)]
        rfl
      · match i, hi with
        | 0, _ => exact .flat _ rfl
        | 1, _ => exact .flat _ rfl
    · cases h
  · rename_i a b
    obtain ⟨x1, t, rfl, h1, h2⟩ := ha.head
    obtain ⟨x2, t, rfl, h3, h4⟩ := h2.head
    obtain rfl := h4.nil_left
    obtain rfl := h1.flat_iff rfl
    obtain rfl := h3.flat_iff rfl
    injection h with h
    subst h
    exact .same rfl rfl
  · rename_i x
    obtain ⟨x1, t, rfl, h1, h2⟩ := ha.head
    obtain rfl := h2.nil_left
    injection h with h
    subst h
    exact ⟨_, rfl, h1⟩
  · cases h
end Go.Proofs.YtaepplhgeeaidaaDoor.Ev
end
section
set_option linter.unusedVariables false
set_option linter.unusedSimpArgs false
set_option linter.unusedSectionVars false
namespace Go.Proofs.YtaepplhgeeaidaaDoor.Ev
open Go Go.RowKit
theorem RMs.left {m : Emb} {es es' : List MapEntry} (r : RMs m es es') : ∀ x, x ∈ es → ∃ x', x' ∈ es' ∧ RM m x x' := by
  induction r with
  | nil => intro x hx; cases hx
  | cons h _ ih =>
    intro x hx
    rcases List.mem_cons.1 hx with rfl | hx
    · exact ⟨_, List.mem_cons_self, h⟩
    · obtain ⟨x', h1, h2⟩ := ih x hx
      exact ⟨x', List.mem_cons_of_mem _ h1, h2⟩
theorem RMs.right {m : Emb} {es es' : List MapEntry} (r : RMs m es es') : ∀ x', x' ∈ es' → ∃ x, x ∈ es ∧ RM m x x' := by
  induction r with
  | nil => intro x hx; cases hx
  | cons h _ ih =>
    intro x hx
    rcases List.mem_cons.1 hx with rfl | hx
    · exact ⟨_, List.mem_cons_self, h⟩
    · obtain ⟨x', h1, h2⟩ := ih x hx
      exact ⟨x', List.mem_cons_of_mem _ h1, h2⟩
theorem RMs.find {m : Emb} {es es' : List MapEntry} (r : RMs m es es') (n : Nat) : ∀ e, es.find? (fun e => Nat.beq e.born n) = some e → ∃ e', es'.find? (fun e => e.born == n) = some e' ∧ RM m e e' := by
  induction r with
  | nil => intro e h; cases h
  | @cons x x' es es' h _ ih =>
    intro e he
    rw [List.find?_cons] at he
    rw [List.find?_cons]
    have hb : x.born = x'.born := h.2.2
    cases hx : Nat.beq x.born n with
    | true =>
      rw [hx] at he
      injection he with he
      subst he
      have : (x'.born == n) = true := by rw [← hb]; exact beq_iff_eq.2 (Nat.eq_of_beq_eq_true hx)
      rw [this]
      exact ⟨x', rfl, h⟩
    | false =>
      rw [hx] at he
      have : (x'.born == n) = false := by
        rw [← hb]
        exact beq_eq_false_iff_ne.2 (Nat.ne_of_beq_eq_false hx)
      rw [this]
      exact ih e he
section
variable {P : Program} {cx : Cx} (ok : CxOk P cx) {m : Emb} {hp hp' : Hp} {w : World} (inv : Inv m hp w.heap)
include ok inv
theorem rangeA_ok (hf : Fresh m hp.nx hp'.nx) {t : TypeId} {x x' v : Value} (hx : RV m x x') (h : rangeA cx hp t x = some (v, hp')) : Turns P m hp w (Instr.range t x') v hp' := by
  have key : ∀ {ob : AObj} {o : Obj}, hp' = { tr := hp.tr.set hp.nx ob, nx := Nat.succ hp.nx, lo := hp.lo } → v = .pointer (some ⟨hp.nx, 0, none⟩) → OR m ob ⟨w.heap.size, 0, none, true⟩ (w.heap.push o) →
      (Instr.range t x').run P w = .ok (.pointer (some ⟨w.heap.size, 0, none⟩)) { w with heap := w.heap.push o } → Turns P m hp w (Instr.range t x') v hp' := by
    intro ob o e1 e2 hor hrun
    subst e1 e2
    have st := step_newob (w := w) inv (hf hp.nx (Nat.le_refl _) (Nat.lt_succ_self _)) hor
    exact ⟨_, _, _, hrun, st, .ptr _ _ ⟨rfl, _, Emb.put_same _ _ _, rfl⟩⟩
  unfold rangeA at h
  split at h
  · cases h
  · rename_i ti hti
    have hti := ok.ty _ _ hti
    split at h
    · rename_i s hd
      obtain rfl := hx.flat_iff rfl
      injection h with h
      injection h with h1 h2
      refine key (o := .stringIter s 0) h2.symm h1.symm ⟨rfl, rfl, by rw [getD_push_size]⟩ ?_
      simp only [Instr.range, Sem.run_bind, run_under hti, Result.andThen_ok, hd, Sem.run_pure, run_newObj_alloc]
      rfl
    · rename_i k e hd
      obtain rfl := hx.flat_iff rfl
      injection h with h
      injection h with h1 h2
      refine key (o := .mapIter none 0 #[] 0) h2.symm h1.symm ⟨rfl, rfl, none, by rw [getD_push_size], .inl ⟨rfl, rfl⟩⟩ ?_
      simp only [Instr.range, Sem.run_bind, run_under hti, Result.andThen_ok, hd, Sem.run_pure, run_newObj_alloc]
      rfl
    · rename_i k e b hd
      obtain ⟨c, rfl, en, he, rfl⟩ := hx.map_iff
      split at h
      · rename_i es clock hob
        obtain ⟨hl, h0, es', h3, h4⟩ := inv.obj b en _ he hob (by simp)
        injection h with h
        injection h with h1 h2
        refine key (o := .mapIter (some en.c) clock #[] clock) h2.symm h1.symm ⟨rfl, rfl, some en.c, by rw [getD_push_size], .inr ⟨b, en, rfl, he, rfl⟩⟩ ?_
        have hg : (getObj en.c).run P w = .ok (.map ⟨es'⟩ clock) w := by simp [getObj, Sem.run, h3]
        simp only [Instr.range, Sem.run_bind, run_under hti, Result.andThen_ok, hd, hg, Sem.run_pure, run_newObj_alloc]
        rfl
      · cases h
    · cases h
omit ok in
theorem entryA_ok {x x' v : Value} (hx : RV m x x') (h : entryA hp x = some v) : Reads P m w (Instr.entry x') v := by
  unfold entryA at h
  split at h
  · rename_i r
    obtain ⟨a', rfl, -, e, he, rfl⟩ := hx.ptr_iff
    split at h
    · rename_i mb since seen stepped hob
      obtain ⟨hl, h0, ho, mo', h1, h2⟩ := inv.obj r e _ he hob (by simp)
      rcases h2 with ⟨h2, -⟩ | ⟨b, eb, h2, hb, rfl⟩
      · cases h2
      injection h2 with h2
      subst h2
      split at h
      · rename_i stamp es clock hst hmb
        obtain ⟨hl2, h02, es', h3, h4⟩ := inv.obj mb eb _ hb hmb (by simp)
        split at h
        · rename_i ent hc hfind
          injection h with h
          subst h
          have hc := Nat.eq_of_beq_eq_true hc
          subst hc
          obtain ⟨ent', k1, k2⟩ := h4.find stamp ent hfind
          have hb1 : (getObj e.c).run P w = .ok (.mapIter (some eb.c) since ⟨seen⟩ clock) w := by simp [getObj, Sem.run, h1]
          have hb2 : (getObj eb.c).run P w = .ok (.map ⟨es'⟩ clock) w := by simp [getObj, Sem.run, h3]
          have hback : (⟨seen⟩ : Array Nat).back? = some stamp := by
            rw [← hst]
            simp
          have hfnd : (⟨es'⟩ : Array MapEntry).find? (fun e => e.born == stamp) = some ent' := by
            rw [← Array.find?_toList]; exact k1
          refine ⟨.tuple ⟨[ent'.key, ent'.val]⟩, ?_, ?_⟩
          · have hz : e.o + 0 = 0 := by omega
            rw [hz]
            simp only [Instr.entry, Sem.run_bind, hb1, Result.andThen_ok, hback, hb2, bne_self_eq_false, Bool.false_eq_true, if_false, hfnd, Sem.run_pure]
          · have := RVs.cons k2.1 (RVs.cons k2.2.1 (RVs.nil m)); exact .tuple _ _ this.1 this.2
        · cases h
      · cases h
    · cases h
  · cases h
omit ok in
theorem nextA_ok {x x' : Value} {str : Bool} (ty : TypeId) {l : List (Value × Hp)} (hx : RV m x x') (h : nextA hp x str = some l) :
    ∃ v hp1, (v, hp1) ∈ l ∧ ∃ v' w', (Instr.next x' str ty).run P w = .ok v' w' ∧ Step m hp w m hp1 w' ∧ RV m v v' := by
  have hno : RV m (.tuple ⟨[.bool false]⟩) (.tuple ⟨[.bool false]⟩) := by
    have := RVs.cons (.flat (.bool false) rfl) (RVs.nil m); exact .tuple _ _ this.1 this.2
  unfold nextA at h
  split at h
  · rename_i r
    obtain ⟨a', rfl, -, e, he, rfl⟩ := hx.ptr_iff
    split at h
    · rename_i s pos hob
      obtain ⟨hl, h0, ho, h1⟩ := inv.obj r e _ he hob (by simp)
      have hz : e.o + 0 = 0 := by omega
      have hb1 : (getObj e.c).run P w = .ok (.stringIter s pos) w := by simp [getObj, Sem.run, h1]
      split at h
      · rename_i hlt
        have hlt := Nat.blt_eq.mp hlt
        injection h with h
        subst h
        refine ⟨_, _, List.mem_singleton.2 rfl, .tuple ⟨[.bool true, .int .i64 (.ofNat pos), .int .i32 (Utf8.decode s pos).1]⟩, { w with heap := w.heap.setIfInBounds e.c (.stringIter s (pos + (Utf8.decode s pos).2)) }, ?_, ?_, ?_⟩
        · have hset : (setObj e.c (.stringIter s (pos + (Utf8.decode s pos).2))).run P w = .ok () { w with heap := w.heap.setIfInBounds e.c (.stringIter s (pos + (Utf8.decode s pos).2)) } := by
            have := inv.low r e he
            simp [setObj, Sem.run, h1]
          rw [hz]
          simp only [Instr.next, Sem.run_bind, hb1, Result.andThen_ok, hlt, if_true]
          rcases hd : Utf8.decode s pos with ⟨c, wd⟩
          rw [hd] at hset
          simp only [Sem.run_bind, hset, Result.andThen_ok, Sem.run_pure]
          rfl
        · refine step_put inv he hob (by simp) ⟨h0, ho, ?_⟩
          have := inv.low r e he
          simp [this]
        · have := RVs.cons (.flat (.bool true) rfl) (RVs.cons (.flat (.int .i64 (.ofNat pos)) rfl) (RVs.cons (.flat (.int .i32 (Utf8.decode s pos).1) rfl) (RVs.nil m))); exact .tuple _ _ this.1 this.2
      · rename_i hlt
        have hlt : ¬ pos < s.size := fun hh => by rw [Nat.blt_eq.mpr hh] at hlt; cases hlt
        injection h with h
        subst h
        refine ⟨_, _, List.mem_singleton.2 rfl, _, w, ?_, .refl inv, hno⟩
        rw [hz]
        simp only [Instr.next, Sem.run_bind, hb1, Result.andThen_ok, hlt, if_false, Sem.run_pure]
    · rename_i since seen last hob
      obtain ⟨hl, h0, ho, mo', h1, h2⟩ := inv.obj r e _ he hob (by simp)
      have hz : e.o + 0 = 0 := by omega
      rcases h2 with ⟨-, rfl⟩ | ⟨b, eb, h2, hb, rfl⟩
      · injection h with h
        subst h
        refine ⟨_, _, List.mem_singleton.2 rfl, _, w, ?_, .refl inv, hno⟩
        have hb1 : (getObj e.c).run P w = .ok (.mapIter none since ⟨seen⟩ last) w := by simp [getObj, Sem.run, h1]
        rw [hz]
        simp only [Instr.next, Sem.run_bind, hb1, Result.andThen_ok, Sem.run_pure]
      · cases h2
    · rename_i mb since seen last hob
      obtain ⟨hl, h0, ho, mo', h1, h2⟩ := inv.obj r e _ he hob (by simp)
      have hz : e.o + 0 = 0 := by omega
      rcases h2 with ⟨h2, -⟩ | ⟨b, eb, h2, hb, rfl⟩
      · cases h2
      injection h2 with h2
      subst h2
      split at h
      · rename_i es clock hmb
        obtain ⟨hl2, h02, es', h3, h4⟩ := inv.obj mb eb _ hb hmb (by simp)
        split at h
        · rename_i hold hsc
          have hsc := Nat.le_of_ble_eq_true hsc
          have hold' : ∀ x ∈ (⟨es'⟩ : Array MapEntry).toList, x.born < since := fun x' hx' => by
            obtain ⟨x, k1, k2⟩ := h4.right x' hx'
            unfold eldA at hold
            have := List.all_eq_true.1 hold x k1
            rw [← k2.2.2]
            exact Nat.blt_eq.mp this
          have hn := run_next_at (P := P) w ty e.c eb.c since last ⟨seen⟩ ⟨es'⟩ clock h1 h3 hold' hsc
          rw [hz]
          have hin : ∀ (x : MapEntry), x ∈ leftA seen es ↔ x ∈ es ∧ seen.contains x.born = false := fun x => by
            unfold leftA
            rw [List.mem_filter]
            simp
          have hin' : ∀ (x : MapEntry), x ∈ (leftOf ⟨es'⟩ ⟨seen⟩).toList ↔ x ∈ es' ∧ seen.contains x.born = false := fun x => by
            unfold leftOf
            simp
          rcases hn with ⟨hn1, hn2⟩ | ⟨e', hn1, w1, hw1, hn2⟩
          · have hnil : leftA seen es = [] := by
              cases hla : leftA seen es with
              | nil => rfl
              | cons y t =>
                exfalso
                have hy : y ∈ leftA seen es := by rw [hla]; exact List.mem_cons_self
                obtain ⟨k1, k2⟩ := (hin y).1 hy
                obtain ⟨y', k3, k4⟩ := h4.left y k1
                have : y' ∈ (leftOf ⟨es'⟩ ⟨seen⟩).toList := (hin' y').2 ⟨k3, by rw [← k4.2.2]; exact k2⟩
                have hsz : (leftOf ⟨es'⟩ ⟨seen⟩).toList.length = 0 := by simpa using hn1
                rw [List.eq_nil_of_length_eq_zero hsz] at this
                cases this
            rw [hnil] at h
            injection h with h
            subst h
            exact ⟨_, _, List.mem_singleton.2 rfl, _, w, hn2, .refl inv, hno⟩
          · obtain ⟨k1, k2⟩ := (hin' e').1 hn1
            obtain ⟨y, k3, k4⟩ := h4.right e' k1
            have hy : y ∈ leftA seen es := (hin y).2 ⟨k3, by rw [k4.2.2]; exact k2⟩
            have hl3 : l = (leftA seen es).map fun e => (Value.tuple ⟨[.bool true, e.key, e.val]⟩, objSet hp r (.miter (some mb) since (seen ++ [e.born]) clock)) := by
              split at h
              · rename_i hnil; rw [hnil] at hy; cases hy
              · injection h with h; exact h.symm
            subst hl3
            refine ⟨_, _, List.mem_map.2 ⟨y, hy, rfl⟩, _, _, hn2, ?_, ?_⟩
            · have st0 : Step m hp w m hp w1 := by
                rcases hw1 with rfl | rfl
                · exact .refl inv
                · exact .drawn inv _
              have hobj := step_put (w := w1) st0.inv he hob (by simp) (ob' := .miter (some mb) since (seen ++ [y.born]) clock) (o' := .mapIter (some eb.c) since ((⟨seen⟩ : Array Nat).push e'.born) clock)
                ⟨h0, ho, some eb.c, by
                  have := st0.inv.low r e he
                  simp [this, k4.2.2], .inr ⟨mb, eb, rfl, hb, rfl⟩⟩
              exact st0.trans hobj
            · have := RVs.cons (.flat (.bool true) rfl) (RVs.cons k4.1 (RVs.cons k4.2.1 (RVs.nil m))); exact .tuple _ _ this.1 this.2
        · cases h
      · cases h
    · cases h
  · cases h
end
end Go.Proofs.YtaepplhgeeaidaaDoor.Ev
end
