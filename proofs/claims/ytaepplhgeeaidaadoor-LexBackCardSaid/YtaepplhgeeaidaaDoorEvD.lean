import Derived.Test.YtaepplhgeeaidaaDoorEvC
import Derived.Below
set_option linter.unusedVariables false
set_option linter.unusedSimpArgs false
namespace Go.Proofs.YtaepplhgeeaidaaDoor.Ev
open Go Go.RowKit
def frOf (str : Bool) (n : Nat) : Nat × Nat := if str then (n, n + 1) else (0, 0)
theorem frOf_none (str : Bool) (n : Nat) : ∀ i, i < n → ¬((frOf str n).1 ≤ i ∧ i < (frOf str n).2) := fun i hi => by
  unfold frOf; split <;> simp <;> omega
def FrOk (str : Bool) (fr : Nat × Nat) (n : Nat) : Prop := ∃ s, fr = frOf s n ∧ (s = true → str = true)
theorem FrOk.none_ {str : Bool} {fr : Nat × Nat} {n : Nat} (h : FrOk str fr n) : ∀ i, i < n → ¬(fr.1 ≤ i ∧ i < fr.2) := by
  obtain ⟨s, rfl, -⟩ := h
  exact frOf_none s n
theorem FrOk.plain (str : Bool) (n : Nat) : FrOk str (0, 0) n := ⟨false, rfl, fun h => by cases h⟩
def RM (m : Emb) (x x' : MapEntry) : Prop := RV m x.key x'.key ∧ RV m x.val x'.val ∧ x.born = x'.born
inductive RMs (m : Emb) : List MapEntry → List MapEntry → Prop
  | nil : RMs m [] []
  | cons {x x' : MapEntry} {es es' : List MapEntry} (h : RM m x x') (r : RMs m es es') : RMs m (x :: es) (x' :: es')
theorem RM.mono {m m' : Emb} (h : m.le m') {x x' : MapEntry} (r : RM m x x') : RM m' x x' := ⟨r.1.mono h, r.2.1.mono h, r.2.2⟩
theorem RMs.mono {m m' : Emb} (h : m.le m') {es es' : List MapEntry} (r : RMs m es es') : RMs m' es es' := by
  induction r with
  | nil => exact .nil
  | cons h1 _ ih => exact .cons (h1.mono h) ih
def RMo (m : Emb) (x x' : Option Nat) : Prop := (x = none ∧ x' = none) ∨ ∃ b e, x = some b ∧ m b = some e ∧ x' = some e.c
theorem RMo.mono {m m' : Emb} (h : m.le m') {x x' : Option Nat} (r : RMo m x x') : RMo m' x x' := by
  rcases r with r | ⟨b, e, h1, h2, h3⟩
  · exact .inl r
  · obtain ⟨e', k1, k2, -⟩ := h b e h2
    exact .inr ⟨b, e', h1, k1, by rw [h3, k2]⟩
def pendC : Option JX → Option Code
  | none => none
  | some .ret => some .ret
  | some (.exit id) => some (.exit id)
def SeqR (m : Emb) (e n : Value) (ks : List Nat) (cells : List Value) (cs : Array Value) (o : Nat) : Prop :=
  (∃ d, den m.s m.u d e = some (.agg ⟨cells⟩)) ∧ (∃ k : Nat, RV m n (.int .i64 (.ofNat k)) ∧ cells.length = k * ks.length) ∧
  (∀ i v, cells[i]? = some v → tyOk (ks.getD (i % ks.length) 0) v = true ∧ cs[o + i]? = some v)
theorem SeqR.mono {m m' : Emb} (h : m.le m') {e n : Value} {ks : List Nat} {cells : List Value} {cs : Array Value} {o : Nat} (r : SeqR m e n ks cells cs o) : SeqR m' e n ks cells cs o := by
  obtain ⟨⟨d, h1⟩, ⟨k, h2, h3⟩, h4⟩ := r
  exact ⟨⟨d, by rw [h.s, h.u]; exact h1⟩, ⟨k, h2.mono h, h3⟩, h4⟩
def OR (m : Emb) (ob : AObj) (e : Ent) (h : Array Obj) : Prop :=
  match ob with
  | .cells t n ty op str => op = e.op.map (·.2) ∧ ∃ cs fr, h[e.c]? = some (.cells cs ty fr) ∧
      (∀ i, i < n → ∃ v v', t.get i = some v ∧ cs[e.o + i]? = some v' ∧ RV m v v') ∧
      (e.op = none → e.o = 0 ∧ cs.size = n) ∧ (∀ tot z, e.op = some (tot, z) → cs.size = tot) ∧
      FrOk str fr cs.size
  | .map es clock => e.op = none ∧ ∃ es', h[e.c]? = some (.map ⟨es'⟩ clock) ∧ RMs m es es'
  | .loop l => e.op = none ∧ ∃ fn tmps df, h[e.c]? = some (.loop { state := l.st, pending := pendC l.pend, fn := fn, tmps := tmps, params := ⟨l.ps⟩, assign := l.assign, body := l.body, defers := df }) ∧
      tmps.size = l.sz ∧ ∀ t v, l.tm.get t = some v → RV m v (tmps.getD t undef)
  | .miter mo since seen last => e.op = none ∧ e.o = 0 ∧ ∃ mo', h[e.c]? = some (.mapIter mo' since ⟨seen⟩ last) ∧ RMo m mo mo'
  | .siter s pos => e.op = none ∧ e.o = 0 ∧ h[e.c]? = some (.stringIter s pos)
  | .seq x n ks ty => ∃ cells cs fr, SeqR m x n ks cells cs e.o ∧ h[e.c]? = some (.cells cs ty fr) ∧ FrOk true fr cs.size ∧ e.op = some (cs.size, ks.length)
  | .dead => False
theorem OR.mono {m m' : Emb} (hm : m.le m') {ob : AObj} {e : Ent} {h : Array Obj} (r : OR m ob e h) : OR m' ob e h := by
  cases ob with
  | cells t n ty op str =>
    obtain ⟨h1, cs, fr, h2, h3, h4⟩ := r
    refine ⟨h1, cs, fr, h2, fun i hi => ?_, h4⟩
    obtain ⟨v, v', k1, k2, k3⟩ := h3 i hi
    exact ⟨v, v', k1, k2, k3.mono hm⟩
  | map _ _ =>
    obtain ⟨h1, es', h2, h3⟩ := r
    exact ⟨h1, es', h2, h3.mono hm⟩
  | loop l =>
    obtain ⟨h1, fn, tmps, df, h2, h3, h4⟩ := r
    exact ⟨h1, fn, tmps, df, h2, h3, fun t v hv => (h4 t v hv).mono hm⟩
  | miter _ _ _ _ =>
    obtain ⟨h1, h0, mo', h2, h3⟩ := r
    exact ⟨h1, h0, mo', h2, h3.mono hm⟩
  | siter _ _ => exact r
  | seq _ _ _ _ =>
    obtain ⟨cells, cs, fr, h1, h2⟩ := r
    exact ⟨cells, cs, fr, h1.mono hm, h2⟩
  | dead => exact r
theorem OR.heap {m : Emb} {ob : AObj} {e : Ent} {h h' : Array Obj} (hh : h'[e.c]? = h[e.c]?) (r : OR m ob e h) : OR m ob e h' := by
  cases ob with
  | cells t n ty op str => simpa only [OR, hh] using r
  | map _ _ => simpa only [OR, hh] using r
  | loop _ => simpa only [OR, hh] using r
  | miter _ _ _ _ => simpa only [OR, hh] using r
  | siter _ _ => simpa only [OR, hh] using r
  | seq _ _ _ _ => simpa only [OR, hh] using r
  | dead => exact r
theorem OR.ent {m : Emb} {ob : AObj} {e e' : Ent} {h : Array Obj} (h1 : e'.c = e.c) (h2 : e'.o = e.o) (h3 : e'.op = e.op) (r : OR m ob e h) : OR m ob e' h := by
  cases ob with
  | cells t n ty op str => simpa only [OR, h1, h2, h3] using r
  | map _ _ => simpa only [OR, h1, h2, h3] using r
  | loop _ => simpa only [OR, h1, h2, h3] using r
  | miter _ _ _ _ => simpa only [OR, h1, h2, h3] using r
  | siter _ _ => simpa only [OR, h1, h2, h3] using r
  | seq _ _ _ _ => simpa only [OR, h1, h2, h3] using r
  | dead => exact r
structure Inv (m : Emb) (hp : Hp) (h : Array Obj) : Prop where
  obj : ∀ b e ob, m b = some e → hp.tr.get b = some ob → ob ≠ .dead → e.live = true ∧ OR m ob e h
  inj : ∀ b b' e e', m b = some e → m b' = some e' → e.live = true → e'.live = true → e.c = e'.c → b = b'
  low : ∀ b e, m b = some e → e.c < h.size
  dom : ∀ b ob, hp.tr.get b = some ob → b < hp.nx
structure Step (m : Emb) (hp : Hp) (w : World) (m' : Emb) (hp' : Hp) (w' : World) : Prop where
  le : m.le m'
  inv : Inv m' hp' w'.heap
  os : w'.os = w.os
  tape : w'.tape = w.tape
  output : w'.output = w.output
  size : w.heap.size ≤ w'.heap.size
  keep : ∀ c, c < w.heap.size → (∀ b e, b < hp.nx → m b = some e → e.live = true → e.c ≠ c) → w'.heap[c]? = w.heap[c]?
  rng : ∀ b e, b < hp'.nx → m' b = some e → e.live = true → (∃ b0 e0, b0 < hp.nx ∧ m b0 = some e0 ∧ e0.live = true ∧ e0.c = e.c) ∨ w.heap.size ≤ e.c
  far : ∀ b, hp'.nx ≤ b → m' b = m b
  nx : hp.nx ≤ hp'.nx
  lo : hp'.lo ≤ hp.lo
  low : ∀ b, b < hp.nx → b < hp'.lo → hp'.tr.get b = hp.tr.get b ∧ m' b = m b
theorem Step.refl {m : Emb} {hp : Hp} {w : World} (h : Inv m hp w.heap) : Step m hp w m hp w :=
  ⟨Emb.le_refl _, h, rfl, rfl, rfl, Nat.le_refl _, fun _ _ _ => rfl, fun b e hb he hl => .inl ⟨b, e, hb, he, hl, rfl⟩, fun _ _ => rfl, Nat.le_refl _, Nat.le_refl _, fun _ _ _ => ⟨rfl, rfl⟩⟩
theorem Step.below {m : Emb} {hp : Hp} {w w' : World} (h : Inv m hp w.heap) (b : Below w.heap.size w w') : Step m hp w m hp w' :=
  ⟨Emb.le_refl _, ⟨fun x e ob he hob hd => by
      obtain ⟨l1, l2⟩ := h.obj x e ob he hob hd
      exact ⟨l1, l2.heap (b.block _ (h.low x e he))⟩, h.inj, fun x e he => Nat.lt_of_lt_of_le (h.low x e he) b.size, h.dom⟩,
    b.os, b.tape, b.output, b.size, fun c hc _ => b.block c hc, fun x e hb he hl => .inl ⟨x, e, hb, he, hl, rfl⟩, fun _ _ => rfl, Nat.le_refl _, Nat.le_refl _, fun _ _ _ => ⟨rfl, rfl⟩⟩
theorem Step.drawn {m : Emb} {hp : Hp} {w : World} (h : Inv m hp w.heap) (n : Nat) : Step m hp w m hp { w with drawn := n } :=
  ⟨Emb.le_refl _, h, rfl, rfl, rfl, Nat.le_refl _, fun _ _ _ => rfl, fun b e hb he hl => .inl ⟨b, e, hb, he, hl, rfl⟩, fun _ _ => rfl, Nat.le_refl _, Nat.le_refl _, fun _ _ _ => ⟨rfl, rfl⟩⟩
theorem Step.trans {m m1 m2 : Emb} {hp hp1 hp2 : Hp} {w w1 w2 : World} (s : Step m hp w m1 hp1 w1) (t : Step m1 hp1 w1 m2 hp2 w2) : Step m hp w m2 hp2 w2 where
  le := Emb.le_trans s.le t.le
  inv := t.inv
  os := t.os.trans s.os
  tape := t.tape.trans s.tape
  output := t.output.trans s.output
  size := Nat.le_trans s.size t.size
  keep := fun c hc h => (t.keep c (Nat.lt_of_lt_of_le hc s.size) (fun b e hb he hl => by
    rcases s.rng b e hb he hl with ⟨b0, e0, h1, h2, h3, h4⟩ | h1
    · rw [← h4]; exact h b0 e0 h1 h2 h3
    · omega)).trans (s.keep c hc h)
  rng := fun b e hb he hl => by
    rcases t.rng b e hb he hl with ⟨b0, e0, h1, h2, h3, h4⟩ | h1
    · rcases s.rng b0 e0 h1 h2 h3 with ⟨b1, e1, k1, k2, k3, k4⟩ | k1
      · exact .inl ⟨b1, e1, k1, k2, k3, k4.trans h4⟩
      · exact .inr (by omega)
    · exact .inr (Nat.le_trans s.size h1)
  far := fun b hb => (t.far b hb).trans (s.far b (Nat.le_trans t.nx hb))
  nx := Nat.le_trans s.nx t.nx
  lo := Nat.le_trans t.lo s.lo
  low := fun b hb hl => by
    obtain ⟨h1, h2⟩ := t.low b (Nat.lt_of_lt_of_le hb s.nx) hl
    obtain ⟨k1, k2⟩ := s.low b hb (Nat.lt_of_lt_of_le hl t.lo)
    exact ⟨h1.trans k1, h2.trans k2⟩
def Fresh (m : Emb) (a b : Nat) : Prop := ∀ x, a ≤ x → x < b → m x = none
theorem Fresh.sub {m : Emb} {a b a' b' : Nat} (h : Fresh m a b) (h1 : a ≤ a') (h2 : b' ≤ b) : Fresh m a' b' := fun x hx hx' => h x (by omega) (by omega)
theorem Fresh.step {m m' : Emb} {hp hp' : Hp} {w w' : World} {b : Nat} (s : Step m hp w m' hp' w') (h : Fresh m hp.nx b) : Fresh m' hp'.nx b := fun x hx hx' => by
  rw [s.far x hx]
  exact h x (Nat.le_trans s.nx hx) hx'
def Emb.put (m : Emb) (b : Nat) (e : Ent) : Emb := { m with f := fun x => if x = b then some e else m x }
theorem Emb.put_same (m : Emb) (b : Nat) (e : Ent) : m.put b e b = some e := if_pos rfl
theorem Emb.put_other (m : Emb) {b x : Nat} (e : Ent) (h : x ≠ b) : m.put b e x = m x := if_neg h
theorem Emb.le_put {m : Emb} {b : Nat} (e : Ent) (h : m b = none) : m.le (m.put b e) := ⟨fun x e' he => by
  refine ⟨e', ?_, rfl, rfl, rfl, id⟩
  rw [Emb.put_other _ _ (fun hx => by subst hx; rw [h] at he; cases he)]
  exact he, rfl, rfl⟩
theorem getD_push_size {h : Array Obj} {o : Obj} : (h.push o)[h.size]? = some o := by simp
theorem get_push_lt {h : Array Obj} {o : Obj} {c : Nat} (hc : c < h.size) : (h.push o)[c]? = h[c]? := by
  rw [Array.getElem?_push, if_neg (by omega)]
theorem step_new {m : Emb} {hp : Hp} {w : World} (inv : Inv m hp w.heap) (hf : m hp.nx = none) {t : Tr Value} {n : Nat} {ty : TypeId} {op : Option (Nat × Nat)} {str : Bool} {cs : Array Value} {fr : Nat × Nat}
    (hcs : ∀ i, i < n → ∃ v v', t.get i = some v ∧ cs[i]? = some v' ∧ RV m v v') (h1 : op = none → cs.size = n) (h2 : ∀ tot z, op = some (tot, z) → cs.size = tot)
    (h3 : FrOk str fr cs.size) (k : Nat) :
    Step m hp w (m.put hp.nx ⟨w.heap.size, 0, op, true⟩) { tr := hp.tr.set hp.nx (.cells t n ty (op.map (·.2)) str), nx := Nat.succ hp.nx, lo := hp.lo }
      { w with heap := w.heap.push (.cells cs ty fr), drawn := k } := by
  have hle : m.le (m.put hp.nx ⟨w.heap.size, 0, op, true⟩) := Emb.le_put _ hf
  refine ⟨hle, ⟨?_, ?_, ?_, ?_⟩, rfl, rfl, rfl, by simp, fun c hc _ => get_push_lt hc, ?_, ?_, Nat.le_succ _, Nat.le_refl _, ?_⟩
  · intro b e ob he hob hd
    by_cases hb : b = hp.nx
    · subst hb
      rw [Emb.put_same] at he
      injection he with he
      subst he
      simp only [Tr.get_set, if_true] at hob
      injection hob with hob
      subst hob
      refine ⟨rfl, rfl, cs, fr, getD_push_size, fun i hi => ?_, fun ho => ⟨rfl, h1 ho⟩, h2, h3⟩
      obtain ⟨v, v', k1, k2, k3⟩ := hcs i hi
      exact ⟨v, v', k1, by simpa using k2, k3.mono hle⟩
    · rw [Emb.put_other _ _ hb] at he
      simp only [Tr.get_set, if_neg hb] at hob
      obtain ⟨l1, l2⟩ := inv.obj b e ob he hob hd
      exact ⟨l1, (l2.mono hle).heap (get_push_lt (inv.low b e he))⟩
  · intro b b' e e' he he' hl hl' hc
    by_cases hb : b = hp.nx <;> by_cases hb' : b' = hp.nx
    · rw [hb, hb']
    · subst hb
      rw [Emb.put_same] at he
      injection he with he
      subst he
      rw [Emb.put_other _ _ hb'] at he'
      have := inv.low b' e' he'
      simp only at hc
      omega
    · subst hb'
      rw [Emb.put_same] at he'
      injection he' with he'
      subst he'
      rw [Emb.put_other _ _ hb] at he
      have := inv.low b e he
      simp only at hc
      omega
    · rw [Emb.put_other _ _ hb] at he
      rw [Emb.put_other _ _ hb'] at he'
      exact inv.inj b b' e e' he he' hl hl' hc
  · intro b e he
    simp only [Array.size_push]
    by_cases hb : b = hp.nx
    · subst hb
      rw [Emb.put_same] at he
      injection he with he
      subst he
      exact Nat.lt_succ_self _
    · rw [Emb.put_other _ _ hb] at he
      have := inv.low b e he
      omega
  · intro b ob hob
    simp only [Tr.get_set] at hob
    by_cases hb : b = hp.nx
    · subst hb; exact Nat.lt_succ_self _
    · rw [if_neg hb] at hob
      exact Nat.lt_succ_of_lt (inv.dom b ob hob)
  · intro b e hb he hl
    by_cases hbn : b = hp.nx
    · subst hbn
      rw [Emb.put_same] at he
      injection he with he
      subst he
      exact .inr (Nat.le_refl _)
    · rw [Emb.put_other _ _ hbn] at he
      exact .inl ⟨b, e, by simp only at hb; omega, he, hl, rfl⟩
  · intro b hb
    exact Emb.put_other _ _ (by simp only at hb; omega)
  · intro b hb _
    exact ⟨by simp only [Tr.get_set, if_neg (show b ≠ hp.nx by omega)], Emb.put_other _ _ (by omega)⟩
theorem least_eq (a b : Nat) : least a b = if a ≤ b then a else b := by
  show a - (a - b) = _
  split <;> omega
theorem least_le_left (a b : Nat) : least a b ≤ a := by rw [least_eq]; split <;> omega
theorem least_le_right (a b : Nat) : least a b ≤ b := by rw [least_eq]; split <;> omega
theorem step_write {m : Emb} {hp : Hp} {w : World} (inv : Inv m hp w.heap) {b : Nat} {e : Ent} (he : m b = some e) {t t' : Tr Value} {n : Nat} {ty : TypeId} {op : Option Nat} {str str' : Bool}
    (hob : hp.tr.get b = some (.cells t n ty op str)) {cs cs' : Array Value} {fr fr' : Nat × Nat} (hcs : w.heap[e.c]? = some (.cells cs ty fr)) (hsz : cs'.size = cs.size)
    (hrel : ∀ i, i < n → ∃ v v', t'.get i = some v ∧ cs'[e.o + i]? = some v' ∧ RV m v v')
    (h3 : FrOk str' fr' cs.size) :
    Step m hp w m { tr := hp.tr.set b (.cells t' n ty op str'), nx := hp.nx, lo := least b hp.lo } { w with heap := w.heap.setIfInBounds e.c (.cells cs' ty fr') } := by
  have hlt : e.c < w.heap.size := inv.low b e he
  obtain ⟨hl, h1, cs0, fr0, h0, h5, h6, h7, h8⟩ := inv.obj b e _ he hob (by simp)
  rw [hcs] at h0
  injection h0 with h0
  injection h0 with h0 h0b h0c
  subst h0 h0c
  have hget : ∀ c, c ≠ e.c → (w.heap.setIfInBounds e.c (.cells cs' ty fr'))[c]? = w.heap[c]? := fun c hc => Array.getElem?_setIfInBounds_ne (fun h => hc h.symm)
  refine ⟨Emb.le_refl _, ⟨?_, inv.inj, ?_, ?_⟩, rfl, rfl, rfl, by simp, ?_, fun b e hb he hl => .inl ⟨b, e, hb, he, hl, rfl⟩, fun _ _ => rfl, Nat.le_refl _, least_le_right _ _, ?_⟩
  · intro b' e' ob he' hob' hd
    by_cases hb : b' = b
    · subst hb
      rw [he] at he'
      injection he' with he'
      subst he'
      simp only [Tr.get_set, if_true] at hob'
      injection hob' with hob'
      subst hob'
      exact ⟨hl, h1, cs', fr', by simp [hlt], hrel, fun ho => ⟨(h6 ho).1, hsz.trans (h6 ho).2⟩, fun tot z ho => hsz.trans (h7 tot z ho), by rw [hsz]; exact h3⟩
    · simp only [Tr.get_set, if_neg hb] at hob'
      obtain ⟨l1, l2⟩ := inv.obj b' e' ob he' hob' hd
      exact ⟨l1, l2.heap (hget _ (fun hc => hb (inv.inj b' b e' e he' he l1 hl hc)))⟩
  · intro b' e' he'
    simpa using inv.low b' e' he'
  · intro b' ob hob'
    simp only [Tr.get_set] at hob'
    by_cases hb : b' = b
    · subst hb; exact inv.dom b' _ hob
    · rw [if_neg hb] at hob'
      exact inv.dom b' ob hob'
  · intro c hc h
    exact hget c (fun hh => h b e (inv.dom b _ hob) he hl hh.symm)
  · intro b' hb' hlo
    have : b' ≠ b := fun hh => by
      have := least_le_left b hp.lo
      simp only at hlo
      omega
    exact ⟨by simp only [Tr.get_set, if_neg this], rfl⟩
theorem step_put {m : Emb} {hp : Hp} {w : World} (inv : Inv m hp w.heap) {b : Nat} {e : Ent} (he : m b = some e) {ob ob' : AObj} (hob : hp.tr.get b = some ob) (hd : ob ≠ .dead) {o' : Obj}
    (hor : OR m ob' e (w.heap.setIfInBounds e.c o')) :
    Step m hp w m { tr := hp.tr.set b ob', nx := hp.nx, lo := least b hp.lo } { w with heap := w.heap.setIfInBounds e.c o' } := by
  have hlt : e.c < w.heap.size := inv.low b e he
  obtain ⟨hl, -⟩ := inv.obj b e _ he hob hd
  have hget : ∀ c, c ≠ e.c → (w.heap.setIfInBounds e.c o')[c]? = w.heap[c]? := fun c hc => Array.getElem?_setIfInBounds_ne (fun h => hc h.symm)
  refine ⟨Emb.le_refl _, ⟨?_, inv.inj, ?_, ?_⟩, rfl, rfl, rfl, by simp, ?_, fun b e hb he hl => .inl ⟨b, e, hb, he, hl, rfl⟩, fun _ _ => rfl, Nat.le_refl _, least_le_right _ _, ?_⟩
  · intro b' e' ob2 he' hob' hd'
    by_cases hb : b' = b
    · subst hb
      rw [he] at he'
      injection he' with he'
      subst he'
      simp only [Tr.get_set, if_true] at hob'
      injection hob' with hob'
      subst hob'
      exact ⟨hl, hor⟩
    · simp only [Tr.get_set, if_neg hb] at hob'
      obtain ⟨l1, l2⟩ := inv.obj b' e' ob2 he' hob' hd'
      exact ⟨l1, l2.heap (hget _ (fun hc => hb (inv.inj b' b e' e he' he l1 hl hc)))⟩
  · intro b' e' he'
    simpa using inv.low b' e' he'
  · intro b' ob2 hob'
    simp only [Tr.get_set] at hob'
    by_cases hb : b' = b
    · subst hb; exact inv.dom b' _ hob
    · rw [if_neg hb] at hob'
      exact inv.dom b' ob2 hob'
  · intro c hc h
    exact hget c (fun hh => h b e (inv.dom b _ hob) he hl hh.symm)
  · intro b' hb' hlo
    have : b' ≠ b := fun hh => by
      have := least_le_left b hp.lo
      simp only at hlo
      omega
    exact ⟨by simp only [Tr.get_set, if_neg this], rfl⟩
theorem step_push {m : Emb} {hp : Hp} {w : World} (inv : Inv m hp w.heap) (o : Obj) : Step m hp w m hp { w with heap := w.heap.push o } :=
  ⟨Emb.le_refl _, ⟨fun b e ob he hob hd => by
    obtain ⟨l1, l2⟩ := inv.obj b e ob he hob hd
    exact ⟨l1, l2.heap (get_push_lt (inv.low b e he))⟩, inv.inj, fun b e he => by have := inv.low b e he; simp; omega, inv.dom⟩, rfl, rfl, rfl, by simp, fun c hc _ => get_push_lt hc,
    fun b e hb he hl => .inl ⟨b, e, hb, he, hl, rfl⟩, fun _ _ => rfl, Nat.le_refl _, Nat.le_refl _, fun _ _ _ => ⟨rfl, rfl⟩⟩
theorem step_newob {m : Emb} {hp : Hp} {w : World} (inv : Inv m hp w.heap) (hf : m hp.nx = none) {ob0 : AObj} {o : Obj} {op : Option (Nat × Nat)} (hor : OR m ob0 ⟨w.heap.size, 0, op, true⟩ (w.heap.push o)) :
    Step m hp w (m.put hp.nx ⟨w.heap.size, 0, op, true⟩) { tr := hp.tr.set hp.nx ob0, nx := Nat.succ hp.nx, lo := hp.lo } { w with heap := w.heap.push o } := by
  have hle : m.le (m.put hp.nx ⟨w.heap.size, 0, op, true⟩) := Emb.le_put _ hf
  refine ⟨hle, ⟨?_, ?_, ?_, ?_⟩, rfl, rfl, rfl, by simp, fun c hc _ => get_push_lt hc, ?_, ?_, Nat.le_succ _, Nat.le_refl _, ?_⟩
  · intro b e ob he hob hd
    by_cases hb : b = hp.nx
    · subst hb
      rw [Emb.put_same] at he
      injection he with he
      subst he
      simp only [Tr.get_set, if_true] at hob
      injection hob with hob
      subst hob
      exact ⟨rfl, hor.mono hle⟩
    · rw [Emb.put_other _ _ hb] at he
      simp only [Tr.get_set, if_neg hb] at hob
      obtain ⟨l1, l2⟩ := inv.obj b e ob he hob hd
      exact ⟨l1, (l2.mono hle).heap (get_push_lt (inv.low b e he))⟩
  · intro b b' e e' he he' hl hl' hc
    by_cases hb : b = hp.nx <;> by_cases hb' : b' = hp.nx
    · rw [hb, hb']
    · subst hb
      rw [Emb.put_same] at he
      injection he with he
      subst he
      rw [Emb.put_other _ _ hb'] at he'
      have := inv.low b' e' he'
      simp only at hc
      omega
    · subst hb'
      rw [Emb.put_same] at he'
      injection he' with he'
      subst he'
      rw [Emb.put_other _ _ hb] at he
      have := inv.low b e he
      simp only at hc
      omega
    · rw [Emb.put_other _ _ hb] at he
      rw [Emb.put_other _ _ hb'] at he'
      exact inv.inj b b' e e' he he' hl hl' hc
  · intro b e he
    simp only [Array.size_push]
    by_cases hb : b = hp.nx
    · subst hb
      rw [Emb.put_same] at he
      injection he with he
      subst he
      exact Nat.lt_succ_self _
    · rw [Emb.put_other _ _ hb] at he
      have := inv.low b e he
      omega
  · intro b ob hob
    simp only [Tr.get_set] at hob
    by_cases hb : b = hp.nx
    · subst hb; exact Nat.lt_succ_self _
    · rw [if_neg hb] at hob
      exact Nat.lt_succ_of_lt (inv.dom b ob hob)
  · intro b e hb he hl
    by_cases hbn : b = hp.nx
    · subst hbn
      rw [Emb.put_same] at he
      injection he with he
      subst he
      exact .inr (Nat.le_refl _)
    · rw [Emb.put_other _ _ hbn] at he
      exact .inl ⟨b, e, by simp only at hb; omega, he, hl, rfl⟩
  · intro b hb
    exact Emb.put_other _ _ (by simp only at hb; omega)
  · intro b hb _
    exact ⟨by simp only [Tr.get_set, if_neg (show b ≠ hp.nx by omega)], Emb.put_other _ _ (by omega)⟩
theorem step_newloop {m : Emb} {hp : Hp} {w : World} (inv : Inv m hp w.heap) (hf : m hp.nx = none) {l : ALoop} {o : Obj} (hor : OR m (.loop l) ⟨w.heap.size, 0, none, true⟩ (w.heap.push o)) :
    Step m hp w (m.put hp.nx ⟨w.heap.size, 0, none, true⟩) (loopNew hp l) { w with heap := w.heap.push o } := step_newob inv hf hor
theorem Step.past {m m' : Emb} {hp hp' : Hp} {w w' : World} (s : Step m hp w m' hp' w') {r : Nat} (o : Obj) (hr : w.heap.size ≤ r) (hn : ∀ b e, m' b = some e → e.live = true → e.c ≠ r) :
    Step m hp w m' hp' { w' with heap := w'.heap.setIfInBounds r o } where
  le := s.le
  inv := ⟨fun b e ob he hob hd => by
    obtain ⟨l1, l2⟩ := s.inv.obj b e ob he hob hd
    exact ⟨l1, l2.heap (Array.getElem?_setIfInBounds_ne (fun h => hn b e he l1 h.symm))⟩, s.inv.inj, fun b e he => by simpa using s.inv.low b e he, s.inv.dom⟩
  os := s.os
  tape := s.tape
  output := s.output
  size := by simpa using s.size
  keep := fun c hc h => (Array.getElem?_setIfInBounds_ne (by omega)).trans (s.keep c hc h)
  rng := s.rng
  far := s.far
  nx := s.nx
  lo := s.lo
  low := s.low
def Emb.kill (m : Emb) (b : Nat) : Emb := { m with f := fun x => if x = b then (m b).map (fun e => { e with live := false }) else m x }
theorem Emb.kill_same {m : Emb} {b : Nat} {e : Ent} (h : m b = some e) : m.kill b b = some { e with live := false } := by simp [Emb.kill, h]
theorem Emb.kill_other (m : Emb) {b x : Nat} (h : x ≠ b) : m.kill b x = m x := if_neg h
theorem Emb.le_kill (m : Emb) (b : Nat) : m.le (m.kill b) := ⟨fun x e he => by
  by_cases hx : x = b
  · subst hx
    exact ⟨_, Emb.kill_same he, rfl, rfl, rfl, fun h => by cases h⟩
  · exact ⟨e, (Emb.kill_other m hx).trans he, rfl, rfl, rfl, id⟩, rfl, rfl⟩
theorem step_kill {m : Emb} {hp : Hp} {w : World} (inv : Inv m hp w.heap) {b : Nat} (hb : b < hp.nx) : Step m hp w (m.kill b) (killA hp b) w := by
  have hle := Emb.le_kill m b
  have hback : ∀ x e, m.kill b x = some e → e.live = true → m x = some e ∧ x ≠ b := fun x e he hl => by
    by_cases hx : x = b
    · subst hx
      cases hm : m x with
      | none => simp [Emb.kill, hm] at he
      | some e0 =>
        rw [Emb.kill_same hm] at he
        injection he with he
        subst he
        cases hl
    · exact ⟨by rwa [Emb.kill_other m hx] at he, hx⟩
  refine ⟨hle, ⟨?_, ?_, ?_, ?_⟩, rfl, rfl, rfl, Nat.le_refl _, fun _ _ _ => rfl, ?_, ?_, Nat.le_refl _, least_le_right _ _, ?_⟩
  · intro x e ob he hob hd
    by_cases hx : x = b
    · subst hx
      simp only [killA, Tr.get_set, if_true] at hob
      injection hob with hob
      exact absurd hob.symm hd
    · rw [Emb.kill_other m hx] at he
      simp only [killA, Tr.get_set, if_neg hx] at hob
      obtain ⟨l1, l2⟩ := inv.obj x e ob he hob hd
      exact ⟨l1, l2.mono hle⟩
  · intro x x' e e' he he' hl hl' hc
    exact inv.inj x x' e e' (hback x e he hl).1 (hback x' e' he' hl').1 hl hl' hc
  · intro x e he
    by_cases hx : x = b
    · subst hx
      cases hm : m x with
      | none => simp [Emb.kill, hm] at he
      | some e0 =>
        rw [Emb.kill_same hm] at he
        injection he with he
        subst he
        exact inv.low x e0 hm
    · rw [Emb.kill_other m hx] at he
      exact inv.low x e he
  · intro x ob hob
    by_cases hx : x = b
    · subst hx; exact hb
    · simp only [killA, Tr.get_set, if_neg hx] at hob
      exact inv.dom x ob hob
  · intro x e hx he hl
    exact .inl ⟨x, e, hx, (hback x e he hl).1, hl, rfl⟩
  · intro x hx
    exact Emb.kill_other m (by simp only [killA] at hx; omega)
  · intro x hx hlo
    have : x ≠ b := fun hh => by
      have := least_le_left b hp.lo
      simp only [killA] at hlo
      omega
    exact ⟨by simp only [killA, Tr.get_set, if_neg this], Emb.kill_other m this⟩
def Dom (hp : Hp) : Prop := ∀ b ob, hp.tr.get b = some ob → b < hp.nx
structure Grow (hp hp' : Hp) : Prop where
  nx : hp.nx ≤ hp'.nx
  lo : hp'.lo ≤ hp.lo
  low : ∀ b, b < hp.nx → b < hp'.lo → hp'.tr.get b = hp.tr.get b
  dom : Dom hp → Dom hp'
end Go.Proofs.YtaepplhgeeaidaaDoor.Ev
