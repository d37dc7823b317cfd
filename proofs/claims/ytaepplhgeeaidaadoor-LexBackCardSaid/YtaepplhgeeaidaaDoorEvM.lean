import Derived.Test.YtaepplhgeeaidaaDoorEvL
set_option linter.unusedVariables false
set_option linter.unusedSimpArgs false
set_option linter.unusedSectionVars false
namespace Go.Proofs.YtaepplhgeeaidaaDoor.Ev
open Go Go.RowKit
theorem step_over {m : Emb} {hp : Hp} {w : World} (inv : Inv m hp w.heap) (hf : m hp.nx = none) {b : Nat} {e : Ent} (he : m b = some e) {tb : Tr Value} {nb : Nat} {ty : TypeId} {ob : Option Nat} {str : Bool}
    (hob : hp.tr.get b = some (.cells tb nb ty ob str)) {cs cs' : Array Value} {fr : Nat × Nat} (hcs : w.heap[e.c]? = some (.cells cs ty fr)) (hsz : cs'.size = cs.size) {t : Tr Value} {n o tot z : Nat} (htot : e.op = some (tot, z))
    (hrel : ∀ i, i < n → ∃ v v', t.get i = some v ∧ cs'[o + i]? = some v' ∧ RV m v v') (n' : Nat) :
    Step m hp w ((m.kill b).put hp.nx ⟨e.c, o, some (tot, z), true⟩) { tr := (hp.tr.set b .dead).set hp.nx (.cells t n ty (some z) str), nx := Nat.succ hp.nx, lo := least b hp.lo }
      { w with heap := w.heap.setIfInBounds e.c (.cells cs' ty fr) } := by
  have hlt : e.c < w.heap.size := inv.low b e he
  have hbn : b < hp.nx := inv.dom b _ hob
  obtain ⟨hl, h1, cs0, fr0, h0, h5, h6, h7, h8⟩ := inv.obj b e _ he hob (by simp)
  rw [hcs] at h0
  injection h0 with h0
  injection h0 with h0 h0b h0c
  subst h0 h0c
  have hkn : (m.kill b) hp.nx = none := (Emb.kill_other m (by omega)).trans hf
  have hle : m.le ((m.kill b).put hp.nx ⟨e.c, o, some (tot, z), true⟩) := Emb.le_trans (Emb.le_kill m b) (Emb.le_put _ hkn)
  have hget : ∀ c, c ≠ e.c → (w.heap.setIfInBounds e.c (.cells cs' ty fr))[c]? = w.heap[c]? := fun c hc => Array.getElem?_setIfInBounds_ne (fun h => hc h.symm)
  have hback : ∀ x e', (m.kill b) x = some e' → e'.live = true → m x = some e' ∧ x ≠ b := fun x e' he' hl' => by
    by_cases hx : x = b
    · subst hx
      rw [Emb.kill_same he] at he'
      injection he' with he'
      subst he'
      cases hl'
    · exact ⟨by rwa [Emb.kill_other m hx] at he', hx⟩
  refine ⟨hle, ⟨?_, ?_, ?_, ?_⟩, rfl, rfl, rfl, by simp, ?_, ?_, ?_, Nat.le_succ _, least_le_right _ _, ?_⟩
  · intro x e' o' he' ho' hd
    by_cases hx : x = hp.nx
    · subst hx
      rw [Emb.put_same] at he'
      injection he' with he'
      subst he'
      simp only [Tr.get_set, if_true] at ho'
      injection ho' with ho'
      subst ho'
      refine ⟨rfl, rfl, cs', fr, by simp [hlt], fun i hi => ?_, fun h => by simp at h, fun t' z' h => ?_, by rw [hsz]; exact h8⟩
      · obtain ⟨v, v', k1, k2, k3⟩ := hrel i hi
        exact ⟨v, v', k1, k2, k3.mono hle⟩
      · simp only [Option.some.injEq, Prod.mk.injEq] at h
        rw [← h.1, hsz]
        exact h7 tot z htot
    · rw [Emb.put_other _ _ hx] at he'
      simp only [Tr.get_set, if_neg hx] at ho'
      by_cases hxb : x = b
      · subst hxb
        rw [if_pos rfl] at ho'
        injection ho' with ho'
        exact absurd ho'.symm hd
      · rw [if_neg hxb] at ho'
        rw [Emb.kill_other m hxb] at he'
        obtain ⟨l1, l2⟩ := inv.obj x e' o' he' ho' hd
        exact ⟨l1, (l2.mono hle).heap (hget _ (fun hc => hxb (inv.inj x b e' e he' he l1 hl hc)))⟩
  · intro x x' e1 e2 h1' h2' l1 l2 hc
    by_cases hx : x = hp.nx <;> by_cases hx' : x' = hp.nx
    · rw [hx, hx']
    · subst hx
      rw [Emb.put_same] at h1'
      injection h1' with h1'
      subst h1'
      rw [Emb.put_other _ _ hx'] at h2'
      obtain ⟨k1, k2⟩ := hback x' e2 h2' l2
      exact absurd (inv.inj b x' e e2 he k1 hl l2 hc).symm k2
    · subst hx'
      rw [Emb.put_same] at h2'
      injection h2' with h2'
      subst h2'
      rw [Emb.put_other _ _ hx] at h1'
      obtain ⟨k1, k2⟩ := hback x e1 h1' l1
      exact absurd (inv.inj x b e1 e k1 he l1 hl hc) k2
    · rw [Emb.put_other _ _ hx] at h1'
      rw [Emb.put_other _ _ hx'] at h2'
      exact inv.inj x x' e1 e2 (hback x e1 h1' l1).1 (hback x' e2 h2' l2).1 l1 l2 hc
  · intro x e' he'
    simp only [Array.size_setIfInBounds]
    by_cases hx : x = hp.nx
    · subst hx
      rw [Emb.put_same] at he'
      injection he' with he'
      subst he'
      exact hlt
    · rw [Emb.put_other _ _ hx] at he'
      by_cases hxb : x = b
      · subst hxb
        rw [Emb.kill_same he] at he'
        injection he' with he'
        subst he'
        exact hlt
      · rw [Emb.kill_other m hxb] at he'
        exact inv.low x e' he'
  · intro x o' ho'
    simp only [Tr.get_set] at ho'
    by_cases hx : x = hp.nx
    · subst hx; exact Nat.lt_succ_self _
    · rw [if_neg hx] at ho'
      by_cases hxb : x = b
      · subst hxb; exact Nat.lt_succ_of_lt hbn
      · rw [if_neg hxb] at ho'
        exact Nat.lt_succ_of_lt (inv.dom x o' ho')
  · intro c hc h
    exact hget c (fun hh => h b e hbn he hl hh.symm)
  · intro x e' hx he' hl'
    by_cases hxn : x = hp.nx
    · subst hxn
      rw [Emb.put_same] at he'
      injection he' with he'
      subst he'
      exact .inl ⟨b, e, hbn, he, hl, rfl⟩
    · rw [Emb.put_other _ _ hxn] at he'
      obtain ⟨k1, -⟩ := hback x e' he' hl'
      exact .inl ⟨x, e', by simp only at hx; omega, k1, hl', rfl⟩
  · intro x hx
    simp only at hx
    rw [Emb.put_other _ _ (by omega), Emb.kill_other m (by omega)]
  · intro x hx hlo
    have hxb : x ≠ b := fun hh => by
      have := least_le_left b hp.lo
      simp only at hlo
      omega
    exact ⟨by simp only [Tr.get_set, if_neg (show x ≠ hp.nx by omega), if_neg hxb], by rw [Emb.put_other _ _ (by omega), Emb.kill_other m hxb]⟩
theorem step_overO {m : Emb} {hp : Hp} {w : World} (inv : Inv m hp w.heap) (hf : m hp.nx = none) {b : Nat} {e : Ent} (he : m b = some e) {ob ob' : AObj} (hob : hp.tr.get b = some ob) (hnd : ob ≠ .dead) {o' : Obj} {oo : Nat} {op : Option (Nat × Nat)}
    (hor : OR m ob' ⟨e.c, oo, op, true⟩ (w.heap.setIfInBounds e.c o')) :
    Step m hp w ((m.kill b).put hp.nx ⟨e.c, oo, op, true⟩) { tr := (hp.tr.set b .dead).set hp.nx ob', nx := Nat.succ hp.nx, lo := least b hp.lo } { w with heap := w.heap.setIfInBounds e.c o' } := by
  have hlt : e.c < w.heap.size := inv.low b e he
  have hbn : b < hp.nx := inv.dom b _ hob
  obtain ⟨hl, -⟩ := inv.obj b e _ he hob hnd
  have hkn : (m.kill b) hp.nx = none := (Emb.kill_other m (by omega)).trans hf
  have hle : m.le ((m.kill b).put hp.nx ⟨e.c, oo, op, true⟩) := Emb.le_trans (Emb.le_kill m b) (Emb.le_put _ hkn)
  have hget : ∀ c, c ≠ e.c → (w.heap.setIfInBounds e.c o')[c]? = w.heap[c]? := fun c hc => Array.getElem?_setIfInBounds_ne (fun h => hc h.symm)
  have hback : ∀ x e', (m.kill b) x = some e' → e'.live = true → m x = some e' ∧ x ≠ b := fun x e' he' hl' => by
    by_cases hx : x = b
    · subst hx
      rw [Emb.kill_same he] at he'
      injection he' with he'
      subst he'
      cases hl'
    · exact ⟨by rwa [Emb.kill_other m hx] at he', hx⟩
  refine ⟨hle, ⟨?_, ?_, ?_, ?_⟩, rfl, rfl, rfl, by simp, ?_, ?_, ?_, Nat.le_succ _, least_le_right _ _, ?_⟩
  · intro x e' o2 he' ho' hd
    by_cases hx : x = hp.nx
    · subst hx
      rw [Emb.put_same] at he'
      injection he' with he'
      subst he'
      simp only [Tr.get_set, if_true] at ho'
      injection ho' with ho'
      subst ho'
      exact ⟨rfl, hor.mono hle⟩
    · rw [Emb.put_other _ _ hx] at he'
      simp only [Tr.get_set, if_neg hx] at ho'
      by_cases hxb : x = b
      · subst hxb
        rw [if_pos rfl] at ho'
        injection ho' with ho'
        exact absurd ho'.symm hd
      · rw [if_neg hxb] at ho'
        rw [Emb.kill_other m hxb] at he'
        obtain ⟨l1, l2⟩ := inv.obj x e' o2 he' ho' hd
        exact ⟨l1, (l2.mono hle).heap (hget _ (fun hc => hxb (inv.inj x b e' e he' he l1 hl hc)))⟩
  · intro x x' e1 e2 h1' h2' l1 l2 hc
    by_cases hx : x = hp.nx <;> by_cases hx' : x' = hp.nx
    · rw [hx, hx']
    · subst hx
      rw [Emb.put_same] at h1'
      injection h1' with h1'
      subst h1'
      rw [Emb.put_other _ _ hx'] at h2'
      obtain ⟨k1, k2⟩ := hback x' e2 h2' l2
      exact absurd (inv.inj b x' e e2 he k1 hl l2 hc).symm k2
    · subst hx'
      rw [Emb.put_same] at h2'
      injection h2' with h2'
      subst h2'
      rw [Emb.put_other _ _ hx] at h1'
      obtain ⟨k1, k2⟩ := hback x e1 h1' l1
      exact absurd (inv.inj x b e1 e k1 he l1 hl hc) k2
    · rw [Emb.put_other _ _ hx] at h1'
      rw [Emb.put_other _ _ hx'] at h2'
      exact inv.inj x x' e1 e2 (hback x e1 h1' l1).1 (hback x' e2 h2' l2).1 l1 l2 hc
  · intro x e' he'
    simp only [Array.size_setIfInBounds]
    by_cases hx : x = hp.nx
    · subst hx
      rw [Emb.put_same] at he'
      injection he' with he'
      subst he'
      exact hlt
    · rw [Emb.put_other _ _ hx] at he'
      by_cases hxb : x = b
      · subst hxb
        rw [Emb.kill_same he] at he'
        injection he' with he'
        subst he'
        exact hlt
      · rw [Emb.kill_other m hxb] at he'
        exact inv.low x e' he'
  · intro x o2 ho'
    simp only [Tr.get_set] at ho'
    by_cases hx : x = hp.nx
    · subst hx; exact Nat.lt_succ_self _
    · rw [if_neg hx] at ho'
      by_cases hxb : x = b
      · subst hxb; exact Nat.lt_succ_of_lt hbn
      · rw [if_neg hxb] at ho'
        exact Nat.lt_succ_of_lt (inv.dom x o2 ho')
  · intro c hc h
    exact hget c (fun hh => h b e hbn he hl hh.symm)
  · intro x e' hx he' hl'
    by_cases hxn : x = hp.nx
    · subst hxn
      rw [Emb.put_same] at he'
      injection he' with he'
      subst he'
      exact .inl ⟨b, e, hbn, he, hl, rfl⟩
    · rw [Emb.put_other _ _ hxn] at he'
      obtain ⟨k1, -⟩ := hback x e' he' hl'
      exact .inl ⟨x, e', by simp only at hx; omega, k1, hl', rfl⟩
  · intro x hx
    simp only at hx
    rw [Emb.put_other _ _ (by omega), Emb.kill_other m (by omega)]
  · intro x hx hlo
    have hxb : x ≠ b := fun hh => by
      have := least_le_left b hp.lo
      simp only at hlo
      omega
    exact ⟨by simp only [Tr.get_set, if_neg (show x ≠ hp.nx by omega), if_neg hxb], by rw [Emb.put_other _ _ (by omega), Emb.kill_other m hxb]⟩
theorem storeQ_ok {P : Program} {cx : Cx} (ok : CxOk P cx) {m : Emb} {hp hp' : Hp} {w : World} (gw : GW cx m w) (inv : Inv m hp w.heap) {t : TypeId} {b : Nat} {xs ys : List Value} {p' v v' : Value} (hp0 : RV m (.func (.yield b) ⟨xs⟩ ⟨ys⟩) p') (hv : RV m v v') (h : storeQ cx hp t b xs ys v = some hp') :
    ∃ a w', p' = .pointer (some a) ∧ (storeVar t a v').run P w = .ok () w' ∧ Step m hp w m hp' w' := by
  unfold storeQ at h
  split at h
  case h_2 => cases h
  rename_i i z o hsp
  obtain rfl := seqPtr_iff hsp
  split at h
  case h_2 => cases h
  rename_i ti e n ks ty hti hob
  have hti := ok.ty _ _ hti
  split at h
  case h_2 => cases h
  rename_i h1 h2 h3 h4 h5 h6
  injection h with h
  subst h
  have h1 := Nat.eq_of_beq_eq_true h1
  have h5 := Nat.eq_of_beq_eq_true h5
  rw [len_eq] at h1 h5
  rw [Bool.and_eq_true] at h2 h4
  have h2s := Nat.le_of_ble_eq_true h2.2
  have h2 := Nat.le_of_ble_eq_true h2.1
  obtain ⟨kd, j, en, rfl, hi, he⟩ := hp0.seqp_parts
  obtain ⟨hl, cells, cs, fr, ⟨⟨d, hden⟩, ⟨k, hn, hlen⟩, hcell⟩, hheap, hfr, hop⟩ := inv.obj b en _ he hob (by simp)
  obtain ⟨k1, n1, k2, j1, hn', hj', hlt⟩ := tLt_iff (ltS_ok gw.as h4.1 hn hi h4.2 h3)
  injection hn' with _ hn'
  injection hn' with hn'
  injection hj' with _ hj'
  injection hj' with hj'
  subst hn'; subst hj'
  have hcs := hv.cells
  obtain ⟨hsf, hty⟩ := cellsK_ok h6 hcs
  have hll : (cellsOf v').length = ti.size := by rw [← hcs.1]; exact h5
  have hle : j * z + z ≤ cells.length := by
    rw [hlen, h1]
    have := Nat.mul_le_mul_right z (show j + 1 ≤ k from hlt)
    rw [Nat.succ_mul] at this
    exact this
  have hlast : ∀ q, q < cells.length → en.o + q < cs.size := fun q hq => by
    have := (hcell q _ (List.getElem?_eq_getElem hq)).2
    exact (Array.getElem?_eq_some_iff.1 this).1
  have hfit : j * z + o + (cellsOf v').length ≤ cells.length := by omega
  have hbound : en.o + (j * z + o) + (cellsOf v').length ≤ cs.size := by
    have := hlast (j * z + o + ((cellsOf v').length - 1)) (by omega)
    omega
  have hac : allCell (cellsOf v') = true := allCell_of hty
  have hst := run_storeFrom (P := P) (c := en.c) (o := en.o + (j * z + o)) (cellsOf v') 0 w cs hheap hac (by simpa using hbound) hfr.none_
  have hkz : (ks.length) = z := h1
  refine ⟨_, _, rfl, ?_, step_put (o' := .cells (writeL cs (en.o + (j * z + o) + 0) (cellsOf v')) ty fr) inv he hob (by simp) ?_⟩
  · have : v'.cells.size = ti.size := by rw [cells_size]; exact hll
    simp only [storeVar, Sem.run_bind, run_size hti, Result.andThen_ok, this, cells_list]
    simpa using hst
  · have hlt2 : en.c < w.heap.size := inv.low b en he
    refine ⟨overL cells (j * z + o) (cellsOf v'), writeL cs (en.o + (j * z + o) + 0) (cellsOf v'), fr, ⟨?_, ⟨k, hn, by rw [overL_length hfit, hlen]⟩, fun q u hq => ?_⟩, by simp [hlt2], by rw [writeL_size]; exact hfr, by rw [writeL_size]; exact hop⟩
    · refine denS_iff.1 ?_
      rw [denS_app, mapO_of (denS_flat rfl) (mapO_of (denS_of hden) (mapO_of (hi.to_denS h3) (mapO_of (denS_flat rfl) (mapO_of (denS_flat rfl) (hcs.to_denS hsf)))))]
      show m.u 10 _ = _
      rw [gw.as.seq]
      rfl
    · rw [overL_get hfit] at hq
      rw [Nat.add_zero, writeL_get _ _ _ _ hbound]
      by_cases hin : j * z + o ≤ q ∧ q < j * z + o + (cellsOf v').length
      · rw [if_pos hin] at hq
        rw [if_pos (by omega), show en.o + q - (en.o + (j * z + o)) = q - (j * z + o) by omega]
        refine ⟨?_, hq⟩
        have := hty _ _ hq
        rwa [hkz, show (o + (q - (j * z + o))) % z = q % z by rw [← Nat.mul_add_mod' j z, show j * z + (o + (q - (j * z + o))) = q by omega], ← hkz] at this
      · rw [if_neg hin] at hq
        rw [if_neg (by omega)]
        exact hcell q u hq
theorem allCell_right {l r : List Value} (h : allCell (l ++ r) = true) : allCell r = true := by
  induction l with
  | nil => exact h
  | cons x l ih =>
    rw [List.cons_append, allCell_cons, Bool.and_eq_true] at h
    exact ih h.2
section
variable {P : Program} {cx : Cx} (ok : CxOk P cx) {m : Emb} {hp : Hp} {w : World}
include ok
theorem rs_first (inv : Inv m hp w.heap) {a a' : Addr} {n c c' k : Nat} (h : RS m a n c a' c') {l : List Value} (hl : getRow hp a k = some l) (hk : n = 0 → k = 0) :
    ∃ l', RVs m l l' ∧ l'.length = k ∧ (∀ j, (loadCells a' k).run P { w with drawn := j } = .ok ⟨l'⟩ { w with drawn := j }) ∧ ∀ j v, l'[j]? = some v → w.cell? (a'.add j) = some v := by
  rcases Nat.eq_zero_or_pos k with h0 | h0
  · subst h0
    obtain ⟨_, _, _, _, _, _, _, hlen, _⟩ := getRow_parts hl
    have : l = [] := List.eq_nil_of_length_eq_zero hlen
    subst this
    exact ⟨[], .nil m, rfl, fun _ => rfl, fun j v hv => by simp at hv⟩
  · have hra : RA m a a' := by
      obtain ⟨hsp, en, he, hr⟩ := h
      refine ⟨hsp, en, he, ?_⟩
      rcases hr with ⟨-, r2, -⟩ | ⟨tot, z, -, r2, r3, r4, -⟩
      · exact r2
      · rcases r4 with r4 | r4
        · have := hk r4.1; omega
        · obtain ⟨b', o', s'⟩ := a'
          simp only at r2 r3 r4
          rw [r2, r3, r4]
    obtain ⟨l', h1, h2, h3⟩ := getRow_spec inv hra hl
    exact ⟨l', h1, h2, fun j => run_loadCells h2 h3, h3⟩
theorem firstA_ok (inv : Inv m hp w.heap) {x x' : Value} {size k n0 : Nat} {l : List Value} (hx : RV m x x') (h : firstA hp size k x = some l) (hn : lenOfA x = some n0) (hk : n0 = 0 → k = 0) :
    ∃ l', RVs m l l' ∧ ∀ j, (Builtin.firstCells size k x').run P { w with drawn := j } = .ok ⟨l'⟩ { w with drawn := j } := by
  unfold firstA at h
  split at h
  · rename_i a n c
    obtain ⟨a', c', rfl, ha⟩ := hx.slice_iff
    simp only [lenOfA] at hn
    injection hn with hn
    subst hn
    obtain ⟨l', h1, -, h2, -⟩ := rs_first (P := P) ok inv ha h (fun h0 => by rw [hk h0, Nat.zero_mul])
    exact ⟨l', h1, h2⟩
  · obtain rfl := hx.flat_iff rfl
    injection h with h
    subst h
    exact ⟨[], .nil m, fun _ => rfl⟩
  · rename_i s
    obtain rfl := hx.flat_iff rfl
    injection h with h
    subst h
    refine ⟨_, flat_rvs (List.all_eq_true.2 fun x hx => by obtain ⟨y, _, rfl⟩ := List.mem_map.1 hx; rfl), fun j => ?_⟩
    simp only [Builtin.firstCells, Sem.run_pure]
    congr 1
    apply Array.ext'
    simp [ByteArray.data_extract]
  · cases h
omit ok in
theorem firstA_len {size k : Nat} {x : Value} {l : List Value} (h : firstA hp size k x = some l) : l.length ≤ k * size + k := by
  unfold firstA at h
  split at h
  · obtain ⟨_, _, _, _, _, _, _, hlen, _⟩ := getRow_parts h
    omega
  · injection h with h; subst h; simp
  · injection h with h; subst h; simp; omega
  · cases h
theorem lenOfA_ok {x x' : Value} {k : Nat} (hx : RV m x x') (h : lenOfA x = some k) (w : World) : (Builtin.lenOf x').run P w = .ok k w := by
  unfold lenOfA at h
  split at h
  · rename_i a n c
    injection h with h
    subst h
    cases a with
    | none => obtain rfl := hx.flat_iff rfl; rfl
    | some a => obtain ⟨a', c', rfl, -⟩ := hx.slice_iff; rfl
  · obtain rfl := hx.flat_iff rfl
    injection h with h
    subst h
    rfl
  · cases h
theorem newsA_ok (inv : Inv m hp w.heap) {e : TypeId} {te : TI} (hte : tiOf P e = some te) {u : TypeDesc} {x x' : Value} {k : Nat} {l : List Value} (hx : RV m x x') (h : newsA hp te u x = some (k, l)) :
    ∃ l', RVs m l l' ∧ Count P (isIntD u) te.bytes k x' ∧ ∀ j, (newsS (isIntD u) te.size k e x').run P { w with drawn := j } = .ok ⟨l'⟩ { w with drawn := j } := by
  unfold newsA at h
  split at h
  · rename_i hint
    split at h
    · rename_i q n
      obtain rfl := hx.flat_iff rfl
      split at h
      · rename_i b1 b2 b3
        have b1 := Nat.le_of_ble_eq_true b1
        have b2 := Nat.le_of_ble_eq_true b2
        have b3 := Nat.eq_of_beq_eq_true b3
        injection h with h
        injection h with h1 h2
        subst h1 h2
        obtain ⟨i, -, -, -, -, -, -, hfl⟩ := ti_parts hte
        refine ⟨_, flat_rvs (flat_repeat hfl n), .inr ⟨hint, b1, b2, q, rfl⟩, fun j => ?_⟩
        unfold newsS
        rw [hint]
        simp only [Bool.not_true, Bool.false_eq_true, if_false]
        split
        · rename_i h0
          have : zerosA te n = [] := List.eq_nil_of_length_eq_zero (by
            rw [len_eq] at b3
            unfold zerosA
            rw [repeatA_len, b3, h0])
          rw [this]
          rfl
        · rw [run_then (run_zero hte _)]
          simp only [Sem.run_pure]
          congr 1
          apply Array.ext'
          rw [zeroCells_eq]
          rfl
      · cases h
    · cases h
  · rename_i hint
    split at h
    · rename_i k0 hk0
      split at h
      · rename_i l0 hl0
        injection h with h
        injection h with h1 h2
        subst h1 h2
        obtain ⟨l', h1, h2⟩ := firstA_ok (P := P) ok inv hx hl0 hk0 (fun h => h)
        refine ⟨l', h1, .inl ⟨hint, lenOfA_ok ok hx hk0⟩, fun j => ?_⟩
        unfold newsS
        rw [hint]
        exact h2 j
      · cases h
    · cases h
theorem growA_parts {te : TI} {e : TypeId} {str : Bool} {need : Nat} {l : List Value} {v : Value} {hp' : Hp} (h : growA hp te e str need l = some (v, hp')) :
    (cellsOf te.zero).length = te.size ∧ l.length = need * te.size ∧ need ≤ 1048576 ∧ te.bytes ≤ 65536 ∧ 1 ≤ te.size ∧ allCell l = true ∧ v = .slice (some ⟨hp.nx, 0, none⟩) need need ∧
      hp' = { tr := hp.tr.set hp.nx (.cells (Tr.putList l .nil 0) (len l) e (some te.size) str), nx := Nat.succ hp.nx, lo := hp.lo } := by
  unfold growA at h
  split at h
  · rename_i b1 b2 b3 b4 b5 b6
    have b1 := Nat.eq_of_beq_eq_true b1
    have b2 := Nat.eq_of_beq_eq_true b2
    rw [len_eq] at b1 b2
    injection h with h
    injection h with h1 h2
    exact ⟨b1, b2, Nat.le_of_ble_eq_true b3, Nat.le_of_ble_eq_true b4, Nat.le_of_ble_eq_true b5, b6, h1.symm, h2.symm⟩
  · cases h
theorem grow_step (inv : Inv m hp w.heap) (hf : m hp.nx = none) {e : TypeId} {te : TI} {str : Bool} {need cap : Nat} {l l' : List Value} (hl : RVs m l l') (hlen : l.length = need * te.size) (hz : (cellsOf te.zero).length = te.size) (hcap : need ≤ cap) :
    Step m hp w (m.put hp.nx ⟨w.heap.size, 0, some (cap * te.size, te.size), true⟩) { tr := hp.tr.set hp.nx (.cells (Tr.putList l .nil 0) (len l) e (some te.size) str), nx := Nat.succ hp.nx, lo := hp.lo }
      { w with heap := w.heap.push (.cells ((⟨l'⟩ : Array Value) ++ Builtin.zeroCells te.zero.cells (cap - need)) e), drawn := w.drawn + 1 } ∧
    RV (m.put hp.nx ⟨w.heap.size, 0, some (cap * te.size, te.size), true⟩) (.slice (some ⟨hp.nx, 0, none⟩) need need) (.slice (some ⟨w.heap.size, 0, none⟩) need cap) := by
  have hzs : (Builtin.zeroCells te.zero.cells (cap - need)).size = (cap - need) * te.size := by
    rw [← Array.length_toList, zeroCells_eq, repeatA_len, hz]
  have hll : l'.length = l.length := hl.1.symm
  have hsz : ((⟨l'⟩ : Array Value) ++ Builtin.zeroCells te.zero.cells (cap - need)).size = cap * te.size := by
    rw [Array.size_append, hzs]
    show l'.length + _ = _
    rw [hll, hlen, ← Nat.add_mul, show need + (cap - need) = cap from by omega]
  refine ⟨step_new inv hf (op := some (cap * te.size, te.size)) (fun i hi => ?_) (fun h => by cases h) (fun tot z h => by injection h with h; injection h with h _; rw [← h]; exact hsz) (FrOk.plain _ _) (w.drawn + 1), ?_⟩
  · rw [len_eq] at hi
    obtain ⟨v', h1, h2⟩ := hl.at_ (List.getElem?_eq_getElem hi)
    refine ⟨l[i], v', by rw [Tr.get_putList, if_pos (by omega), Nat.sub_zero]; exact List.getElem?_eq_getElem hi, ?_, h2⟩
    rw [Array.getElem?_append_left (by show i < l'.length; omega)]
    simpa using h1
  · exact .slice _ _ _ _ _ ⟨rfl, _, Emb.put_same _ _ _, .inr ⟨_, _, rfl, rfl, rfl, .inr rfl, hcap, by simp⟩⟩
theorem appendS_ok (gw : GW cx m w) (inv : Inv m hp w.heap) {t u e : TypeId} {ti te tu : TI} {s x s' x' v : Value} {hp' : Hp} (hf : Fresh m hp.nx hp'.nx) {ty : TypeId} (hs : RV m s s') (hx : RV m x x') (hd : ti.desc = .slice e) (hti : tiOf P t = some ti) (htu : tiOf P u = some tu) (hte : tiOf P e = some te)
    (h : appendS cx hp e te tu.desc s x = some (v, hp')) : Turns P m hp w (Builtin.append_ #[t, u] ty #[s', x']) v hp' := by
  have ut : ∀ w, (underlying t).run P w = .ok (.slice e) w := fun w => by rw [run_under hti, hd]
  have uu : ∀ w, (underlying u).run P w = .ok tu.desc w := fun w => run_under htu w
  unfold appendS at h
  split at h
  case h_2 => cases h
  rename_i ts hsx hint hemp hts
  split at h
  case h_2 => cases h
  rename_i h1 h2 h3
  have h2 := Nat.eq_of_beq_eq_true h2
  have h3 := Nat.eq_of_beq_eq_true h3
  rw [len_eq] at h2 h3
  have hfx : symFlat x = true := by simp [symFlat, hsx]
  have hP := ok.prog
  have hE := isTrue_ok gw.as h1 (.cons (.flat (num 8) rfl) (.cons (.flat (num e) rfl) (.cons hx (.nil m)))) (by simp only [List.all_cons, hfx]; rfl) (b := deepE cx.P (fun a => m.u 5 [.pointer (some a)]) e x') rfl
  obtain ⟨t', f, hu', hR⟩ := @of_decide_eq_true _ (Classical.propDecidable _) hE
  obtain ⟨A, n, c, rfl, hA, hn⟩ := rds_slice hu' hR
  have hse : ∃ B, s' = .slice B 0 0 := by
    unfold emptyS at hemp
    split at hemp
    · rename_i n0 c0
      rw [Bool.and_eq_true] at hemp
      obtain rfl := Nat.eq_of_beq_eq_true hemp.1
      obtain rfl := Nat.eq_of_beq_eq_true hemp.2
      exact ⟨none, hs.flat_iff rfl⟩
    · rename_i a n0 c0
      rw [Bool.and_eq_true, Bool.and_eq_true] at hemp
      obtain rfl := Nat.eq_of_beq_eq_true hemp.1
      obtain rfl := Nat.eq_of_beq_eq_true hemp.2.1
      have hob := hemp.2.2
      split at hob
      · rename_i tb nb e' str hob'
        obtain ⟨a', c', rfl, hrs⟩ := hs.slice_iff
        obtain ⟨-, en, hen, hr⟩ := hrs
        obtain ⟨-, ho, -⟩ := inv.obj _ en _ hen hob' (by simp)
        rcases hr with ⟨-, -, rfl⟩ | ⟨tot, z, h4, -⟩
        · exact ⟨some a', rfl⟩
        · rw [h4] at ho
          cases ho
      · cases hob
    · cases hemp
  obtain ⟨B, rfl⟩ := hse
  have hcount : Count P (isIntD tu.desc) te.bytes n (.slice A n c) := by
    rw [hint]
    exact .inl ⟨rfl, fun w => rfl⟩
  have hfact : ∀ b, lookS (sy 1 9 [num 7, x]) cx.as = some b → tNe (.slice A n c) = b := fun b hb => by
    have hr : RV m (sy 1 9 [num 7, x]) (.bool (tNe (.slice A n c))) := RV.app (k := 8) (.cons (.flat (num 7) rfl) (.cons hx (.nil m))) (by simp only [List.all_cons, hfx]; rfl) (by rw [gw.as.rd 8 _ (by omega)]; rfl) rfl
    obtain ⟨⟨d, hd⟩, ht⟩ := hr.sym_iff rfl
    have := gw.as.as _ _ (lookS_mem hb) rfl d _ hd ht
    injection this
  split at h
  · rename_i hno
    injection h with h
    injection h with g1 g2
    subst g1; subst g2
    have hn0 : n = 0 := by
      have := hfact _ hno
      unfold tNe at this
      simp only at this
      rcases Nat.eq_zero_or_pos n with h0 | h0
      · exact h0
      · rw [show Nat.blt 0 n = true from Nat.blt_eq.mpr h0] at this; cases this
    subst hn0
    have hnew : (newsS (isIntD tu.desc) te.size 0 e (.slice A 0 c)).run P w = .ok #[] w := by
      unfold newsS
      rw [hint]
      simp only [Bool.not_false, if_true]
      cases A with
      | none => rfl
      | some a =>
        show (loadCells a (0 * te.size)).run P w = _
        rw [Nat.zero_mul]
        exact run_loadCells (l := []) rfl (fun j v h => by simp at h)
    have hr := app_in (ty := ty) (base := B) (n := 0) (c := 0) ut uu rfl hte hcount (Nat.le_refl 0) hnew
    refine ⟨m, _, w, ?_, .refl inv, hs⟩
    rw [hr]
    cases B with
    | none => rfl
    | some a => rfl
  · rename_i hyes
    injection h with h
    injection h with g1 g2
    subst g1; subst g2
    have hn0 : 0 < n := by
      have := hfact _ hyes
      unfold tNe at this
      exact Nat.blt_eq.mp this
    cases A with
    | none => have := hA rfl; omega
    | some a =>
      have hts' : flatT cx.P 30 e = some ts := hts
      obtain ⟨l, k1, k2, k3⟩ := cells_of_slice hu' hR hts'
      rw [h2] at k1 k2 k3
      have hcell : ∀ i v, l[i]? = some v → w.cell? (a.add i) = some v := fun i v hv => (gw.frz _ _ (k3 i v hv).1).1
      have hby : n * te.bytes ≤ 140737488351232 := by
        cases f with
        | zero => exact hR.elim
        | succ f =>
          unfold Rds at hR
          rw [hu'] at hR
          obtain ⟨q1, ⟨-, q2⟩, -⟩ := hR
          have hb : cx.P.bytesOf e = te.bytes := by
            obtain ⟨i, i1, -, -, -, i5, -⟩ := ti_parts hte
            rw [hP]
            unfold Program.bytesOf
            rw [i1]
            exact i5.symm
          rw [hb] at q2
          exact q2
      have hcapb : ¬ (Builtin.nextslicecap (0 + n) 0 * te.bytes > 2 ^ 48) := by
        unfold Builtin.nextslicecap
        rw [if_pos (by omega), Nat.zero_add]
        omega
      obtain ⟨cap, c1, c2⟩ := app_growC (ty := ty) (P := P) (w := w) (base := B) (n := 0) (c := 0) (k := n) (x := .slice (some a) n c) ut uu rfl hte hcount (by omega) (by omega) hcapb (old := #[]) (new := ⟨l⟩)
        (fun j => by cases B with
          | none => rfl
          | some b =>
            show (loadCells b (0 * te.size)).run P _ = _
            rw [Nat.zero_mul]
            exact run_loadCells (l := []) rfl (fun j v h => by simp at h))
        (fun j => by
          unfold newsS
          rw [hint]
          simp only [Bool.not_false, if_true]
          exact run_loadCells (w := { w with drawn := j }) k2 (fun i v hv => hcell i v hv))
      have hzs : (Builtin.zeroCells te.zero.cells (cap - (0 + n))).size = (cap - (0 + n)) * te.size := by
        rw [← Array.length_toList, zeroCells_eq, repeatA_len, h3]
      have hlenv : RV m (sy 6 5 [x]) (.int .i64 (.ofNat n)) := RV.app (k := 4) (l' := [.slice (some a) n c]) (.cons hx (.nil m)) (by simp only [List.all_cons, hfx]; rfl) (by rw [gw.as.rd 4 _ (by omega)]; rfl) (by
        simp [tyOk, kindCode, IntKind.min, IntKind.max, IntKind.bits, IntKind.signed]
        omega)
      have hll : l.length = n * te.size := k2
      have hcs : ((#[] : Array Value) ++ ⟨l⟩ ++ Builtin.zeroCells te.zero.cells (cap - (0 + n))).size = cap * te.size := by
        rw [Array.size_append, Array.size_append, hzs]
        show 0 + l.length + _ = _
        rw [hll, Nat.zero_add, Nat.zero_add, ← Nat.add_mul, show n + (cap - n) = cap by omega]
      have hor : OR m (.seq (sy 0 10 [num te.size, x]) (sy 6 5 [x]) (ts.map (cellTy cx.P)) e) ⟨w.heap.size, 0, some (cap * te.size, te.size), true⟩ (w.heap.push (.cells (#[] ++ ⟨l⟩ ++ Builtin.zeroCells te.zero.cells (cap - (0 + n))) e)) := by
        refine ⟨l, _, (0, 0), ⟨?_, ⟨n, hlenv, by rw [List.length_map, h2]; exact k2⟩, fun i v hv => ⟨by rw [List.length_map, h2]; exact (k3 i v hv).2, ?_⟩⟩, getD_push_size, FrOk.plain _ _, by rw [hcs, List.length_map, h2]⟩
        · obtain ⟨d, hdx⟩ := hx.den_iff hfx
          refine ⟨d + 1 + 1, den_fn_of (mapO_of (den_flat rfl d) (mapO_of (den_mono (Nat.le_succ d) hdx) rfl)) ?_⟩
          rw [gw.as.rd 9 _ (by omega)]
          show (match readN (fun a => m.u 5 [.pointer (some a)]) a (n * te.size) with | some l => some (Value.agg ⟨l⟩) | none => none) = _
          rw [k1]
        · have hil : i < l.length := (List.getElem?_eq_some_iff.1 hv).1
          show (#[] ++ ⟨l⟩ ++ Builtin.zeroCells te.zero.cells (cap - (0 + n)))[0 + i]? = some v
          rw [Nat.zero_add, Array.getElem?_append_left (by simpa using hil)]
          simpa using hv
      have st := step_newob (m := m) (hp := hp) (w := w) inv (hf hp.nx (Nat.le_refl _) (Nat.lt_succ_self _)) hor
      rw [Nat.zero_add] at c2
      refine ⟨_, _, _, c2, ⟨st.le, by simpa only [Nat.zero_add] using st.inv, st.os, st.tape, st.output, by simpa only [Nat.zero_add] using st.size, fun cc hc hne => by simpa only [Nat.zero_add] using st.keep cc hc hne, st.rng, st.far, st.nx, st.lo, st.low⟩, ?_⟩
      exact .seq _ _ n cap _ (hlenv.mono st.le) (by omega) ⟨_, _, _, Emb.put_same _ _ _, rfl, rfl, by show 0 + cap * te.size ≤ cap * te.size; omega⟩
  · cases h
theorem appendA_ok (gw : GW cx m w) (inv : Inv m hp w.heap) {t u : TypeId} {s x s' x' v : Value} {hp' : Hp} (hf : Fresh m hp.nx hp'.nx) {ty : TypeId} (hs : RV m s s') (hx : RV m x x') (h : appendA cx hp t u s x = some (v, hp')) :
    Turns P m hp w (Builtin.append_ #[t, u] ty #[s', x']) v hp' := by
  unfold appendA at h
  split at h
  · rename_i ti tu hti htu
    have hti := ok.ty _ _ hti
    have htu := ok.ty _ _ htu
    split at h
    · rename_i e hd
      have ut : ∀ w, (underlying t).run P w = .ok (.slice e) w := fun w => by rw [run_under hti, hd]
      have uu : ∀ w, (underlying u).run P w = .ok tu.desc w := fun w => run_under htu w
      split at h
      · rename_i te hte
        have hte := ok.ty _ _ hte
        split at h
        · exact appendS_ok ok gw inv hf hs hx hd hti htu hte h
        · rename_i k l hnews
          obtain ⟨l', hl, hcount, hrun⟩ := newsA_ok (P := P) ok inv hte hx hnews
          have hrun0 : (newsS (isIntD tu.desc) te.size k e x').run P w = .ok ⟨l'⟩ w := hrun w.drawn
          split at h
          · rename_i n c
            obtain rfl := hs.flat_iff rfl
            split at h
            · rename_i b1 b2
              have b1 := Nat.eq_of_beq_eq_true b1
              have b2 := Nat.eq_of_beq_eq_true b2
              subst b1 b2
              split at h
              · injection h with h
                injection h with h1 h2
                subst h1 h2
                refine Reads.turns inv (.same ?_ rfl)
                exact app_in ut uu rfl hte hcount (Nat.le_refl _) hrun0
              · rename_i k' hk'
                obtain ⟨g1, g2, g3, g4, g5, g6, rfl, rfl⟩ := growA_parts ok h
                have hk0 : k ≠ 0 := fun h0 => hk' h0
                obtain ⟨cap, c1, c2⟩ := app_grow (c := 0) (n := 0) ut uu rfl hte hcount (base := none) (ty := ty) (w := w) (by omega) (by omega) g4 (old := #[]) (fun _ => rfl) hrun
                obtain ⟨st, rv⟩ := grow_step (P := P) ok (w := w) inv (hf hp.nx (Nat.le_refl _) (Nat.lt_succ_self _)) (str := false) (e := e) hl g2 g1 (by omega : k ≤ cap)
                refine ⟨_, _, _, ?_, st, rv⟩
                rw [c2]
                simp only [Nat.zero_add, Array.empty_append]
            · cases h
          · rename_i a n c
            obtain ⟨a', c', rfl, ha⟩ := hs.slice_iff
            split at h
            · rename_i tb nb e' op str hob
              split at h
              · cases h
              · rename_i hee
                have hee := Nat.eq_of_beq_eq_true hee
                subst hee
                have ha0 := ha
                obtain ⟨hsp, en, he, hr⟩ := ha
                obtain ⟨hlive, hopo, cs, fr, hcs, hrel, ho1, ho2, hfr⟩ := inv.obj _ en _ he hob (by simp)
                split at h
                · have hop : en.op = none := by
                    cases hop : en.op with
                    | none => rfl
                    | some p => rw [hop] at hopo; cases hopo
                  have hra : RA m a a' ∧ c' = c := by
                    rcases hr with ⟨-, r2, r3⟩ | ⟨tot, z, r1, -⟩
                    · exact ⟨⟨hsp, en, he, r2⟩, r3⟩
                    · rw [hop] at r1; cases r1
                  obtain ⟨hra, rfl⟩ := hra
                  split at h
                  · rename_i hle
                    have hle := Nat.le_of_ble_eq_true hle
                    split at h
                    · rename_i hp2 hput
                      injection h with h
                      injection h with h1 h2
                      subst h1 h2
                      obtain ⟨w', r1, r2⟩ := putRow_run P inv (ra_add hra (n * te.size)) hl hput
                      refine ⟨m, .slice (some a') (n + k) c', w', ?_, r2, .slice _ _ _ _ _ ⟨hsp, en, he, .inl ⟨hop, ?_, rfl⟩⟩⟩
                      · rw [app_in ut uu rfl hte hcount hle hrun0]
                        simp only [r1, Result.andThen_ok]
                      · obtain ⟨-, en2, he2, r3⟩ := hra
                        rw [he] at he2
                        injection he2 with he2
                        subst he2
                        exact r3
                    · cases h
                  · rename_i hle
                    have hle : ¬ n + k ≤ c' := fun hh => by rw [Nat.ble_eq_true_of_le hh] at hle; cases hle
                    split at h
                    · rename_i old hold
                      obtain ⟨g1, g2, g3, g4, g5, g6, rfl, rfl⟩ := growA_parts ok h
                      obtain ⟨old', k1, k2, k3, k4⟩ := rs_first (P := P) ok inv ha0 hold (fun h0 => by rw [h0, Nat.zero_mul])
                      obtain ⟨cap, c1, c2⟩ := app_grow ut uu rfl hte hcount (base := some a') (ty := ty) (w := w) hle g3 g4 (old := ⟨old'⟩) k3 hrun
                      obtain ⟨st, rv⟩ := grow_step (P := P) ok (w := w) inv (hf hp.nx (Nat.le_refl _) (Nat.lt_succ_self _)) (str := false) (e := e) (k1.append hl) g2 g1 c1
                      refine ⟨_, _, _, ?_, st, rv⟩
                      rw [c2]
                      simp only [List.append_toArray]
                    · cases h
                · rename_i z hz0
                  split at h
                  · cases h
                  · rename_i hzz
                    have hzz := Nat.eq_of_beq_eq_true hzz
                    subst hzz
                    split at h
                    · rename_i hcn
                      rw [Bool.and_eq_true] at hcn
                      have hc1 := Nat.le_of_ble_eq_true hcn.1
                      have hle := Nat.le_of_ble_eq_true hcn.2
                      split at h
                      · rename_i hp2 hput
                        injection h with h
                        injection h with h1 h2
                        subst h1 h2
                        rcases hr with ⟨r1, -⟩ | ⟨tot2, z2, r1, r2, r3, r4, r5, r6⟩
                        · rw [r1] at hopo; cases hopo
                        have r4 : a'.off = en.o + a.off := by rcases r4 with r4 | r4 <;> omega
                        have hra : RA m a a' := ⟨hsp, en, he, by obtain ⟨b', o', s'⟩ := a'; simp only at r2 r3 r4; rw [r2, r3, r4]⟩
                        obtain ⟨w', q1, q2⟩ := putRow_run P inv (ra_add hra (n * te.size)) hl hput
                        refine ⟨m, .slice (some a') (n + k) c', w', ?_, q2, .slice _ _ _ _ _ ⟨hsp, en, he, .inr ⟨tot2, z2, r1, r2, r3, .inr r4, r5, r6⟩⟩⟩
                        rw [app_in ut uu rfl hte hcount (Nat.le_trans hle r5) hrun0]
                        simp only [q1, Result.andThen_ok]
                      · cases h
                    split at h
                    · rename_i old hold
                      obtain ⟨g1, g2, g3, g4, g5, g6, rfl, rfl⟩ := growA_parts ok h
                      obtain ⟨old', k1, k2, k3, k4⟩ := rs_first (P := P) ok inv ha0 hold (fun h0 => by rw [h0, Nat.zero_mul])
                      have hbn : a.block < hp.nx := inv.dom _ _ hob
                      have hfn : m hp.nx = none := hf hp.nx (Nat.le_refl _) (Nat.lt_succ_self _)
                      by_cases hle : n + k ≤ c'
                      · obtain ⟨tot, hop⟩ : ∃ tot, en.op = some (tot, te.size) := by
                          cases hop : en.op with
                          | none => rw [hop] at hopo; cases hopo
                          | some p => rw [hop] at hopo; injection hopo with hopo; exact ⟨p.1, by rw [hopo]⟩
                        rcases hr with ⟨r1, -⟩ | ⟨tot2, z2, r1, r2, r3, r4, r5, r6⟩
                        · rw [hop] at r1; cases r1
                        rw [hop] at r1
                        injection r1 with r1
                        injection r1 with r1 r1z
                        subst r1 r1z
                        have htot := ho2 _ _ hop
                        obtain ⟨ab, ao, asp⟩ := a'
                        simp only at r2 r3 r4 r6
                        subst r2 r3
                        have hlk : l'.length = k * te.size := by
                          have h1 := hl.1
                          have h2 := k1.1
                          rw [List.length_append, Nat.add_mul] at g2
                          omega
                        have hbound : ao + (n + k) * te.size ≤ cs.size := by
                          have := Nat.mul_le_mul_right te.size hle
                          omega
                        rw [Nat.add_mul] at hbound
                        have hll : l'.length = l.length := hl.1.symm
                        have hcell : Ev.allCell l' = true := by
                          rw [hl.allCell]
                          exact allCell_right g6
                        have hst := run_storeFrom (P := P) (c := en.c) (o := ao + n * te.size) l' 0 w cs hcs hcell (by omega) hfr.none_
                        have hwl : ao + n * te.size + l'.length ≤ cs.size := by omega
                        have st := step_over (w := w) inv hfn he hob hcs (cs' := writeL cs (ao + n * te.size + 0) l') (by rw [writeL_size]) (t := Tr.putList (old ++ l) .nil 0) (n := len (old ++ l)) (o := ao) hop (fun i hi => ?_) 0
                        · refine ⟨_, .slice (some ⟨en.c, ao, none⟩) (n + k) c', _, ?_, st, .slice _ _ _ _ _ ⟨rfl, _, Emb.put_same _ _ _, .inr ⟨tot, te.size, rfl, rfl, rfl, .inr rfl, hle, r6⟩⟩⟩
                          rw [app_in ut uu rfl hte hcount hle hrun0]
                          simp only [add_at, hst, Result.andThen_ok]
                        · rw [len_eq] at hi
                          have hrr := k1.append hl
                          obtain ⟨v', q1, q2⟩ := hrr.at_ (List.getElem?_eq_getElem hi)
                          refine ⟨(old ++ l)[i], v', by rw [Tr.get_putList, if_pos (by omega), Nat.sub_zero]; exact List.getElem?_eq_getElem hi, ?_, q2⟩
                          rw [Nat.add_zero, writeL_get _ _ _ _ hwl]
                          have hi2 := hi
                          rw [g2, Nat.add_mul] at hi2
                          by_cases hio : i < old'.length
                          · rw [if_neg (by omega)]
                            rw [List.getElem?_append_left hio] at q1
                            have t5 := k4 i v' q1
                            rw [add_at, cell_of hcs] at t5
                            exact t5
                          · rw [if_pos (by omega)]
                            rw [List.getElem?_append_right (by omega)] at q1
                            rw [show ao + i - (ao + n * te.size) = i - old'.length from by omega]
                            exact q1
                      · obtain ⟨cap, c1, c2⟩ := app_grow ut uu rfl hte hcount (base := some a') (ty := ty) (w := w) hle g3 g4 (old := ⟨old'⟩) k3 hrun
                        have sk := step_kill (w := w) inv hbn
                        have hfk : (m.kill a.block) (killA hp a.block).nx = none := (Emb.kill_other m (by show hp.nx ≠ a.block; omega)).trans hfn
                        obtain ⟨st, rv⟩ := grow_step (P := P) ok (w := w) sk.inv hfk (str := str) (e := e) ((k1.append hl).mono sk.le) g2 g1 c1
                        refine ⟨_, _, _, ?_, sk.trans st, rv⟩
                        rw [c2]
                        simp only [List.append_toArray]
                    · cases h
            · cases h
          · cases h
      · cases h
    · cases h
  · cases h
theorem srcQ_ok (gw : GW cx m w) (inv : Inv m hp w.heap) {e : TypeId} {te : TI} (hte : tiOf P e = some te) {ts : List TypeId} (hts : flatT cx.P 30 e = some ts) (h2 : ts.length = te.size) {u : TypeDesc} {x x' ex kE : Value} (hx : RV m x x')
    (h : srcQ cx hp te e u (ts.map (cellTy cx.P)) x = some (ex, kE)) :
    ∃ (l' : List Value) (k : Nat), (∃ d, den m.s m.u d ex = some (.agg ⟨l'⟩)) ∧ RV m kE (.int .i64 (.ofNat k)) ∧ symFlat kE = true ∧ l'.length = k * te.size ∧
      (∀ i v, l'[i]? = some v → tyOk ((ts.map (cellTy cx.P)).getD (i % (ts.map (cellTy cx.P)).length) 0) v = true) ∧ isIntD u = false ∧ Count P (isIntD u) te.bytes k x' ∧
      ∀ j, (newsS (isIntD u) te.size k e x').run P { w with drawn := j } = .ok ⟨l'⟩ { w with drawn := j } := by
  have hP := ok.prog
  unfold srcQ at h
  split at h
  · rename_i k l hnews
    split at h
    case h_2 => cases h
    rename_i h3 h4 h5
    have h4 := Nat.eq_of_beq_eq_true h4
    rw [len_eq] at h4
    injection h with h
    injection h with e1 e2
    subst e1; subst e2
    obtain ⟨l', hl, hcount, hrun⟩ := newsA_ok (P := P) ok inv hte hx hnews
    obtain ⟨q1, q2⟩ := cellsK_ok h3 hl
    refine ⟨l', k, denS_iff.1 ?_, .flat _ rfl, rfl, by rw [← hl.1]; exact h4, fun i v hi => by have := q2 i v hi; rwa [Nat.zero_add] at this, h5, hcount, hrun⟩
    rw [denS_app, mapO_of (denS_flat rfl) (hl.to_denS q1)]
    show m.u 10 _ = _
    rw [gw.as.seq]
    rfl
  · split at h
    · cases h
    · rename_i hint hsx
      split at h
      case h_2 => cases h
      rename_i h1
      injection h with h
      injection h with e1 e2
      subst e1; subst e2
      have hfx : symFlat x = true := by simp [symFlat, hsx]
      have hE := isTrue_ok gw.as h1 (.cons (.flat (num 8) rfl) (.cons (.flat (num e) rfl) (.cons hx (.nil m)))) (by simp only [List.all_cons, hfx]; rfl) (b := deepE cx.P (fun a => m.u 5 [.pointer (some a)]) e x') rfl
      obtain ⟨t', f, hu', hR⟩ := @of_decide_eq_true _ (Classical.propDecidable _) hE
      obtain ⟨A, n, c, rfl, hA, hn⟩ := rds_slice hu' hR
      have hlenv : RV m (sy 6 5 [x]) (.int .i64 (.ofNat n)) := RV.app (k := 4) (l' := [.slice A n c]) (.cons hx (.nil m)) (by simp only [List.all_cons, hfx]; rfl) (by rw [gw.as.rd 4 _ (by omega)]; rfl) (by
        simp [tyOk, kindCode, IntKind.min, IntKind.max, IntKind.bits, IntKind.signed]
        omega)
      have hcount : Count P (isIntD u) te.bytes n (.slice A n c) := by
        rw [hint]
        exact .inl ⟨rfl, fun w => rfl⟩
      have hden : ∀ l, u = u → m.u 9 [num te.size, .slice A n c] = some (.agg ⟨l⟩) → ∃ d, den m.s m.u d (sy 0 10 [num te.size, x]) = some (.agg ⟨l⟩) := fun l _ hl => by
        refine denS_iff.1 ?_
        rw [denS_app, mapO_of (denS_flat rfl) (mapO_of (hx.to_denS hfx) rfl)]
        exact hl
      cases A with
      | none =>
        obtain rfl := hA rfl
        refine ⟨[], 0, hden [] rfl (by rw [gw.as.rd 9 _ (by omega)]; rfl), hlenv, rfl, by simp, fun i v hi => by simp at hi, hint, hcount, fun j => ?_⟩
        unfold newsS
        rw [hint]
        rfl
      | some a =>
        obtain ⟨l, k1, k2, k3⟩ := cells_of_slice hu' hR hts
        rw [h2] at k1 k2 k3
        have hcell : ∀ i v, l[i]? = some v → w.cell? (a.add i) = some v := fun i v hv => (gw.frz _ _ (k3 i v hv).1).1
        refine ⟨l, n, hden l rfl ?_, hlenv, rfl, k2, fun i v hi => by rw [List.length_map, h2]; exact (k3 i v hi).2, hint, hcount, fun j => ?_⟩
        · rw [gw.as.rd 9 _ (by omega)]
          show (match readN (fun a => m.u 5 [.pointer (some a)]) a (n * te.size) with | some l => some (Value.agg ⟨l⟩) | none => none) = _
          rw [k1]
        · unfold newsS
          rw [hint]
          simp only [Bool.not_false, if_true]
          exact run_loadCells (w := { w with drawn := j }) k2 (fun i v hv => hcell i v hv)
    · rename_i hint hsx
      split at h
      case h_2 => cases h
      rename_i b n _
      split at h
      case h_2 => cases h
      rename_i ex0 n' ks' ty hob
      split at h
      · rename_i q1 q2 q3
        obtain rfl := vEq_ok 60 _ _ q1
        have q2 := lEq_ok (fun _ _ => Nat.eq_of_beq_eq_true) _ _ q2
        subst q2
        injection h with h
        injection h with e1 e2
        subst e1; subst e2
        obtain ⟨k, c', a', rfl, hn, hkc, en, tot, z, he, hop, rfl, hroom⟩ := hx.seq_iff
        obtain ⟨-, cells, cs, fr, ⟨hden, ⟨k2, hn2, hlen⟩, hcell⟩, hheap, -, -⟩ := inv.obj b en _ he hob (by simp)
        have hk2 : k2 = k := by
          have a := hn.to_denS q3
          have b := hn2.to_denS q3
          rw [a] at b
          injection b with b
          injection b with _ b
          injection b with b
          exact b.symm
        subst hk2
        have hlen' : cells.length = k2 * te.size := by rw [hlen, List.length_map, h2]
        refine ⟨cells, k2, hden, hn, q3, hlen', fun i v hi => (hcell i v hi).1, hint, by rw [hint]; exact .inl ⟨rfl, fun w => rfl⟩, fun j => ?_⟩
        unfold newsS
        rw [hint]
        simp only [Bool.not_false, if_true]
        exact run_loadCells (w := { w with drawn := j }) hlen' (fun i v hv => by rw [add_at]; exact (cell_of (w := { w with drawn := j }) hheap).trans (hcell i v hv).2)
      · rename_i q1 q2 q3
        split at h
        case h_2 => cases h
        rename_i q4 q5
        have q2 := lEq_ok (fun _ _ => Nat.eq_of_beq_eq_true) _ _ q2
        subst q2
        injection h with h
        injection h with e1 e2
        subst e1; subst e2
        obtain ⟨k, c', a', rfl, hn, hkc, en, tot, z, he, hop, rfl, hroom⟩ := hx.seq_iff
        obtain ⟨-, cells, cs, fr, ⟨hden, ⟨k2, hn2, hlen⟩, hcell⟩, hheap, -, -⟩ := inv.obj b en _ he hob (by simp)
        have hle := isTrue_ok gw.as q5 (.cons (.flat (num 11) rfl) (.cons hn (.cons hn2 (.nil m)))) (by simp only [List.all_cons, q3, q4]; rfl) (b := tLe (.int .i64 (.ofNat k)) (.int .i64 (.ofNat k2))) rfl
        have hle : k ≤ k2 := Nat.le_of_ble_eq_true hle
        have hlen' : cells.length = k2 * te.size := by rw [hlen, List.length_map, h2]
        have hlt : (cells.take (k * te.size)).length = k * te.size := by
          rw [List.length_take, hlen']
          exact Nat.min_eq_left (Nat.mul_le_mul_right _ hle)
        have hat : ∀ i v, (cells.take (k * te.size))[i]? = some v → cells[i]? = some v := fun i v hi => by
          rw [List.getElem?_take] at hi
          split at hi
          · exact hi
          · cases hi
        refine ⟨cells.take (k * te.size), k, denS_iff.1 ?_, hn, q3, hlt, fun i v hi => (hcell i v (hat i v hi)).1, hint, by rw [hint]; exact .inl ⟨rfl, fun w => rfl⟩, fun j => ?_⟩
        · rw [denS_app, mapO_of (denS_flat rfl) (mapO_of (denS_iff.2 hden) (mapO_of (hn.to_denS q3) (mapO_of (denS_flat rfl) rfl)))]
          show m.u 10 _ = _
          rw [gw.as.seq]
          rfl
        · unfold newsS
          rw [hint]
          simp only [Bool.not_false, if_true]
          exact run_loadCells (w := { w with drawn := j }) hlt (fun i v hv => by rw [add_at]; exact (cell_of (w := { w with drawn := j }) hheap).trans (hcell i v (hat i v hv)).2)
      · cases h
omit ok in
theorem sumQ_ok (as : AsOk cx m) {n k : Value} {a b : Nat} (hn : RV m n (.int .i64 (.ofNat a))) (hk : RV m k (.int .i64 (.ofNat b))) (sn : symFlat n = true) (sk : symFlat k = true) (ha : a ≤ 524288) (hb : b ≤ 524288) : RV m (sumQ n k) (.int .i64 (.ofNat (a + b))) ∧ symFlat (sumQ n k) = true := by
  unfold sumQ
  split
  · rename_i x y
    have e1 := hn.flat_iff rfl
    have e2 := hk.flat_iff rfl
    injection e1 with _ e1
    injection e1 with e1
    injection e2 with _ e2
    injection e2 with e2
    subst e1; subst e2
    exact ⟨.flat _ rfl, rfl⟩
  · refine ⟨RV.of_denS ?_ ?_, rfl⟩
    · rw [denS_app, mapO_of (denS_flat rfl) (mapO_of (denS_flat rfl) (mapO_of (denS_flat rfl) (mapO_of (hn.to_denS sn) (mapO_of (hk.to_denS sk) rfl))))]
      show m.u 0 _ = _
      rw [as.ops 0 _ (by omega)]
      show some (Value.int .i64 (wrapA .i64 (Int.ofNat a + Int.ofNat b))) = _
      rw [show Int.ofNat a + Int.ofNat b = Int.ofNat (a + b) from rfl, wrap_lt (by omega)]
    · simp [tyOk, kindCode, IntKind.min, IntKind.max, IntKind.bits, IntKind.signed]
      omega
theorem overQ_ok (gw : GW cx m w) (inv : Inv m hp w.heap) {t u e : TypeId} {ti te tu : TI} {ty : TypeId} (hf : Fresh m hp.nx (Nat.succ hp.nx)) (hd : ti.desc = .slice e) (hti : tiOf P t = some ti) (htu : tiOf P u = some tu) (hte : tiOf P e = some te) {ts : List TypeId} (h2 : ts.length = te.size) (h3 : (cellsOf te.zero).length = te.size) (h4 : te.bytes ≤ 65536) (h5 : 1 ≤ te.size)
    {b : Nat} {ob : AObj} (hob : hp.tr.get b = some ob) (hnd : ob ≠ .dead) {en : Ent} (hen : m b = some en) {cs : Array Value} {fr : Nat × Nat} (hheap : w.heap[en.c]? = some (.cells cs e fr)) (hfr : FrOk true fr cs.size) {oo n c : Nat} {old : List Value} (holdn : old.length = n * te.size)
    (hat : ∀ j v, old[j]? = some v → cs[oo + j]? = some v) (hroom : oo + c * te.size ≤ cs.size) (htyo : ∀ i v, old[i]? = some v → tyOk ((ts.map (cellTy cx.P)).getD (i % (ts.map (cellTy cx.P)).length) 0) v = true)
    {eE nE : Value} (hdo : ∃ d, den m.s m.u d eE = some (.agg ⟨old⟩)) (hnE : RV m nE (.int .i64 (.ofNat n))) (snE : symFlat nE = true) (hn19 : n ≤ 524288)
    {x' ex kE : Value} {l' : List Value} {k : Nat} (hdn : ∃ d, den m.s m.u d ex = some (.agg ⟨l'⟩)) (hkE : RV m kE (.int .i64 (.ofNat k))) (skE : symFlat kE = true) (hk19 : k ≤ 524288) (hll : l'.length = k * te.size)
    (htyn : ∀ i v, l'[i]? = some v → tyOk ((ts.map (cellTy cx.P)).getD (i % (ts.map (cellTy cx.P)).length) 0) v = true) (hcount : Count P (isIntD tu.desc) te.bytes k x') (hrun : ∀ j, (newsS (isIntD tu.desc) te.size k e x').run P { w with drawn := j } = .ok ⟨l'⟩ { w with drawn := j }) :
    Turns P m hp w (Builtin.append_ #[t, u] ty #[.slice (some ⟨en.c, oo, none⟩) n c, x']) (.func (.yield hp.nx) ⟨[sumQ nE kE]⟩ ⟨[]⟩)
      { tr := (hp.tr.set b .dead).set hp.nx (.seq (sy 0 11 [num 2, eE, ex]) (sumQ nE kE) (ts.map (cellTy cx.P)) e), nx := Nat.succ hp.nx, lo := least b hp.lo } := by
  have ut : ∀ w, (underlying t).run P w = .ok (.slice e) w := fun w => by rw [run_under hti, hd]
  have uu : ∀ w, (underlying u).run P w = .ok tu.desc w := fun w => run_under htu w
  have hbn : b < hp.nx := inv.dom _ _ hob
  have hfn : m hp.nx = none := hf hp.nx (Nat.le_refl _) (Nat.lt_succ_self _)
  obtain ⟨hs1, hs2⟩ := sumQ_ok gw.as hnE hkE snE skE hn19 hk19
  have hlenk : (ts.map (cellTy cx.P)).length = te.size := by rw [List.length_map, h2]
  have hden : ∃ d, den m.s m.u d (sy 0 11 [num 2, eE, ex]) = some (.agg ⟨old ++ l'⟩) := by
    refine denS_iff.1 ?_
    rw [denS_app, mapO_of (denS_flat rfl) (mapO_of (denS_iff.2 hdo) (mapO_of (denS_iff.2 hdn) rfl))]
    show m.u 10 _ = _
    rw [gw.as.seq]
    rfl
  have htot : (old ++ l').length = (n + k) * (ts.map (cellTy cx.P)).length := by rw [List.length_append, holdn, hll, hlenk, Nat.add_mul]
  have htya : ∀ i v, (old ++ l')[i]? = some v → tyOk ((ts.map (cellTy cx.P)).getD (i % (ts.map (cellTy cx.P)).length) 0) v = true := fun i v hi => by
    by_cases hio : i < old.length
    · rw [List.getElem?_append_left hio] at hi
      exact htyo i v hi
    · rw [List.getElem?_append_right (by omega)] at hi
      have := htyn _ v hi
      rwa [hlenk, show (i - old.length) % te.size = i % te.size by
        conv => rhs; rw [show i = i - old.length + old.length by omega, holdn]
        rw [Nat.mul_comm n, Nat.add_mul_mod_self_left, holdn, Nat.mul_comm], ← hlenk] at this
  by_cases hle : n + k ≤ c
  · have hbound : oo + n * te.size + l'.length ≤ cs.size := by
      have := Nat.mul_le_mul_right te.size hle
      rw [Nat.add_mul] at this
      omega
    have hac : allCell l' = true := allCell_of (o := 0) (ks := ts.map (cellTy cx.P)) (fun i v hi => by rw [Nat.zero_add]; exact htyn i v hi)
    have hst := run_storeFrom (P := P) (c := en.c) (o := oo + n * te.size) l' 0 w cs hheap hac (by omega) hfr.none_
    have hlt : en.c < w.heap.size := inv.low b en hen
    have hor : OR m (.seq (sy 0 11 [num 2, eE, ex]) (sumQ nE kE) (ts.map (cellTy cx.P)) e) ⟨en.c, oo, some (cs.size, te.size), true⟩ (w.heap.setIfInBounds en.c (.cells (writeL cs (oo + n * te.size + 0) l') e fr)) := by
      refine ⟨old ++ l', writeL cs (oo + n * te.size + 0) l', fr, ⟨hden, ⟨n + k, hs1, htot⟩, fun i v hi => ⟨htya i v hi, ?_⟩⟩, by simp [hlt], by rw [writeL_size]; exact hfr, by rw [writeL_size, hlenk]⟩
      show (writeL cs (oo + n * te.size + 0) l')[oo + i]? = some v
      rw [Nat.add_zero, writeL_get _ _ _ _ hbound]
      by_cases hio : i < old.length
      · rw [List.getElem?_append_left hio] at hi
        rw [if_neg (by omega)]
        exact hat i v hi
      · rw [List.getElem?_append_right (by omega)] at hi
        have hil : i - old.length < l'.length := (List.getElem?_eq_some_iff.1 hi).1
        rw [if_pos (by omega), show oo + i - (oo + n * te.size) = i - old.length by omega]
        exact hi
    have st := step_overO (w := w) inv hfn hen hob hnd hor
    refine ⟨_, .slice (some ⟨en.c, oo, none⟩) (n + k) c, _, ?_, st, .seq _ _ (n + k) c _ (hs1.mono st.le) hle ⟨_, _, _, Emb.put_same _ _ _, rfl, rfl, hroom⟩⟩
    rw [app_in ut uu rfl hte hcount hle (hrun w.drawn)]
    simp only [add_at, hst, Result.andThen_ok]
  · have hold : ∀ j, (Builtin.firstCells te.size n (.slice (some ⟨en.c, oo, none⟩) n c)).run P { w with drawn := j } = .ok ⟨old⟩ { w with drawn := j } := fun j =>
      run_loadCells (w := { w with drawn := j }) holdn (fun i v hv => by rw [add_at]; exact (cell_of (w := { w with drawn := j }) hheap).trans (hat i v hv))
    obtain ⟨cap, c1, c2⟩ := app_grow ut uu rfl hte hcount (base := some ⟨en.c, oo, none⟩) (ty := ty) (w := w) hle (by omega) h4 (old := ⟨old⟩) (new := ⟨l'⟩) hold hrun
    have sk := step_kill (w := w) inv hbn
    have hfk : (m.kill b) (killA hp b).nx = none := (Emb.kill_other m (by show hp.nx ≠ b; omega)).trans hfn
    have hzs : (Builtin.zeroCells te.zero.cells (cap - (n + k))).size = (cap - (n + k)) * te.size := by
      rw [← Array.length_toList, zeroCells_eq, repeatA_len, h3]
    have hsz : ((⟨old⟩ : Array Value) ++ ⟨l'⟩ ++ Builtin.zeroCells te.zero.cells (cap - (n + k))).size = cap * te.size := by
      rw [Array.size_append, Array.size_append, hzs]
      show old.length + l'.length + _ = _
      rw [holdn, hll, ← Nat.add_mul, ← Nat.add_mul, show n + k + (cap - (n + k)) = cap by omega]
    have hor : OR (m.kill b) (.seq (sy 0 11 [num 2, eE, ex]) (sumQ nE kE) (ts.map (cellTy cx.P)) e) ⟨w.heap.size, 0, some (cap * te.size, te.size), true⟩ (w.heap.push (.cells ((⟨old⟩ : Array Value) ++ ⟨l'⟩ ++ Builtin.zeroCells te.zero.cells (cap - (n + k))) e)) := by
      refine OR.mono (Emb.le_kill m b) ?_
      refine ⟨old ++ l', _, (0, 0), ⟨hden, ⟨n + k, hs1, htot⟩, fun i v hi => ⟨htya i v hi, ?_⟩⟩, getD_push_size, FrOk.plain _ _, by rw [hsz, hlenk]⟩
      have hil : i < old.length + l'.length := by
        have := (List.getElem?_eq_some_iff.1 hi).1
        simpa using this
      rw [Nat.zero_add, Array.getElem?_append_left (by simpa using hil)]
      simpa using hi
    have st := step_newob (m := m.kill b) (hp := killA hp b) (w := w) sk.inv hfk hor
    refine ⟨_, _, _, c2, sk.trans ⟨st.le, st.inv, st.os, st.tape, st.output, st.size, st.keep, st.rng, st.far, st.nx, st.lo, st.low⟩, .seq _ _ (n + k) cap _ (hs1.mono (Emb.le_trans sk.le st.le)) c1 ⟨_, _, _, Emb.put_same _ _ _, rfl, rfl, by show 0 + cap * te.size ≤ cap * te.size; omega⟩⟩
theorem appendQ_ok (gw : GW cx m w) (inv : Inv m hp w.heap) {t u e : TypeId} {ti te tu : TI} {s x s' x' v : Value} {hp' : Hp} (hf : Fresh m hp.nx hp'.nx) {ty : TypeId} (hs : RV m s s') (hx : RV m x x') (hd : ti.desc = .slice e) (hti : tiOf P t = some ti) (htu : tiOf P u = some tu) (hte : tiOf P e = some te)
    (h : appendQ cx hp e te tu.desc s x = some (v, hp')) : Turns P m hp w (Builtin.append_ #[t, u] ty #[s', x']) v hp' := by
  have ut : ∀ w, (underlying t).run P w = .ok (.slice e) w := fun w => by rw [run_under hti, hd]
  have uu : ∀ w, (underlying u).run P w = .ok tu.desc w := fun w => run_under htu w
  unfold appendQ at h
  split at h
  · cases h
  rename_i ts hts
  split at h
  case h_2 => cases h
  rename_i ex kE h1 hsrc
  simp only [Bool.and_eq_true] at h1
  obtain ⟨h2, h3, h4, h5⟩ := h1
  have h2 := Nat.eq_of_beq_eq_true h2
  have h3 := Nat.eq_of_beq_eq_true h3
  have h4 := Nat.le_of_ble_eq_true h4
  have h5 := Nat.le_of_ble_eq_true h5
  rw [len_eq] at h2 h3
  obtain ⟨l', k, hdn, hkE, skE, hll, htyn, hint, hcount, hrun⟩ := srcQ_ok ok gw inv hte hts h2 hx hsrc
  have hlenk : (ts.map (cellTy cx.P)).length = te.size := by rw [List.length_map, h2]
  split at h
  · rename_i n c
    obtain rfl := hs.flat_iff rfl
    split at h
    · rename_i q1 q2 q3
      rw [Bool.and_eq_true] at q1
      obtain rfl := Nat.eq_of_beq_eq_true q1.1
      obtain rfl := Nat.eq_of_beq_eq_true q1.2
      injection h with h
      injection h with e1 e2
      subst e1; subst e2
      obtain ⟨k1, n1, k2, j, hn', hj', hlt⟩ := tLt_iff (ltS_ok gw.as q2 hkE (.flat (.int .i64 (.ofNat 0)) rfl) skE rfl)
      injection hn' with _ hn'
      injection hn' with hn'
      subst hn'
      have hk0 : 0 < k := by omega
      obtain ⟨kd, n2, hn2, hk20⟩ := tLe_iff (leS_ok gw.as q3 hkE skE)
      injection hn2 with _ hn2
      injection hn2 with hn2
      subst hn2
      obtain ⟨cap, c1, c2⟩ := app_grow (c := 0) (n := 0) ut uu rfl hte hcount (base := none) (ty := ty) (w := w) (by omega) (by omega) h4 (old := #[]) (fun _ => rfl) hrun
      have hzs : (Builtin.zeroCells te.zero.cells (cap - (0 + k))).size = (cap - (0 + k)) * te.size := by
        rw [← Array.length_toList, zeroCells_eq, repeatA_len, h3]
      have hsz : ((#[] : Array Value) ++ ⟨l'⟩ ++ Builtin.zeroCells te.zero.cells (cap - (0 + k))).size = cap * te.size := by
        rw [Array.size_append, Array.size_append, hzs]
        show 0 + l'.length + _ = _
        rw [hll, Nat.zero_add, Nat.zero_add, ← Nat.add_mul, show k + (cap - k) = cap by omega]
      have hor : OR m (.seq ex kE (ts.map (cellTy cx.P)) e) ⟨w.heap.size, 0, some (cap * te.size, te.size), true⟩ (w.heap.push (.cells ((#[] : Array Value) ++ ⟨l'⟩ ++ Builtin.zeroCells te.zero.cells (cap - (0 + k))) e)) := by
        refine ⟨l', _, (0, 0), ⟨hdn, ⟨k, hkE, by rw [hlenk]; exact hll⟩, fun i v hi => ⟨htyn i v hi, ?_⟩⟩, getD_push_size, FrOk.plain _ _, by rw [hsz, hlenk]⟩
        have hil : i < l'.length := (List.getElem?_eq_some_iff.1 hi).1
        rw [Nat.zero_add, Array.getElem?_append_left (by simpa using hil)]
        simpa using hi
      have st := step_newob (m := m) (hp := hp) (w := w) inv (hf hp.nx (Nat.le_refl _) (Nat.lt_succ_self _)) hor
      rw [Nat.zero_add] at c2 c1
      refine ⟨_, _, _, c2, ⟨st.le, by simpa only [Nat.zero_add] using st.inv, st.os, st.tape, st.output, by simpa only [Nat.zero_add] using st.size, fun cc hc hne => by simpa only [Nat.zero_add] using st.keep cc hc hne, st.rng, st.far, st.nx, st.lo, st.low⟩, ?_⟩
      exact .seq _ _ k cap _ (hkE.mono st.le) c1 ⟨_, _, _, Emb.put_same _ _ _, rfl, rfl, by show 0 + cap * te.size ≤ cap * te.size; omega⟩
    · rename_i q1 q2
      rw [Bool.and_eq_true] at q1
      obtain rfl := Nat.eq_of_beq_eq_true q1.1
      obtain rfl := Nat.eq_of_beq_eq_true q1.2
      split at h
      case h_2 => cases h
      rename_i hno
      injection h with h
      injection h with e1 e2
      subst e1; subst e2
      have hk0 : k = 0 := by
        have hr : RV m (sy 1 9 [num 9, kE, .int .i64 0]) (.bool (tLt (.int .i64 (.ofNat k)) (.int .i64 0))) := RV.app (k := 8) (.cons (.flat (num 9) rfl) (.cons hkE (.cons (.flat (.int .i64 0) rfl) (.nil m)))) (by simp only [List.all_cons, skE]; rfl) (by rw [gw.as.rd 8 _ (by omega)]; rfl) rfl
        obtain ⟨⟨d, hdd⟩, ht⟩ := hr.sym_iff rfl
        have := gw.as.as _ _ (asN_mem hno) rfl d _ hdd ht
        injection this with this
        rcases Nat.eq_zero_or_pos k with h0 | h0
        · exact h0
        · have hb : tLt (.int .i64 (.ofNat k)) (.int .i64 0) = true := Nat.blt_eq.mpr h0
          rw [hb] at this
          cases this
      subst hk0
      refine ⟨m, _, w, ?_, .refl inv, .flat _ rfl⟩
      rw [app_in (n := 0) (c := 0) ut uu rfl hte hcount (Nat.le_refl 0) (hrun w.drawn)]
    · cases h
  · split at h
    case h_2 => cases h
    rename_i hsn b en0 nE hdst
    split at h
    case h_2 => cases h
    rename_i hle
    rw [Bool.and_eq_true] at hle
    injection h with h
    injection h with e1 e2
    subst e1; subst e2
    obtain ⟨kd2, n2, hn2, hk19⟩ := tLe_iff (leS_ok gw.as hle.2 hkE skE)
    injection hn2 with _ hn2
    injection hn2 with hn2
    subst hn2
    unfold dstQ at hdst
    split at hdst
    · rename_i b n _
      split at hdst
      case h_2 => cases hdst
      rename_i en n' ks' ty' hob
      split at hdst
      case h_2 => cases hdst
      rename_i q1 q2 q3 q4
      obtain rfl := vEq_ok 60 _ _ q1
      have q2 := lEq_ok (fun _ _ => Nat.eq_of_beq_eq_true) _ _ q2
      subst q2
      obtain rfl := Nat.eq_of_beq_eq_true q3
      injection hdst with hdst
      injection hdst with r1 r2
      injection r2 with r2 r3
      subst r1; subst r2; subst r3
      obtain ⟨n1, c', a', rfl, hn, hkc, ent, tot, z, he, hop, rfl, hroom⟩ := hs.seq_iff
      obtain ⟨-, cells, cs, fr, ⟨hden, ⟨k2, hn2, hlen⟩, hcell⟩, hheap, hfr, hop2⟩ := inv.obj b ent _ he hob (by simp)
      have hk2 : k2 = n1 := by
        have a := hn.to_denS q4
        have b := hn2.to_denS q4
        rw [a] at b
        injection b with b
        injection b with _ b
        injection b with b
        exact b.symm
      subst hk2
      rw [hop] at hop2
      injection hop2 with hop2
      injection hop2 with o1 o2
      subst o1; subst o2
      obtain ⟨kd3, n3, hn3, hn19⟩ := tLe_iff (leS_ok gw.as hle.1 hn q4)
      injection hn3 with _ hn3
      injection hn3 with hn3
      subst hn3
      exact overQ_ok ok gw inv hf hd hti htu hte h2 h3 h4 h5 hob (by simp) he hheap hfr (by rw [hlen, hlenk]) (fun j v hj => (hcell j v hj).2) (by rw [hlenk] at hroom; exact hroom) (fun i v hi => (hcell i v hi).1) hden hn q4 hn19 hdn hkE skE hk19 hll htyn hcount hrun
    · rename_i a n c _
      split at hdst
      case h_2 => cases hdst
      rename_i tb nb ty' op str hob
      split at hdst
      case h_2 => cases hdst
      rename_i l hl q1 q2
      split at hdst
      case h_2 => cases hdst
      rename_i q3
      obtain rfl := Nat.eq_of_beq_eq_true q1
      injection hdst with hdst
      injection hdst with r1 r2
      injection r2 with r2 r3
      subst r1; subst r2; subst r3
      obtain ⟨a', c', rfl, hrs⟩ := hs.slice_iff
      have hrs0 := hrs
      obtain ⟨hsp, ent, he, hr⟩ := hrs
      obtain ⟨hlive, hopo, cs, fr, hheap, hrel, ho1, ho2, hfr⟩ := inv.obj _ ent _ he hob (by simp)
      have key : a' = ⟨ent.c, a'.off, none⟩ ∧ a'.off + c' * te.size ≤ cs.size ∧ (n = 0 → n * te.size = 0) := by
        rcases hr with ⟨r1, r2, r3⟩ | ⟨tot, z, r1, r2, r3, r4, r5, r6⟩
        · obtain ⟨p1, p2⟩ := ho1 r1
          rw [r1] at hopo
          simp only [Option.map_none] at hopo
          subst hopo
          have q2 := Nat.le_of_ble_eq_true q2
          subst r2; subst r3
          exact ⟨rfl, by show ent.o + a.off + c' * te.size ≤ cs.size; omega, fun h => by rw [h, Nat.zero_mul]⟩
        · rw [r1] at hopo
          simp only [Option.map_some] at hopo
          subst hopo
          have q2 : (Nat.beq z te.size && Nat.ble 1 n) = true := q2
          rw [Bool.and_eq_true] at q2
          have hz := Nat.eq_of_beq_eq_true q2.1
          subst hz
          have := ho2 _ _ r1
          obtain ⟨ab, ao, asp⟩ := a'
          simp only at r2 r3 r6
          subst r2; subst r3
          exact ⟨rfl, by show ao + c' * te.size ≤ cs.size; omega, fun h => by rw [h, Nat.zero_mul]⟩
      obtain ⟨hk1, hk2, hk3⟩ := key
      obtain ⟨old', k1, k2, k3, k4⟩ := rs_first (P := P) ok inv hrs0 hl hk3
      obtain ⟨w1, w2⟩ := cellsK_ok q3 k1
      have hnr : RV m (.int .i64 (.ofNat n)) (.int .i64 (.ofNat n)) := .flat _ rfl
      obtain ⟨kd3, n3, hn3, hn19⟩ := tLe_iff (leS_ok gw.as hle.1 hnr rfl)
      injection hn3 with _ hn3
      injection hn3 with hn3
      subst hn3
      rw [hk1]
      refine overQ_ok ok gw inv hf hd hti htu hte h2 h3 h4 h5 hob (by simp) he hheap (frOk_wide hfr) k2 (fun j v hj => ?_) hk2 (fun i v hi => by have := w2 i v hi; rwa [Nat.zero_add] at this) ?_ hnr rfl hn19 hdn hkE skE hk19 hll htyn hcount hrun
      · have := k4 j v hj
        rw [hk1, add_at, cell_of hheap] at this
        exact this
      · refine denS_iff.1 ?_
        rw [denS_app, mapO_of (denS_flat rfl) (k1.to_denS w1)]
        show m.u 10 _ = _
        rw [gw.as.seq]
        rfl
    · cases hdst
theorem appendT_ok (gw : GW cx m w) (inv : Inv m hp w.heap) {t u : TypeId} {s x s' x' v : Value} {hp' : Hp} (hf : Fresh m hp.nx hp'.nx) {ty : TypeId} (hs : RV m s s') (hx : RV m x x') (h : appendT cx hp t u s x = some (v, hp')) :
    Turns P m hp w (Builtin.append_ #[t, u] ty #[s', x']) v hp' := by
  unfold appendT at h
  split at h
  · rename_i r hr
    injection h with h
    subst h
    exact appendA_ok ok gw inv hf hs hx hr
  split at h
  case h_2 => cases h
  rename_i ti tu hti htu
  have hti := ok.ty _ _ hti
  have htu := ok.ty _ _ htu
  split at h
  case h_2 => cases h
  rename_i e hd
  split at h
  case h_2 => cases h
  rename_i te hte
  exact appendQ_ok ok gw inv hf hs hx hd hti htu (ok.ty _ _ hte) h
theorem copyA_ok (inv : Inv m hp w.heap) {t : TypeId} {d x d' x' v : Value} {hp' : Hp} {ts : Array TypeId} {ty : TypeId} (hts : ts[0]? = some t) (hd : RV m d d') (hx : RV m x x') (h : copyA cx hp t d x = some (v, hp')) :
    Turns P m hp w (Builtin.copy_ ts ty #[d', x']) v hp' := by
  unfold copyA at h
  split at h
  · cases h
  · rename_i ti hti
    have hti := ok.ty _ _ hti
    have hu := run_under hti w
    split at h
    · rename_i e base n c k hde hlen
      split at h
      · rename_i te hte
        have hte := ok.ty _ _ hte
        split at h
        · cases h
        · rename_i l hl
          obtain ⟨l', k1, k2⟩ := firstA_ok (P := P) ok inv hx hl hlen (fun h0 => by rw [h0]; exact Nat.zero_min _)
          have k2 : (Builtin.firstCells te.size (Nat.min k n) x').run P w = .ok ⟨l'⟩ w := k2 w.drawn
          have hlen' := lenOfA_ok (P := P) ok hx hlen w
          split at h
          · obtain rfl := hd.flat_iff rfl
            injection h with h
            injection h with h1 h2
            subst h1 h2
            refine Reads.turns inv (.same ?_ rfl)
            simp [Builtin.copy_, hts, hu, hde, hlen', run_size hte, goInt]
            rw [k2]
            rfl
          · rename_i a
            obtain ⟨a', c', rfl, ha⟩ := hd.slice_iff
            split at h
            · rename_i h0
              have h0 := Nat.eq_of_beq_eq_true h0
              injection h with h
              injection h with h1 h2
              subst h1 h2
              have hlen0 : l' = [] := by
                have := k1.1
                have hll := firstA_len hl
                rw [h0] at hll
                exact List.eq_nil_of_length_eq_zero (by omega)
              subst hlen0
              refine Reads.turns inv (.same ?_ rfl)
              simp [Builtin.copy_, hts, hu, hde, hlen', run_size hte, goInt]
              rw [k2]
              rfl
            · rename_i h0
              have h0 : Nat.min k n ≠ 0 := Nat.ne_of_beq_eq_false h0
              have hn : n ≠ 0 := fun hh => h0 (by rw [hh]; exact Nat.min_zero _)
              split at h
              · rename_i hp2 hput
                injection h with h
                injection h with h1 h2
                subst h1 h2
                have hra : RA m a a' := by
                  obtain ⟨hsp, en, he, hr⟩ := ha
                  refine ⟨hsp, en, he, ?_⟩
                  rcases hr with ⟨-, r2, -⟩ | ⟨tot, z, -, r2, r3, r4, -⟩
                  · exact r2
                  · rcases r4 with r4 | r4
                    · exact absurd r4.1 hn
                    · obtain ⟨b', o', s'⟩ := a'
                      simp only at r2 r3 r4
                      rw [r2, r3, r4]
                obtain ⟨w', r1, r2⟩ := putRow_run P inv hra k1 hput
                refine ⟨m, .int .i64 (Nat.min k n), w', ?_, r2, .flat _ rfl⟩
                simp [Builtin.copy_, hts, hu, hde, hlen', run_size hte, goInt]
                rw [k2]
                simp [r1]
              · cases h
      · cases h
    · cases h
theorem clearA_ok (inv : Inv m hp w.heap) {t : TypeId} {x x' v : Value} {hp' : Hp} {ts : Array TypeId} {ty : TypeId} (hts : ts[0]? = some t) (hx : RV m x x') (h : clearA cx hp t x = some (v, hp')) :
    Turns P m hp w (Builtin.clear_ ts ty #[x']) v hp' := by
  unfold clearA at h
  split at h
  · cases h
  · rename_i ti hti
    have hti := ok.ty _ _ hti
    have hu := run_under hti w
    split at h
    · rename_i e n c hde
      obtain rfl := hx.flat_iff rfl
      injection h with h
      injection h with h1 h2
      subst h1 h2
      refine Reads.turns inv ⟨.tuple ⟨[]⟩, ?_, .tuple _ _ rfl (fun i hi => by simp at hi)⟩
      simp [Builtin.clear_, hts, hu, hde]
    · rename_i e a c hde
      obtain ⟨a', c', rfl, ha⟩ := hx.slice_iff
      injection h with h
      injection h with h1 h2
      subst h1 h2
      refine Reads.turns inv ⟨.tuple ⟨[]⟩, ?_, .tuple _ _ rfl (fun i hi => by simp at hi)⟩
      simp [Builtin.clear_, hts, hu, hde]
    · rename_i e a n c hn0 hde
      obtain ⟨a', c', rfl, ha⟩ := hx.slice_iff
      split at h
      · rename_i te hte
        have hte := ok.ty _ _ hte
        split at h
        · rename_i hp2 hput
          injection h with h
          injection h with h1 h2
          subst h1 h2
          have hn : n ≠ 0 := fun h0 => by subst h0; exact hn0 rfl
          have hra : RA m a a' := by
            obtain ⟨hsp, en, he, hr⟩ := ha
            refine ⟨hsp, en, he, ?_⟩
            rcases hr with ⟨-, r2, -⟩ | ⟨tot, z, -, r2, r3, r4, -⟩
            · exact r2
            · rcases r4 with r4 | r4
              · exact absurd r4.1 hn
              · obtain ⟨b', o', s'⟩ := a'
                simp only at r2 r3 r4
                rw [r2, r3, r4]
          obtain ⟨i, -, -, -, -, -, -, hfl⟩ := ti_parts hte
          obtain ⟨w', r1, r2⟩ := putRow_run P inv hra (flat_rvs (flat_repeat hfl n)) hput
          refine ⟨m, .tuple ⟨[]⟩, w', ?_, r2, .tuple _ _ rfl (fun i hi => by simp at hi)⟩
          obtain ⟨n, rfl⟩ : ∃ q, n = q + 1 := ⟨n - 1, by omega⟩
          simp [Builtin.clear_, hts, hu, hde, run_zero hte, zeroCells_eq]
          rw [r1]
          rfl
        · cases h
      · cases h
    · cases h
end
end Go.Proofs.YtaepplhgeeaidaaDoor.Ev
