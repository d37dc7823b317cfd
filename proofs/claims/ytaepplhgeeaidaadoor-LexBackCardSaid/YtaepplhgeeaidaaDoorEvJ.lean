import Derived.Test.YtaepplhgeeaidaaDoorEvH
section
set_option linter.unusedVariables false
set_option linter.unusedSimpArgs false
namespace Go.Proofs.YtaepplhgeeaidaaDoor.Ev
open Go Go.RowKit
def Turns (P : Program) (m : Emb) (hp : Hp) (w : World) (s : Sem Value) (v : Value) (hp' : Hp) : Prop := ∃ m' v' w', s.run P w = .ok v' w' ∧ Step m hp w m' hp' w' ∧ RV m' v v'
theorem Reads.turns {P : Program} {m : Emb} {hp : Hp} {w : World} {s : Sem Value} {v : Value} (inv : Inv m hp w.heap) (h : Reads P m w s v) : Turns P m hp w s v hp :=
  let ⟨v', h1, h2⟩ := h
  ⟨m, v', w, h1, .refl inv, h2⟩
def Same (m : Emb) (t : Tr Value) (cs : Array Value) (n : Nat) : Prop := ∀ i, i < n → ∃ v v', t.get i = some v ∧ cs[i]? = some v' ∧ RV m v v'
theorem Same.list {m : Emb} {l l' : List Value} (h : RVs m l l') : Same m (Tr.putList l .nil 0) ⟨l'⟩ l.length := fun i hi => by
  obtain ⟨v', h1, h2⟩ := h.at_ (List.getElem?_eq_getElem hi)
  exact ⟨l[i], v', by rw [Tr.get_putList, if_pos (by omega), Nat.sub_zero]; exact List.getElem?_eq_getElem hi, by simpa using h1, h2⟩
theorem Same.put {m : Emb} {t : Tr Value} {cs : Array Value} {n o : Nat} {l l' : List Value} (h : Same m t cs n) (hl : RVs m l l') (hle : o + l'.length ≤ cs.size) : Same m (Tr.putList l t o) (writeL cs o l') n := fun i hi => by
  obtain ⟨v, v', h1, h2, h3⟩ := h i hi
  have hlen := hl.1
  rw [Tr.get_putList, writeL_get _ _ _ _ hle]
  by_cases hin : o ≤ i ∧ i < o + l.length
  · rw [if_pos hin, if_pos (by omega)]
    have hv : l[i - o]? = some (l[i - o]'(by omega)) := List.getElem?_eq_getElem _
    obtain ⟨u', k1, k2⟩ := hl.at_ hv
    exact ⟨_, u', hv, k1, k2⟩
  · rw [if_neg hin, if_neg (by omega)]
    exact ⟨v, v', h1, h2, h3⟩
theorem foldl_write : ∀ (l : List Value) (k o : Nat) (cs : Array Value), (l.zipIdx k).foldl (fun cs (x : Value × Nat) => cs.setIfInBounds (o + x.2) x.1) cs = writeL cs (o + k) l := by
  intro l
  induction l with
  | nil => intro k o cs; rfl
  | cons x l ih =>
    intro k o cs
    rw [List.zipIdx_cons, List.foldl_cons, ih (k + 1) o, writeL]
    rfl
theorem foldl_writeA (v : Value) (o : Nat) (cs : Array Value) : v.cells.zipIdx.foldl (fun cs (x : Value × Nat) => cs.setIfInBounds (o + x.2) x.1) cs = writeL cs o (cellsOf v) := by
  rw [← Array.foldl_toList, Array.toList_zipIdx, foldl_write, cells_list]
  rfl
def RVp (m : Emb) (ps ps' : List (Nat × Value)) : Prop := ps.map (·.1) = ps'.map (·.1) ∧ RVs m (ps.map (·.2)) (ps'.map (·.2))
theorem fillA_ok {m : Emb} {place : Nat → Option (Nat × Nat)} {n : Nat} : ∀ (ps ps' : List (Nat × Value)) (t : Tr Value) (cs : Array Value) (t2 : Tr Value), RVp m ps ps' → Same m t cs n → cs.size = n → fillA place n ps t = some t2 →
    ∃ cs2, Instr.fill place cs ps' = some cs2 ∧ cs2.size = n ∧ Same m t2 cs2 n := by
  intro ps
  induction ps with
  | nil =>
    intro ps' t cs t2 hp hs hn h
    have : ps' = [] := by
      have := hp.1
      cases ps' with
      | nil => rfl
      | cons _ _ => simp at this
    subst this
    have h : some t = some t2 := h
    injection h with h
    subst h
    exact ⟨cs, rfl, hn, hs⟩
  | cons p ps ih =>
    intro ps' t cs t2 hp hs hn h
    cases ps' with
    | nil => have := hp.1; simp at this
    | cons p' ps' =>
      obtain ⟨i, v⟩ := p
      obtain ⟨i', v'⟩ := p'
      obtain ⟨h1, h2⟩ := hp
      simp only [List.map_cons, List.cons.injEq] at h1 h2
      obtain ⟨rfl, h1⟩ := h1
      obtain ⟨x', tl, he, h3, h4⟩ := h2.head
      injection he with he1 he2
      subst he1 he2
      have h : (match place i with
        | none => none
        | some (off, size) => match Nat.beq (len (cellsOf v)) size, Nat.ble (off + size) n with
          | true, true => fillA place n ps (Tr.putList (cellsOf v) t off)
          | _, _ => none) = some t2 := h
      simp only [Instr.fill]
      split at h
      · cases h
      · rename_i off size hpl
        split at h
        · rename_i hb1 hb2
          have hb1 := Nat.eq_of_beq_eq_true hb1
          have hb2 := Nat.le_of_ble_eq_true hb2
          rw [len_eq] at hb1
          have hc := h3.cells
          have hsz : v'.cells.size = size := by rw [cells_size, ← hc.1]; exact hb1
          simp only [hpl]
          rw [if_neg (by rw [hsz, hn]; simp; omega)]
          have hfold : v'.cells.zipIdx.foldl (fun cs (x : Value × Nat) => match x with | (c, j) => cs.setIfInBounds (off + j) c) cs = writeL cs off (cellsOf v') := foldl_writeA v' off cs
          rw [hfold]
          exact ih ps' _ _ t2 ⟨h1, h4⟩ (hs.put hc (by rw [← hc.1, hb1, hn]; omega)) (by rw [writeL_size]; exact hn) h
        · cases h
theorem same_list {m : Emb} {t : Tr Value} {cs : Array Value} {n : Nat} {l : List Value} (hs : Same m t cs n) (hn : cs.size = n) (h : Tr.list n t 0 = some l) : RVs m l cs.toList := by
  obtain ⟨h1, h2⟩ := Tr.list_spec _ _ _ _ h
  refine .of_at (by simp [h1, hn]) (fun i v v' hv hv' => ?_)
  have hi : i < n := by
    rcases Nat.lt_or_ge i n with hlt | hge
    · exact hlt
    · rw [List.getElem?_eq_none (by omega)] at hv; cases hv
  obtain ⟨u, u', k1, k2, k3⟩ := hs i hi
  rw [h2 i hi, Nat.zero_add, k1] at hv
  injection hv with hv
  subst hv
  have : cs.toList[i]? = some u' := by simpa using k2
  rw [this] at hv'
  injection hv' with hv'
  subst hv'
  exact k3
end Go.Proofs.YtaepplhgeeaidaaDoor.Ev
end
section
set_option linter.unusedVariables false
set_option linter.unusedSimpArgs false
set_option linter.unusedSectionVars false
namespace Go.Proofs.YtaepplhgeeaidaaDoor.Ev
open Go Go.RowKit
theorem repeatA_succ (l : List Value) (n : Nat) : repeatA l (n + 1) = l ++ repeatA l n := rfl
theorem repeatA_len (l : List Value) : ∀ n, (repeatA l n).length = n * l.length := by
  intro n
  induction n with
  | zero => rw [Nat.zero_mul]; rfl
  | succ n ih => rw [repeatA_succ, List.length_append, ih, Nat.succ_mul]; omega
theorem repeatA_get (l : List Value) (hl : 0 < l.length) : ∀ n i, i < n * l.length → (repeatA l n)[i]? = l[i % l.length]? := by
  intro n
  induction n with
  | zero => intro i h; simp at h
  | succ n ih =>
    intro i h
    rw [repeatA_succ]
    by_cases hi : i < l.length
    · rw [List.getElem?_append_left hi, Nat.mod_eq_of_lt hi]
    · rw [Nat.succ_mul] at h
      rw [List.getElem?_append_right (by omega), ih _ (by omega), Nat.mod_eq_sub_mod (a := i) (by omega)]
theorem zeros_eq (z : Value) (n k : Nat) (hk : k = n * (cellsOf z).length) (h0 : 0 < (cellsOf z).length) :
    ((Array.range k).map (fun x => z.cells[x % z.cells.size]!)).toList = repeatA (cellsOf z) n := by
  subst hk
  apply List.ext_getElem?
  intro i
  by_cases hi : i < n * (cellsOf z).length
  · rw [repeatA_get _ h0 n i hi]
    have hm : i % (cellsOf z).length < (cellsOf z).length := Nat.mod_lt _ h0
    have hc : z.cells[i % z.cells.size]? = (cellsOf z)[i % (cellsOf z).length]? := by
      rw [cells_size, ← cells_list]; simp
    rw [List.getElem?_eq_getElem hm] at hc ⊢
    simp [hi, getElem!_def, hc]
  · rw [List.getElem?_eq_none (by simpa using hi), List.getElem?_eq_none (by rw [repeatA_len]; omega)]
theorem zeroCells_eq (z : Value) (n : Nat) : (Builtin.zeroCells z.cells n).toList = repeatA (cellsOf z) n := by
  unfold Builtin.zeroCells
  rcases Nat.eq_zero_or_pos (cellsOf z).length with h0 | h0
  · have : z.cells.size = 0 := by rw [cells_size]; exact h0
    have e : (repeatA (cellsOf z) n) = [] := List.eq_nil_of_length_eq_zero (by rw [repeatA_len, h0, Nat.mul_zero])
    rw [e, this]
    simp
  · exact zeros_eq z n _ (by rw [cells_size]) h0
theorem flat_rvs {m : Emb} {l : List Value} (h : l.all flat = true) : RVs m l l := by
  induction l with
  | nil => exact .nil m
  | cons x l ih =>
    simp only [List.all_cons, Bool.and_eq_true] at h
    exact .cons (.flat _ h.1) (ih h.2)
theorem flat_repeat {l : List Value} (h : l.all flat = true) (n : Nat) : (repeatA l n).all flat = true := by
  induction n with
  | zero => rfl
  | succ n ih => rw [repeatA_succ, List.all_append, h, ih]; rfl
theorem cellK_ok {m : Emb} {k : Nat} {v v' : Value} (h : cellK k v = true) (hv : RV m v v') : tyOk k v' = true := by
  unfold cellK at h
  rw [Bool.or_eq_true, Bool.and_eq_true, Bool.and_eq_true, Bool.or_eq_true] at h
  rcases h with ⟨h1, h2⟩ | ⟨h1, h2⟩
  · have ht := (hv.sym_iff h1).2
    rcases h2 with h2 | h2
    · rwa [Nat.eq_of_beq_eq_true h2] at ht
    · obtain rfl := Nat.eq_of_beq_eq_true h2
      cases v' <;> first
        | rfl
        | (simp [tyOk] at ht; done)
  · rw [hv.flat_iff h1]; exact h2
theorem cellK_flat {k : Nat} {v : Value} (h : cellK k v = true) : symFlat v = true := by
  unfold cellK at h
  rw [Bool.or_eq_true, Bool.and_eq_true, Bool.and_eq_true] at h
  rcases h with ⟨h1, -⟩ | ⟨h1, -⟩ <;> simp [symFlat, h1]
theorem cellsK_ok {m : Emb} {ks : List Nat} : ∀ {l l' : List Value} {o : Nat}, cellsK ks o l = true → RVs m l l' → l.all symFlat = true ∧ ∀ i v, l'[i]? = some v → tyOk (ks.getD ((o + i) % ks.length) 0) v = true := by
  intro l
  induction l with
  | nil => intro l' o _ hv; rw [hv.nil_left]; exact ⟨rfl, fun i v h => by simp at h⟩
  | cons x l ih =>
    intro l' o h hv
    have h : (cellK (ks.getD (Nat.mod o ks.length) 0) x && cellsK ks (o + 1) l) = true := h
    rw [Bool.and_eq_true] at h
    obtain ⟨x', t, rfl, k1, k2⟩ := hv.head
    obtain ⟨i1, i2⟩ := ih h.2 k2
    refine ⟨by rw [List.all_cons, cellK_flat h.1, i1]; rfl, fun i v hi => ?_⟩
    cases i with
    | zero =>
      injection hi with hi
      subst hi
      exact cellK_ok h.1 k1
    | succ i =>
      have := i2 i v (by simpa using hi)
      rwa [show o + 1 + i = o + (i + 1) by omega] at this
theorem overL_get {xs vs : List Value} {o i : Nat} (h : o + vs.length ≤ xs.length) : (overL xs o vs)[i]? = if o ≤ i ∧ i < o + vs.length then vs[i - o]? else xs[i]? := by
  unfold overL
  have ht : (xs.take o).length = o := by rw [List.length_take]; omega
  by_cases h1 : i < o
  · rw [if_neg (by omega), List.getElem?_append_left (by omega), List.getElem?_take, if_pos h1]
  · rw [List.getElem?_append_right (by omega), ht]
    by_cases h2 : i < o + vs.length
    · rw [if_pos ⟨by omega, h2⟩, List.getElem?_append_left (by omega)]
    · rw [if_neg (by omega), List.getElem?_append_right (by omega), List.getElem?_drop]
      congr 1
      omega
theorem overL_length {xs vs : List Value} {o : Nat} (h : o + vs.length ≤ xs.length) : (overL xs o vs).length = xs.length := by
  unfold overL
  simp only [List.length_append, List.length_take, List.length_drop]
  omega
theorem allCell_of {ks : List Nat} {l : List Value} {o : Nat} (h : ∀ i v, l[i]? = some v → tyOk (ks.getD ((o + i) % ks.length) 0) v = true) : allCell l = true := by
  induction l generalizing o with
  | nil => rfl
  | cons x l ih =>
    rw [allCell_cons, isCell_ty (h 0 x rfl), Bool.true_and]
    exact ih (o := o + 1) (fun i v hi => by
      have := h (i + 1) v (by simpa using hi)
      rwa [show o + (i + 1) = o + 1 + i by omega] at this)
theorem frOk_wide {str : Bool} {fr : Nat × Nat} {n : Nat} (h : FrOk str fr n) : FrOk true fr n := by
  obtain ⟨s, h1, -⟩ := h
  exact ⟨s, h1, fun _ => rfl⟩
theorem new_row {P : Program} {m : Emb} {hp : Hp} {w : World} (inv : Inv m hp w.heap) (hf : m hp.nx = none) (ty : TypeId) {l l' : List Value} (hl : RVs m l l') :
    ∃ m', (newRow ty ⟨l'⟩).run P w = .ok ⟨w.heap.size, 0, none⟩ { w with heap := w.heap.push (.cells ⟨l'⟩ ty) } ∧
      Step m hp w m' { tr := hp.tr.set hp.nx (.cells (Tr.putList l .nil 0) (len l) ty none false), nx := Nat.succ hp.nx, lo := hp.lo } { w with heap := w.heap.push (.cells ⟨l'⟩ ty) } ∧
      RA m' ⟨hp.nx, 0, none⟩ ⟨w.heap.size, 0, none⟩ ∧ ∀ n c, RS m' ⟨hp.nx, 0, none⟩ n c ⟨w.heap.size, 0, none⟩ c := by
  have hs := step_new (w := w) inv hf (t := Tr.putList l .nil 0) (n := len l) (ty := ty) (op := none) (str := false) (cs := ⟨l'⟩) (fr := (0, 0))
    (by rw [len_eq]; exact Same.list hl) (fun _ => by rw [len_eq, hl.1]; rfl) (fun _ _ h => by cases h) (FrOk.plain _ _) w.drawn
  exact ⟨_, rfl, hs, ⟨rfl, _, Emb.put_same _ _ _, rfl⟩, fun n c => ⟨rfl, _, Emb.put_same _ _ _, .inl ⟨rfl, rfl, rfl⟩⟩⟩
theorem buildSliceA_nx {cx : Cx} {hp hp' : Hp} {t : TypeId} {n : Nat} {ps : List (Nat × Value)} {v : Value} (h : buildSliceA cx hp t n ps = some (v, hp')) : hp'.nx = Nat.succ hp.nx := by
  unfold buildSliceA at h
  repeat' (split at h)
  all_goals first
    | (cases h; done)
    | (injection h with h; injection h with _ h; subst h; rfl)
theorem makeSliceA_nx {cx : Cx} {hp hp' : Hp} {t : TypeId} {l c v : Value} (h : makeSliceA cx hp t l c = some (v, hp')) : hp'.nx = Nat.succ hp.nx := by
  unfold makeSliceA at h
  repeat' (split at h)
  all_goals first
    | (cases h; done)
    | (injection h with h; injection h with _ h; subst h; rfl)
theorem makeS_nx {cx : Cx} {hp hp' : Hp} {t : TypeId} {l c v : Value} (h : makeS cx hp t l c = some (v, hp')) : hp'.nx = Nat.succ hp.nx := by
  unfold makeS at h
  repeat' (split at h)
  all_goals first
    | (cases h; done)
    | (injection h with h; injection h with _ h; subst h; rfl)
theorem makeSliceT_nx {cx : Cx} {hp hp' : Hp} {t : TypeId} {l c v : Value} (h : makeSliceT cx hp t l c = some (v, hp')) : hp'.nx = Nat.succ hp.nx := by
  unfold makeSliceT at h
  split at h
  · rename_i r hr
    injection h with h
    subst h
    exact makeSliceA_nx hr
  · exact makeS_nx h
section
variable {P : Program} {cx : Cx} (ok : CxOk P cx) {m : Emb} {hp : Hp} {w : World}
include ok
theorem alloc_ok (inv : Inv m hp w.heap) (hf : m hp.nx = none) {e : TypeId} {te : TI} (hte : cx.t e = some te) :
    Turns P m hp w (Instr.alloc e true (.tuple #[])) (.pointer (some ⟨hp.nx, 0, none⟩)) (newRowA hp e (cellsOf te.zero) none).2 := by
  have hte := ok.ty _ _ hte
  obtain ⟨i, -, -, -, -, -, -, hfl⟩ := ti_parts hte
  obtain ⟨m', h1, h2, h3, -⟩ := new_row (P := P) inv hf e (flat_rvs (m := m) hfl)
  refine ⟨m', .pointer (some ⟨w.heap.size, 0, none⟩), _, ?_, h2, .ptr _ _ h3⟩
  have hz : te.zero.cells = ⟨cellsOf te.zero⟩ := Array.ext' (cells_list _)
  simp only [Instr.alloc, Sem.run_bind, run_zero hte, Result.andThen_ok, newVar, hz, h1, Sem.run_pure]
theorem box_ok (inv : Inv m hp w.heap) (hf : m hp.nx = none) {e : TypeId} {v v' : Value} (hv : RV m v v') :
    Turns P m hp w (Instr.box e v') (.pointer (some ⟨hp.nx, 0, none⟩)) (newRowA hp e (cellsOf v) none).2 := by
  obtain ⟨m', h1, h2, h3, -⟩ := new_row (P := P) inv hf e hv.cells
  refine ⟨m', .pointer (some ⟨w.heap.size, 0, none⟩), _, ?_, h2, .ptr _ _ h3⟩
  have hz : v'.cells = ⟨cellsOf v'⟩ := Array.ext' (cells_list _)
  simp only [Instr.box, Sem.run_bind, Result.andThen_ok, newVar, hz, h1, Sem.run_pure]
theorem storeA_ok (inv : Inv m hp w.heap) {t : TypeId} {a a' : Addr} {v v' : Value} {hp' : Hp} (ha : RA m a a') (hv : RV m v v') (h : storeA cx hp t a v = some hp') :
    ∃ w', (storeVar t a' v').run P w = .ok () w' ∧ Step m hp w m hp' w' := by
  unfold storeA at h
  split at h
  · rename_i ti hti
    have hti := ok.ty _ _ hti
    split at h
    · rename_i hsz
      have hsz := Nat.eq_of_beq_eq_true hsz
      rw [len_eq] at hsz
      obtain ⟨w', h1, h2⟩ := putRow_run P inv ha hv.cells h
      refine ⟨w', ?_, h2⟩
      have : v'.cells.size = ti.size := by rw [cells_size, ← hv.cells.1]; exact hsz
      simp only [storeVar, Sem.run_bind, run_size hti, Result.andThen_ok, this, cells_list]
      simpa using h1
    · cases h
  · cases h
theorem fieldPlaces_ok : ∀ (l : List Field) (ps : List (Nat × Nat)), fieldPlaces cx l = some ps → (l.mapM (fun f => (do pure (f.offset, ← sizeOf f.type) : Sem (Nat × Nat)))).run P w = .ok ps w := by
  intro l
  induction l with
  | nil => intro ps h; have h : some [] = some ps := h; injection h with h; subst h; rfl
  | cons f l ih =>
    intro ps h
    have h : (match cx.t f.type with
      | none => none
      | some ti => match fieldPlaces cx l with
        | none => none
        | some ps => some ((f.offset, ti.size) :: ps)) = some ps := h
    split at h
    · cases h
    · rename_i ti hti
      have hti := ok.ty _ _ hti
      split at h
      · cases h
      · rename_i ps2 hps
        injection h with h
        subst h
        rw [List.mapM_cons, run_then (a := (f.offset, ti.size)) (w1 := w) (by simp [run_size hti]), run_then (ih _ hps)]
        rfl
theorem buildA_ok {t : TypeId} {ps ps' : List (Nat × Value)} {v : Value} (hps : RVp m ps ps') (h : buildA cx t ps = some v) : Reads P m w (Instr.build t ⟨ps'⟩) v := by
  unfold buildA at h
  split at h
  · rename_i ti hti
    have hti := ok.ty _ _ hti
    have hu := run_under hti w
    obtain ⟨i, -, -, -, -, -, -, hfl⟩ := ti_parts hti
    have hzero : Same m (Tr.putList (cellsOf ti.zero) .nil 0) ti.zero.cells (len (cellsOf ti.zero)) := by
      rw [len_eq]
      have := Same.list (flat_rvs (m := m) hfl)
      have hz : ti.zero.cells = ⟨cellsOf ti.zero⟩ := Array.ext' (cells_list _)
      rw [hz]
      exact this
    have hzs : ti.zero.cells.size = len (cellsOf ti.zero) := by rw [len_eq, cells_size]
    split at h
    · rename_i fs hd
      split at h
      · rename_i pl hpl
        split at h
        · rename_i tr htr
          split at h
          · rename_i l hl
            injection h with h
            subst h
            obtain ⟨cs2, h1, h2, h3⟩ := fillA_ok ps ps' _ _ tr hps hzero hzs htr
            have hrv := same_list h3 h2 hl
            refine ⟨.agg ⟨cs2.toList⟩, ?_, .agg _ _ hrv.1 hrv.2⟩
            have hmap : (fs.mapM (fun f => (do pure (f.offset, ← sizeOf f.type) : Sem (Nat × Nat)))).run P w = .ok pl.toArray w := by
              rw [Array.mapM_eq_mapM_toList]
              simp only [Sem.run_map, fieldPlaces_ok ok fs.toList pl hpl, Result.andThen_ok]
            have hpl2 : (fun (i : Nat) => pl.toArray[i]?) = fun (i : Nat) => pl[i]? := by funext i; simp
            simp only [Instr.build, Sem.run_bind, run_zero hti, Result.andThen_ok, hu, hd, hmap]
            rw [hpl2, h1]
            rfl
          · cases h
        · cases h
      · cases h
    · rename_i n e hd
      split at h
      · rename_i te hte
        have hte := ok.ty _ _ hte
        split at h
        · rename_i tr htr
          split at h
          · rename_i l hl
            injection h with h
            subst h
            obtain ⟨cs2, h1, h2, h3⟩ := fillA_ok ps ps' _ _ tr hps hzero hzs htr
            have hrv := same_list h3 h2 hl
            refine ⟨.agg ⟨cs2.toList⟩, ?_, .agg _ _ hrv.1 hrv.2⟩
            simp only [Instr.build, Sem.run_bind, run_zero hti, Result.andThen_ok, hu, hd, run_size hte]
            rw [h1]
            rfl
          · cases h
        · cases h
      · cases h
    · cases h
  · cases h
theorem buildSliceA_ok (inv : Inv m hp w.heap) (hf : m hp.nx = none) {t : TypeId} {n : Nat} {ps ps' : List (Nat × Value)} {v : Value} {hp' : Hp} (hps : RVp m ps ps') (h : buildSliceA cx hp t n ps = some (v, hp')) :
    Turns P m hp w (Instr.buildSlice t n ⟨ps'⟩) v hp' := by
  unfold buildSliceA at h
  split at h
  · rename_i ti hti
    have hti := ok.ty _ _ hti
    have hu := run_under hti w
    split at h
    · rename_i e hd
      split at h
      · rename_i te hte
        have hte := ok.ty _ _ hte
        obtain ⟨i, -, -, -, -, -, -, hfl⟩ := ti_parts hte
        split at h
        · rename_i b1 b2 b3
          have b1 := Nat.le_of_ble_eq_true b1
          have b2 := Nat.le_of_ble_eq_true b2
          have b3 := Nat.eq_of_beq_eq_true b3
          rw [len_eq] at b3
          split at h
          · rename_i tr htr
            injection h with h
            injection h with h1 h2
            subst h1 h2
            have hz : ∃ cs0 : Array Value, cs0.toList = repeatA (cellsOf te.zero) n ∧ ((do
                let zero ← if n * te.size = 0 then pure #[] else do pure (← zeroValue e).cells
                pure ((Array.range (n * te.size)).map (zero[· % zero.size]!)) : Sem (Array Value))).run P w = .ok cs0 w := by
              by_cases h0 : n * te.size = 0
              · have hn : n = 0 := by
                  rcases Nat.mul_eq_zero.mp h0 with h | h <;> omega
                subst hn
                exact ⟨#[], rfl, by simp⟩
              · refine ⟨(Array.range (n * te.size)).map (te.zero.cells[· % te.zero.cells.size]!), zeros_eq _ n _ (by rw [b3]) (by omega), ?_⟩
                simp only [if_neg h0, Sem.run_bind, run_zero hte, Result.andThen_ok, Sem.run_pure]
            obtain ⟨cs0, hz1, hz2⟩ := hz
            have hfl2 := flat_repeat hfl n
            have hlen : cs0.size = n * te.size := by rw [← Array.length_toList, hz1, repeatA_len, b3]
            have hs0 : Same m (Tr.putList (zerosA te n) .nil 0) cs0 (n * te.size) := by
              have := Same.list (flat_rvs (m := m) hfl2)
              rw [repeatA_len, b3] at this
              have he : cs0 = ⟨repeatA (cellsOf te.zero) n⟩ := Array.ext' hz1
              rw [he]
              exact this
            obtain ⟨cs2, h1, h2, h3⟩ := fillA_ok ps ps' _ _ tr hps hs0 hlen htr
            have hs := step_new (w := w) inv hf (t := tr) (n := n * te.size) (ty := e) (op := none) (str := false) (cs := cs2) (fr := (0, 0)) h3 (fun _ => h2) (fun _ _ h => by cases h) (FrOk.plain _ _) w.drawn
            refine ⟨_, .slice (some ⟨w.heap.size, 0, none⟩) n n, _, ?_, hs, .slice _ _ _ _ _ ⟨rfl, _, Emb.put_same _ _ _, .inl ⟨rfl, rfl, rfl⟩⟩⟩
            simp only [Sem.run_bind] at hz2
            simp only [Instr.buildSlice, Sem.run_bind, hu, hd, Result.andThen_ok, run_size hte]
            rw [if_neg (by omega)]
            by_cases h0 : n * te.size = 0
            · simp only [if_pos h0, Sem.run_bind, Sem.run_pure, Result.andThen_ok] at hz2 ⊢
              injection hz2 with hz2 _
              rw [hz2, h1]
              rfl
            · simp only [if_neg h0, Sem.run_bind, run_zero hte, Sem.run_pure, Result.andThen_ok] at hz2 ⊢
              injection hz2 with hz2 _
              rw [hz2, h1]
              rfl
          · cases h
        · cases h
      · cases h
    · cases h
  · cases h
theorem make_run {t e : TypeId} {ti te : TI} (hti : tiOf P t = some ti) (hte : tiOf P e = some te) (hd : ti.desc = .slice e) {n k : Nat} {q1 q2 : IntKind} (b1 : n ≤ k) (b2 : k < 9223372036854775808) (b3 : te.bytes * k ≤ 140737488351232) (b4 : 1 ≤ te.size) (b5 : (cellsOf te.zero).length = te.size) :
    ∃ cs0 : Array Value, cs0.toList = repeatA (cellsOf te.zero) k ∧ (Instr.makeSlice t (.int q1 (.ofNat n)) (.int q2 (.ofNat k))).run P w = .ok (.slice (some ⟨w.heap.size, 0, none⟩) n k) { w with heap := w.heap.push (.cells cs0 e) } := by
  have hu := run_under hti w
  obtain ⟨i, -, -, -, -, -, -, hfl⟩ := ti_parts hte
  have hwn : IntKind.i64.wrap (Int.ofNat n) = Int.ofNat n := by
    rw [← wrapA_eq]; unfold wrapA; simp only; rw [show Nat.blt n 9223372036854775808 = true from Nat.blt_eq.mpr (by omega)]
  have hwk : IntKind.i64.wrap (Int.ofNat k) = Int.ofNat k := by
    rw [← wrapA_eq]; unfold wrapA; simp only; rw [show Nat.blt k 9223372036854775808 = true from Nat.blt_eq.mpr (by omega)]
  obtain ⟨inf, hi1, hi2, hi3, hi4⟩ := run_info hte w
  have hmul := b3
  have hlarge : ¬ ((te.bytes : Int) * (k : Int) > 2 ^ 48) := by
    rw [← Int.natCast_mul]; omega
  have hfl2 := flat_repeat hfl k
  have hz : ∃ cs0 : Array Value, cs0.toList = repeatA (cellsOf te.zero) k ∧ (if k * te.size = 0 then cs0 = #[] else cs0 = (Array.range (k * te.size)).map (te.zero.cells[· % te.zero.cells.size]!)) := by
    by_cases h0 : k * te.size = 0
    · have hk : k = 0 := by rcases Nat.mul_eq_zero.mp h0 with h | h <;> omega
      subst hk
      exact ⟨#[], rfl, by simp⟩
    · exact ⟨_, zeros_eq _ k _ (by rw [b5]) (by omega), by rw [if_neg h0]⟩
  obtain ⟨cs0, hz1, hz2⟩ := hz
  refine ⟨cs0, hz1, ?_⟩
  have hcond : (decide (Int.ofNat k < 0) || decide ((te.bytes : Int) * Int.ofNat k > 2 ^ 48) || decide (Int.ofNat n < 0) || decide (Int.ofNat n > Int.ofNat k)) = false := by
    have q1 : ¬ (Int.ofNat k < 0) := by simp only [Int.ofNat_eq_natCast]; omega
    have q2 : ¬ (Int.ofNat n < 0) := by simp only [Int.ofNat_eq_natCast]; omega
    have q3 : ¬ (Int.ofNat n > Int.ofNat k) := by simp only [Int.ofNat_eq_natCast]; omega
    have q4 : ¬ ((te.bytes : Int) * Int.ofNat k > 2 ^ 48) := hlarge
    rw [decide_eq_false q1, decide_eq_false q2, decide_eq_false q3, decide_eq_false q4]
    rfl
  simp only [Instr.makeSlice, Sem.run_bind, hu, hd, Result.andThen_ok, asInt, asIntOf, Sem.run_pure, hi1, hi3, hwn, hwk]
  rw [if_neg (by rw [hcond]; simp)]
  have e1 : (Int.ofNat n).toNat = n := rfl
  have e2 : (Int.ofNat k).toNat = k := rfl
  simp only [e1, e2, Sem.run_bind, run_askRoom, Result.andThen_ok, run_size hte]
  by_cases h0 : k * te.size = 0
  · rw [if_pos h0] at hz2
    subst hz2
    have hk : k = 0 := by rcases Nat.mul_eq_zero.mp h0 with h | h <;> omega
    simp only [if_pos h0, Sem.run_bind, Sem.run_pure, Result.andThen_ok]
    subst hk
    have he : ∀ f : Nat → Value, Array.map f (Array.range (0 * te.size)) = #[] := fun f => by
      apply Array.ext'
      simp
    rw [he]
    rfl
  · rw [if_neg h0] at hz2
    simp only [if_neg h0, Sem.run_bind, run_zero hte, Sem.run_pure, Result.andThen_ok, ← hz2]
    rfl
theorem makeSliceA_ok (inv : Inv m hp w.heap) (hf : m hp.nx = none) {t : TypeId} {l l' c c' v : Value} {hp' : Hp} (hl : RV m l l') (hc : RV m c c') (h : makeSliceA cx hp t l c = some (v, hp')) :
    Turns P m hp w (Instr.makeSlice t l' c') v hp' := by
  unfold makeSliceA at h
  split at h
  · cases h
  · rename_i ti hti
    have hti := ok.ty _ _ hti
    have hu := run_under hti w
    split at h
    · rename_i e q1 n q2 k hd
      obtain rfl := hl.flat_iff rfl
      obtain rfl := hc.flat_iff rfl
      split at h
      · rename_i te hte
        have hte := ok.ty _ _ hte
        obtain ⟨i, -, -, -, -, -, -, hfl⟩ := ti_parts hte
        split at h
        · rename_i b1 b2 b3 b4 b5
          have b1 := Nat.le_of_ble_eq_true b1
          have b2 := Nat.le_of_ble_eq_true b2
          have b3 := Nat.le_of_ble_eq_true b3
          have b4 := Nat.le_of_ble_eq_true b4
          have b5 := Nat.eq_of_beq_eq_true b5
          rw [len_eq] at b5
          injection h with h
          injection h with h1 h2
          subst h1 h2
          obtain ⟨cs0, hz1, hrun⟩ := make_run (P := P) (w := w) (q1 := q1) (q2 := q2) ok hti hte hd b1 (by omega) (Nat.le_trans (Nat.mul_le_mul b3 b2) (by decide)) b4 b5
          have hfl2 := flat_repeat hfl k
          have hlen : cs0.size = k * te.size := by rw [← Array.length_toList, hz1, repeatA_len, b5]
          have hs0 : Same m (Tr.putList (zerosA te k) .nil 0) cs0 (k * te.size) := by
            have := Same.list (flat_rvs (m := m) hfl2)
            rw [repeatA_len, b5] at this
            have he : cs0 = ⟨repeatA (cellsOf te.zero) k⟩ := Array.ext' hz1
            rw [he]
            exact this
          have hs := step_new (w := w) inv hf (t := Tr.putList (zerosA te k) .nil 0) (n := k * te.size) (ty := e) (op := none) (str := false) (cs := cs0) (fr := (0, 0)) hs0 (fun _ => hlen) (fun _ _ h => by cases h) (FrOk.plain _ _) w.drawn
          exact ⟨_, .slice (some ⟨w.heap.size, 0, none⟩) n k, _, hrun, hs, .slice _ _ _ _ _ ⟨rfl, _, Emb.put_same _ _ _, .inl ⟨rfl, rfl, rfl⟩⟩⟩
        · cases h
      · cases h
    · cases h
theorem makeS_ok (gw : GW cx m w) (inv : Inv m hp w.heap) (hf : m hp.nx = none) {t : TypeId} {l l' c c' v : Value} {hp' : Hp} (hl : RV m l l') (hc : RV m c c') (h : makeS cx hp t l c = some (v, hp')) :
    Turns P m hp w (Instr.makeSlice t l' c') v hp' := by
  unfold makeS at h
  split at h
  · cases h
  rename_i ti hti
  have hti := ok.ty _ _ hti
  split at h
  case h_2 => cases h
  rename_i l c dd l2 c2 e hd
  split at h
  case h_2 => cases h
  rename_i te ts hte hts
  have hte := ok.ty _ _ hte
  split at h
  case h_2 => cases h
  rename_i h1 h2 h3 h4 h5
  simp only [Bool.and_eq_true] at h1 h3 h4
  obtain ⟨s1, s2, s3⟩ := h1
  have b3 := Nat.le_of_ble_eq_true h3.1
  have b4 := Nat.le_of_ble_eq_true h3.2
  have b5 := Nat.eq_of_beq_eq_true h4.1
  have b6 := Nat.eq_of_beq_eq_true h4.2
  rw [len_eq] at b5 b6
  injection h with h
  injection h with e1 e2
  subst e1; subst e2
  obtain rfl := vEq_ok 60 _ _ s3
  have hsl : symFlat l = true := by simp [symFlat, s1]
  obtain ⟨kd, k, rfl, hk⟩ := tLe_iff (leS_ok gw.as h2 hl hsl)
  have hkd : kd = .i64 := by
    have ht := (hl.sym_iff s1).2
    rw [Nat.eq_of_beq_eq_true s2] at ht
    cases kd <;> first
      | rfl
      | (simp [tyOk, kindCode] at ht; done)
  subst hkd
  have hcc : c' = .int .i64 (.ofNat k) := by
    have a := hc.to_denS hsl
    have b := hl.to_denS hsl
    rw [a] at b
    exact Option.some.inj b
  subst hcc
  obtain ⟨cs0, hz1, hrun⟩ := make_run (P := P) (w := w) (q1 := .i64) (q2 := .i64) ok hti hte hd (Nat.le_refl k) (Nat.lt_of_le_of_lt (Nat.le_trans hk (Nat.div_le_self _ _)) (by decide)) (Nat.le_trans (Nat.mul_le_mul_left _ hk) (Nat.mul_div_le _ _)) b4 b5
  have hlen : cs0.size = k * te.size := by rw [← Array.length_toList, hz1, repeatA_len, b5]
  obtain ⟨-, -, -, -, -, -, -, hfl⟩ := ti_parts hte
  have hcells := cellsK_ok (m := m) h5 (flat_rvs hfl)
  have hrep : ∀ (n : Nat) (i : Nat) (v : Value), (repeatA (cellsOf te.zero) n)[i]? = some v → tyOk ((ts.map (cellTy cx.P)).getD (i % (ts.map (cellTy cx.P)).length) 0) v = true := by
    intro n
    induction n with
    | zero => intro i v hi; rw [show repeatA (cellsOf te.zero) 0 = [] from rfl] at hi; simp at hi
    | succ n ih =>
      intro i v hi
      rw [repeatA_succ] at hi
      by_cases hlt : i < (cellsOf te.zero).length
      · rw [List.getElem?_append_left hlt] at hi
        have := hcells.2 i v hi
        rwa [Nat.zero_add] at this
      · rw [List.getElem?_append_right (by omega)] at hi
        have := ih _ v hi
        have hmod : (i - (cellsOf te.zero).length) % (ts.map (cellTy cx.P)).length = i % (ts.map (cellTy cx.P)).length := by
          rw [List.length_map, b6, b5]
          conv => rhs; rw [show i = i - te.size + te.size by omega]
          rw [Nat.add_mod_right]
        rwa [hmod] at this
  have htimes : ∀ n, timesL (cellsOf te.zero) n = repeatA (cellsOf te.zero) n := by
    intro n
    induction n with
    | zero => rfl
    | succ n ih => rw [repeatA_succ, ← ih]; simp [timesL, List.replicate_succ]
  have hor : OR m (.seq (sy 0 11 (num 4 :: l :: cellsOf te.zero)) l (ts.map (cellTy cx.P)) e) ⟨w.heap.size, 0, some (k * te.size, te.size), true⟩ (w.heap.push (.cells cs0 e)) := by
    refine ⟨repeatA (cellsOf te.zero) k, cs0, (0, 0), ⟨?_, ⟨k, hl, by rw [repeatA_len, List.length_map, b5, b6]⟩, fun i v hv => ⟨hrep k i v hv, ?_⟩⟩, getD_push_size, FrOk.plain _ _, by rw [hlen, List.length_map, b6]⟩
    · refine denS_iff.1 ?_
      rw [denS_app, mapO_of (denS_flat rfl) (mapO_of (hl.to_denS hsl) ((flat_rvs hfl : RVs m _ _).to_denS hcells.1))]
      show m.u 10 _ = _
      rw [gw.as.seq, ← htimes]
      rfl
    · rw [Nat.zero_add, ← Array.getElem?_toList, hz1]
      exact hv
  have st := step_newob (m := m) (hp := hp) (w := w) inv hf hor
  exact ⟨_, _, _, hrun, st, .seq _ _ k k _ (hl.mono st.le) (Nat.le_refl k) ⟨_, _, _, Emb.put_same _ _ _, rfl, rfl, by show 0 + k * te.size ≤ k * te.size; omega⟩⟩
theorem makeSliceT_ok (gw : GW cx m w) (inv : Inv m hp w.heap) (hf : m hp.nx = none) {t : TypeId} {l l' c c' v : Value} {hp' : Hp} (hl : RV m l l') (hc : RV m c c') (h : makeSliceT cx hp t l c = some (v, hp')) :
    Turns P m hp w (Instr.makeSlice t l' c') v hp' := by
  unfold makeSliceT at h
  split at h
  · rename_i r hr
    injection h with h
    subst h
    exact makeSliceA_ok ok inv hf hl hc hr
  · exact makeS_ok ok gw inv hf hl hc h
end
end Go.Proofs.YtaepplhgeeaidaaDoor.Ev
end
