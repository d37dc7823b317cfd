import Derived.Test.YtaepplhgeeaidaaDoorEvO
set_option linter.unusedVariables false
set_option linter.unusedSimpArgs false
set_option linter.unusedSectionVars false
namespace Go.Proofs.YtaepplhgeeaidaaDoor.Ev
open Go Go.RowKit
theorem Grow.refl (hp : Hp) : Grow hp hp := ⟨Nat.le_refl _, Nat.le_refl _, fun _ _ _ => rfl, id⟩
theorem Grow.trans {a b c : Hp} (h : Grow a b) (k : Grow b c) : Grow a c :=
  ⟨Nat.le_trans h.nx k.nx, Nat.le_trans k.lo h.lo, fun x hx hl => (k.low x (Nat.lt_of_lt_of_le hx h.nx) hl).trans (h.low x hx (Nat.lt_of_lt_of_le hl k.lo)), fun d => k.dom (h.dom d)⟩
theorem grow_new (hp : Hp) (o : AObj) : Grow hp { tr := hp.tr.set hp.nx o, nx := Nat.succ hp.nx, lo := hp.lo } :=
  ⟨Nat.le_succ _, Nat.le_refl _, fun b hb _ => by simp only [Tr.get_set, if_neg (show b ≠ hp.nx by omega)], fun d b ob h => by
    simp only [Tr.get_set] at h
    by_cases hb : b = hp.nx
    · subst hb; exact Nat.lt_succ_self _
    · rw [if_neg hb] at h; exact Nat.lt_succ_of_lt (d b ob h)⟩
theorem grow_set {hp : Hp} {b : Nat} (o : AObj) (hb : Dom hp → b < hp.nx) : Grow hp { tr := hp.tr.set b o, nx := hp.nx, lo := least b hp.lo } :=
  ⟨Nat.le_refl _, least_le_right _ _, fun x hx hl => by
    have : x ≠ b := fun hh => by
      have := least_le_left b hp.lo
      simp only at hl
      omega
    simp only [Tr.get_set, if_neg this], fun d x ob h => by
    simp only [Tr.get_set] at h
    by_cases hx : x = b
    · subst hx; exact hb d
    · rw [if_neg hx] at h; exact d x ob h⟩
theorem putRow_grow {hp hp' : Hp} {a : Addr} {l : List Value} (h : putRow hp a l = some hp') : Grow hp hp' := by
  unfold putRow at h
  split at h
  · rename_i hob
    split at h
    · split at h
      · injection h with h; subst h; exact grow_set _ (fun d => d _ _ hob)
      · cases h
    · cases h
  · cases h
theorem growA_grow {hp hp' : Hp} {te : TI} {e : TypeId} {str : Bool} {need : Nat} {l : List Value} {v : Value} (h : growA hp te e str need l = some (v, hp')) : Grow hp hp' := by
  unfold growA at h
  split at h
  · injection h with h; injection h with _ h; subst h; exact grow_new _ _
  · cases h
theorem killA_grow {hp : Hp} {b : Nat} {ob : AObj} (h : hp.tr.get b = some ob) : Grow hp (killA hp b) := grow_set _ (fun d => d _ _ h)
theorem appendS_grow {cx : Cx} {hp hp' : Hp} {e : TypeId} {te : TI} {u : TypeDesc} {s x v : Value} (h : appendS cx hp e te u s x = some (v, hp')) : Grow hp hp' := by
  unfold appendS at h
  repeat' (split at h)
  all_goals first
    | (cases h; done)
    | (injection h with h; injection h with _ h; subst h; exact Grow.refl _)
    | (injection h with h; injection h with _ h; subst h; exact grow_new _ _)
theorem appendA_grow {cx : Cx} {hp hp' : Hp} {t u : TypeId} {s x v : Value} (h : appendA cx hp t u s x = some (v, hp')) : Grow hp hp' := by
  unfold appendA at h
  repeat' (split at h)
  all_goals first
    | (cases h; done)
    | (injection h with h; injection h with _ h; subst h; exact Grow.refl _)
    | (rename_i hput; injection h with h; injection h with _ h; subst h; exact putRow_grow hput)
    | exact growA_grow h
    | exact appendS_grow h
    | (apply Grow.trans ?_ (growA_grow h); apply killA_grow; assumption)
theorem dstQ_there {cx : Cx} {hp : Hp} {te : TI} {e : TypeId} {ks : List Nat} {s : Value} {b : Nat} {en n : Value} (h : dstQ cx hp te e ks s = some (b, en, n)) : ∃ ob, hp.tr.get b = some ob := by
  unfold dstQ at h
  repeat' (split at h)
  all_goals first
    | (cases h; done)
    | skip
  · rename_i hob _ _ _ _ _ _ _ _
    injection h with h
    injection h with h _
    subst h
    exact ⟨_, hob⟩
  · injection h with h
    injection h with h _
    subst h
    exact ⟨_, by assumption⟩
theorem appendQ_grow {cx : Cx} {hp hp' : Hp} {e : TypeId} {te : TI} {u : TypeDesc} {s x v : Value} (h : appendQ cx hp e te u s x = some (v, hp')) : Grow hp hp' := by
  unfold appendQ at h
  split at h
  · cases h
  split at h
  case h_2 => cases h
  split at h
  · repeat' (split at h)
    all_goals first
      | (cases h; done)
      | (injection h with h; injection h with _ h; subst h; exact Grow.refl _)
      | (injection h with h; injection h with _ h; subst h; exact grow_new _ _)
  · split at h
    case h_2 => cases h
    rename_i hd
    split at h
    case h_2 => cases h
    injection h with h
    injection h with _ h
    subst h
    obtain ⟨ob, hob⟩ := dstQ_there hd
    exact Grow.trans (killA_grow hob) (grow_new (killA hp _) _)
theorem appendT_grow {cx : Cx} {hp hp' : Hp} {t u : TypeId} {s x v : Value} (h : appendT cx hp t u s x = some (v, hp')) : Grow hp hp' := by
  unfold appendT at h
  split at h
  · rename_i r hr
    injection h with h
    subst h
    exact appendA_grow hr
  · repeat' (split at h)
    all_goals first
      | (cases h; done)
      | exact appendQ_grow h
theorem storeQ_grow {cx : Cx} {hp hp' : Hp} {t : TypeId} {b : Nat} {xs ys : List Value} {v : Value} (h : storeQ cx hp t b xs ys v = some hp') : Grow hp hp' := by
  unfold storeQ at h
  split at h
  case h_2 => cases h
  split at h
  case h_2 => cases h
  rename_i hob
  split at h
  case h_2 => cases h
  injection h with h
  subst h
  exact grow_set _ (fun d => d _ _ hob)
theorem copyA_grow {cx : Cx} {hp hp' : Hp} {t : TypeId} {d x v : Value} (h : copyA cx hp t d x = some (v, hp')) : Grow hp hp' := by
  unfold copyA at h
  repeat' (split at h)
  all_goals first
    | (cases h; done)
    | (injection h with h; injection h with _ h; subst h; exact Grow.refl _)
    | (rename_i hput; injection h with h; injection h with _ h; subst h; exact putRow_grow hput)
theorem clearA_grow {cx : Cx} {hp hp' : Hp} {t : TypeId} {x v : Value} (h : clearA cx hp t x = some (v, hp')) : Grow hp hp' := by
  unfold clearA at h
  repeat' (split at h)
  all_goals first
    | (cases h; done)
    | (injection h with h; injection h with _ h; subst h; exact Grow.refl _)
    | (rename_i hput; injection h with h; injection h with _ h; subst h; exact putRow_grow hput)
theorem mapOb_get {hp : Hp} {x : Value} {b : Nat} {es : List MapEntry} {c : Nat} (h : mapOb hp x = some (b, es, c)) : hp.tr.get b = some (.map es c) := by
  unfold mapOb at h
  split at h
  · split at h
    · rename_i hob
      injection h with h
      injection h with h1 h
      injection h with h2 h3
      subst h1 h2 h3
      exact hob
    · cases h
  · cases h
theorem mapSet_grow {hp : Hp} {x : Value} {b : Nat} {es : List MapEntry} {c : Nat} (h : mapOb hp x = some (b, es, c)) (es' : List MapEntry) (c' : Nat) : Grow hp (mapSet hp b es' c') := grow_set _ (fun d => d _ _ (mapOb_get h))
theorem makeMapA_grow {cx : Cx} {hp hp' : Hp} {t : TypeId} {r : Option Value} {v : Value} (h : makeMapA cx hp t r = some (v, hp')) : Grow hp hp' := by
  unfold makeMapA at h
  repeat' (split at h)
  all_goals first
    | (cases h; done)
    | (injection h with h; injection h with _ h; subst h; exact grow_new _ _)
theorem extH_grow {cx : Cx} {hp hp' : Hp} {k : ExtK} {args : List Value} {v : Value} (h : extH cx hp k args = some (v, hp')) : Grow hp hp' := by
  unfold extH at h
  repeat' (split at h)
  all_goals first
    | (cases h; done)
    | (injection h with h; injection h with _ h; subst h; exact grow_new _ _)
    | (injection h with h; injection h with _ h; subst h; exact Grow.refl _)
theorem mapUpdateA_grow {cx : Cx} {hp hp' : Hp} {t : TypeId} {x k v : Value} (h : mapUpdateA cx hp t x k v = some hp') : Grow hp hp' := by
  unfold mapUpdateA at h
  repeat' (split at h)
  all_goals first
    | (cases h; done)
    | (injection h with h; subst h; apply mapSet_grow; assumption)
theorem mapEntryA_grow {cx : Cx} {hp hp' : Hp} {t : TypeId} {x k v : Value} (h : mapEntryA cx hp t x k = some (v, hp')) : Grow hp hp' := by
  unfold mapEntryA at h
  repeat' (split at h)
  all_goals first
    | (cases h; done)
    | (injection h with h; injection h with _ h; subst h; apply mapSet_grow; assumption)
theorem entryStoreA_grow {hp hp' : Hp} {x s v : Value} (h : entryStoreA hp x s v = some hp') : Grow hp hp' := by
  unfold entryStoreA at h
  repeat' (split at h)
  all_goals first
    | (cases h; done)
    | (injection h with h; subst h; apply mapSet_grow; assumption)
theorem deleteA_grow {cx : Cx} {hp hp' : Hp} {t : TypeId} {x k : Value} (h : deleteA cx hp t x k = some hp') : Grow hp hp' := by
  unfold deleteA at h
  repeat' (split at h)
  all_goals first
    | (cases h; done)
    | (injection h with h; subst h; exact Grow.refl _)
    | (injection h with h; subst h; apply mapSet_grow; assumption)
theorem clearM_grow {cx : Cx} {hp hp' : Hp} {t : TypeId} {x v : Value} (h : clearM cx hp t x = some (v, hp')) : Grow hp hp' := by
  unfold clearM at h
  repeat' (split at h)
  all_goals first
    | (cases h; done)
    | (injection h with h; injection h with _ h; subst h; apply mapSet_grow; assumption)
    | (injection h with h; injection h with _ h; subst h; exact Grow.refl _)
theorem builtinA_grow {cx : Cx} {hp hp' : Hp} {b : Builtin} {ts : List TypeId} {args : List Value} {v : Value} (h : builtinA cx hp b ts args = some (v, hp')) : Grow hp hp' := by
  unfold builtinA at h
  split at h
  case h_8 => exact appendT_grow h
  case h_9 => exact copyA_grow h
  case h_10 =>
    split at h
    · rename_i r hr
      injection h with h
      subst h
      exact clearA_grow hr
    · exact clearM_grow h
  case h_7 =>
    repeat' (split at h)
    all_goals first
      | (cases h; done)
      | (injection h with h; injection h with _ h; subst h; apply killA_grow; assumption)
  all_goals
    repeat' (split at h)
    all_goals first
      | (cases h; done)
      | (injection h with h; injection h with _ h; subst h; exact Grow.refl _)
      | (rename_i hst; injection h with h; injection h with _ h; subst h; exact deleteA_grow hst)
theorem convA_grow {cx : Cx} {hp hp' : Hp} {s d : TypeId} {x v : Value} (h : convA cx hp s d x = some (v, hp')) : Grow hp hp' := by
  unfold convA at h
  repeat' (split at h)
  all_goals first
    | (cases h; done)
    | (injection h with h; injection h with _ h; subst h; exact Grow.refl _)
    | (injection h with h; injection h with _ h; subst h; exact grow_new _ _)
    | (rename_i hob; injection h with h; injection h with _ h; subst h; exact grow_set _ (fun d => d _ _ hob))
theorem convT_grow {cx : Cx} {hp hp' : Hp} {s d : TypeId} {x v : Value} (h : convT cx hp s d x = some (v, hp')) : Grow hp hp' := by
  unfold convT at h
  split at h
  · split at h
    · rename_i r hr
      injection h with h
      subst h
      exact convA_grow hr
    · split at h
      · injection h with h; injection h with _ h; subst h; exact Grow.refl _
      · cases h
  · split at h
    · injection h with h; injection h with _ h; subst h; exact Grow.refl _
    · unfold convB at h
      repeat' (split at h)
      all_goals first
        | (cases h; done)
        | (injection h with h; injection h with _ h; subst h; exact Grow.refl _)
        | (injection h with h; injection h with _ h; subst h; exact grow_new _ _)
theorem storeA_grow {cx : Cx} {hp hp' : Hp} {t : TypeId} {a : Addr} {v : Value} (h : storeA cx hp t a v = some hp') : Grow hp hp' := by
  unfold storeA at h
  repeat' (split at h)
  all_goals first
    | (cases h; done)
    | exact putRow_grow h
theorem buildSliceA_grow {cx : Cx} {hp hp' : Hp} {t : TypeId} {n : Nat} {ps : List (Nat × Value)} {v : Value} (h : buildSliceA cx hp t n ps = some (v, hp')) : Grow hp hp' := by
  unfold buildSliceA at h
  repeat' (split at h)
  all_goals first
    | (cases h; done)
    | (injection h with h; injection h with _ h; subst h; exact grow_new _ _)
theorem makeSliceA_grow {cx : Cx} {hp hp' : Hp} {t : TypeId} {l c v : Value} (h : makeSliceA cx hp t l c = some (v, hp')) : Grow hp hp' := by
  unfold makeSliceA at h
  repeat' (split at h)
  all_goals first
    | (cases h; done)
    | (injection h with h; injection h with _ h; subst h; exact grow_new _ _)
theorem makeSliceT_grow {cx : Cx} {hp hp' : Hp} {t : TypeId} {l c v : Value} (h : makeSliceT cx hp t l c = some (v, hp')) : Grow hp hp' := by
  unfold makeSliceT at h
  split at h
  · rename_i r hr
    injection h with h
    subst h
    exact makeSliceA_grow hr
  · unfold makeS at h
    repeat' (split at h)
    all_goals first
      | (cases h; done)
      | (injection h with h; injection h with _ h; subst h; exact grow_new _ _)
theorem rangeA_grow {cx : Cx} {hp hp' : Hp} {t : TypeId} {x v : Value} (h : rangeA cx hp t x = some (v, hp')) : Grow hp hp' := by
  unfold rangeA at h
  repeat' (split at h)
  all_goals first
    | (cases h; done)
    | (injection h with h; injection h with _ h; subst h; exact grow_new _ _)
theorem nextA_grow {hp : Hp} {x : Value} {str : Bool} {l : List (Value × Hp)} (h : nextA hp x str = some l) : ∀ r, r ∈ l → Grow hp r.2 := by
  intro r hr
  unfold nextA at h
  split at h
  · split at h
    · rename_i hob
      split at h
      · injection h with h; subst h; rw [List.mem_singleton.1 hr]; exact grow_set _ (fun d => d _ _ hob)
      · injection h with h; subst h; rw [List.mem_singleton.1 hr]; exact Grow.refl _
    · injection h with h; subst h; rw [List.mem_singleton.1 hr]; exact Grow.refl _
    · rename_i hob
      split at h
      · split at h
        · split at h
          · injection h with h; subst h; rw [List.mem_singleton.1 hr]; exact Grow.refl _
          · injection h with h
            subst h
            obtain ⟨e, -, rfl⟩ := List.mem_map.1 hr
            exact grow_set _ (fun d => d _ _ hob)
        · cases h
      · cases h
    · cases h
  · cases h
def GrowOk (call : CallF) : Prop := ∀ c args hp l, call c args hp = some l → ∀ r, r ∈ l → Grow hp r.2
def TSR.hp : TSR → Hp
  | .ok _ hp => hp
  | .pan _ _ hp => hp
theorem loopOb_get {hp : Hp} {b : Nat} {l : ALoop} (h : loopOb hp b = some l) : hp.tr.get b = some (.loop l) := by
  unfold loopOb at h
  split at h
  · rename_i l' hl
    injection h with h
    rw [hl, h]
  · cases h
theorem loopSet_grow {hp : Hp} {b : Nat} {l l' : ALoop} (h : loopOb hp b = some l) : Grow hp (loopSet hp b l') := grow_set _ (fun d => d _ _ (loopOb_get h))
section
variable {cx : Cx} {call : CallF} {sz : Nat}
theorem evOps_cons (all : List Oper) (o : Oper) (l : List Oper) (tm : Tr Value) (hp : Hp) : evOps cx call sz all (o :: l) tm hp = bindL (evOper cx call sz all o tm hp) fun r => match r with
      | .ok tm' hp' => evOps cx call sz all l tm' hp'
      | .pan v tm' hp' => some [.pan v tm' hp'] := by
  show bindL _ _ = bindL _ _
  congr 1
  funext r
  cases r <;> rfl
theorem evDraw_nil (all : List Oper) (bef : List Nat) (tm : Tr Value) (hp : Hp) (ms : List DMk) : evDraw cx call sz all bef [] tm hp ms = match marksOk bef ms with
      | true => some (tm, hp)
      | false => none := rfl
theorem evDraw_cons (all : List Oper) (bef : List Nat) (o : Oper) (l : List Oper) (tm : Tr Value) (hp : Hp) (ms : List DMk) : evDraw cx call sz all bef (o :: l) tm hp ms = match evOper cx call sz all o tm { tr := hp.tr, nx := hp.nx, lo := hp.nx } with
      | some [.ok tm' hp'] => evDraw cx call sz all bef l tm' { tr := hp'.tr, nx := hp'.nx, lo := least hp'.lo hp.lo } (ms ++ [dmkA cx all o tm hp hp'])
      | _ => none := rfl
theorem iter_succ (body : Fm → Hp → CS) (n : Nat) (fm : Fm) (hp : Hp) : iter body (n + 1) fm hp = bindL (body fm hp) fun o => match o with
      | (.normal, fm', hp') => iter body n fm' hp'
      | o => some [o] := by
  show bindL _ (seqQ _) = _
  rw [seqQ_eq]
  rfl
theorem evCode_region (n id : Nat) (ro : Option Nat) (ops : Array Oper) (draw : Bool) (fm : Fm) (hp : Hp) : evCode cx call sz n ro (.region id ops draw) fm hp = match draw with
      | false => evRegion cx call sz ro ops.toList fm hp
      | true => match drawOk ops.toList with
        | true => match evDraw cx call sz ops.toList (befA ops.toList []) ops.toList fm.tm hp [] with
          | some (tm', hp') => some [(AX.normal, ⟨tm', fm.ds⟩, hp')]
          | none => none
        | false => none := rfl
theorem evCode_seq (n : Nat) (ro : Option Nat) (a b : Code) (fm : Fm) (hp : Hp) : evCode cx call sz n ro (.seq a b) fm hp = bindL (evCode cx call sz n ro a fm hp) fun o => match o with
      | (.normal, fm', hp') => evCode cx call sz n ro b fm' hp'
      | o => some [o] := by
  show bindL _ (seqQ _) = _
  rw [seqQ_eq]
  rfl
theorem evCode_cond (n : Nat) (ro : Option Nat) (c : Operand) (a b : Code) (fm : Fm) (hp : Hp) : evCode cx call sz n ro (.cond c a b) fm hp = match evX fm.tm c with
      | some v => match boolA cx v with
        | some true => evCode cx call sz n ro a fm hp
        | some false => evCode cx call sz n ro b fm hp
        | none => none
      | none => none := condQ_eq _ _ _ _ _
theorem evCode_block (n id : Nat) (ro : Option Nat) (a : Code) (fm : Fm) (hp : Hp) : evCode cx call sz n ro (.block id a) fm hp = bindL (evCode cx call sz n ro a fm hp) fun o => match o with
      | (.exit id', fm', hp') => match Nat.beq id' id with
        | true => some [(.normal, fm', hp')]
        | false => some [(.exit id', fm', hp')]
      | o => some [o] := by
  show bindL _ (blockQ id) = _
  rw [blockQ_eq]
  rfl
theorem evCodeS_region (n id : Nat) (ops : Array Oper) (draw : Bool) (fm : Fm) (hp : Hp) (pan : Option Value) : evCodeS cx call sz n (.region id ops draw) fm hp pan = match draw, recA ops.toList with
      | false, some (o, l) => match putA sz fm.tm o.dst (recV pan) with
        | none => none
        | some tm' => bindL (bindL (evOps cx call sz ops.toList l tm' hp) (plainEnd fm.ds)) (withPan none)
      | _, _ => bindL (evCode cx call sz n none (.region id ops draw) fm hp) (withPan pan) := rfl
theorem evRes_parts {o : Oper} {tm : Tr Value} {r : Res × Hp} {l : List TSR} (h : evRes sz o tm r = some l) :
    (∃ v hp' tm', r = (.ret v, hp') ∧ putA sz tm o.dst v = some tm' ∧ l = [.ok tm' hp']) ∨ (∃ v hp', r = (.pan v, hp') ∧ l = [.pan v tm hp']) := by
  rw [evRes_def] at h
  split at h
  · rename_i v hp'
    rw [force_eq] at h
    split at h
    · cases h
    · rename_i tm' hput
      injection h with h
      exact .inl ⟨v, hp', tm', rfl, hput, h.symm⟩
  · rename_i v hp'
    injection h with h
    exact .inr ⟨v, hp', rfl, h.symm⟩
  · cases h
theorem evOper_parts {all : List Oper} {o : Oper} {tm : Tr Value} {hp : Hp} {l : List TSR} (h : evOper cx call sz all o tm hp = some l) :
    (wantA cx all tm o.guard = some false ∧ ∃ tm', putA sz tm o.dst undef = some tm' ∧ l = [.ok tm' hp]) ∨
    (wantA cx all tm o.guard = some true ∧ ∃ l0, evOp cx call tm hp o.op = some l0 ∧ (∀ v hp', (Res.ret v, hp') ∈ l0 → ∃ tm', putA sz tm o.dst v = some tm' ∧ TSR.ok tm' hp' ∈ l) ∧ (∀ v hp', (Res.pan v, hp') ∈ l0 → TSR.pan v tm hp' ∈ l) ∧
      (∀ r, r ∈ l → ∃ q, q ∈ l0 ∧ r.hp = q.2) ∧ (∀ q, q ∈ l0 → ∃ r, r ∈ l ∧ r.hp = q.2)) := by
  rw [evOper_def] at h
  split at h
  · cases h
  · rename_i hw
    split at h
    · cases h
    · rename_i tm' hput
      injection h with h
      exact .inl ⟨hw, tm', hput, h.symm⟩
  · rename_i hw
    obtain ⟨l0, h1, h2⟩ := bindL_mem h
    refine .inr ⟨hw, l0, h1, fun v hp' hm => ?_, fun v hp' hm => ?_, fun r hr => ?_, fun q hq => ?_⟩
    · obtain ⟨ys, h3, -, h4⟩ := h2 _ hm
      rcases evRes_parts h3 with ⟨v', hp'', tm', e, h5, rfl⟩ | ⟨v', hp'', e, -⟩
      · injection e with e1 e2
        injection e1 with e1
        subst e1 e2
        exact ⟨tm', h5, h4 _ (List.mem_singleton.2 rfl)⟩
      · injection e with e1 _; cases e1
    · obtain ⟨ys, h3, -, h4⟩ := h2 _ hm
      rcases evRes_parts h3 with ⟨v', hp'', tm', e, h5, rfl⟩ | ⟨v', hp'', e, rfl⟩
      · injection e with e1 _; cases e1
      · injection e with e1 e2
        injection e1 with e1
        subst e1 e2
        exact h4 _ (List.mem_singleton.2 rfl)
    · obtain ⟨l1, x, k1, k2, ys, k3, k4⟩ := bindL_from h r hr
      rw [h1] at k1
      injection k1 with k1
      subst k1
      refine ⟨x, k2, ?_⟩
      rcases evRes_parts k3 with ⟨v', hp'', tm', rfl, h5, rfl⟩ | ⟨v', hp'', rfl, rfl⟩
      · rw [List.mem_singleton.1 k4]; rfl
      · rw [List.mem_singleton.1 k4]; rfl
    · obtain ⟨ys, h3, -, h4⟩ := h2 _ hq
      rcases evRes_parts h3 with ⟨v', hp'', tm', rfl, h5, rfl⟩ | ⟨v', hp'', rfl, rfl⟩
      · exact ⟨_, h4 _ (List.mem_singleton.2 rfl), rfl⟩
      · exact ⟨_, h4 _ (List.mem_singleton.2 rfl), rfl⟩
theorem plainEnd_parts {ds : List ADef} {r : TSR} {l : List (AX × Fm × Hp)} (h : plainEnd ds r = some l) : (∃ tm hp, r = .ok tm hp ∧ l = [(.normal, ⟨tm, ds⟩, hp)]) ∨ (∃ v tm hp, r = .pan v tm hp ∧ l = [(.pan v, ⟨tm, ds⟩, hp)]) := by
  cases r with
  | ok tm hp => injection h with h; exact .inl ⟨tm, hp, rfl, h.symm⟩
  | pan v tm hp => injection h with h; exact .inr ⟨v, tm, hp, rfl, h.symm⟩
theorem deferEnd_parts {o : Oper} {c : Call} {ds : List ADef} {r : TSR} {l : List (AX × Fm × Hp)} (h : deferEnd cx sz o c ds r = some l) :
    (∃ tm hp d tm2, r = .ok tm hp ∧ evDefer cx tm c = some d ∧ putA sz tm o.dst undef = some tm2 ∧ l = [(.normal, ⟨tm2, d :: ds⟩, hp)]) ∨ (∃ v tm hp, r = .pan v tm hp ∧ l = [(.pan v, ⟨tm, ds⟩, hp)]) := by
  cases r with
  | ok tm hp =>
    simp only [deferEnd] at h
    split at h
    · rename_i d tm2 h1 h2
      injection h with h
      exact .inl ⟨tm, hp, d, tm2, rfl, h1, h2, h.symm⟩
    · cases h
  | pan v tm hp => injection h with h; exact .inr ⟨v, tm, hp, rfl, h.symm⟩
theorem rangeEnd_parts {b : Nat} {fm : Fm} {r : Res × Hp} {l : List (AX × Fm × Hp)} (h : rangeEnd b fm r = some l) :
    (∃ v hp2 lp, r = (.ret v, hp2) ∧ loopOb hp2 b = some lp ∧ lp.st ≠ .busy ∧ l = [(jumpA lp.pend, fm, killA (loopSet hp2 b { lp with st := .exhausted }) b)]) ∨ (∃ v hp2, r = (.pan v, hp2) ∧ l = [(.pan v, fm, hp2)]) := by
  unfold rangeEnd at h
  split at h
  · rename_i v hp2
    split at h
    · cases h
    · rename_i lp hlp
      split at h
      · cases h
      · rename_i hst
        injection h with h
        exact .inl ⟨v, hp2, lp, rfl, hlp, hst, h.symm⟩
  · rename_i v hp2
    injection h with h
    exact .inr ⟨v, hp2, rfl, h.symm⟩
  · cases h
theorem evRange_parts {ro : Option Nat} {g : Operand} {ps : Array Tmp} {a b : Code} {fm : Fm} {hp : Hp} {l : List (AX × Fm × Hp)} (h : evRange cx call sz ro g ps a b fm hp = some l) :
    roOk hp ro = true ∧ ∃ f first captured, evX fm.tm g = some (.func (.func f) first captured) ∧ cx.x f = none ∧
      bindL (call (.fn f) (first.toList ++ [.func (.yield hp.nx) ⟨[]⟩ ⟨[]⟩] ++ captured.toList) (loopNew hp { st := .ready, pend := none, tm := fm.tm, sz := sz, ps := ps.toList, assign := a, body := b })) (rangeEnd hp.nx ⟨fm.tm, markA ro fm.ds⟩) = some l := by
  unfold evRange at h
  split at h
  · cases h
  · rename_i hro
    split at h
    · rename_i f first captured hg
      split at h
      · cases h
      · rename_i hx
        exact ⟨hro, f, first, captured, hg, hx, h⟩
    · cases h
theorem evRegion_parts {ro : Option Nat} {ops : List Oper} {fm : Fm} {hp : Hp} {l : List (AX × Fm × Hp)} (h : evRegion cx call sz ro ops fm hp = some l) :
    bindL (evOps cx call sz ops ops fm.tm hp) (plainEnd fm.ds) = some l ∨ ∃ init o c, dferA ops = some (init, o, c) ∧ ro = none ∧ bindL (evOps cx call sz ops init fm.tm hp) (deferEnd cx sz o c fm.ds) = some l := by
  unfold evRegion at h
  split at h
  · exact .inl h
  · rename_i init o c hd
    split at h
    · cases h
    · exact .inr ⟨init, o, c, hd, rfl, h⟩
theorem roundEnd_parts {b : Nat} {o : AX × Fm × Hp} {l : List (Res × Hp)} (h : roundEnd b o = some l) :
    (∀ v, o.1 ≠ .pan v) ∧ ∃ lp2, loopOb o.2.2 b = some lp2 ∧ l = [(.ret (.bool (isNormal o.1)), loopSet o.2.2 b { lp2 with st := (match isNormal o.1 with | true => .ready | false => .done), pend := pendA o.1 })] := by
  unfold roundEnd at h
  split at h
  · cases h
  · rename_i x fm hp2 hx
    split at h
    · cases h
    · rename_i lp2 hlp
      injection h with h
      exact ⟨fun v hv => hx v hv, lp2, hlp, h.symm⟩
theorem roundGo_parts {n b : Nat} {body : Code} {o : AX × Fm × Hp} {l : List (Res × Hp)} (h : roundGo cx call n b sz body o = some l) :
    o.1 = .normal ∧ ∃ lp1, loopOb o.2.2 b = some lp1 ∧ lp1.st = .ready ∧ bindL (evCode cx call sz n (some b) body o.2.1 (loopSet o.2.2 b { lp1 with st := .busy })) (roundEnd b) = some l := by
  unfold roundGo at h
  split at h
  · rename_i fm1 hp1
    split at h
    · cases h
    · rename_i lp1 hlp
      split at h
      · rename_i hst
        exact ⟨rfl, lp1, hlp, hst, h⟩
      · cases h
  · cases h
theorem evRound_parts {n b : Nat} {args : List Value} {hp : Hp} {l : List (Res × Hp)} (h : evRound cx call n b args hp = some l) :
    ∃ lp tm0, loopOb hp b = some lp ∧ lp.st = .ready ∧ putPs lp.sz lp.ps args lp.tm = some tm0 ∧ bindL (evCode cx call lp.sz n (some b) lp.assign ⟨tm0, []⟩ hp) (roundGo cx call n b lp.sz lp.body) = some l := by
  unfold evRound at h
  split at h
  · cases h
  · rename_i lp hlp
    split at h
    · rename_i hst
      split at h
      · cases h
      · rename_i tm0 hps
        exact ⟨lp, tm0, hlp, hst, hps, h⟩
    · cases h
theorem retEnd_parts {fi : FI} {tm : Tr Value} {q : Option Value × Hp} {l : List (Res × Hp)} (h : retEnd cx fi tm q = some l) :
    (∃ v, q.1 = some v ∧ l = [(.pan v, q.2)]) ∨ (q.1 = none ∧ ∃ vs, resA cx tm q.2 fi.results = some vs ∧ l = [(.ret (oneA vs), q.2)]) := by
  unfold retEnd at h
  split at h
  · rename_i v hp2
    injection h with h
    exact .inl ⟨v, rfl, h.symm⟩
  · rename_i hp2
    split at h
    · rename_i vs hvs
      injection h with h
      exact .inr ⟨rfl, vs, hvs, h.symm⟩
    · cases h
theorem bodyEnd_parts {fi : FI} {o : AX × Fm × Hp} {l : List (Res × Hp)} (h : bodyEnd cx call fi o = some l) :
    ∃ u, modeA o.1 = some u ∧ bindL (evLeave call o.2.1.ds u o.2.2) (retEnd cx fi o.2.1.tm) = some l := by
  unfold bodyEnd at h
  split at h
  · cases h
  · rename_i u hu
    exact ⟨u, hu, h⟩
theorem dfrEnd_parts {fi : FI} {o : AX × Fm × Hp × Option Value} {l : List (Res × Hp)} (h : dfrEnd cx fi o = some l) :
    o.2.1.ds = [] ∧ modeA o.1 = some none ∧ (∃ vs, resA cx o.2.1.tm o.2.2.1 fi.results = some vs) ∧ l = [(.went o.2.2.2, o.2.2.1)] := by
  unfold dfrEnd at h
  split at h
  rename_i x tm ds hp2 pan
  split at h
  · rename_i hm
    split at h
    · rename_i vs hvs
      injection h with h
      exact ⟨rfl, hm, ⟨vs, hvs⟩, h.symm⟩
    · cases h
  · cases h
theorem evLeave_mark (ds : List ADef) (u : Option Value) (hp : Hp) : evLeave call (.mark :: ds) u hp = evLeave call ds u hp := rfl
theorem evLeave_call (f : FuncId) (args : List Value) (ds : List ADef) (u : Option Value) (hp : Hp) : evLeave call (.call f args :: ds) u hp = bindL (call (.dfr f u) args hp) (leaveEnd (evLeave call ds)) := rfl
theorem leaveEnd_parts {ih : Option Value → Hp → Option (List (Option Value × Hp))} {r : Res × Hp} {l : List (Option Value × Hp)} (h : leaveEnd ih r = some l) : ∃ pan, r.1 = .went pan ∧ ih pan r.2 = some l := by
  unfold leaveEnd at h
  split at h
  · rename_i pan hp; exact ⟨pan, rfl, h⟩
  · cases h
theorem killAll_cons (hp : Hp) (b : Nat) (l : List Nat) : killAll hp (b :: l) = killAll (killA hp b) l := rfl
theorem killAll_nx : ∀ (l : List Nat) (hp : Hp), (killAll hp l).nx = hp.nx
  | [], _ => rfl
  | b :: l, hp => by rw [killAll_cons, killAll_nx l]; rfl
theorem killAll_grow : ∀ (l : List Nat) (hp : Hp), (∀ b, b ∈ l → b < hp.nx) → Grow hp (killAll hp l)
  | [], hp, _ => Grow.refl _
  | b :: l, hp, h => by
    rw [killAll_cons]
    exact Grow.trans (grow_set .dead (fun _ => h b List.mem_cons_self)) (killAll_grow l (killA hp b) (fun x hx => h x (List.mem_cons_of_mem _ hx)))
theorem resEq_ok : ∀ (a b : Res), resEq a b = true → a = b := by
  intro a b h
  cases a <;> cases b <;> first
    | (simp [resEq] at h; done)
    | (rw [vEq_ok _ _ _ h])
theorem killAll_get : ∀ (l : List Nat) (hp : Hp) (k : Nat), (killAll hp l).tr.get k = if k ∈ l then some .dead else hp.tr.get k
  | [], hp, k => by rw [if_neg (by simp)]; rfl
  | b :: l, hp, k => by
    rw [killAll_cons, killAll_get l]
    show (if k ∈ l then some AObj.dead else (hp.tr.set b .dead).get k) = _
    rw [Tr.get_set]
    by_cases h1 : k ∈ l
    · rw [if_pos h1, if_pos (List.mem_cons_of_mem _ h1)]
    · by_cases h2 : k = b
      · rw [if_neg h1, if_pos h2, if_pos (by rw [h2]; exact List.mem_cons_self)]
      · rw [if_neg h1, if_neg h2, if_neg (by simp [h1, h2])]
theorem killAll_lo : ∀ (l : List Nat) (hp : Hp) (n : Nat), n ≤ (killAll hp l).lo ↔ n ≤ hp.lo ∧ ∀ k, k ∈ l → n ≤ k
  | [], hp, n => ⟨fun h => ⟨h, fun k hk => by cases hk⟩, fun h => h.1⟩
  | b :: l, hp, n => by
    rw [killAll_cons, killAll_lo l]
    show n ≤ least b hp.lo ∧ _ ↔ _
    rw [least_eq]
    constructor
    · rintro ⟨h1, h2⟩
      refine ⟨by split at h1 <;> omega, fun k hk => ?_⟩
      rcases List.mem_cons.1 hk with rfl | hk
      · split at h1 <;> omega
      · exact h2 k hk
    · rintro ⟨h1, h2⟩
      have := h2 b List.mem_cons_self
      exact ⟨by split <;> omega, fun k hk => h2 k (List.mem_cons_of_mem _ hk)⟩
def Forgot (a c : Res × Hp) : Prop := ∃ D : List Nat, (∀ k, k ∈ D → k < a.2.nx) ∧ c.1 = a.1 ∧ c.2.nx = a.2.nx ∧ c.2.lo ≤ (killAll a.2 D).lo ∧ ∀ k, c.2.tr.get k = (killAll a.2 D).tr.get k
theorem Forgot.refl (a : Res × Hp) : Forgot a a := ⟨[], fun k hk => (by cases hk), rfl, rfl, Nat.le_refl _, fun _ => rfl⟩
theorem Forgot.trans {a b c : Res × Hp} (h : Forgot a b) (k : Forgot b c) : Forgot a c := by
  obtain ⟨D, h1, h2, h3, h4, h5⟩ := h
  obtain ⟨D', k1, k2, k3, k4, k5⟩ := k
  refine ⟨D ++ D', fun x hx => ?_, k2.trans h2, k3.trans h3, ?_, fun x => ?_⟩
  · rcases List.mem_append.1 hx with hx | hx
    · exact h1 x hx
    · have := k1 x hx; omega
  · obtain ⟨q1, q2⟩ := (killAll_lo _ _ _).1 k4
    obtain ⟨q3, q4⟩ := (killAll_lo _ _ _).1 (Nat.le_trans q1 h4)
    refine (killAll_lo _ _ _).2 ⟨q3, fun x hx => ?_⟩
    rcases List.mem_append.1 hx with hx | hx
    · exact q4 x hx
    · exact q2 x hx
  · rw [k5, killAll_get, h5, killAll_get, killAll_get]
    by_cases q1 : x ∈ D <;> by_cases q2 : x ∈ D' <;> simp [q1, q2]
theorem Forgot.grow {a c : Res × Hp} (h : Forgot a c) : Grow a.2 c.2 := by
  obtain ⟨D, h1, h2, h3, h4, h5⟩ := h
  have g := killAll_grow D a.2 h1
  refine ⟨Nat.le_of_eq h3.symm, Nat.le_trans h4 g.lo, fun b hb hl => ?_, fun hd b ob hob => ?_⟩
  · rw [h5]
    exact g.low b hb (Nat.lt_of_lt_of_le hl h4)
  · rw [h5] at hob
    have := g.dom hd b ob hob
    rw [killAll_nx] at this
    omega
def Known (h0 : Hp) (a : Res × Hp) : Prop := h0.lo ≤ h0.nx ∧ Grow h0 a.2 ∧ Dom a.2
theorem Known.forgot {h0 : Hp} {a c : Res × Hp} (k : Known h0 a) (h : Forgot a c) : Known h0 c := ⟨k.1, k.2.1.trans h.grow, h.grow.dom k.2.2⟩
theorem diffA_same {t t' : Tr AObj} : ∀ (n a k : Nat), k ∉ diffA t t' n a → a ≤ k → k < a + n → t.get k = t'.get k
  | 0, a, k, _, h1, h2 => by omega
  | n + 1, a, k, h, h1, h2 => by
    have h : k ∉ (match oEq obEq (t.get a) (t'.get a) with
      | true => diffA t t' n (a + 1)
      | false => a :: diffA t t' n (a + 1)) := h
    split at h
    · rename_i he
      by_cases hk : k = a
      · rw [hk]; exact oEq_ok obEq_ok _ _ he
      · exact diffA_same n (a + 1) k h (by omega) (by omega)
    · exact diffA_same n (a + 1) k (fun hh => h (List.mem_cons_of_mem _ hh)) (by
        by_cases hk : k = a
        · exact absurd (by rw [hk]; exact List.mem_cons_self) h
        · omega) (by omega)
theorem join2_first {n0 : Nat} {a b c : Res × Hp} (h : join2 n0 a b = some c) : Forgot a c := by
  unfold join2 at h
  split at h
  · simp only at h
    split at h
    · injection h with h
      subst h
      exact ⟨_, fun k hk => Nat.blt_eq.mp (List.mem_filter.1 hk).2, rfl, rfl, least_le_left _ _, fun k => rfl⟩
    · cases h
  · cases h
theorem join2_parts {n0 : Nat} {h0 : Hp} {a b c : Res × Hp} (ka : Known h0 a) (kb : Known h0 b) (h : join2 n0 a b = some c) : Forgot a c ∧ Forgot b c := by
  refine ⟨join2_first h, ?_⟩
  unfold join2 at h
  split at h
  · rename_i h1 h2
    have h1 := resEq_ok _ _ h1
    have h2 := Nat.eq_of_beq_eq_true h2
    simp only at h
    split at h
    · injection h with h
      subst h
      have hD : ∀ k, k ∈ (diffA a.2.tr b.2.tr (a.2.nx - least a.2.lo b.2.lo) (least a.2.lo b.2.lo)).filter (fun k => Nat.blt k a.2.nx) → k < a.2.nx := fun k hk => Nat.blt_eq.mp (List.mem_filter.1 hk).2
      refine ⟨_, fun k hk => by rw [← h2]; exact hD k hk, h1, h2, ?_, fun k => ?_⟩
      · refine (killAll_lo _ _ _).2 ⟨least_le_right _ _, fun k hk => ?_⟩
        exact Nat.le_trans (least_le_left _ _) (((killAll_lo _ _ _).1 (Nat.le_refl _)).2 k hk)
      · show (killAll a.2 _).tr.get k = _
        rw [killAll_get, killAll_get]
        by_cases hk : k ∈ (diffA a.2.tr b.2.tr (a.2.nx - least a.2.lo b.2.lo) (least a.2.lo b.2.lo)).filter (fun k => Nat.blt k a.2.nx)
        · rw [if_pos hk, if_pos hk]
        · rw [if_neg hk, if_neg hk]
          by_cases hn : k < a.2.nx
          · by_cases hl : least a.2.lo b.2.lo ≤ k
            · exact diffA_same _ _ k (fun hm => hk (List.mem_filter.2 ⟨hm, Nat.blt_eq.mpr hn⟩)) hl (by omega)
            · have l1 := least_eq a.2.lo b.2.lo
              have l2 : k < a.2.lo ∧ k < b.2.lo := by split at l1 <;> omega
              have l3 := ka.2.1.lo
              have l4 := ka.1
              rw [ka.2.1.low k (by omega) l2.1, kb.2.1.low k (by omega) l2.2]
          · cases ha : a.2.tr.get k with
            | some ob => exact absurd (ka.2.2 k ob ha) hn
            | none => cases hb : b.2.tr.get k with
              | some ob => exact absurd (kb.2.2 k ob hb) (by omega)
              | none => rfl
    · cases h
  · cases h
theorem joinF_first {n0 : Nat} : ∀ (l : List (Res × Hp)) (x c : Res × Hp), joinF n0 l x = some c → Forgot x c := by
  intro l
  induction l with
  | nil => intro x c h; have h : some x = some c := h; injection h with h; subst h; exact .refl _
  | cons b l ih =>
    intro x c h
    have h : (match join2 n0 x b with
      | some c => joinF n0 l c
      | none => none) = some c := h
    split at h
    · rename_i d hd
      exact (join2_first hd).trans (ih d c h)
    · cases h
theorem joinF_parts {n0 : Nat} {h0 : Hp} : ∀ (l : List (Res × Hp)) (x c : Res × Hp), Known h0 x → (∀ b, b ∈ l → Known h0 b) → joinF n0 l x = some c → Forgot x c ∧ ∀ b, b ∈ l → Forgot b c := by
  intro l
  induction l with
  | nil => intro x c _ _ h; have h : some x = some c := h; injection h with h; subst h; exact ⟨.refl _, fun b hb => by cases hb⟩
  | cons b l ih =>
    intro x c kx kl h
    have h : (match join2 n0 x b with
      | some c => joinF n0 l c
      | none => none) = some c := h
    split at h
    · rename_i d hd
      obtain ⟨h1, h2⟩ := join2_parts kx (kl b List.mem_cons_self) hd
      obtain ⟨h3, h4⟩ := ih d c (kx.forgot h1) (fun y hy => kl y (List.mem_cons_of_mem _ hy)) h
      refine ⟨h1.trans h3, fun y hy => ?_⟩
      rcases List.mem_cons.1 hy with rfl | hy
      · exact h2.trans h3
      · exact h4 y hy
    · cases h
theorem joinA_mem (n0 : Nat) {h0 : Hp} (l : List (Res × Hp)) (hk : ∀ a, a ∈ l → Known h0 a) : ∀ a, a ∈ l → ∃ c, c ∈ joinA n0 l ∧ Forgot a c := by
  intro a ha
  unfold joinA
  split
  · cases ha
  · exact ⟨a, ha, .refl a⟩
  · rename_i x l hne
    split
    · rename_i c hc
      obtain ⟨h1, h2⟩ := joinF_parts (h0 := h0) _ _ _ (hk x List.mem_cons_self) (fun b hb => hk b (List.mem_cons_of_mem _ hb)) hc
      refine ⟨c, List.mem_singleton.2 rfl, ?_⟩
      rcases List.mem_cons.1 ha with rfl | ha
      · exact h1
      · exact h2 a ha
    · exact ⟨a, ha, .refl a⟩
theorem joinA_from (n0 : Nat) (l : List (Res × Hp)) : ∀ c, c ∈ joinA n0 l → ∃ a, a ∈ l ∧ Forgot a c := by
  intro c hc
  unfold joinA at hc
  split at hc
  · cases hc
  · exact ⟨c, hc, .refl c⟩
  · rename_i x l hne
    split at hc
    · rename_i d hd
      rw [List.mem_singleton.1 hc]
      exact ⟨x, List.mem_cons_self, joinF_first _ _ _ hd⟩
    · exact ⟨c, hc, .refl c⟩
theorem unloL_mem {lo : Nat} : ∀ {l : List (Res × Hp)} {q : Res × Hp}, q ∈ unloL lo l ↔ ∃ c, c ∈ l ∧ q = (c.1, ⟨c.2.tr, c.2.nx, least c.2.lo lo⟩)
  | [], q => ⟨(fun h => by cases h), (fun ⟨c, h, _⟩ => by cases h)⟩
  | x :: l, q => by
    have ih := unloL_mem (lo := lo) (l := l) (q := q)
    show q ∈ unlo1 lo x :: unloL lo l ↔ _
    rw [List.mem_cons, ih]
    constructor
    · rintro (h | ⟨c, h1, h2⟩)
      · exact ⟨x, List.mem_cons_self, h⟩
      · exact ⟨c, List.mem_cons_of_mem _ h1, h2⟩
    · rintro ⟨c, h1, h2⟩
      rcases List.mem_cons.1 h1 with rfl | h1
      · exact .inl h2
      · exact .inr ⟨c, h1, h2⟩
theorem grow_unlo {hp h : Hp} (g : Grow ⟨hp.tr, hp.nx, hp.nx⟩ h) : Grow hp ⟨h.tr, h.nx, least h.lo hp.lo⟩ :=
  ⟨g.nx, least_le_right _ _, fun b hb hl => g.low b hb (Nat.lt_of_lt_of_le hl (least_le_left _ _)), g.dom⟩
theorem evBody_parts {n : Nat} {f : FuncId} {args : List Value} {hp : Hp} {l : List (Res × Hp)} (h : evBody cx call n f args hp = some l) :
    ∃ fi l0, cx.f f = some fi ∧ args.length ≤ fi.ntmps ∧ bindL (evCode cx call fi.ntmps n none fi.body ⟨Tr.putList args .nil 0, []⟩ ⟨hp.tr, hp.nx, hp.nx⟩) (bodyEnd cx call fi) = some l0 ∧ l = unloL hp.lo (joinA hp.nx l0) := by
  unfold evBody at h
  split at h
  · cases h
  · rename_i fi hfi
    split at h
    · cases h
    · rename_i hle
      have hle := Nat.le_of_ble_eq_true hle
      rw [len_eq] at hle
      unfold joinR unlo at h
      split at h
      · cases h
      · rename_i l1 hl1
        injection h with h
        split at hl1
        · cases hl1
        · rename_i l0 hl0
          injection hl1 with hl1
          subst hl1
          exact ⟨fi, l0, hfi, hle, hl0, h.symm⟩
theorem evDfr_parts {n : Nat} {f : FuncId} {pan : Option Value} {args : List Value} {hp : Hp} {l : List (Res × Hp)} (h : evDfr cx call n f pan args hp = some l) :
    ∃ fi, cx.f f = some fi ∧ args.length ≤ fi.ntmps ∧ bindL (evCodeS cx call fi.ntmps n fi.body ⟨Tr.putList args .nil 0, []⟩ hp pan) (dfrEnd cx fi) = some l := by
  unfold evDfr at h
  split at h
  · cases h
  · rename_i fi hfi
    split at h
    · cases h
    · rename_i hle
      have hle := Nat.le_of_ble_eq_true hle
      rw [len_eq] at hle
      exact ⟨fi, hfi, hle, h⟩
end
section
variable {cx : Cx} {call : CallF} (hc : GrowOk call) {sz : Nat}
include hc
theorem evCall_grow {tm : Tr Value} {hp : Hp} {c : Call} {l : List (Res × Hp)} (h : evCall cx call tm hp c = some l) : ∀ r, r ∈ l → Grow hp r.2 := by
  unfold evCall at h
  repeat' (split at h)
  all_goals first
    | (cases h; done)
    | exact hc _ _ _ _ h
    | (obtain ⟨v, hp', h0, rfl⟩ := lift_parts h; intro r hr; rw [List.mem_singleton.1 hr]; exact builtinA_grow h0)
    | (obtain ⟨v, hp', h0, rfl⟩ := lift_parts h; intro r hr; rw [List.mem_singleton.1 hr]; exact extH_grow h0)
omit hc in
theorem evOp0_grow {tm : Tr Value} {hp hp' : Hp} {o : Op} {v : Value} (h : evOp0 cx tm hp o = some (v, hp')) : Grow hp hp' := by
  unfold evOp0 at h
  split at h
  all_goals
    repeat' (split at h)
    all_goals first
      | (cases h; done)
      | (obtain ⟨-, rfl⟩ := keep_parts h; exact Grow.refl _)
      | (injection h with h; injection h with _ h; subst h; exact Grow.refl _)
      | (injection h with h; injection h with _ h; subst h; exact grow_new _ _)
      | exact buildSliceA_grow h
      | exact makeSliceT_grow h
      | exact makeMapA_grow h
      | exact mapEntryA_grow h
      | exact convT_grow h
      | exact rangeA_grow h
      | (rename_i hst; injection h with h; injection h with _ h; subst h; exact storeA_grow hst)
      | (rename_i hst; injection h with h; injection h with _ h; subst h; exact storeQ_grow hst)
      | (rename_i hst; injection h with h; injection h with _ h; subst h; exact mapUpdateA_grow hst)
      | (rename_i hst; injection h with h; injection h with _ h; subst h; exact entryStoreA_grow hst)
theorem evOp_grow {tm : Tr Value} {hp : Hp} {o : Op} {l : List (Res × Hp)} (h : evOp cx call tm hp o = some l) : ∀ r, r ∈ l → Grow hp r.2 := by
  unfold evOp at h
  split at h
  · exact evCall_grow hc h
  · split at h
    · injection h with h; subst h; intro r hr; rw [List.mem_singleton.1 hr]; exact Grow.refl _
    · cases h
  · split at h
    · intro r hr
      obtain ⟨l0, x, k1, k2, ys, k3, k4⟩ := bindL_from h r hr
      injection k3 with k3
      subst k3
      rw [List.mem_singleton.1 k4]
      exact nextA_grow k1 x k2
    · cases h
  · obtain ⟨v, hp', h0, rfl⟩ := lift_parts h
    intro r hr
    rw [List.mem_singleton.1 hr]
    exact evOp0_grow h0
theorem evOper_grow {all : List Oper} {o : Oper} {tm : Tr Value} {hp : Hp} {l : List TSR} (h : evOper cx call sz all o tm hp = some l) : ∀ r, r ∈ l → Grow hp r.hp := by
  intro r hr
  rcases evOper_parts h with ⟨-, tm', -, rfl⟩ | ⟨-, l0, h1, -, -, h2, -⟩
  · rw [List.mem_singleton.1 hr]; exact Grow.refl _
  · obtain ⟨q, k1, k2⟩ := h2 r hr
    rw [k2]
    exact evOp_grow hc h1 q k1
theorem evOps_grow {all : List Oper} : ∀ {l : List Oper} {tm : Tr Value} {hp : Hp} {out : List TSR}, evOps cx call sz all l tm hp = some out → ∀ r, r ∈ out → Grow hp r.hp := by
  intro l
  induction l with
  | nil => intro tm hp out h r hr; have h : some [TSR.ok tm hp] = some out := h; injection h with h; subst h; rw [List.mem_singleton.1 hr]; exact Grow.refl _
  | cons o l ih =>
    intro tm hp out h r hr
    rw [evOps_cons] at h
    obtain ⟨l0, x, k1, k2, ys, k3, k4⟩ := bindL_from h r hr
    have g := evOper_grow hc k1 x k2
    cases x with
    | ok tm' hp' => exact g.trans (ih k3 r k4)
    | pan v tm' hp' => injection k3 with k3; subst k3; rw [List.mem_singleton.1 k4]; exact g
theorem evDraw_grow {all : List Oper} {bef : List Nat} : ∀ {l : List Oper} {tm tm' : Tr Value} {hp hp' : Hp} {ms : List DMk}, evDraw cx call sz all bef l tm hp ms = some (tm', hp') → Grow hp hp' := by
  intro l
  induction l with
  | nil =>
    intro tm tm' hp hp' ms h
    rw [evDraw_nil] at h
    split at h
    · injection h with h; injection h with _ h; subst h; exact Grow.refl _
    · cases h
  | cons o l ih =>
    intro tm tm' hp hp' ms h
    rw [evDraw_cons] at h
    split at h
    · rename_i tm1 hp1 h1
      have g : Grow _ hp1 := evOper_grow hc h1 _ (List.mem_singleton.2 rfl)
      have g2 := ih h
      exact Grow.trans (b := { tr := hp1.tr, nx := hp1.nx, lo := least hp1.lo hp.lo }) ⟨g.nx, least_le_right _ _, fun b hb hl => g.low b hb (Nat.lt_of_lt_of_le hl (least_le_left _ _)), g.dom⟩ g2
    · cases h
omit hc in
theorem iter_grow {body : Fm → Hp → CS} (hb : ∀ fm hp l, body fm hp = some l → ∀ o, o ∈ l → Grow hp o.2.2) : ∀ (n : Nat) (fm : Fm) (hp : Hp) (l : List (AX × Fm × Hp)), iter body n fm hp = some l → ∀ o, o ∈ l → Grow hp o.2.2 := by
  intro n
  induction n with
  | zero => intro fm hp l h; cases h
  | succ n ih =>
    intro fm hp l h o ho
    rw [iter_succ] at h
    obtain ⟨l0, x, k1, k2, ys, k3, k4⟩ := bindL_from h o ho
    have g := hb _ _ _ k1 x k2
    obtain ⟨x1, x2, x3⟩ := x
    cases x1 with
    | normal => exact g.trans (ih _ _ _ k3 o k4)
    | exit id => injection k3 with k3; subst k3; rw [List.mem_singleton.1 k4]; exact g
    | ret => injection k3 with k3; subst k3; rw [List.mem_singleton.1 k4]; exact g
    | pan v => injection k3 with k3; subst k3; rw [List.mem_singleton.1 k4]; exact g
theorem evRange_grow {ro : Option Nat} {g : Operand} {ps : Array Tmp} {a b : Code} {fm : Fm} {hp : Hp} {l : List (AX × Fm × Hp)} (h : evRange cx call sz ro g ps a b fm hp = some l) : ∀ o, o ∈ l → Grow hp o.2.2 := by
  intro o ho
  obtain ⟨-, f, first, captured, -, -, h1⟩ := evRange_parts h
  obtain ⟨l0, x, k1, k2, ys, k3, k4⟩ := bindL_from h1 o ho
  have g1 := (grow_new hp (.loop _)).trans (hc _ _ _ _ k1 x k2)
  rcases rangeEnd_parts k3 with ⟨v, hp2, lp, rfl, h2, -, rfl⟩ | ⟨v, hp2, rfl, rfl⟩
  · rw [List.mem_singleton.1 k4]; exact (g1.trans (loopSet_grow h2)).trans (killA_grow (ob := .loop { lp with st := .exhausted }) (by simp only [loopSet, objSet, Tr.get_set, if_true]))
  · rw [List.mem_singleton.1 k4]; exact g1
theorem plain_grow {all ops : List Oper} {fm : Fm} {tm : Tr Value} {hp : Hp} {l : List (AX × Fm × Hp)} (h : bindL (evOps cx call sz all ops tm hp) (plainEnd fm.ds) = some l) : ∀ o, o ∈ l → Grow hp o.2.2 := by
  intro o ho
  obtain ⟨l0, x, k1, k2, ys, k3, k4⟩ := bindL_from h o ho
  have g := evOps_grow hc k1 x k2
  rcases plainEnd_parts k3 with ⟨tm, hp2, rfl, rfl⟩ | ⟨v, tm, hp2, rfl, rfl⟩
  · rw [List.mem_singleton.1 k4]; exact g
  · rw [List.mem_singleton.1 k4]; exact g
theorem evRegion_grow {ro : Option Nat} {ops : List Oper} {fm : Fm} {hp : Hp} {l : List (AX × Fm × Hp)} (h : evRegion cx call sz ro ops fm hp = some l) : ∀ o, o ∈ l → Grow hp o.2.2 := by
  intro o ho
  rcases evRegion_parts h with h | ⟨init, o', c, -, -, h⟩
  · exact plain_grow hc h o ho
  · obtain ⟨l0, x, k1, k2, ys, k3, k4⟩ := bindL_from h o ho
    have g := evOps_grow hc k1 x k2
    rcases deferEnd_parts k3 with ⟨tm, hp2, d, tm2, rfl, -, -, rfl⟩ | ⟨v, tm, hp2, rfl, rfl⟩
    · rw [List.mem_singleton.1 k4]; exact g
    · rw [List.mem_singleton.1 k4]; exact g
theorem evCode_grow {n : Nat} {ro : Option Nat} : ∀ (c : Code) (fm : Fm) (hp : Hp) (l : List (AX × Fm × Hp)), evCode cx call sz n ro c fm hp = some l → ∀ o, o ∈ l → Grow hp o.2.2 := by
  intro c
  have one : ∀ {x : AX} {fm : Fm} {hp : Hp} {l : List (AX × Fm × Hp)}, some [(x, fm, hp)] = some l → ∀ o, o ∈ l → Grow hp o.2.2 := fun h o ho => by injection h with h; subst h; rw [List.mem_singleton.1 ho]; exact Grow.refl _
  induction c with
  | skip => intro fm hp l h; exact one h
  | region id ops draw =>
    intro fm hp l h
    rw [evCode_region] at h
    split at h
    · exact evRegion_grow hc h
    · split at h
      · split at h
        · rename_i h1
          intro o ho
          injection h with h
          subst h
          rw [List.mem_singleton.1 ho]
          exact evDraw_grow hc h1
        · cases h
      · cases h
  | seq a b iha ihb =>
    intro fm hp l h o ho
    rw [evCode_seq] at h
    obtain ⟨l0, x, k1, k2, ys, k3, k4⟩ := bindL_from h o ho
    have g := iha _ _ _ k1 x k2
    obtain ⟨x1, x2, x3⟩ := x
    cases x1 with
    | normal => exact g.trans (ihb _ _ _ k3 o k4)
    | exit id => exact g.trans (one k3 o k4)
    | ret => exact g.trans (one k3 o k4)
    | pan v => exact g.trans (one k3 o k4)
  | cond c a b iha ihb =>
    intro fm hp l h
    rw [evCode_cond] at h
    split at h
    case h_2 => cases h
    split at h
    · exact iha _ _ _ h
    · exact ihb _ _ _ h
    · cases h
  | block id a ih =>
    intro fm hp l h o ho
    rw [evCode_block] at h
    obtain ⟨l0, x, k1, k2, ys, k3, k4⟩ := bindL_from h o ho
    have g := ih _ _ _ k1 x k2
    obtain ⟨x1, x2, x3⟩ := x
    cases x1 with
    | exit id' =>
      simp only at k3
      split at k3
      · exact g.trans (one k3 o k4)
      · exact g.trans (one k3 o k4)
    | normal => exact g.trans (one k3 o k4)
    | ret => exact g.trans (one k3 o k4)
    | pan v => exact g.trans (one k3 o k4)
  | loop a ih => intro fm hp l h; exact iter_grow (fun fm hp l h => ih fm hp l h) n fm hp l h
  | rangeFunc f ps a b iha ihb => intro fm hp l h; exact evRange_grow hc h
  | exit id => intro fm hp l h; exact one h
  | scope a ih => intro fm hp l h; exact ih fm hp l h
  | label l => intro fm hp l h; exact one h
  | goto l => intro fm hp l h; cases h
  | ret => intro fm hp l h; exact one h
  | refuse s => intro fm hp l h; cases h
theorem withPan_grow {fm : Fm} {hp : Hp} {r : CS} {pan : Option Value} {l : List (AX × Fm × Hp × Option Value)} (hr : ∀ l, r = some l → ∀ o, o ∈ l → Grow hp o.2.2) (h : bindL r (withPan pan) = some l) : ∀ o, o ∈ l → Grow hp o.2.2.1 := by
  intro o ho
  obtain ⟨l0, x, k1, k2, ys, k3, k4⟩ := bindL_from h o ho
  injection k3 with k3
  subst k3
  rw [List.mem_singleton.1 k4]
  exact hr _ k1 x k2
theorem evCodeS_grow {n : Nat} : ∀ (c : Code) (fm : Fm) (hp : Hp) (pan : Option Value) (l : List (AX × Fm × Hp × Option Value)), evCodeS cx call sz n c fm hp pan = some l → ∀ o, o ∈ l → Grow hp o.2.2.1 := by
  intro c
  have one : ∀ {x : AX} {fm : Fm} {hp : Hp} {pan : Option Value} {l : List (AX × Fm × Hp × Option Value)}, some [(x, fm, hp, pan)] = some l → ∀ o, o ∈ l → Grow hp o.2.2.1 := fun h o ho => by injection h with h; subst h; rw [List.mem_singleton.1 ho]; exact Grow.refl _
  induction c with
  | skip => intro fm hp pan l h; exact one h
  | region id ops draw =>
    intro fm hp pan l h
    rw [evCodeS_region] at h
    split at h
    · split at h
      · cases h
      · exact withPan_grow hc (fm := fm) (fun l hl => plain_grow hc hl) h
    · exact withPan_grow hc (fm := fm) (fun l hl => evCode_grow hc _ _ _ _ hl) h
  | seq a b iha ihb =>
    intro fm hp pan l h o ho
    have h : bindL (evCodeS cx call sz n a fm hp pan) (fun o => match o with
      | (.normal, fm', hp', pan') => evCodeS cx call sz n b fm' hp' pan'
      | o => some [o]) = some l := h
    obtain ⟨l0, x, k1, k2, ys, k3, k4⟩ := bindL_from h o ho
    have g := iha _ _ _ _ k1 x k2
    obtain ⟨x1, x2, x3, x4⟩ := x
    cases x1 with
    | normal => exact g.trans (ihb _ _ _ _ k3 o k4)
    | exit id => exact g.trans (one k3 o k4)
    | ret => exact g.trans (one k3 o k4)
    | pan v => exact g.trans (one k3 o k4)
  | cond c a b iha ihb =>
    intro fm hp pan l h
    have h : (match evX fm.tm c with
      | some v => match boolA cx v with
        | some true => evCodeS cx call sz n a fm hp pan
        | some false => evCodeS cx call sz n b fm hp pan
        | none => none
      | none => none) = some l := h
    split at h
    case h_2 => cases h
    split at h
    · exact iha _ _ _ _ h
    · exact ihb _ _ _ _ h
    · cases h
  | block id a ih =>
    intro fm hp pan l h o ho
    have h : bindL (evCodeS cx call sz n a fm hp pan) (fun o => match o with
      | (.exit id', fm', hp', pan') => match Nat.beq id' id with
        | true => some [(.normal, fm', hp', pan')]
        | false => some [(.exit id', fm', hp', pan')]
      | o => some [o]) = some l := h
    obtain ⟨l0, x, k1, k2, ys, k3, k4⟩ := bindL_from h o ho
    have g := ih _ _ _ _ k1 x k2
    obtain ⟨x1, x2, x3, x4⟩ := x
    cases x1 with
    | exit id' =>
      simp only at k3
      split at k3
      · exact g.trans (one k3 o k4)
      · exact g.trans (one k3 o k4)
    | normal => exact g.trans (one k3 o k4)
    | ret => exact g.trans (one k3 o k4)
    | pan v => exact g.trans (one k3 o k4)
  | loop a ih => intro fm hp pan l h; have h : bindL (evCode cx call sz n none (.loop a) fm hp) (withPan pan) = some l := h; exact withPan_grow hc (fm := fm) (fun l hl => evCode_grow hc _ _ _ _ hl) h
  | rangeFunc f ps a b iha ihb => intro fm hp pan l h; cases h
  | exit id => intro fm hp pan l h; exact one h
  | scope a ih => intro fm hp pan l h; exact ih fm hp pan l h
  | label lb => intro fm hp pan l h; have h : bindL (evCode cx call sz n none (.label lb) fm hp) (withPan pan) = some l := h; exact withPan_grow hc (fm := fm) (fun l hl => evCode_grow hc _ _ _ _ hl) h
  | goto l => intro fm hp pan l h; cases h
  | ret => intro fm hp pan l h; exact one h
  | refuse s => intro fm hp pan l h; cases h
theorem evLeave_grow : ∀ (ds : List ADef) (u : Option Value) (hp : Hp) (l : List (Option Value × Hp)), evLeave call ds u hp = some l → ∀ q, q ∈ l → Grow hp q.2 := by
  intro ds
  induction ds with
  | nil => intro u hp l h q hq; have h : some [(u, hp)] = some l := h; injection h with h; subst h; rw [List.mem_singleton.1 hq]; exact Grow.refl _
  | cons d ds ih =>
    intro u hp l h q hq
    cases d with
    | mark => rw [evLeave_mark] at h; exact ih u hp l h q hq
    | call f args =>
      rw [evLeave_call] at h
      obtain ⟨l0, x, k1, k2, ys, k3, k4⟩ := bindL_from h q hq
      obtain ⟨pan, h1, h2⟩ := leaveEnd_parts k3
      exact (hc _ _ _ _ k1 x k2).trans (ih pan _ _ h2 q k4)
theorem bodyEnd_grow {fi : FI} {o : AX × Fm × Hp} {l : List (Res × Hp)} (h : bodyEnd cx call fi o = some l) : ∀ r, r ∈ l → Grow o.2.2 r.2 := by
  intro r hr
  obtain ⟨u, -, h1⟩ := bodyEnd_parts h
  obtain ⟨l0, x, k1, k2, ys, k3, k4⟩ := bindL_from h1 r hr
  have g := evLeave_grow hc _ _ _ _ k1 x k2
  rcases retEnd_parts k3 with ⟨v, -, rfl⟩ | ⟨-, vs, -, rfl⟩
  · rw [List.mem_singleton.1 k4]; exact g
  · rw [List.mem_singleton.1 k4]; exact g
end
theorem evFn_zero (cx : Cx) (n : Nat) (c : Cal) (args : List Value) (hp : Hp) : evFn cx n 0 c args hp = none := rfl
theorem evFn_fn (cx : Cx) (n d : Nat) (f : FuncId) (args : List Value) (hp : Hp) : evFn cx n (d + 1) (.fn f) args hp = match orR cx f args hp with
    | some l => some l
    | none => evBody cx (evFn cx n d) n f args hp := rfl
theorem orR_parts {cx : Cx} {f : FuncId} {args : List Value} {hp : Hp} {l : List (Res × Hp)} (h : orR cx f args hp = some l) : ∃ o, cx.o f = some o ∧ o args hp = some l := by
  unfold orR at h
  split at h
  · rename_i o ho
    exact ⟨o, ho, h⟩
  · cases h
theorem evFn_yield (cx : Cx) (n d b : Nat) (args : List Value) (hp : Hp) : evFn cx n (d + 1) (.yield b) args hp = evRound cx (evFn cx n d) n b args hp := rfl
theorem evFn_dfr (cx : Cx) (n d : Nat) (f : FuncId) (pan : Option Value) (args : List Value) (hp : Hp) : evFn cx n (d + 1) (.dfr f pan) args hp = evDfr cx (evFn cx n d) n f pan args hp := rfl
theorem evFn_grow (cx : Cx) (ho : ∀ f o, cx.o f = some o → ∀ args hp l, o args hp = some l → ∀ r, r ∈ l → Grow hp r.2) (n : Nat) : ∀ d, GrowOk (evFn cx n d) := by
  intro d
  induction d with
  | zero => intro c args hp l h; rw [evFn_zero] at h; cases h
  | succ d ih =>
    intro c args hp l h r hr
    cases c with
    | fn f =>
      rw [evFn_fn] at h
      split at h
      · rename_i l0 hl0
        injection h with h
        subst h
        obtain ⟨o, h1, h2⟩ := orR_parts hl0
        exact ho f o h1 args hp _ h2 r hr
      obtain ⟨fi, l0, -, -, h1, rfl⟩ := evBody_parts h
      obtain ⟨c, hc, rfl⟩ := unloL_mem.1 hr
      obtain ⟨a, ha, hfor⟩ := joinA_from _ l0 c hc
      obtain ⟨l1, x, k1, k2, ys, k3, k4⟩ := bindL_from h1 a ha
      exact grow_unlo (((evCode_grow ih _ _ _ _ k1 x k2).trans (bodyEnd_grow ih k3 a k4)).trans hfor.grow)
    | yield b =>
      rw [evFn_yield] at h
      obtain ⟨lp, tm0, -, -, -, h1⟩ := evRound_parts h
      obtain ⟨l1, x, k1, k2, ys, k3, k4⟩ := bindL_from h1 r hr
      obtain ⟨-, lp1, h5, -, h6⟩ := roundGo_parts k3
      obtain ⟨l2, y, q1, q2, zs, q3, q4⟩ := bindL_from h6 r k4
      obtain ⟨-, lp2, h8, rfl⟩ := roundEnd_parts q3
      rw [List.mem_singleton.1 q4]
      exact (((evCode_grow ih _ _ _ _ k1 x k2).trans (loopSet_grow h5)).trans (evCode_grow ih _ _ _ _ q1 y q2)).trans (loopSet_grow h8)
    | dfr f pan =>
      rw [evFn_dfr] at h
      obtain ⟨fi, -, -, h1⟩ := evDfr_parts h
      obtain ⟨l1, x, k1, k2, ys, k3, k4⟩ := bindL_from h1 r hr
      obtain ⟨-, -, -, rfl⟩ := dfrEnd_parts k3
      rw [List.mem_singleton.1 k4]
      exact evCodeS_grow ih _ _ _ _ _ k1 x k2
end Go.Proofs.YtaepplhgeeaidaaDoor.Ev
