/- The next block's number never falls. -/
import Derived.Test.YtcehoogppaadgabGreatDoorEvO
set_option linter.unusedVariables false
set_option linter.unusedSimpArgs false
set_option linter.unusedSectionVars false
namespace Go.Proofs.YtcehoogppaadgabGreatDoor.Ev
open Go Go.RowKit

def NxOk (call : CallF) : Prop := ∀ f args hp v hp', call f args hp = some (v, hp') → hp.nx ≤ hp'.nx

theorem putRow_nx {hp hp' : Hp} {a : Addr} {l : List Value} (h : putRow hp a l = some hp') : hp'.nx = hp.nx := by
  unfold putRow at h
  repeat' (split at h)
  all_goals first
    | (cases h; done)
    | (injection h with h; subst h; rfl)

theorem growA_nx {hp hp' : Hp} {te : TI} {e : TypeId} {str : Bool} {need : Nat} {l : List Value} {v : Value} (h : growA hp te e str need l = some (v, hp')) : hp'.nx = Nat.succ hp.nx := by
  unfold growA at h
  split at h
  · injection h with h; injection h with _ h; subst h; rfl
  · cases h

theorem appendA_nx {cx : Cx} {hp hp' : Hp} {t u : TypeId} {s x v : Value} (h : appendA cx hp t u s x = some (v, hp')) : hp.nx ≤ hp'.nx := by
  unfold appendA at h
  repeat' (split at h)
  all_goals first
    | (cases h; done)
    | (injection h with h; injection h with _ h; subst h; exact Nat.le_refl _)
    | (have := growA_nx h; omega)
    | (have := growA_nx h; simp only [killA] at this; omega)
    | (rename_i hput; injection h with h; injection h with _ h; subst h; have := putRow_nx hput; omega)

theorem copyA_nx {cx : Cx} {hp hp' : Hp} {t : TypeId} {d x v : Value} (h : copyA cx hp t d x = some (v, hp')) : hp.nx ≤ hp'.nx := by
  unfold copyA at h
  repeat' (split at h)
  all_goals first
    | (cases h; done)
    | (injection h with h; injection h with _ h; subst h; exact Nat.le_refl _)
    | (rename_i hput; injection h with h; injection h with _ h; subst h; have := putRow_nx hput; omega)

theorem clearA_nx {cx : Cx} {hp hp' : Hp} {t : TypeId} {x v : Value} (h : clearA cx hp t x = some (v, hp')) : hp.nx ≤ hp'.nx := by
  unfold clearA at h
  repeat' (split at h)
  all_goals first
    | (cases h; done)
    | (injection h with h; injection h with _ h; subst h; exact Nat.le_refl _)
    | (rename_i hput; injection h with h; injection h with _ h; subst h; have := putRow_nx hput; omega)

theorem makeMapA_nx {cx : Cx} {hp hp' : Hp} {t : TypeId} {r : Option Value} {v : Value} (h : makeMapA cx hp t r = some (v, hp')) : hp.nx ≤ hp'.nx := by
  unfold makeMapA at h
  repeat' (split at h)
  all_goals first
    | (cases h; done)
    | (injection h with h; injection h with _ h; subst h; exact Nat.le_succ _)

theorem mapUpdateA_nx {cx : Cx} {hp hp' : Hp} {t : TypeId} {x k v : Value} (h : mapUpdateA cx hp t x k v = some hp') : hp'.nx = hp.nx := by
  unfold mapUpdateA at h
  repeat' (split at h)
  all_goals first
    | (cases h; done)
    | (injection h with h; subst h; rfl)

theorem mapEntryA_nx {cx : Cx} {hp hp' : Hp} {t : TypeId} {x k v : Value} (h : mapEntryA cx hp t x k = some (v, hp')) : hp.nx ≤ hp'.nx := by
  unfold mapEntryA at h
  repeat' (split at h)
  all_goals first
    | (cases h; done)
    | (injection h with h; injection h with _ h; subst h; exact Nat.le_refl _)

theorem entryStoreA_nx {hp hp' : Hp} {x s v : Value} (h : entryStoreA hp x s v = some hp') : hp'.nx = hp.nx := by
  unfold entryStoreA at h
  repeat' (split at h)
  all_goals first
    | (cases h; done)
    | (injection h with h; subst h; rfl)

theorem deleteA_nx {cx : Cx} {hp hp' : Hp} {t : TypeId} {x k : Value} (h : deleteA cx hp t x k = some hp') : hp'.nx = hp.nx := by
  unfold deleteA at h
  repeat' (split at h)
  all_goals first
    | (cases h; done)
    | (injection h with h; subst h; rfl)

theorem builtinA_nx {cx : Cx} {hp hp' : Hp} {b : Builtin} {ts : List TypeId} {args : List Value} {v : Value} (h : builtinA cx hp b ts args = some (v, hp')) : hp.nx ≤ hp'.nx := by
  unfold builtinA at h
  split at h
  case h_8 => exact appendA_nx h
  case h_9 => exact copyA_nx h
  case h_10 => exact clearA_nx h
  all_goals
    repeat' (split at h)
    all_goals first
      | (cases h; done)
      | (injection h with h; injection h with _ h; subst h; exact Nat.le_refl _)
      | (rename_i hst; injection h with h; injection h with _ h; subst h; have := deleteA_nx hst; omega)

theorem convA_nx {cx : Cx} {hp hp' : Hp} {s d : TypeId} {x v : Value} (h : convA cx hp s d x = some (v, hp')) : hp.nx ≤ hp'.nx := by
  unfold convA at h
  repeat' (split at h)
  all_goals first
    | (cases h; done)
    | (injection h with h; injection h with _ h; subst h; first | exact Nat.le_refl _ | exact Nat.le_succ _)

theorem storeA_nx {cx : Cx} {hp hp' : Hp} {t : TypeId} {a : Addr} {v : Value} (h : storeA cx hp t a v = some hp') : hp'.nx = hp.nx := by
  unfold storeA at h
  repeat' (split at h)
  all_goals first
    | (cases h; done)
    | exact putRow_nx h

section
variable {cx : Cx} {call : CallF} (hc : NxOk call) {tm : Tr Value} {hp hp' : Hp}
include hc

theorem evCall_nx {c : Call} {v : Value} (h : evCall cx call tm hp c = some (v, hp')) : hp.nx ≤ hp'.nx := by
  unfold evCall at h
  repeat' (split at h)
  all_goals first
    | (cases h; done)
    | exact builtinA_nx h
    | exact hc _ _ _ _ _ h
    | (obtain ⟨-, rfl⟩ := keep_parts h; exact Nat.le_refl _)

theorem evOp_nx {o : Op} {v : Value} (h : evOp cx call tm hp o = some (v, hp')) : hp.nx ≤ hp'.nx := by
  unfold evOp at h
  split at h
  all_goals
    repeat' (split at h)
    all_goals first
      | (cases h; done)
      | (obtain ⟨-, rfl⟩ := keep_parts h; exact Nat.le_refl _)
      | (injection h with h; injection h with _ h; subst h; exact Nat.le_refl _)
      | (injection h with h; injection h with _ h; subst h; exact Nat.le_succ _)
      | (have := buildSliceA_nx h; omega)
      | (have := makeSliceA_nx h; omega)
      | exact makeMapA_nx h
      | exact mapEntryA_nx h
      | exact convA_nx h
      | exact evCall_nx hc h
      | (rename_i hst; injection h with h; injection h with _ h; subst h; have := storeA_nx hst; omega)
      | (rename_i hst; injection h with h; injection h with _ h; subst h; have := mapUpdateA_nx hst; omega)
      | (rename_i hst; injection h with h; injection h with _ h; subst h; have := entryStoreA_nx hst; omega)

theorem evOper_parts {sz : Nat} {all : List Oper} {o : Oper} {tm' : Tr Value} (h : evOper cx call sz all o tm hp = some (tm', hp')) :
    (wantA all tm o.guard = some false ∧ putA sz tm o.dst undef = some tm' ∧ hp' = hp) ∨ (wantA all tm o.guard = some true ∧ ∃ v, evOp cx call tm hp o.op = some (v, hp') ∧ putA sz tm o.dst v = some tm') := by
  unfold evOper at h
  split at h
  · cases h
  · rename_i hw
    split at h
    · cases h
    · rename_i tm2 hp2
      injection h with h
      injection h with h1 h2
      exact .inl ⟨hw, by rw [hp2, h1], h2.symm⟩
  · rename_i hw
    split at h
    · cases h
    · rename_i v hp2 hev
      rw [force_eq] at h
      split at h
      · cases h
      · rename_i tm2 hput
        injection h with h
        injection h with h1 h2
        subst h1 h2
        exact .inr ⟨hw, v, hev, hput⟩

theorem evOper_nx {sz : Nat} {all : List Oper} {o : Oper} {tm' : Tr Value} (h : evOper cx call sz all o tm hp = some (tm', hp')) : hp.nx ≤ hp'.nx := by
  rcases evOper_parts hc h with ⟨-, -, rfl⟩ | ⟨-, v, h1, -⟩
  · exact Nat.le_refl _
  · exact evOp_nx hc h1

omit hc in
theorem evOps_cons (sz : Nat) (all : List Oper) (o : Oper) (l : List Oper) (tm : Tr Value) (hp : Hp) : evOps cx call sz all (o :: l) tm hp = match evOper cx call sz all o tm hp with
      | none => none
      | some (tm', hp') => evOps cx call sz all l tm' hp' := rfl

theorem evOps_nx {sz : Nat} {all : List Oper} : ∀ {l : List Oper} {tm tm' : Tr Value} {hp hp' : Hp}, evOps cx call sz all l tm hp = some (tm', hp') → hp.nx ≤ hp'.nx := by
  intro l
  induction l with
  | nil => intro tm tm' hp hp' h; have h : some (tm, hp) = some (tm', hp') := h; injection h with h; injection h with _ h; subst h; exact Nat.le_refl _
  | cons o l ih =>
    intro tm tm' hp hp' h
    rw [evOps_cons] at h
    split at h
    · cases h
    · rename_i tm1 hp1 h1
      exact Nat.le_trans (evOper_nx hc h1) (ih h)

omit hc in
theorem evDraw_cons (sz : Nat) (all : List Oper) (bef : List Nat) (o : Oper) (l : List Oper) (i : Nat) (tm : Tr Value) (hp : Hp) : evDraw cx call sz all bef (o :: l) i tm hp = match evOper cx call sz all o tm { tr := hp.tr, nx := hp.nx, lo := hp.nx } with
      | none => none
      | some (tm', hp') => match Nat.ble hp.nx hp'.lo with
        | true => evDraw cx call sz all bef l (i + 1) tm' { tr := hp'.tr, nx := hp'.nx, lo := hp.lo }
        | false => match wallA all bef i with
          | true => evDraw cx call sz all bef l (i + 1) tm' { tr := hp'.tr, nx := hp'.nx, lo := least hp'.lo hp.lo }
          | false => none := rfl

theorem evDraw_nx {sz : Nat} {all : List Oper} {bef : List Nat} : ∀ {l : List Oper} {i : Nat} {tm tm' : Tr Value} {hp hp' : Hp}, evDraw cx call sz all bef l i tm hp = some (tm', hp') → hp.nx ≤ hp'.nx := by
  intro l
  induction l with
  | nil => intro i tm tm' hp hp' h; have h : some (tm, hp) = some (tm', hp') := h; injection h with h; injection h with _ h; subst h; exact Nat.le_refl _
  | cons o l ih =>
    intro i tm tm' hp hp' h
    rw [evDraw_cons] at h
    split at h
    · cases h
    · rename_i tm1 hp1 h1
      have h0 := evOper_nx hc h1
      split at h
      · have h2 := ih h
        exact Nat.le_trans h0 h2
      · split at h
        · have h2 := ih h
          exact Nat.le_trans h0 h2
        · cases h

omit hc in
theorem iter_succ (body : Tr Value → Hp → CS) (n : Nat) (tm : Tr Value) (hp : Hp) : iter body (n + 1) tm hp = match body tm hp with
      | some (.normal, tm', hp') => iter body n tm' hp'
      | r => r := rfl

omit hc in
theorem iter_nx {body : Tr Value → Hp → CS} (hb : ∀ tm hp x tm' hp', body tm hp = some (x, tm', hp') → hp.nx ≤ hp'.nx) : ∀ (n : Nat) (tm : Tr Value) (hp : Hp) (x : AX) (tm' : Tr Value) (hp' : Hp), iter body n tm hp = some (x, tm', hp') → hp.nx ≤ hp'.nx := by
  intro n
  induction n with
  | zero => intro tm hp x tm' hp' h; cases h
  | succ n ih =>
    intro tm hp x tm' hp' h
    rw [iter_succ] at h
    split at h
    · rename_i tm1 hp1 h1
      exact Nat.le_trans (hb _ _ _ _ _ h1) (ih _ _ _ _ _ h)
    · exact hb _ _ _ _ _ h

omit hc in
theorem evCode_region (sz n id : Nat) (ro : Option Nat) (ops : Array Oper) (draw : Bool) (tm : Tr Value) (hp : Hp) : evCode cx call sz n ro (.region id ops draw) tm hp = match draw with
      | false => match evOps cx call sz ops.toList ops.toList tm hp with
        | some (tm', hp') => some (AX.normal, tm', hp')
        | none => none
      | true => match drawOk ops.toList with
        | true => match evDraw cx call sz ops.toList (befA ops.toList []) ops.toList 0 tm hp with
          | some (tm', hp') => some (.normal, tm', hp')
          | none => none
        | false => none := rfl
omit hc in
theorem evCode_seq (sz n : Nat) (ro : Option Nat) (a b : Code) (tm : Tr Value) (hp : Hp) : evCode cx call sz n ro (.seq a b) tm hp = match evCode cx call sz n ro a tm hp with
      | some (.normal, tm', hp') => evCode cx call sz n ro b tm' hp'
      | r => r := rfl
omit hc in
theorem evCode_cond (sz n : Nat) (ro : Option Nat) (c : Operand) (a b : Code) (tm : Tr Value) (hp : Hp) : evCode cx call sz n ro (.cond c a b) tm hp = match evX tm c with
      | some (.bool true) => evCode cx call sz n ro a tm hp
      | some (.bool false) => evCode cx call sz n ro b tm hp
      | _ => none := rfl
omit hc in
theorem evCode_block (sz n id : Nat) (ro : Option Nat) (a : Code) (tm : Tr Value) (hp : Hp) : evCode cx call sz n ro (.block id a) tm hp = match evCode cx call sz n ro a tm hp with
      | some (.exit id', tm', hp') => match Nat.beq id' id with
        | true => some (AX.normal, tm', hp')
        | false => some (.exit id', tm', hp')
      | r => r := rfl

omit hc in
theorem evCode_rangeFunc (sz n : Nat) (ro : Option Nat) (g : Operand) (ps : Array Tmp) (a b : Code) (tm : Tr Value) (hp : Hp) : evCode cx call sz n ro (.rangeFunc g ps a b) tm hp = evRange cx call sz ro g ps a b tm hp := rfl

omit hc in
/-- What a loop over a function comes to. -/
theorem evRange_parts {sz : Nat} {ro : Option Nat} {g : Operand} {ps : Array Tmp} {a b : Code} {x : AX} {tm' : Tr Value} (h : evRange cx call sz ro g ps a b tm hp = some (x, tm', hp')) :
    roOk hp ro = true ∧ ∃ f first captured v hp2 lp, evX tm g = some (.func (.func f) first captured) ∧ cx.x f = none ∧
      call (.fn f) (first.toList ++ [.func (.yield hp.nx) ⟨[]⟩ ⟨[]⟩] ++ captured.toList) (loopNew hp { st := .ready, pend := none, tm := tm, sz := sz, ps := ps.toList, assign := a, body := b }) = some (v, hp2) ∧
      loopOb hp2 hp.nx = some lp ∧ lp.st ≠ .busy ∧ x = jumpA lp.pend ∧ tm' = tm ∧ hp' = loopSet hp2 hp.nx { lp with st := .exhausted } := by
  unfold evRange at h
  split at h
  · cases h
  · rename_i hro
    split at h
    · rename_i f first captured hg
      split at h
      · cases h
      · rename_i hx
        split at h
        · cases h
        · rename_i v hp2 hcall
          split at h
          · cases h
          · rename_i lp hlp
            split at h
            · cases h
            · rename_i hst
              injection h with h
              injection h with h1 h
              injection h with h2 h3
              exact ⟨hro, f, first, captured, v, hp2, lp, hg, hx, hcall, hlp, hst, h1.symm, h2.symm, h3.symm⟩
    · cases h

omit hc in
/-- What a round comes to. -/
theorem evRound_parts {n b : Nat} {args : List Value} {v : Value} (h : evRound cx call n b args hp = some (v, hp')) :
    ∃ lp tm0 tm1 hp1 lp1 x tm2 hp2 lp2, loopOb hp b = some lp ∧ lp.st = .ready ∧ putPs lp.sz lp.ps args lp.tm = some tm0 ∧ evCode cx call lp.sz n (some b) lp.assign tm0 hp = some (.normal, tm1, hp1) ∧
      loopOb hp1 b = some lp1 ∧ lp1.st = .ready ∧ evCode cx call lp.sz n (some b) lp.body tm1 (loopSet hp1 b { lp1 with st := .busy }) = some (x, tm2, hp2) ∧ loopOb hp2 b = some lp2 ∧
      v = .bool (isNormal x) ∧ hp' = loopSet hp2 b { lp2 with st := (match isNormal x with | true => .ready | false => .done), pend := pendA x } := by
  unfold evRound at h
  split at h
  · cases h
  · rename_i lp hlp
    split at h
    · rename_i hst
      split at h
      · cases h
      · rename_i tm0 hps
        split at h
        · rename_i tm1 hp1 has
          split at h
          · cases h
          · rename_i lp1 hlp1
            split at h
            · rename_i hst1
              split at h
              · cases h
              · rename_i x tm2 hp2 hbody
                split at h
                · cases h
                · rename_i lp2 hlp2
                  injection h with h
                  injection h with h1 h2
                  exact ⟨lp, tm0, tm1, hp1, lp1, x, tm2, hp2, lp2, hlp, hst, hps, has, hlp1, hst1, hbody, hlp2, h1.symm, h2.symm⟩
            · cases h
        · cases h
    · cases h

theorem evRange_nx {sz : Nat} {ro : Option Nat} {g : Operand} {ps : Array Tmp} {a b : Code} {x : AX} {tm' : Tr Value} (h : evRange cx call sz ro g ps a b tm hp = some (x, tm', hp')) : hp.nx ≤ hp'.nx := by
  obtain ⟨-, f, first, captured, v, hp2, lp, -, -, hcall, -, -, -, -, rfl⟩ := evRange_parts h
  have := hc _ _ _ _ _ hcall
  simp only [loopNew] at this
  simp only [loopSet]
  omega

theorem evCode_nx {sz n : Nat} {ro : Option Nat} : ∀ (c : Code) (tm : Tr Value) (hp : Hp) (x : AX) (tm' : Tr Value) (hp' : Hp), evCode cx call sz n ro c tm hp = some (x, tm', hp') → hp.nx ≤ hp'.nx := by
  intro c
  induction c with
  | skip => intro tm hp x tm' hp' h; have h : some (AX.normal, tm, hp) = some (x, tm', hp') := h; injection h with h; injection h with _ h; injection h with _ h; subst h; exact Nat.le_refl _
  | region id ops draw =>
    intro tm hp x tm' hp' h
    rw [evCode_region] at h
    split at h
    · split at h
      · rename_i h1
        injection h with h
        injection h with _ h
        injection h with _ h
        subst h
        exact evOps_nx hc h1
      · cases h
    · split at h
      · split at h
        · rename_i h1
          injection h with h
          injection h with _ h
          injection h with _ h
          subst h
          exact evDraw_nx hc h1
        · cases h
      · cases h
  | seq a b iha ihb =>
    intro tm hp x tm' hp' h
    have h : (match evCode cx call sz n ro a tm hp with
      | some (.normal, tm', hp') => evCode cx call sz n ro b tm' hp'
      | r => r) = some (x, tm', hp') := h
    split at h
    · rename_i tm1 hp1 h1
      exact Nat.le_trans (iha _ _ _ _ _ h1) (ihb _ _ _ _ _ h)
    · exact iha _ _ _ _ _ h
  | cond c a b iha ihb =>
    intro tm hp x tm' hp' h
    have h : (match evX tm c with
      | some (.bool true) => evCode cx call sz n ro a tm hp
      | some (.bool false) => evCode cx call sz n ro b tm hp
      | _ => none) = some (x, tm', hp') := h
    split at h
    · exact iha _ _ _ _ _ h
    · exact ihb _ _ _ _ _ h
    · cases h
  | block id a ih =>
    intro tm hp x tm' hp' h
    have h : (match evCode cx call sz n ro a tm hp with
      | some (.exit id', tm', hp') => match Nat.beq id' id with
        | true => some (AX.normal, tm', hp')
        | false => some (.exit id', tm', hp')
      | r => r) = some (x, tm', hp') := h
    split at h
    · rename_i h1
      split at h
      · injection h with h; injection h with _ h; injection h with _ h; subst h; exact ih _ _ _ _ _ h1
      · injection h with h; injection h with _ h; injection h with _ h; subst h; exact ih _ _ _ _ _ h1
    · exact ih _ _ _ _ _ h
  | loop a ih => intro tm hp x tm' hp' h; exact iter_nx (fun tm hp x tm' hp' h => ih tm hp x tm' hp' h) n tm hp x tm' hp' h
  | rangeFunc f ps a b iha ihb => intro tm hp x tm' hp' h; exact evRange_nx hc h
  | exit id => intro tm hp x tm' hp' h; have h : some (AX.exit id, tm, hp) = some (x, tm', hp') := h; injection h with h; injection h with _ h; injection h with _ h; subst h; exact Nat.le_refl _
  | scope a ih => intro tm hp x tm' hp' h; exact ih tm hp x tm' hp' h
  | label l => intro tm hp x tm' hp' h; have h : some (AX.normal, tm, hp) = some (x, tm', hp') := h; injection h with h; injection h with _ h; injection h with _ h; subst h; exact Nat.le_refl _
  | goto l => intro tm hp x tm' hp' h; cases h
  | ret => intro tm hp x tm' hp' h; have h : some (AX.ret, tm, hp) = some (x, tm', hp') := h; injection h with h; injection h with _ h; injection h with _ h; subst h; exact Nat.le_refl _
  | refuse s => intro tm hp x tm' hp' h; cases h
end

theorem evFn_zero (cx : Cx) (n : Nat) (c : Cal) (args : List Value) (hp : Hp) : evFn cx n 0 c args hp = none := rfl
theorem evFn_fn (cx : Cx) (n d : Nat) (f : FuncId) (args : List Value) (hp : Hp) : evFn cx n (d + 1) (.fn f) args hp = evBody cx (evFn cx n d) n f args hp := rfl
theorem evFn_yield (cx : Cx) (n d b : Nat) (args : List Value) (hp : Hp) : evFn cx n (d + 1) (.yield b) args hp = evRound cx (evFn cx n d) n b args hp := rfl

/-- What a function's body comes to. -/
theorem evBody_parts {cx : Cx} {call : CallF} {n : Nat} {f : FuncId} {args : List Value} {hp hp' : Hp} {v : Value} (h : evBody cx call n f args hp = some (v, hp')) :
    ∃ fi x tm l, cx.f f = some fi ∧ args.length ≤ fi.ntmps ∧ evCode cx call fi.ntmps n none fi.body (Tr.putList args .nil 0) hp = some (x, tm, hp') ∧ (∀ id, x ≠ .exit id) ∧ resA cx tm hp' fi.results = some l ∧ v = oneA l := by
  unfold evBody at h
  split at h
  · cases h
  · rename_i fi hfi
    split at h
    · cases h
    · rename_i hle
      have hle := Nat.le_of_ble_eq_true hle
      rw [len_eq] at hle
      split at h
      · cases h
      · rename_i x tm hp2 hx h1
        split at h
        · rename_i l hl
          injection h with h
          injection h with e1 e2
          subst e2
          exact ⟨fi, x, tm, l, hfi, hle, h1, fun id hh => hx id hh, hl, e1.symm⟩
        · cases h
      · cases h

theorem evFn_nx (cx : Cx) (n : Nat) : ∀ d, NxOk (evFn cx n d) := by
  intro d
  induction d with
  | zero => intro c args hp v hp' h; rw [evFn_zero] at h; cases h
  | succ d ih =>
    intro c args hp v hp' h
    cases c with
    | fn f =>
      rw [evFn_fn] at h
      obtain ⟨fi, x, tm, l, -, -, h1, -, -, -⟩ := evBody_parts h
      exact evCode_nx ih _ _ _ _ _ _ h1
    | yield b =>
      rw [evFn_yield] at h
      obtain ⟨lp, tm0, tm1, hp1, lp1, x, tm2, hp2, lp2, -, -, -, h1, -, -, h2, -, -, rfl⟩ := evRound_parts h
      have k1 := evCode_nx ih _ _ _ _ _ _ h1
      have k2 := evCode_nx ih _ _ _ _ _ _ h2
      simp only [loopSet] at k2 ⊢
      omega
end Go.Proofs.YtcehoogppaadgabGreatDoor.Ev
