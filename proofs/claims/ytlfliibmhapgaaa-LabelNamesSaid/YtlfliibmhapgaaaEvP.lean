/- The next block's number never falls. -/
import Derived.Test.YtlfliibmhapgaaaEvO
set_option linter.unusedVariables false
set_option linter.unusedSimpArgs false
set_option linter.unusedSectionVars false
namespace Go.Proofs.Ytlfliibmhapgaaa.Ev
open Go Go.RowKit

def NxOk (call : CallF) : Prop := ∀ f args hp v hp', call f args hp = some (v, hp') → hp.nx ≤ hp'.nx

theorem putRow_nx {hp hp' : Hp} {a : Addr} {l : List Value} (h : putRow hp a l = some hp') : hp'.nx = hp.nx := by
  unfold putRow at h
  repeat' (split at h)
  all_goals first
    | (cases h; done)
    | (injection h with h; subst h; rfl)

theorem growA_nx {hp hp' : Hp} {te : TI} {e : TypeId} {str : Bool} {need : Nat} {l : List Value} {v : Value} (h : growA hp te e str need l = some (v, hp')) : hp'.nx = Nat.succ hp.nx := by
  unfold growA at h
  split at h
  · injection h with h; injection h with _ h; subst h; rfl
  · cases h

theorem appendA_nx {cx : Cx} {hp hp' : Hp} {t u : TypeId} {s x v : Value} (h : appendA cx hp t u s x = some (v, hp')) : hp.nx ≤ hp'.nx := by
  unfold appendA at h
  repeat' (split at h)
  all_goals first
    | (cases h; done)
    | (injection h with h; injection h with _ h; subst h; exact Nat.le_refl _)
    | (have := growA_nx h; omega)
    | (have := growA_nx h; simp only [killA] at this; omega)
    | (rename_i hput; injection h with h; injection h with _ h; subst h; have := putRow_nx hput; omega)

theorem copyA_nx {cx : Cx} {hp hp' : Hp} {t : TypeId} {d x v : Value} (h : copyA cx hp t d x = some (v, hp')) : hp.nx ≤ hp'.nx := by
  unfold copyA at h
  repeat' (split at h)
  all_goals first
    | (cases h; done)
    | (injection h with h; injection h with _ h; subst h; exact Nat.le_refl _)
    | (rename_i hput; injection h with h; injection h with _ h; subst h; have := putRow_nx hput; omega)

theorem clearA_nx {cx : Cx} {hp hp' : Hp} {t : TypeId} {x v : Value} (h : clearA cx hp t x = some (v, hp')) : hp.nx ≤ hp'.nx := by
  unfold clearA at h
  repeat' (split at h)
  all_goals first
    | (cases h; done)
    | (injection h with h; injection h with _ h; subst h; exact Nat.le_refl _)
    | (rename_i hput; injection h with h; injection h with _ h; subst h; have := putRow_nx hput; omega)

theorem makeMapA_nx {cx : Cx} {hp hp' : Hp} {t : TypeId} {r : Option Value} {v : Value} (h : makeMapA cx hp t r = some (v, hp')) : hp.nx ≤ hp'.nx := by
  unfold makeMapA at h
  repeat' (split at h)
  all_goals first
    | (cases h; done)
    | (injection h with h; injection h with _ h; subst h; exact Nat.le_succ _)

theorem mapUpdateA_nx {cx : Cx} {hp hp' : Hp} {t : TypeId} {x k v : Value} (h : mapUpdateA cx hp t x k v = some hp') : hp'.nx = hp.nx := by
  unfold mapUpdateA at h
  repeat' (split at h)
  all_goals first
    | (cases h; done)
    | (injection h with h; subst h; rfl)

theorem mapEntryA_nx {cx : Cx} {hp hp' : Hp} {t : TypeId} {x k v : Value} (h : mapEntryA cx hp t x k = some (v, hp')) : hp.nx ≤ hp'.nx := by
  unfold mapEntryA at h
  repeat' (split at h)
  all_goals first
    | (cases h; done)
    | (injection h with h; injection h with _ h; subst h; exact Nat.le_refl _)

theorem entryStoreA_nx {hp hp' : Hp} {x s v : Value} (h : entryStoreA hp x s v = some hp') : hp'.nx = hp.nx := by
  unfold entryStoreA at h
  repeat' (split at h)
  all_goals first
    | (cases h; done)
    | (injection h with h; subst h; rfl)

theorem deleteA_nx {cx : Cx} {hp hp' : Hp} {t : TypeId} {x k : Value} (h : deleteA cx hp t x k = some hp') : hp'.nx = hp.nx := by
  unfold deleteA at h
  repeat' (split at h)
  all_goals first
    | (cases h; done)
    | (injection h with h; subst h; rfl)

theorem builtinA_nx {cx : Cx} {hp hp' : Hp} {b : Builtin} {ts : List TypeId} {args : List Value} {v : Value} (h : builtinA cx hp b ts args = some (v, hp')) : hp.nx ≤ hp'.nx := by
  unfold builtinA at h
  split at h
  case h_8 => exact appendA_nx h
  case h_9 => exact copyA_nx h
  case h_10 => exact clearA_nx h
  all_goals
    repeat' (split at h)
    all_goals first
      | (cases h; done)
      | (injection h with h; injection h with _ h; subst h; exact Nat.le_refl _)
      | (rename_i hst; injection h with h; injection h with _ h; subst h; have := deleteA_nx hst; omega)

theorem convA_nx {cx : Cx} {hp hp' : Hp} {s d : TypeId} {x v : Value} (h : convA cx hp s d x = some (v, hp')) : hp.nx ≤ hp'.nx := by
  unfold convA at h
  repeat' (split at h)
  all_goals first
    | (cases h; done)
    | (injection h with h; injection h with _ h; subst h; first | exact Nat.le_refl _ | exact Nat.le_succ _)

theorem storeA_nx {cx : Cx} {hp hp' : Hp} {t : TypeId} {a : Addr} {v : Value} (h : storeA cx hp t a v = some hp') : hp'.nx = hp.nx := by
  unfold storeA at h
  repeat' (split at h)
  all_goals first
    | (cases h; done)
    | exact putRow_nx h

section
variable {cx : Cx} {call : CallF} (hc : NxOk call) {tm : Tr Value} {hp hp' : Hp}
include hc

theorem evCall_nx {c : Call} {v : Value} (h : evCall cx call tm hp c = some (v, hp')) : hp.nx ≤ hp'.nx := by
  unfold evCall at h
  repeat' (split at h)
  all_goals first
    | (cases h; done)
    | exact builtinA_nx h
    | exact hc _ _ _ _ _ h
    | (obtain ⟨-, rfl⟩ := keep_parts h; exact Nat.le_refl _)

theorem evOp_nx {o : Op} {v : Value} (h : evOp cx call tm hp o = some (v, hp')) : hp.nx ≤ hp'.nx := by
  unfold evOp at h
  split at h
  all_goals
    repeat' (split at h)
    all_goals first
      | (cases h; done)
      | (obtain ⟨-, rfl⟩ := keep_parts h; exact Nat.le_refl _)
      | (injection h with h; injection h with _ h; subst h; exact Nat.le_refl _)
      | (injection h with h; injection h with _ h; subst h; exact Nat.le_succ _)
      | (have := buildSliceA_nx h; omega)
      | (have := makeSliceA_nx h; omega)
      | exact makeMapA_nx h
      | exact mapEntryA_nx h
      | exact convA_nx h
      | exact evCall_nx hc h
      | (rename_i hst; injection h with h; injection h with _ h; subst h; have := storeA_nx hst; omega)
      | (rename_i hst; injection h with h; injection h with _ h; subst h; have := mapUpdateA_nx hst; omega)
      | (rename_i hst; injection h with h; injection h with _ h; subst h; have := entryStoreA_nx hst; omega)

theorem evOper_parts {sz : Nat} {all : List Oper} {o : Oper} {tm' : Tr Value} (h : evOper cx call sz all o tm hp = some (tm', hp')) :
    (wantA all tm o.guard = some false ∧ putA sz tm o.dst undef = some tm' ∧ hp' = hp) ∨ (wantA all tm o.guard = some true ∧ ∃ v, evOp cx call tm hp o.op = some (v, hp') ∧ putA sz tm o.dst v = some tm') := by
  unfold evOper at h
  split at h
  · cases h
  · rename_i hw
    split at h
    · cases h
    · rename_i tm2 hp2
      injection h with h
      injection h with h1 h2
      exact .inl ⟨hw, by rw [hp2, h1], h2.symm⟩
  · rename_i hw
    split at h
    · cases h
    · rename_i v hp2 hev
      rw [force_eq] at h
      split at h
      · cases h
      · rename_i tm2 hput
        injection h with h
        injection h with h1 h2
        subst h1 h2
        exact .inr ⟨hw, v, hev, hput⟩

theorem evOper_nx {sz : Nat} {all : List Oper} {o : Oper} {tm' : Tr Value} (h : evOper cx call sz all o tm hp = some (tm', hp')) : hp.nx ≤ hp'.nx := by
  rcases evOper_parts hc h with ⟨-, -, rfl⟩ | ⟨-, v, h1, -⟩
  · exact Nat.le_refl _
  · exact evOp_nx hc h1

omit hc in
theorem evOps_cons (sz : Nat) (all : List Oper) (o : Oper) (l : List Oper) (tm : Tr Value) (hp : Hp) : evOps cx call sz all (o :: l) tm hp = match evOper cx call sz all o tm hp with
      | none => none
      | some (tm', hp') => evOps cx call sz all l tm' hp' := rfl

theorem evOps_nx {sz : Nat} {all : List Oper} : ∀ {l : List Oper} {tm tm' : Tr Value} {hp hp' : Hp}, evOps cx call sz all l tm hp = some (tm', hp') → hp.nx ≤ hp'.nx := by
  intro l
  induction l with
  | nil => intro tm tm' hp hp' h; have h : some (tm, hp) = some (tm', hp') := h; injection h with h; injection h with _ h; subst h; exact Nat.le_refl _
  | cons o l ih =>
    intro tm tm' hp hp' h
    rw [evOps_cons] at h
    split at h
    · cases h
    · rename_i tm1 hp1 h1
      exact Nat.le_trans (evOper_nx hc h1) (ih h)

omit hc in
theorem evDraw_cons (sz : Nat) (all : List Oper) (bef : List Nat) (o : Oper) (l : List Oper) (i : Nat) (tm : Tr Value) (hp : Hp) : evDraw cx call sz all bef (o :: l) i tm hp = match evOper cx call sz all o tm { tr := hp.tr, nx := hp.nx, lo := hp.nx } with
      | none => none
      | some (tm', hp') => match Nat.ble hp.nx hp'.lo with
        | true => evDraw cx call sz all bef l (i + 1) tm' { tr := hp'.tr, nx := hp'.nx, lo := hp.lo }
        | false => match wallA all bef i with
          | true => evDraw cx call sz all bef l (i + 1) tm' { tr := hp'.tr, nx := hp'.nx, lo := least hp'.lo hp.lo }
          | false => none := rfl

theorem evDraw_nx {sz : Nat} {all : List Oper} {bef : List Nat} : ∀ {l : List Oper} {i : Nat} {tm tm' : Tr Value} {hp hp' : Hp}, evDraw cx call sz all bef l i tm hp = some (tm', hp') → hp.nx ≤ hp'.nx := by
  intro l
  induction l with
  | nil => intro i tm tm' hp hp' h; have h : some (tm, hp) = some (tm', hp') := h; injection h with h; injection h with _ h; subst h; exact Nat.le_refl _
  | cons o l ih =>
    intro i tm tm' hp hp' h
    rw [evDraw_cons] at h
    split at h
    · cases h
    · rename_i tm1 hp1 h1
      have h0 := evOper_nx hc h1
      split at h
      · have h2 := ih h
        exact Nat.le_trans h0 h2
      · split at h
        · have h2 := ih h
          exact Nat.le_trans h0 h2
        · cases h

omit hc in
theorem iter_succ (body : Tr Value → Hp → CS) (n : Nat) (tm : Tr Value) (hp : Hp) : iter body (n + 1) tm hp = match body tm hp with
      | some (.normal, tm', hp') => iter body n tm' hp'
      | r => r := rfl

omit hc in
theorem iter_nx {body : Tr Value → Hp → CS} (hb : ∀ tm hp x tm' hp', body tm hp = some (x, tm', hp') → hp.nx ≤ hp'.nx) : ∀ (n : Nat) (tm : Tr Value) (hp : Hp) (x : AX) (tm' : Tr Value) (hp' : Hp), iter body n tm hp = some (x, tm', hp') → hp.nx ≤ hp'.nx := by
  intro n
  induction n with
  | zero => intro tm hp x tm' hp' h; cases h
  | succ n ih =>
    intro tm hp x tm' hp' h
    rw [iter_succ] at h
    split at h
    · rename_i tm1 hp1 h1
      exact Nat.le_trans (hb _ _ _ _ _ h1) (ih _ _ _ _ _ h)
    · exact hb _ _ _ _ _ h

omit hc in
theorem evCode_region (sz n id : Nat) (ops : Array Oper) (draw : Bool) (tm : Tr Value) (hp : Hp) : evCode cx call sz n (.region id ops draw) tm hp = match draw with
      | false => match evOps cx call sz ops.toList ops.toList tm hp with
        | some (tm', hp') => some (AX.normal, tm', hp')
        | none => none
      | true => match drawOk ops.toList with
        | true => match evDraw cx call sz ops.toList (befA ops.toList []) ops.toList 0 tm hp with
          | some (tm', hp') => some (.normal, tm', hp')
          | none => none
        | false => none := rfl
omit hc in
theorem evCode_seq (sz n : Nat) (a b : Code) (tm : Tr Value) (hp : Hp) : evCode cx call sz n (.seq a b) tm hp = match evCode cx call sz n a tm hp with
      | some (.normal, tm', hp') => evCode cx call sz n b tm' hp'
      | r => r := rfl
omit hc in
theorem evCode_cond (sz n : Nat) (c : Operand) (a b : Code) (tm : Tr Value) (hp : Hp) : evCode cx call sz n (.cond c a b) tm hp = match evX tm c with
      | some (.bool true) => evCode cx call sz n a tm hp
      | some (.bool false) => evCode cx call sz n b tm hp
      | _ => none := rfl
omit hc in
theorem evCode_block (sz n id : Nat) (a : Code) (tm : Tr Value) (hp : Hp) : evCode cx call sz n (.block id a) tm hp = match evCode cx call sz n a tm hp with
      | some (.exit id', tm', hp') => match Nat.beq id' id with
        | true => some (AX.normal, tm', hp')
        | false => some (.exit id', tm', hp')
      | r => r := rfl

theorem evCode_nx {sz n : Nat} : ∀ (c : Code) (tm : Tr Value) (hp : Hp) (x : AX) (tm' : Tr Value) (hp' : Hp), evCode cx call sz n c tm hp = some (x, tm', hp') → hp.nx ≤ hp'.nx := by
  intro c
  induction c with
  | skip => intro tm hp x tm' hp' h; have h : some (AX.normal, tm, hp) = some (x, tm', hp') := h; injection h with h; injection h with _ h; injection h with _ h; subst h; exact Nat.le_refl _
  | region id ops draw =>
    intro tm hp x tm' hp' h
    rw [evCode_region] at h
    split at h
    · split at h
      · rename_i h1
        injection h with h
        injection h with _ h
        injection h with _ h
        subst h
        exact evOps_nx hc h1
      · cases h
    · split at h
      · split at h
        · rename_i h1
          injection h with h
          injection h with _ h
          injection h with _ h
          subst h
          exact evDraw_nx hc h1
        · cases h
      · cases h
  | seq a b iha ihb =>
    intro tm hp x tm' hp' h
    have h : (match evCode cx call sz n a tm hp with
      | some (.normal, tm', hp') => evCode cx call sz n b tm' hp'
      | r => r) = some (x, tm', hp') := h
    split at h
    · rename_i tm1 hp1 h1
      exact Nat.le_trans (iha _ _ _ _ _ h1) (ihb _ _ _ _ _ h)
    · exact iha _ _ _ _ _ h
  | cond c a b iha ihb =>
    intro tm hp x tm' hp' h
    have h : (match evX tm c with
      | some (.bool true) => evCode cx call sz n a tm hp
      | some (.bool false) => evCode cx call sz n b tm hp
      | _ => none) = some (x, tm', hp') := h
    split at h
    · exact iha _ _ _ _ _ h
    · exact ihb _ _ _ _ _ h
    · cases h
  | block id a ih =>
    intro tm hp x tm' hp' h
    have h : (match evCode cx call sz n a tm hp with
      | some (.exit id', tm', hp') => match Nat.beq id' id with
        | true => some (AX.normal, tm', hp')
        | false => some (.exit id', tm', hp')
      | r => r) = some (x, tm', hp') := h
    split at h
    · rename_i h1
      split at h
      · injection h with h; injection h with _ h; injection h with _ h; subst h; exact ih _ _ _ _ _ h1
      · injection h with h; injection h with _ h; injection h with _ h; subst h; exact ih _ _ _ _ _ h1
    · exact ih _ _ _ _ _ h
  | loop a ih => intro tm hp x tm' hp' h; exact iter_nx (fun tm hp x tm' hp' h => ih tm hp x tm' hp' h) n tm hp x tm' hp' h
  | rangeFunc f ps a b iha ihb => intro tm hp x tm' hp' h; cases h
  | exit id => intro tm hp x tm' hp' h; have h : some (AX.exit id, tm, hp) = some (x, tm', hp') := h; injection h with h; injection h with _ h; injection h with _ h; subst h; exact Nat.le_refl _
  | scope a ih => intro tm hp x tm' hp' h; exact ih tm hp x tm' hp' h
  | label l => intro tm hp x tm' hp' h; have h : some (AX.normal, tm, hp) = some (x, tm', hp') := h; injection h with h; injection h with _ h; injection h with _ h; subst h; exact Nat.le_refl _
  | goto l => intro tm hp x tm' hp' h; cases h
  | ret => intro tm hp x tm' hp' h; have h : some (AX.ret, tm, hp) = some (x, tm', hp') := h; injection h with h; injection h with _ h; injection h with _ h; subst h; exact Nat.le_refl _
  | refuse s => intro tm hp x tm' hp' h; cases h
end

theorem evFn_zero (cx : Cx) (n : Nat) (f : FuncId) (args : List Value) (hp : Hp) : evFn cx n 0 f args hp = none := rfl
theorem evFn_succ (cx : Cx) (n d : Nat) (f : FuncId) (args : List Value) (hp : Hp) : evFn cx n (d + 1) f args hp = match cx.f f with
      | none => none
      | some fi => match Nat.ble (len args) fi.ntmps with
        | false => none
        | true => match evCode cx (evFn cx n d) fi.ntmps n fi.body (Tr.putList args .nil 0) hp with
          | some (.exit _, _, _) => none
          | some (_, tm, hp') => match resA cx tm hp' fi.results with
            | some l => some (oneA l, hp')
            | none => none
          | none => none := rfl

theorem evFn_nx (cx : Cx) (n : Nat) : ∀ d, NxOk (evFn cx n d) := by
  intro d
  induction d with
  | zero => intro f args hp v hp' h; rw [evFn_zero] at h; cases h
  | succ d ih =>
    intro f args hp v hp' h
    rw [evFn_succ] at h
    split at h
    · cases h
    · split at h
      · cases h
      · split at h
        · cases h
        · rename_i h1
          split at h
          · injection h with h
            injection h with _ h
            subst h
            exact evCode_nx ih _ _ _ _ _ _ h1
          · cases h
        · cases h
end Go.Proofs.Ytlfliibmhapgaaa.Ev
