import Derived.Test.YtaepplhgeeaidaaDoorEvV
set_option linter.unusedVariables false
set_option linter.unusedSimpArgs false
set_option linter.unusedSectionVars false
namespace Go.Proofs.YtaepplhgeeaidaaDoor.Ev
open Go Go.RowKit
noncomputable def mkOf (cx : Cx) (ops : Array Oper) (TM : Nat → Tr Value) (HP H : Nat → Hp) (i : Nat) : DMk :=
  match ops[i]? with
  | some o => dmkA cx ops.toList o (TM i) (HP i) (H i)
  | none => .idle
structure Way (cx : Cx) (call : CallF) (sz : Nat) (ops : Array Oper) (TM : Nat → Tr Value) (HP H : Nat → Hp) : Prop where
  chain : ∀ i o, ops[i]? = some o → Chain cx call sz ops.toList TM HP H i o
  marks : ∃ ms : List DMk, marksOk (befA ops.toList []) ms = true ∧ ∀ i, i < ops.size → ms[i]? = some (mkOf cx ops TM HP H i)
  back : backA ops.toList = true
  tmps : tmpsA ops.toList (befA ops.toList []) = true
  dom : Dom (HP 0)
def Quiet (HP H : Nat → Hp) (i : Nat) : Prop := (HP i).nx ≤ (H i).lo
noncomputable def foc (ops : Array Oper) (TM : Nat → Tr Value) (i : Nat) : Option Nat :=
  match ops[i]? with
  | some o => focA (TM i) o.op
  | none => none
noncomputable def wr (ops : Array Oper) (TM : Nat → Tr Value) (HP H : Nat → Hp) (i : Nat) : Option Nat :=
  match foc ops TM i with
  | some β => some β
  | none => match ops[i]? with
    | some o => wriB (TM i) o.op (HP i) (H i)
    | none => none
theorem wr_foc {ops : Array Oper} {TM : Nat → Tr Value} {HP H : Nat → Hp} {i β : Nat} (h : foc ops TM i = some β) : wr ops TM HP H i = some β := by unfold wr; rw [h]
def Touch (ops : Array Oper) (TM : Nat → Tr Value) (HP H : Nat → Hp) (i b : Nat) : Prop := i < ops.size ∧ ¬ Quiet HP H i ∧ b < (HP i).nx ∧ ∀ β, wr ops TM HP H i = some β → b = β
def Fst (ops : Array Oper) (TM : Nat → Tr Value) (HP H : Nat → Hp) (D : Nat → Prop) (b k : Nat) : Prop :=
  k ≤ ops.size ∧ (∀ y, y < k → Touch ops TM HP H y b → D y) ∧ (k = ops.size ∨ (Touch ops TM HP H k b ∧ ¬ D k))
theorem first_of (p : Nat → Prop) (n : Nat) : ∃ k, k ≤ n ∧ (∀ y, y < k → ¬ p y) ∧ (k = n ∨ p k) := by
  induction n with
  | zero => exact ⟨0, Nat.le_refl _, fun y h => by omega, .inl rfl⟩
  | succ n ih =>
    obtain ⟨k, h1, h2, h3⟩ := ih
    rcases h3 with h3 | h3
    · subst h3
      by_cases hp : p k
      · exact ⟨k, by omega, h2, .inr hp⟩
      · refine ⟨k + 1, Nat.le_refl _, fun y hy => ?_, .inl rfl⟩
        by_cases hyk : y = k
        · subst hyk; exact hp
        · exact h2 y (by omega)
    · exact ⟨k, by omega, h2, .inr h3⟩
theorem fst_ex (ops : Array Oper) (TM : Nat → Tr Value) (HP H : Nat → Hp) (D : Nat → Prop) (b : Nat) : ∃ k, Fst ops TM HP H D b k := by
  obtain ⟨k, h1, h2, h3⟩ := first_of (fun y => Touch ops TM HP H y b ∧ ¬ D y) ops.size
  exact ⟨k, h1, fun y hy ht => Classical.byContradiction fun hd => h2 y hy ⟨ht, hd⟩, h3⟩
theorem fst_one {ops : Array Oper} {TM : Nat → Tr Value} {HP H : Nat → Hp} {D : Nat → Prop} {b k k' : Nat} (h : Fst ops TM HP H D b k) (h' : Fst ops TM HP H D b k') : k = k' := by
  have key : ∀ x y, Fst ops TM HP H D b x → Fst ops TM HP H D b y → ¬ x < y := fun x y hx hy hlt => by
    rcases hx.2.2 with h | ⟨h1, h2⟩
    · have := hy.1
      omega
    · exact h2 (hy.2.1 x hlt h1)
  have h1 := key k k' h h'
  have h2 := key k' k h' h
  omega
theorem fst_drop {ops : Array Oper} {TM : Nat → Tr Value} {HP H : Nat → Hp} {D : Nat → Prop} {b k i : Nat} (hn : ¬ Touch ops TM HP H i b) (h : Fst ops TM HP H (fun j => D j ∨ j = i) b k) : Fst ops TM HP H D b k := by
  obtain ⟨h1, h2, h3⟩ := h
  refine ⟨h1, fun y hy ht => ?_, ?_⟩
  · rcases h2 y hy ht with h | h
    · exact h
    · subst h; exact absurd ht hn
  · rcases h3 with h | ⟨h4, h5⟩
    · exact .inl h
    · exact .inr ⟨h4, fun h => h5 (.inl h)⟩
theorem Tr.exists_fun {α : Type} (f : Nat → Option α) (n : Nat) : ∃ t : Tr α, ∀ b, t.get b = if b < n then f b else none := by
  induction n with
  | zero => exact ⟨.nil, fun b => by rw [if_neg (by omega)]; exact Tr.get_nil b⟩
  | succ n ih =>
    obtain ⟨t, ht⟩ := ih
    cases hf : f n with
    | none =>
      refine ⟨t, fun b => ?_⟩
      rw [ht]
      by_cases h : b < n
      · rw [if_pos h, if_pos (by omega)]
      · rw [if_neg h]
        by_cases h2 : b = n
        · subst h2; rw [if_pos (by omega), hf]
        · rw [if_neg (by omega)]
    | some v =>
      refine ⟨t.set n v, fun b => ?_⟩
      rw [Tr.get_set, ht]
      by_cases h : b = n
      · subst h; rw [if_pos rfl, if_pos (by omega), hf]
      · rw [if_neg h]
        by_cases h2 : b < n
        · rw [if_pos h2, if_pos (by omega)]
        · rw [if_neg h2, if_neg (by omega)]
section
variable {P : Program} {cx : Cx} {call : CallF} (hg : GrowOk call) {sz : Nat} {ops : Array Oper} {TM : Nat → Tr Value} {HP H : Nat → Hp} (way : Way cx call sz ops TM HP H)
include hg way
theorem way_grow {i : Nat} (hi : i < ops.size) : Grow { tr := (HP i).tr, nx := (HP i).nx, lo := (HP i).nx } (H i) := evOper_grow hg (way.chain i ops[i] (Array.getElem?_eq_getElem hi)).ev _ (List.mem_singleton.2 rfl)
theorem way_nx : ∀ (d i : Nat), i + d ≤ ops.size → (HP i).nx ≤ (HP (i + d)).nx := by
  intro d
  induction d with
  | zero => intro i _; exact Nat.le_refl _
  | succ d ih =>
    intro i h
    have h1 := ih i (by omega)
    have c := way.chain (i + d) ops[i + d] (Array.getElem?_eq_getElem (by omega))
    have g := way_grow hg way (i := i + d) (by omega)
    have h2 := g.nx
    simp only at h2
    rw [show i + (d + 1) = i + d + 1 from by omega, c.nx]
    omega
theorem way_nx' {i k : Nat} (h : i ≤ k) (hk : k ≤ ops.size) : (HP i).nx ≤ (HP k).nx := by
  have := way_nx hg way (k - i) i (by omega)
  rwa [show i + (k - i) = k from by omega] at this
theorem way_lo : ∀ (d i : Nat), i + d ≤ ops.size → (HP (i + d)).lo ≤ (HP i).lo := by
  intro d
  induction d with
  | zero => intro i _; exact Nat.le_refl _
  | succ d ih =>
    intro i h
    have h1 := ih i (by omega)
    have c := way.chain (i + d) ops[i + d] (Array.getElem?_eq_getElem (by omega))
    rw [show i + (d + 1) = i + d + 1 from by omega]
    exact Nat.le_trans c.lo h1
theorem way_lo' {i k : Nat} (h : i ≤ k) (hk : k ≤ ops.size) : (HP k).lo ≤ (HP i).lo := by
  have := way_lo hg way (k - i) i (by omega)
  rwa [show i + (k - i) = k from by omega] at this
theorem way_dom : ∀ (i : Nat), i ≤ ops.size → Dom (HP i) := by
  intro i
  induction i with
  | zero => intro _; exact way.dom
  | succ i ih =>
    intro h
    have c := way.chain i ops[i] (Array.getElem?_eq_getElem (by omega))
    have g := way_grow hg way (i := i) (by omega)
    have d := g.dom (fun b ob hb => ih (by omega) b ob hb)
    intro b ob hb
    rw [c.nx]
    rw [c.tr] at hb
    exact d b ob hb
theorem put_get {tm tm' : Tr Value} {dst : Option Tmp} {v : Value} (h : putA sz tm dst v = some tm') (t : Nat) : (dst = some t → t < sz ∧ tm'.get t = some v) ∧ (dst ≠ some t → tm'.get t = tm.get t) := by
  rw [putA_def] at h
  split at h
  · injection h with h
    subst h
    exact ⟨fun hh => (Option.some_ne_none _ hh.symm).elim, fun _ => rfl⟩
  · rename_i d
    split at h
    · rename_i hlt
      have hlt := Nat.blt_eq.mp hlt
      injection h with h
      subst h
      refine ⟨fun h => ?_, fun h => ?_⟩
      · obtain rfl : d = t := Option.some.inj h
        exact ⟨hlt, by rw [Tr.get_set, if_pos rfl]⟩
      · rw [Tr.get_set, if_neg (fun hh => h (by rw [hh]))]
    · cases h
theorem way_put {i : Nat} {o : Oper} (ho : ops[i]? = some o) : ∃ v, putA sz (TM i) o.dst v = some (TM (i + 1)) ∧
    ((wantA cx ops.toList (TM i) o.guard = some false ∧ v = undef ∧ H i = { tr := (HP i).tr, nx := (HP i).nx, lo := (HP i).nx }) ∨
      (wantA cx ops.toList (TM i) o.guard = some true ∧ evOp cx call (TM i) { tr := (HP i).tr, nx := (HP i).nx, lo := (HP i).nx } o.op = some [(.ret v, H i)])) := by
  have h := (way.chain i o ho).ev
  rw [evOper_def] at h
  split at h
  · cases h
  · rename_i hw
    split at h
    · cases h
    · rename_i tm' hput
      injection h with h
      injection h with h _
      injection h with h1 h2
      subst h1
      exact ⟨undef, hput, .inl ⟨hw, rfl, h2.symm⟩⟩
  · rename_i hw
    obtain ⟨q, h1, h2⟩ := bindL_single h
    rcases evRes_parts h2 with ⟨v, hp', tm', rfl, h3, h4⟩ | ⟨v, hp', rfl, h4⟩
    · injection h4 with h4 _
      injection h4 with e1 e2
      subst e1 e2
      exact ⟨v, h3, .inr ⟨hw, h1⟩⟩
    · injection h4 with h4 _; cases h4
omit hg way in
theorem foc_ev {tm : Tr Value} {hp h' : Hp} {op : Op} {β : Nat} {v : Value} (hf : focA tm op = some β) (h : evOp cx call tm hp op = some [(.ret v, h')]) :
    (∃ ob, hp.tr.get β = some ob) ∧ h'.nx = hp.nx ∧ (∀ b, b ≠ β → h'.tr.get b = hp.tr.get b) ∧
    (∀ Y : Hp, Y.tr.get β = hp.tr.get β → ∃ Y', evOp cx call tm Y op = some [(.ret v, Y')] ∧ Y'.nx = Y.nx ∧ Y'.tr.get β = h'.tr.get β ∧ (∀ b, b ≠ β → Y'.tr.get b = Y.tr.get b) ∧
      ((Y' = Y ∧ h' = hp) ∨ (Y'.lo = least β Y.lo ∧ h'.lo = least β hp.lo))) := by
  unfold focA at hf
  split at hf
  · rename_i t a
    split at hf
    · rename_i p hp1
      injection hf with hf
      subst hf
      have hev : ∀ Y, evOp cx call tm Y (.load t a) = lift (keep Y (loadA cx Y t p)) := fun Y => by
        show lift (evOp0 cx tm Y (.load t a)) = _
        simp only [evOp0, hp1]
      rw [hev] at h
      obtain ⟨h1, rfl⟩ := lift_keep h
      have hget : ∀ Y : Hp, Y.tr.get p.block = h'.tr.get p.block → loadA cx Y t p = loadA cx h' t p := fun Y hY => by
        have hr : ∀ n, getRow Y p n = getRow h' p n := fun n => by unfold getRow; rw [hY]
        unfold loadA
        simp only [hr]
      refine ⟨?_, rfl, fun _ _ => rfl, fun Y hY => ⟨Y, ?_, rfl, hY, fun _ _ => rfl, .inl ⟨rfl, rfl⟩⟩⟩
      · cases hg : h'.tr.get p.block with
        | some ob => exact ⟨ob, rfl⟩
        | none =>
          exfalso
          have hr : ∀ n, getRow h' p n = none := fun n => by unfold getRow; rw [hg]
          unfold loadA at h1
          simp only [hr] at h1
          split at h1
          · split at h1 <;> cases h1
          · cases h1
      · rw [hev, hget Y hY, h1]
        rfl
    · cases hf
  · rename_i t a x
    split at hf
    · rename_i p hp1
      injection hf with hf
      subst hf
      cases hx : evX tm x with
      | none =>
        exfalso
        have : evOp cx call tm hp (.store t a x) = lift none := by
          show lift (evOp0 cx tm hp (.store t a x)) = _
          simp only [evOp0, hp1, hx]
        rw [this] at h
        cases h
      | some u =>
        have hev : ∀ Y, evOp cx call tm Y (.store t a x) = lift (match storeA cx Y t p u with
            | some hp' => some (undef, hp')
            | none => none) := fun Y => by
          show lift (evOp0 cx tm Y (.store t a x)) = _
          simp only [evOp0, hp1, hx]
          rfl
        rw [hev] at h
        cases hst : storeA cx hp t p u with
        | none => rw [hst] at h; cases h
        | some hp2 =>
          rw [hst] at h
          obtain ⟨v2, h2, e1, e2⟩ := lift_parts h
          injection e1 with e1
          injection e1 with e3 e4
          injection e2 with e2 _
          injection e2 with e2 e5
          injection e2 with e2
          subst e5 e4 e2 e3
          unfold storeA at hst
          split at hst
          · rename_i ti hti
            split at hst
            · rename_i hlen
              unfold putRow at hst
              split at hst
              · rename_i tt k e op str hget
                split at hst
                · rename_i hle
                  split at hst
                  · rename_i hall
                    injection hst with hst
                    subst hst
                    refine ⟨⟨_, hget⟩, rfl, fun b hb => ?_, fun Y hY => ?_⟩
                    · simp only [Tr.get_set, if_neg hb]
                    · refine ⟨{ tr := Y.tr.set p.block (.cells (Tr.putList (cellsOf u) tt p.off) k e op str), nx := Y.nx, lo := least p.block Y.lo }, ?_, rfl, ?_, fun b hb => ?_, .inr ⟨rfl, rfl⟩⟩
                      · rw [hev]
                        unfold storeA
                        rw [hti]
                        simp only [hlen]
                        unfold putRow
                        rw [hY, hget]
                        simp only [hle, hall]
                        rfl
                      · simp only [Tr.get_set, if_true]
                      · simp only [Tr.get_set, if_neg hb]
                  · cases hst
                · cases hst
              · cases hst
            · cases hst
          · cases hst
    · cases hf
  · rename_i t x k okk
    split at hf
    · rename_i b hp1
      injection hf with hf
      subst hf
      cases hk : evX tm k with
      | none =>
        exfalso
        have : evOp cx call tm hp (.lookup t x k okk) = lift none := by
          show lift (evOp0 cx tm hp (.lookup t x k okk)) = _
          simp only [evOp0, hp1, hk]
        rw [this] at h
        cases h
      | some u =>
        have hev : ∀ Y, evOp cx call tm Y (.lookup t x k okk) = lift (keep Y (lookupA cx Y t (.map (some b)) u okk)) := fun Y => by
          show lift (evOp0 cx tm Y (.lookup t x k okk)) = _
          simp only [evOp0, hp1, hk]
        rw [hev] at h
        obtain ⟨h1, rfl⟩ := lift_keep h
        have hes : ∀ Y : Hp, Y.tr.get b = h'.tr.get b → mapEs Y (.map (some b)) = mapEs h' (.map (some b)) := fun Y hY => by
          simp only [mapEs, mapOb, hY]
        refine ⟨?_, rfl, fun _ _ => rfl, fun Y hY => ⟨Y, ?_, rfl, hY, fun _ _ => rfl, .inl ⟨rfl, rfl⟩⟩⟩
        · cases hg : h'.tr.get b with
          | some ob => exact ⟨ob, rfl⟩
          | none =>
            exfalso
            have : mapEs h' (.map (some b)) = none := by simp only [mapEs, mapOb, hg]
            unfold lookupA at h1
            rw [this] at h1
            split at h1 <;> cases h1
        · rw [hev]
          have : lookupA cx Y t (.map (some b)) u okk = lookupA cx h' t (.map (some b)) u okk := by
            unfold lookupA
            rw [hes Y hY]
          rw [this, h1]
          rfl
    · cases hf
  · cases hf
omit hg way in
theorem appendA_keep {hp hp' : Hp} {t u : TypeId} {s x v : Value} (h : appendA cx hp t u s x = some (v, hp')) : ∀ b, b < hp.nx → (∀ a n c, s = .slice (some a) n c → b ≠ a.block) → hp'.tr.get b = hp.tr.get b := by
  intro b hb hs
  have hgr : ∀ {g : Hp} {te : TI} {e : TypeId} {str : Bool} {need : Nat} {l : List Value}, growA g te e str need l = some (v, hp') → g.nx = hp.nx → hp'.tr.get b = g.tr.get b := fun {g te e str need l} h hn => by
    unfold growA at h
    split at h
    · injection h with h
      injection h with _ h
      subst h
      have : b ≠ g.nx := by omega
      simp only [Tr.get_set, if_neg this]
    · cases h
  have hpr : ∀ {a : Addr} {k : Nat} {l : List Value} {hp2 : Hp}, b ≠ a.block → putRow hp (a.add k) l = some hp2 → hp2.tr.get b = hp.tr.get b := fun {a k l hp2} hne h => by
    unfold putRow at h
    split at h
    · split at h
      · split at h
        · injection h with h
          subst h
          have : b ≠ (a.add k).block := by unfold Addr.add; split <;> exact hne
          simp only [Tr.get_set, if_neg this]
        · cases h
      · cases h
    · cases h
  have has : ∀ {e : TypeId} {te : TI} {u : TypeDesc}, appendS cx hp e te u s x = some (v, hp') → hp'.tr.get b = hp.tr.get b := fun {e te u} h => by
    unfold appendS at h
    repeat' (split at h)
    all_goals first
      | (cases h; done)
      | (injection h with h; injection h with _ h; subst h; rfl)
      | (injection h with h; injection h with _ h; subst h; have : b ≠ hp.nx := by omega
         simp only [Tr.get_set, if_neg this])
  unfold appendA at h
  repeat' (split at h)
  all_goals first
    | (cases h; done)
    | exact has h
    | (injection h with h; injection h with _ h; subst h; rfl)
    | (rename_i hput; injection h with h; injection h with _ h; subst h; exact hpr (hs _ _ _ rfl) hput)
    | exact hgr h rfl
    | (refine (hgr h rfl).trans ?_; simp only [killA, Tr.get_set, if_neg (hs _ _ _ rfl)]; done)
omit hg way in
theorem appendT_keep {hp hp' : Hp} {t u : TypeId} {a : Addr} {n c : Nat} {x v : Value} (h : appendT cx hp t u (.slice (some a) n c) x = some (v, hp')) : ∀ b, b < hp.nx → b ≠ a.block → hp'.tr.get b = hp.tr.get b := by
  intro b hb hne
  unfold appendT at h
  split at h
  · rename_i r hr
    injection h with h
    subst h
    exact appendA_keep hr b hb (fun a' n' c' h => by injection h with h; injection h with h; rw [← h]; exact hne)
  repeat' (split at h)
  all_goals first
    | (cases h; done)
    | skip
  unfold appendQ at h
  split at h
  · cases h
  split at h
  case h_2 => cases h
  split at h
  · rename_i hq; cases hq
  · split at h
    case h_2 => cases h
    rename_i b2 en0 nE hd
    split at h
    case h_2 => cases h
    injection h with h
    injection h with _ h
    subst h
    have hb2 : b2 = a.block := by
      unfold dstQ at hd
      simp only at hd
      repeat' (split at hd)
      all_goals first
        | (cases hd; done)
        | (injection hd with hd; injection hd with hd _; exact hd.symm)
    subst hb2
    have : b ≠ hp.nx := by omega
    simp only [Tr.get_set, if_neg this, if_neg hne]
omit hg way in
theorem wri_ev {tm : Tr Value} {hp h' : Hp} {op : Op} {β : Nat} {v : Value} (hf : wriA tm op = some β) (h : evOp cx call tm hp op = some [(.ret v, h')]) : ∀ b, b < hp.nx → b ≠ β → h'.tr.get b = hp.tr.get b := by
  unfold wriA at hf
  split at hf
  · rename_i c
    split at hf
    · rename_i hcal
      split at hf
      · rename_i a n k x hargs
        injection hf with hf
        subst hf
        have hev : evOp cx call tm hp (.call c) = lift (builtinA cx hp .append c.argTypes.toList [.slice (some a) n k, x]) := by
          show evCall cx call tm hp c = _
          unfold evCall
          simp only [hargs, hcal]
        rw [hev] at h
        obtain ⟨v2, h2, e1, e2⟩ := lift_parts h
        injection e2 with e2 _
        injection e2 with e2 e3
        subst e3
        have hb2 : ∃ t u, builtinA cx hp .append c.argTypes.toList [.slice (some a) n k, x] = appendT cx hp t u (.slice (some a) n k) x ∨ builtinA cx hp .append c.argTypes.toList [.slice (some a) n k, x] = none := by
          cases c.argTypes.toList with
          | nil => exact ⟨0, 0, .inr rfl⟩
          | cons t l => cases l with
            | nil => exact ⟨0, 0, .inr rfl⟩
            | cons u l => cases l with
              | nil => exact ⟨t, u, .inl rfl⟩
              | cons _ _ => exact ⟨0, 0, .inr rfl⟩
        obtain ⟨t, u, hb2 | hb2⟩ := hb2
        · rw [hb2] at e1
          exact fun b hb hne => appendT_keep e1 b hb hne
        · rw [hb2] at e1
          cases e1
      · cases hf
    · cases hf
  · cases hf
theorem way_keep {i b : Nat} (hi : i < ops.size) (hb : b < (HP i).nx) (hn : ¬ Touch ops TM HP H i b) : (H i).tr.get b = (HP i).tr.get b := by
  by_cases hq : Quiet HP H i
  · exact (way_grow hg way hi).low b hb (by unfold Quiet at hq; omega)
  · have ho : ops[i]? = some ops[i] := Array.getElem?_eq_getElem hi
    cases hf : foc ops TM i with
    | none =>
      cases hw : wr ops TM HP H i with
      | none => exact absurd ⟨hi, hq, hb, fun β h => by rw [hw] at h; cases h⟩ hn
      | some β =>
        have hbβ : b ≠ β := fun h => hn ⟨hi, hq, hb, fun β' h' => by rw [hw] at h'; injection h' with h'; rw [h, h']⟩
        have hw' : wriB (TM i) ops[i].op (HP i) (H i) = some β := by
          unfold wr at hw
          rw [hf] at hw
          simp only [ho] at hw
          exact hw
        unfold wriB at hw'
        split at hw'
        · rename_i b' hwri
          injection hw' with e
          subst e
          obtain ⟨v, -, ⟨-, -, h⟩ | ⟨-, h⟩⟩ := way_put hg way ho
          · rw [h]
          · exact wri_ev hwri h b hb hbβ
        · split at hw'
          · rename_i b' hdiff
            injection hw' with e
            subst e
            by_cases hl : (H i).lo ≤ b
            · exact (diffA_same _ _ b (by rw [hdiff]; simpa using hbβ) hl (by omega)).symm
            · exact (way_grow hg way hi).low b hb (by omega)
          · cases hw'
    | some β =>
      have hbβ : b ≠ β := fun h => hn ⟨hi, hq, hb, fun β' h' => by rw [wr_foc hf] at h'; injection h' with h'; rw [h, h']⟩
      have hf' : focA (TM i) ops[i].op = some β := by
        unfold foc at hf
        rw [ho] at hf
        exact hf
      obtain ⟨v, -, ⟨-, -, h⟩ | ⟨-, h⟩⟩ := way_put hg way ho
      · rw [h]
      · exact (foc_ev hf' h).2.2.1 b hbβ
theorem way_same : ∀ (d i b : Nat), i + d ≤ ops.size → b < (HP i).nx → (∀ y, i ≤ y → y < i + d → ¬ Touch ops TM HP H y b) → (HP (i + d)).tr.get b = (HP i).tr.get b := by
  intro d
  induction d with
  | zero => intro i b _ _ _; rfl
  | succ d ih =>
    intro i b h hb hq
    have h1 := ih i b (by omega) hb (fun y h1 h2 => hq y h1 (by omega))
    have c := way.chain (i + d) ops[i + d] (Array.getElem?_eq_getElem (by omega))
    have hn := way_nx hg way d i (by omega)
    rw [show i + (d + 1) = i + d + 1 from by omega, c.tr, way_keep hg way (by omega) (by omega) (hq (i + d) (by omega) (by omega))]
    exact h1
theorem way_same' {i k b : Nat} (h : i ≤ k) (hk : k ≤ ops.size) (hb : b < (HP i).nx) (hq : ∀ y, i ≤ y → y < k → ¬ Touch ops TM HP H y b) : (HP k).tr.get b = (HP i).tr.get b := by
  have := way_same hg way (k - i) i b (by omega) hb (fun y h1 h2 => hq y h1 (by omega))
  rwa [show i + (k - i) = k from by omega] at this
theorem way_tm {t : Nat} : ∀ (d i : Nat), i + d ≤ ops.size → (∀ j o, i ≤ j → j < i + d → ops[j]? = some o → o.dst ≠ some t) → (TM (i + d)).get t = (TM i).get t := by
  intro d
  induction d with
  | zero => intro i _ _; rfl
  | succ d ih =>
    intro i h hq
    have ho : ops[i + d]? = some ops[i + d] := Array.getElem?_eq_getElem (by omega)
    obtain ⟨v, hv, -⟩ := way_put hg way ho
    rw [show i + (d + 1) = i + d + 1 from by omega, (put_get hg way hv t).2 (hq (i + d) _ (by omega) (by omega) ho)]
    exact ih i (by omega) (fun j o h1 h2 h3 => hq j o h1 (by omega) h3)
theorem way_tm' {t i k : Nat} (h : i ≤ k) (hk : k ≤ ops.size) (hq : ∀ j o, i ≤ j → j < k → ops[j]? = some o → o.dst ≠ some t) : (TM k).get t = (TM i).get t := by
  have := way_tm hg way (t := t) (k - i) i (by omega) (fun j o h1 h2 h3 => hq j o h1 (by omega) h3)
  rwa [show i + (k - i) = k from by omega] at this
omit hg way in
theorem last_writer (t : Tmp) : ∀ i : Nat, (∃ (j : Nat) (o : Oper), j < i ∧ ops[j]? = some o ∧ o.dst = some t ∧ ∀ (k : Nat) (o' : Oper), j < k → k < i → ops[k]? = some o' → o'.dst ≠ some t) ∨ (∀ (k : Nat) (o' : Oper), k < i → ops[k]? = some o' → o'.dst ≠ some t) := by
  intro i
  induction i with
  | zero => exact .inr (fun k o' h => by omega)
  | succ i ih =>
    by_cases hw : ∃ o, ops[i]? = some o ∧ o.dst = some t
    · obtain ⟨o, ho, hd⟩ := hw
      exact .inl ⟨i, o, Nat.lt_succ_self i, ho, hd, fun k o' h1 h2 => by omega⟩
    · have hn : ∀ o, ops[i]? = some o → o.dst ≠ some t := fun o ho hd => hw ⟨o, ho, hd⟩
      rcases ih with ⟨j, o, h1, h2, h3, h4⟩ | h
      · refine .inl ⟨j, o, by omega, h2, h3, fun k o' k1 k2 k3 => ?_⟩
        by_cases hk : k = i
        · subst hk; exact hn o' k3
        · exact h4 k o' k1 (by omega) k3
      · refine .inr (fun k o' k1 k2 => ?_)
        by_cases hk : k = i
        · subst hk; exact hn o' k2
        · exact h k o' (by omega) k2
structure DS (cx : Cx) (m0 : Emb) (w0 : World) (TM : Nat → Tr Value) (HP H : Nat → Hp) (sz : Nat) (ops : Array Oper) (dl : List Deferred) (D : Nat → Prop) (m : Emb) (a : Act) (w : World) : Prop where
  sub : ∀ i, D i → i < ops.size
  closed : Closed ops D
  size : a.tmps.size = sz
  defers : a.defers = dl
  valA : ∀ i o t, D i → ops[i]? = some o → o.dst = some t → (∀ j o', i < j → D j → ops[j]? = some o' → o'.dst ≠ some t) → ∀ v, (TM (i + 1)).get t = some v → RV m v (a.tmps.getD t undef)
  valB : ∀ t, (∀ j o', D j → ops[j]? = some o' → o'.dst ≠ some t) → ∀ v, (TM 0).get t = some v → RV m v (a.tmps.getD t undef)
  heap : ∃ Y : Hp, (∀ b k, Fst ops TM HP H D b k → Y.tr.get b = (HP k).tr.get b) ∧ Y.nx = (HP ops.size).nx ∧ Inv m Y w.heap
  fresh : ∀ j, j < ops.size → ¬ D j → ∀ b, (HP j).nx ≤ b → b < (HP (j + 1)).nx → m b = none
  gw : GW cx m w
  cum : Cum m0 (HP 0) w0 (HP ops.size).nx (HP ops.size).lo m w
variable {m0 : Emb} {w0 : World} {dl : List Deferred} {D : Nat → Prop} {m : Emb} {a : Act} {w : World} (ds : DS cx m0 w0 TM HP H sz ops dl D m a w)
include ds
theorem ds_slot {i : Nat} {o : Oper} (ho : ops[i]? = some o) (hn : ¬ D i) (hdep : Dep ops D i) {t : Tmp} (ht : t ∈ looksA o ops.toList) {v : Value} (hv : (TM i).get t = some v) : RV m v (a.tmps.getD t undef) := by
  have hi : i < ops.size := by
    rcases Nat.lt_or_ge i ops.size with h | h
    · exact h
    · rw [Array.getElem?_eq_none h] at ho; cases ho
  have late : ∀ k o', i < k → D k → ops[k]? = some o' → o'.dst ≠ some t := fun k o' hk hd hok hdst => by
    rcases tmps_of way.tmps hok ho hdst (by omega) (.inl ht) with ⟨h1, -⟩ | ⟨-, h2⟩
    · omega
    · exact hn (h2.mem ds.closed (ds.closed k hd))
  rcases last_writer (ops := ops) t i with ⟨j, oj, h1, h2, h3, h4⟩ | h
  · have hd : D j := by
      rcases tmps_of way.tmps h2 ho h3 (by omega) (.inl ht) with ⟨-, h⟩ | ⟨h, -⟩
      · exact h.mem ds.closed hdep
      · omega
    refine ds.valA j oj t hd h2 h3 (fun k o' k1 k2 k3 => ?_) v ?_
    · rcases Nat.lt_trichotomy k i with hk | hk | hk
      · exact h4 k o' k1 hk k3
      · subst hk; exact absurd k2 hn
      · exact late k o' hk k2 k3
    · rw [← way_tm' hg way (t := t) (i := j + 1) (k := i) (by omega) (by omega) (fun k o' k1 k2 k3 => h4 k o' (by omega) k2 k3)]
      exact hv
  · refine ds.valB t (fun k o' k1 k2 => ?_) v ?_
    · rcases Nat.lt_trichotomy k i with hk | hk | hk
      · exact h k o' hk k2
      · subst hk; exact absurd k1 hn
      · exact late k o' hk k1 k2
    · rw [← way_tm' hg way (t := t) (i := 0) (k := i) (by omega) (by omega) (fun k o' _ k2 k3 => h k o' k2 k3)]
      exact hv
theorem ds_vals {i : Nat} {o : Oper} (ho : ops[i]? = some o) (hn : ¬ D i) {m' : Emb} (hm : m.le m') {v v' : Value} (hput : putA sz (TM i) o.dst v = some (TM (i + 1))) (hv : RV m' v v') :
    (a.put o.dst v').tmps.size = sz ∧ (a.put o.dst v').defers = dl ∧
    (∀ k ok t, (D k ∨ k = i) → ops[k]? = some ok → ok.dst = some t → (∀ j o', k < j → (D j ∨ j = i) → ops[j]? = some o' → o'.dst ≠ some t) → ∀ u, (TM (k + 1)).get t = some u → RV m' u ((a.put o.dst v').tmps.getD t undef)) ∧
    (∀ t, (∀ j o', (D j ∨ j = i) → ops[j]? = some o' → o'.dst ≠ some t) → ∀ u, (TM 0).get t = some u → RV m' u ((a.put o.dst v').tmps.getD t undef)) := by
  have same : ∀ t, o.dst ≠ some t → (a.put o.dst v').tmps.getD t undef = a.tmps.getD t undef := fun t ht => by
    cases hd : o.dst with
    | none => rfl
    | some d =>
      have : d ≠ t := fun hh => ht (by rw [hd, hh])
      simp only [Act.put, Array.getD_eq_getD_getElem?]
      rw [Array.getElem?_setIfInBounds_ne this]
  have here : ∀ t, o.dst = some t → (a.put o.dst v').tmps.getD t undef = v' := fun t ht => by
    have hlt := ((put_get hg way hput t).1 ht).1
    rw [ht]
    simp only [Act.put, Array.getD_eq_getD_getElem?]
    have : t < a.tmps.size := by rw [ds.size]; exact hlt
    simp [this]
  refine ⟨?_, ?_, fun k ok t hk hok hdst hlater u hu => ?_, fun t hlater u hu => ?_⟩
  · cases hd : o.dst with
    | none => exact ds.size
    | some d => simp [Act.put, ds.size]
  · cases hd : o.dst with
    | none => exact ds.defers
    | some d => exact ds.defers
  · by_cases hki : k = i
    · subst hki
      rw [ho] at hok
      injection hok with hok
      subst hok
      rw [here t hdst]
      rw [((put_get hg way hput t).1 hdst).2] at hu
      injection hu with hu
      subst hu
      exact hv
    · have hdk : D k := hk.resolve_right hki
      have hod : o.dst ≠ some t := fun hh => by
        rcases Nat.lt_or_gt_of_ne hki with h1 | h1
        · exact hlater i o h1 (.inr rfl) ho hh
        · rcases tmps_of way.tmps ho hok hh (fun h => hki h.symm) (.inr hdst) with ⟨-, h2⟩ | ⟨h2, -⟩
          · exact hn (h2.mem ds.closed (ds.closed k hdk))
          · omega
      rw [same t hod]
      exact (ds.valA k ok t hdk hok hdst (fun j o' h1 h2 h3 => hlater j o' h1 (.inl h2) h3) u hu).mono hm
  · have hod : o.dst ≠ some t := hlater i o (.inr rfl) ho
    rw [same t hod]
    exact (ds.valB t (fun j o' h1 h2 => hlater j o' (.inl h1) h2) u hu).mono hm
theorem ds_closed {i : Nat} (hdep : Dep ops D i) : Closed ops (fun j => D j ∨ j = i) := fun j hj o ho e he hb => by
  rcases hj with hj | rfl
  · exact .inl (ds.closed j hj o ho e he hb)
  · exact .inl (hdep o ho e he hb)
end
end Go.Proofs.YtaepplhgeeaidaaDoor.Ev
