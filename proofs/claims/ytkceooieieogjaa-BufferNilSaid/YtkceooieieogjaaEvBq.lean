/- The second reckoner: outcomes that are one. -/
import Derived.Test.YtkceooieieogjaaEvB
set_option linter.unusedVariables false
set_option linter.unusedSimpArgs false
namespace Go.Proofs.Ytkceooieieogjaa.Ev
open Go Go.RowKit

section
variable {α : Type}
def lEq (f : α → α → Bool) : List α → List α → Bool
  | [], [] => true
  | x :: xs, y :: ys => match f x y with
    | true => lEq f xs ys
    | false => false
  | _, _ => false
theorem lEq_ok {f : α → α → Bool} (h : ∀ a b, f a b = true → a = b) : ∀ (xs ys : List α), lEq f xs ys = true → xs = ys
  | [], [], _ => rfl
  | [], _ :: _, e => by simp [lEq] at e
  | _ :: _, [], e => by simp [lEq] at e
  | x :: xs, y :: ys, e => by
    unfold lEq at e
    split at e
    · rename_i h1
      rw [h _ _ h1, lEq_ok h xs ys e]
    · cases e
def oEq (f : α → α → Bool) : Option α → Option α → Bool
  | none, none => true
  | some x, some y => f x y
  | _, _ => false
theorem oEq_ok {f : α → α → Bool} (h : ∀ a b, f a b = true → a = b) : ∀ (x y : Option α), oEq f x y = true → x = y
  | none, none, _ => rfl
  | none, some _, e => by simp [oEq] at e
  | some _, none, e => by simp [oEq] at e
  | some x, some y, e => by rw [h x y e]
def trEq (f : α → α → Bool) : Tr α → Tr α → Bool
  | .nil, .nil => true
  | .node v l r, .node v' l' r' => match oEq f v v' with
    | true => match trEq f l l' with
      | true => trEq f r r'
      | false => false
    | false => false
  | _, _ => false
theorem trEq_ok {f : α → α → Bool} (h : ∀ a b, f a b = true → a = b) : ∀ (x y : Tr α), trEq f x y = true → x = y
  | .nil, .nil, _ => rfl
  | .nil, .node _ _ _, e => by simp [trEq] at e
  | .node _ _ _, .nil, e => by simp [trEq] at e
  | .node v l r, .node v' l' r', e => by
    unfold trEq at e
    split at e
    · rename_i h1
      split at e
      · rename_i h2
        rw [oEq_ok h _ _ h1, trEq_ok h l l' h2, trEq_ok h r r' e]
      · cases e
    · cases e
end

def intEq (a b : Int) : Bool :=
  match a, b with
  | .ofNat x, .ofNat y => Nat.beq x y
  | .negSucc x, .negSucc y => Nat.beq x y
  | _, _ => false
theorem intEq_ok : ∀ (a b : Int), intEq a b = true → a = b
  | .ofNat x, .ofNat y, h => by rw [Nat.eq_of_beq_eq_true h]
  | .negSucc x, .negSucc y, h => by rw [Nat.eq_of_beq_eq_true h]
  | .ofNat _, .negSucc _, h => by simp [intEq] at h
  | .negSucc _, .ofNat _, h => by simp [intEq] at h

def bytesEq (a b : ByteArray) : Bool := lEq (fun x y => Nat.beq x.toNat y.toNat) a.data.toList b.data.toList
theorem bytesEq_ok (a b : ByteArray) (h : bytesEq a b = true) : a = b := by
  have := lEq_ok (f := fun (x y : UInt8) => Nat.beq x.toNat y.toNat) (fun x y h => UInt8.toNat_inj.1 (Nat.eq_of_beq_eq_true h)) _ _ h
  obtain ⟨⟨a⟩⟩ := a
  obtain ⟨⟨b⟩⟩ := b
  simp only at this
  rw [this]

def addrEq (a b : Addr) : Bool :=
  match a, b with
  | ⟨x, i, none⟩, ⟨y, j, none⟩ => match Nat.beq x y with
    | true => Nat.beq i j
    | false => false
  | _, _ => false
theorem addrEq_ok : ∀ (a b : Addr), addrEq a b = true → a = b
  | ⟨x, i, none⟩, ⟨y, j, none⟩, h => by
    unfold addrEq at h
    simp only at h
    split at h
    · rename_i h1
      rw [Nat.eq_of_beq_eq_true h1, Nat.eq_of_beq_eq_true h]
    · cases h
  | ⟨_, _, some _⟩, _, h => by simp [addrEq] at h
  | ⟨_, _, none⟩, ⟨_, _, some _⟩, h => by simp [addrEq] at h

def fnEq : Fn → Fn → Bool
  | .func f, .func g => Nat.beq f g
  | .yield f, .yield g => Nat.beq f g
  | .methodOf t n, .methodOf t' n' => match decide (n = n') with
    | true => Nat.beq t t'
    | false => false
  | _, _ => false
theorem fnEq_ok : ∀ (a b : Fn), fnEq a b = true → a = b := by
  intro a b h
  cases a <;> cases b <;> first
    | (simp [fnEq] at h; done)
    | (rw [Nat.eq_of_beq_eq_true h])
    | (simp only [fnEq] at h; split at h <;> first | (cases h; done) | (rename_i hn; rw [Nat.eq_of_beq_eq_true h, of_decide_eq_true hn]))

def kindEq (a b : IntKind) : Bool := decide (a = b)

def vEq : Nat → Value → Value → Bool
  | 0, _, _ => false
  | _ + 1, .bool a, .bool b => a == b
  | _ + 1, .int k a, .int k' b => match kindEq k k' with
    | true => intEq a b
    | false => false
  | _ + 1, .string a, .string b => bytesEq a b
  | _ + 1, .pointer a, .pointer b => oEq addrEq a b
  | _ + 1, .slice a n c, .slice b n' c' => match oEq addrEq a b, Nat.beq n n' with
    | true, true => Nat.beq c c'
    | _, _ => false
  | _ + 1, .map a, .map b => oEq Nat.beq a b
  | _ + 1, .chan a, .chan b => oEq Nat.beq a b
  | d + 1, .func f xs ys, .func g xs' ys' => match fnEq f g, lEq (vEq d) xs.toList xs'.toList with
    | true, true => lEq (vEq d) ys.toList ys'.toList
    | _, _ => false
  | _ + 1, .nilFunc, .nilFunc => true
  | d + 1, .iface t v, .iface u v' => match Nat.beq t u with
    | true => vEq d v v'
    | false => false
  | _ + 1, .nilIface, .nilIface => true
  | d + 1, .agg xs, .agg ys => lEq (vEq d) xs.toList ys.toList
  | d + 1, .tuple xs, .tuple ys => lEq (vEq d) xs.toList ys.toList
  | _, _, _ => false

theorem arr_of_list {α : Type} {a b : Array α} (h : a.toList = b.toList) : a = b := Array.ext' h

theorem vEq_ok : ∀ (d : Nat) (a b : Value), vEq d a b = true → a = b := by
  intro d
  induction d with
  | zero => intro a b h; simp [vEq] at h
  | succ d ih =>
    intro a b h
    have hl := lEq_ok ih
    cases a <;> cases b <;> first
      | (simp [vEq] at h; done)
      | rfl
      | skip
    · simp only [vEq, beq_iff_eq] at h; rw [h]
    · simp only [vEq] at h
      split at h
      · rename_i h1
        rw [of_decide_eq_true h1, intEq_ok _ _ h]
      · cases h
    · rw [bytesEq_ok _ _ h]
    · rw [oEq_ok addrEq_ok _ _ h]
    · simp only [vEq] at h
      split at h
      · rename_i h1 h2
        rw [oEq_ok addrEq_ok _ _ h1, Nat.eq_of_beq_eq_true h2, Nat.eq_of_beq_eq_true h]
      · cases h
    · rw [oEq_ok (fun _ _ => Nat.eq_of_beq_eq_true) _ _ h]
    · rw [oEq_ok (fun _ _ => Nat.eq_of_beq_eq_true) _ _ h]
    · simp only [vEq] at h
      split at h
      · rename_i h1 h2
        rw [fnEq_ok _ _ h1, arr_of_list (hl _ _ h2), arr_of_list (hl _ _ h)]
      · cases h
    · simp only [vEq] at h
      split at h
      · rename_i h1
        rw [Nat.eq_of_beq_eq_true h1, ih _ _ h]
      · cases h
    · simp only [vEq] at h; rw [arr_of_list (hl _ _ h)]
    · simp only [vEq] at h; rw [arr_of_list (hl _ _ h)]

def entryEq (a b : MapEntry) : Bool :=
  match vEq 30 a.key b.key, vEq 30 a.val b.val with
  | true, true => Nat.beq a.born b.born
  | _, _ => false
theorem entryEq_ok (a b : MapEntry) (h : entryEq a b = true) : a = b := by
  unfold entryEq at h
  split at h
  · rename_i h1 h2
    obtain ⟨k, v, n⟩ := a
    obtain ⟨k', v', n'⟩ := b
    simp only at h1 h2 h
    rw [vEq_ok _ _ _ h1, vEq_ok _ _ _ h2, Nat.eq_of_beq_eq_true h]
  · cases h

def obEq : AObj → AObj → Bool
  | .cells t n e op str, .cells t' n' e' op' str' => match Nat.beq n n', Nat.beq e e', oEq Nat.beq op op', str == str' with
    | true, true, true, true => trEq (vEq 30) t t'
    | _, _, _, _ => false
  | .map es c, .map es' c' => match Nat.beq c c' with
    | true => lEq entryEq es es'
    | false => false
  | .siter s p, .siter s' p' => match Nat.beq p p' with
    | true => bytesEq s s'
    | false => false
  | .miter mo s l p, .miter mo' s' l' p' => match oEq Nat.beq mo mo', Nat.beq s s', Nat.beq p p' with
    | true, true, true => lEq Nat.beq l l'
    | _, _, _ => false
  | .dead, .dead => true
  | _, _ => false

theorem obEq_ok : ∀ (a b : AObj), obEq a b = true → a = b := by
  intro a b h
  cases a <;> cases b <;> first
    | (simp [obEq] at h; done)
    | rfl
    | skip
  · simp only [obEq] at h
    split at h
    · rename_i h1 h2 h3 h4
      rw [Nat.eq_of_beq_eq_true h1, Nat.eq_of_beq_eq_true h2, oEq_ok (fun _ _ => Nat.eq_of_beq_eq_true) _ _ h3, eq_of_beq h4, trEq_ok (vEq_ok 30) _ _ h]
    · cases h
  · simp only [obEq] at h
    split at h
    · rename_i h1
      rw [Nat.eq_of_beq_eq_true h1, lEq_ok entryEq_ok _ _ h]
    · cases h
  · simp only [obEq] at h
    split at h
    · rename_i h1 h2 h3
      rw [oEq_ok (fun _ _ => Nat.eq_of_beq_eq_true) _ _ h1, Nat.eq_of_beq_eq_true h2, Nat.eq_of_beq_eq_true h3, lEq_ok (fun _ _ => Nat.eq_of_beq_eq_true) _ _ h]
    · cases h
  · simp only [obEq] at h
    split at h
    · rename_i h1
      rw [Nat.eq_of_beq_eq_true h1, bytesEq_ok _ _ h]
    · cases h

/-- A truth that is known, or that is taken for granted. -/
--D def lookSI (e : Value) (l : List (Value × Bool)) : Option Bool := (l.find? fun p => vEq 60 p.1 e).map (·.2)
--D @[implemented_by lookSI]
noncomputable def lookS (e : Value) (l : List (Value × Bool)) : Option Bool :=
  List.rec (motive := fun _ => Option Bool) none (fun p _ ih => match vEq 60 p.1 e with
    | true => some p.2
    | false => ih) l

theorem lookS_mem {e : Value} {b : Bool} : ∀ {l : List (Value × Bool)}, lookS e l = some b → (e, b) ∈ l := by
  intro l
  induction l with
  | nil => intro h; cases h
  | cons p l ih =>
    obtain ⟨p1, p2⟩ := p
    intro h0
    have h : (match vEq 60 p1 e with | true => some p2 | false => lookS e l) = some b := h0
    clear h0
    split at h
    · rename_i hv
      injection h with h
      obtain rfl := vEq_ok 60 _ _ hv
      subst h
      exact List.mem_cons_self
    · exact List.mem_cons_of_mem _ (ih h)

noncomputable def boolA (cx : Cx) (v : Value) : Option Bool :=
  match v with
  | .bool b => some b
  | .func fn xs ys => match isMo fn with
    | true => lookS (.func fn xs ys) cx.as
    | false => none
  | _ => none

/-- The numbers from 'a' on, 'n' of them, at which two memories differ. -/
--D def diffAI (t t' : Tr AObj) : Nat → Nat → List Nat
--D   | 0, _ => []
--D   | n+1, a => if oEq obEq (t.getI a) (t'.getI a) then diffAI t t' n (a+1) else a :: diffAI t t' n (a+1)
--D @[implemented_by diffAI]
noncomputable def diffA (t t' : Tr AObj) (n : Nat) : Nat → List Nat :=
  Nat.rec (motive := fun _ => Nat → List Nat) (fun _ => []) (fun _ ih a => match oEq obEq (t.get a) (t'.get a) with
    | true => ih (Nat.succ a)
    | false => a :: ih (Nat.succ a)) n

--D def killAllI : List Nat → Hp → Hp
--D   | [], hp => hp
--D   | b :: l, hp => killAllI l (killA hp b)
--D def killAllJ (hp : Hp) (l : List Nat) : Hp := killAllI l hp
--D @[implemented_by killAllJ]
noncomputable def killAll (hp : Hp) (l : List Nat) : Hp := List.rec (motive := fun _ => Hp → Hp) (fun hp => hp) (fun b _ ih hp => ih (killA hp b)) l hp

def hpEq (a b : Hp) : Bool :=
  match Nat.beq a.nx b.nx, Nat.beq a.lo b.lo with
  | true, true => trEq obEq a.tr b.tr
  | _, _ => false
theorem hpEq_ok (a b : Hp) (h : hpEq a b = true) : a = b := by
  unfold hpEq at h
  split at h
  · rename_i h1 h2
    obtain ⟨t, n, l⟩ := a
    obtain ⟨t', n', l'⟩ := b
    simp only at h1 h2 h
    rw [Nat.eq_of_beq_eq_true h1, Nat.eq_of_beq_eq_true h2, trEq_ok obEq_ok _ _ h]
  · cases h

/-! Outcomes. -/
section
variable {α β : Type}
--D def eachLI (f : α → Option (List β)) : List α → Option (List β)
--D   | [] => some []
--D   | x :: l => match f x, eachLI f l with
--D     | some ys, some zs => some (ys ++ zs)
--D     | _, _ => none
--D @[implemented_by eachLI]
noncomputable def eachL (f : α → Option (List β)) (l : List α) : Option (List β) :=
  List.rec (motive := fun _ => Option (List β)) (some []) (fun x _ ih => match f x with
    | some (y :: ys) => match ih with
      | none => none
      | some zs => some (y :: (ys ++ zs))
    | _ => none) l

--D def bindLI (r : Option (List α)) (f : α → Option (List β)) : Option (List β) :=
--D   match r with
--D   | none => none
--D   | some l => match l with
--D     | [] => none
--D     | [x] => match f x with
--D       | some (y :: ys) => some (y :: ys)
--D       | _ => none
--D     | l => eachL f l
noncomputable  def neL (r : Option (List β)) : Option (List β) := Option.rec (motive := fun _ => Option (List β)) none (fun l => List.rec (motive := fun _ => Option (List β)) none (fun y ys _ => some (y :: ys)) l) r
--D @[implemented_by bindLI]
noncomputable def bindL (r : Option (List α)) (f : α → Option (List β)) : Option (List β) :=
  Option.rec (motive := fun _ => Option (List β)) none (fun l => List.rec (motive := fun _ => Option (List β)) none
    (fun x t _ => List.rec (motive := fun _ => Option (List β)) (neL (f x)) (fun _ _ _ => eachL f l) t) l) r
theorem neL_def (r : Option (List β)) : neL r = match r with | some (y :: ys) => some (y :: ys) | _ => none := by
  cases r with
  | none => rfl
  | some l => cases l <;> rfl
theorem bindL_def (r : Option (List α)) (f : α → Option (List β)) : bindL r f = match r with
    | none => none
    | some l => match l with
      | [] => none
      | [x] => match f x with
        | some (y :: ys) => some (y :: ys)
        | _ => none
      | l => eachL f l := by
  cases r with
  | none => rfl
  | some l => match l with
    | [] => rfl
    | [x] => exact neL_def (f x)
    | x :: y :: t => rfl

theorem eachL_cons (f : α → Option (List β)) (x : α) (l : List α) : eachL f (x :: l) = match f x with
    | some (y :: ys) => match eachL f l with
      | none => none
      | some zs => some (y :: (ys ++ zs))
    | _ => none := rfl

theorem eachL_mem {f : α → Option (List β)} : ∀ {l : List α} {out : List β}, eachL f l = some out → ∀ x, x ∈ l → ∃ ys, f x = some ys ∧ ys ≠ [] ∧ ∀ y, y ∈ ys → y ∈ out := by
  intro l
  induction l with
  | nil => intro out _ x hx; cases hx
  | cons a l ih =>
    intro out h x hx
    rw [eachL_cons] at h
    split at h
    · rename_i y ys hys
      split at h
      · cases h
      · rename_i zs hzs
        injection h with h
        subst h
        rcases List.mem_cons.1 hx with rfl | hx
        · exact ⟨y :: ys, hys, by simp, fun z hz => by
            rcases List.mem_cons.1 hz with rfl | hz
            · exact List.mem_cons_self
            · exact List.mem_cons_of_mem _ (List.mem_append.2 (.inl hz))⟩
        · obtain ⟨ws, h1, h2, h3⟩ := ih hzs x hx
          exact ⟨ws, h1, h2, fun z hz => List.mem_cons_of_mem _ (List.mem_append.2 (.inr (h3 z hz)))⟩
    · cases h

theorem bindL_mem {r : Option (List α)} {f : α → Option (List β)} {out : List β} (h : bindL r f = some out) : ∃ l, r = some l ∧ ∀ x, x ∈ l → ∃ ys, f x = some ys ∧ ys ≠ [] ∧ ∀ y, y ∈ ys → y ∈ out := by
  rw [bindL_def] at h
  split at h
  · cases h
  · rename_i l
    refine ⟨l, rfl, ?_⟩
    split at h
    · cases h
    · rename_i x
      split at h
      · rename_i y ys hys
        intro z hz
        rw [List.mem_singleton] at hz
        subst hz
        injection h with h
        subst h
        exact ⟨y :: ys, hys, by simp, fun _ hh => hh⟩
      · cases h
    · exact eachL_mem h

/-- Every outcome came of one. -/
theorem eachL_from {f : α → Option (List β)} : ∀ {l : List α} {out : List β}, eachL f l = some out → ∀ y, y ∈ out → ∃ x, x ∈ l ∧ ∃ ys, f x = some ys ∧ y ∈ ys := by
  intro l
  induction l with
  | nil => intro out h y hy; have h : some [] = some out := h; injection h with h; subst h; cases hy
  | cons a l ih =>
    intro out h z hz
    rw [eachL_cons] at h
    split at h
    · rename_i y ys hys
      split at h
      · cases h
      · rename_i zs hzs
        injection h with h
        subst h
        have hz : z ∈ (y :: ys) ++ zs := hz
        rcases List.mem_append.1 hz with hz | hz
        · exact ⟨a, List.mem_cons_self, _, hys, hz⟩
        · obtain ⟨x, h1, h2⟩ := ih hzs z hz
          exact ⟨x, List.mem_cons_of_mem _ h1, h2⟩
    · cases h

theorem bindL_from {r : Option (List α)} {f : α → Option (List β)} {out : List β} (h : bindL r f = some out) : ∀ y, y ∈ out → ∃ l x, r = some l ∧ x ∈ l ∧ ∃ ys, f x = some ys ∧ y ∈ ys := by
  intro z hz
  rw [bindL_def] at h
  split at h
  · cases h
  · rename_i l
    split at h
    · cases h
    · rename_i x
      split at h
      · rename_i y ys hys
        injection h with h
        subst h
        exact ⟨[x], x, rfl, List.mem_singleton.2 rfl, _, hys, hz⟩
      · cases h
    · obtain ⟨x, h1, h2⟩ := eachL_from h z hz
      exact ⟨l, x, rfl, h1, h2⟩

theorem bindL_ne {r : Option (List α)} {f : α → Option (List β)} {out : List β} (h : bindL r f = some out) {l : List α} (hr : r = some l) : ∃ x, x ∈ l := by
  subst hr
  rw [bindL_def] at h
  cases l with
  | nil => cases h
  | cons x l => exact ⟨x, List.mem_cons_self⟩

theorem eachL_ne {f : α → Option (List β)} {x : α} {l : List α} {out : List β} (h : eachL f (x :: l) = some out) : out ≠ [] := by
  rw [eachL_cons] at h
  split at h
  · split at h
    · cases h
    · injection h with h; subst h; simp
  · cases h
theorem bindL_single {r : Option (List α)} {f : α → Option (List β)} {y : β} (h : bindL r f = some [y]) : ∃ x, r = some [x] ∧ f x = some [y] := by
  rw [bindL_def] at h
  split at h
  · cases h
  · rename_i l
    split at h
    · cases h
    · rename_i x
      split at h
      · rename_i z zs hz
        exact ⟨x, rfl, by rw [hz]; exact h⟩
      · cases h
    · rename_i h1 h2
      exfalso
      cases l with
      | nil => exact h1 rfl
      | cons a l =>
        cases l with
        | nil => exact h2 a rfl
        | cons b l =>
          rw [eachL_cons] at h
          split at h
          · split at h
            · cases h
            · rename_i z zs hz ws hws
              injection h with h
              injection h with _ h
              have := eachL_ne hws
              exact this (List.append_eq_nil_iff.1 h).2
          · cases h

/-- One outcome is handed on. -/
theorem bindL_one {r : Option (List α)} {f : α → Option (List β)} {out : List β} (h : bindL r f = some out) {g : α → β} (hf : ∀ x ys, f x = some ys → ys = [g x]) : ∃ l, r = some l ∧ ∀ x, x ∈ l → g x ∈ out := by
  obtain ⟨l, h1, h2⟩ := bindL_mem h
  refine ⟨l, h1, fun x hx => ?_⟩
  obtain ⟨ys, h3, -, h4⟩ := h2 x hx
  rw [hf x ys h3] at h4
  exact h4 _ (List.mem_singleton.2 rfl)
end
end Go.Proofs.Ytkceooieieogjaa.Ev
