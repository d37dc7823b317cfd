/- A second reckoner of the model's programs over worlds that are known in part: its tries, and how its values stand to the model's. -/
import Derived.Calls
import Derived.Orders
import Derived.Tactics
import Derived.Below
--D import DbgRef
set_option linter.unusedVariables false
set_option linter.unusedSimpArgs false
namespace Go.Proofs.Ytbopokalfddmcaa.Ev
open Go Go.RowKit

/-! Tries: numbers as ways. -/

inductive Tr (α : Type) where
  | nil
  | node (v : Option α) (l r : Tr α)

section
variable {α : Type}

def Tr.val : Tr α → Option α
  | .nil => none
  | .node v _ _ => v
def Tr.left : Tr α → Tr α
  | .nil => .nil
  | .node _ l _ => l
def Tr.right : Tr α → Tr α
  | .nil => .nil
  | .node _ _ r => r

--D def Tr.getI : Tr α → Nat → Option α
--D   | .nil, _ => none
--D   | .node v l r, k => if k = 0 then v else if (k-1) % 2 = 0 then l.getI ((k-1)/2) else r.getI ((k-1)/2)
--D @[implemented_by Tr.getI]
noncomputable def Tr.get (t : Tr α) : Nat → Option α :=
  Tr.rec (motive := fun _ => Nat → Option α) (fun _ => none)
    (fun v _ _ gl gr k => Nat.rec (motive := fun _ => Option α) v (fun p _ => Bool.rec (motive := fun _ => Option α) (gr (Nat.div p 2)) (gl (Nat.div p 2)) (Nat.beq (Nat.mod p 2) 0)) k) t

/-! A tree that holds one value. -/
--D def Tr.pathI : Nat → Nat → α → Tr α
--D   | 0, _, _ => .nil
--D   | n+1, k, v => if k = 0 then .node (some v) .nil .nil else if (k-1) % 2 = 0 then .node none (Tr.pathI n ((k-1)/2) v) .nil else .node none .nil (Tr.pathI n ((k-1)/2) v)
--D @[implemented_by Tr.pathI]
noncomputable def Tr.path (n : Nat) : Nat → α → Tr α :=
  Nat.rec (motive := fun _ => Nat → α → Tr α) (fun _ _ => .nil)
    (fun _ ih k v => Nat.rec (motive := fun _ => Tr α) (.node (some v) .nil .nil)
      (fun p _ => Bool.rec (motive := fun _ => Tr α) (.node none .nil (ih (Nat.div p 2) v)) (.node none (ih (Nat.div p 2) v) .nil) (Nat.beq (Nat.mod p 2) 0)) k) n

--D def Tr.setI : Tr α → Nat → α → Tr α
--D   | .nil, k, v => Tr.pathI (k+1) k v
--D   | .node x l r, k, v => if k = 0 then .node (some v) l r else if (k-1) % 2 = 0 then .node x (l.setI ((k-1)/2) v) r else .node x l (r.setI ((k-1)/2) v)
--D @[implemented_by Tr.setI]
noncomputable def Tr.set (t : Tr α) : Nat → α → Tr α :=
  Tr.rec (motive := fun _ => Nat → α → Tr α) (fun k v => Tr.path (Nat.succ k) k v)
    (fun x l r hl hr k v => Nat.rec (motive := fun _ => Tr α) (.node (some v) l r)
      (fun p _ => Bool.rec (motive := fun _ => Tr α) (.node x l (hr (Nat.div p 2) v)) (.node x (hl (Nat.div p 2) v) r) (Nat.beq (Nat.mod p 2) 0)) k) t

theorem Tr.get_nil (k : Nat) : (Tr.nil : Tr α).get k = none := rfl
theorem Tr.get_zero (t : Tr α) : t.get 0 = t.val := by cases t <;> rfl
theorem bool_rec_beq {β : Type} (p : Nat) (x y : β) : Bool.rec (motive := fun _ => β) x y (Nat.beq (Nat.mod p 2) 0) = if p % 2 = 0 then y else x := by
  have h : Nat.beq (Nat.mod p 2) 0 = decide (p % 2 = 0) := by
    show Nat.beq (p % 2) 0 = _
    rcases Nat.mod_two_eq_zero_or_one p with h | h <;> rw [h] <;> rfl
  rw [h]
  by_cases hp : p % 2 = 0 <;> simp [hp]
theorem Tr.get_succ (t : Tr α) (p : Nat) : t.get (p + 1) = if p % 2 = 0 then t.left.get (p / 2) else t.right.get (p / 2) := by
  cases t with
  | nil => simp [Tr.left, Tr.right, Tr.get_nil]
  | node v l r =>
    show Bool.rec (motive := fun _ => Option α) (r.get (p / 2)) (l.get (p / 2)) (Nat.beq (Nat.mod p 2) 0) = _
    rw [bool_rec_beq]
    rfl

theorem Tr.path_zero (n : Nat) (v : α) : Tr.path (n + 1) 0 v = .node (some v) .nil .nil := rfl
theorem Tr.path_succ (n p : Nat) (v : α) : Tr.path (n + 1) (p + 1) v = if p % 2 = 0 then .node none (Tr.path n (p / 2) v) .nil else .node none .nil (Tr.path n (p / 2) v) := by
  show Bool.rec (motive := fun _ => Tr α) _ _ (Nat.beq (Nat.mod p 2) 0) = _
  rw [bool_rec_beq]
  rfl
theorem Tr.get_path (v : α) : ∀ (n k j : Nat), k < n → (Tr.path n k v).get j = if j = k then some v else none := by
  intro n
  induction n with
  | zero => intro k j h; omega
  | succ n ih =>
    intro k j h
    cases k with
    | zero =>
      rw [Tr.path_zero]
      cases j with
      | zero => simp [Tr.get_zero, Tr.val]
      | succ p => simp [Tr.get_succ, Tr.left, Tr.right, Tr.get_nil]
    | succ q =>
      rw [Tr.path_succ]
      cases j with
      | zero => split <;> simp [Tr.get_zero, Tr.val]
      | succ p =>
        have hq : q / 2 < n := by omega
        split <;> rename_i h2 <;> simp only [Tr.get_succ, Tr.left, Tr.right] <;> split <;> rename_i h3
        · rw [ih _ _ hq]
          by_cases hh : p = q
          · simp [hh]
          · rw [if_neg (by omega), if_neg (by omega)]
        · rw [if_neg (by omega), Tr.get_nil]
        · rw [if_neg (by omega), Tr.get_nil]
        · rw [ih _ _ hq]
          by_cases hh : p = q
          · simp [hh]
          · rw [if_neg (by omega), if_neg (by omega)]

theorem Tr.set_nil (k : Nat) (v : α) : (Tr.nil : Tr α).set k v = Tr.path (k + 1) k v := rfl
theorem Tr.set_zero (x : Option α) (l r : Tr α) (v : α) : (Tr.node x l r).set 0 v = .node (some v) l r := rfl
theorem Tr.set_succ (x : Option α) (l r : Tr α) (p : Nat) (v : α) : (Tr.node x l r).set (p + 1) v = if p % 2 = 0 then .node x (l.set (p / 2) v) r else .node x l (r.set (p / 2) v) := by
  show Bool.rec (motive := fun _ => Tr α) _ _ (Nat.beq (Nat.mod p 2) 0) = _
  rw [bool_rec_beq]
  rfl

theorem Tr.get_set (t : Tr α) : ∀ (k j : Nat) (v : α), (t.set k v).get j = if j = k then some v else t.get j := by
  induction t with
  | nil => intro k j v; rw [Tr.set_nil, Tr.get_path _ _ _ _ (Nat.lt_succ_self k), Tr.get_nil]
  | node x l r hl hr =>
    intro k j v
    cases k with
    | zero =>
      rw [Tr.set_zero]
      cases j with
      | zero => simp [Tr.get_zero, Tr.val]
      | succ p => simp [Tr.get_succ, Tr.left, Tr.right]
    | succ q =>
      rw [Tr.set_succ]
      cases j with
      | zero => split <;> simp [Tr.get_zero, Tr.val]
      | succ p =>
        split <;> rename_i h2 <;> simp only [Tr.get_succ, Tr.left, Tr.right] <;> split <;> rename_i h3
        · rw [hl]
          by_cases hh : p = q
          · simp [hh]
          · rw [if_neg (by omega), if_neg (by omega)]
        · rw [if_neg (by omega)]
        · rw [if_neg (by omega)]
        · rw [hr]
          by_cases hh : p = q
          · simp [hh]
          · rw [if_neg (by omega), if_neg (by omega)]

/-- A list from place 'i' on. -/
--D def Tr.putListI : List α → Tr α → Nat → Tr α
--D   | [], t, _ => t
--D   | x :: l, t, i => Tr.putListI l (Tr.setI t i x) (i+1)
--D @[implemented_by Tr.putListI]
noncomputable def Tr.putList (l : List α) : Tr α → Nat → Tr α :=
  List.rec (motive := fun _ => Tr α → Nat → Tr α) (fun t _ => t) (fun x _ ih t i => ih (t.set i x) (Nat.succ i)) l

theorem Tr.putList_nil (t : Tr α) (i : Nat) : Tr.putList [] t i = t := rfl
theorem Tr.putList_cons (x : α) (l : List α) (t : Tr α) (i : Nat) : Tr.putList (x :: l) t i = Tr.putList l (t.set i x) (i + 1) := rfl

theorem Tr.get_putList : ∀ (l : List α) (t : Tr α) (i j : Nat), (Tr.putList l t i).get j = if i ≤ j ∧ j < i + l.length then l[j - i]? else t.get j := by
  intro l
  induction l with
  | nil => intro t i j; rw [Tr.putList_nil, if_neg (by simp only [List.length_nil]; omega)]
  | cons x l ih =>
    intro t i j
    rw [Tr.putList_cons, ih, Tr.get_set]
    by_cases h1 : j = i
    · subst h1
      rw [if_neg (by omega), if_pos rfl, if_pos (by simp), Nat.sub_self]
      rfl
    · rw [if_neg h1]
      by_cases h2 : i ≤ j ∧ j < i + (x :: l).length
      · rw [if_pos h2, if_pos (by simp only [List.length_cons] at h2; omega)]
        obtain ⟨d, hd⟩ : ∃ d, j - i = d + 1 := ⟨j - i - 1, by omega⟩
        rw [hd, show j - (i + 1) = d from by omega]
        rfl
      · rw [if_neg h2, if_neg (by simp only [List.length_cons] at h2; omega)]

/-- 'n' values from place 'i' on, all there. -/
--D def Tr.listI : Nat → Tr α → Nat → Option (List α)
--D   | 0, _, _ => some []
--D   | n+1, t, i => match t.getI i, Tr.listI n t (i+1) with
--D     | some x, some l => some (x :: l)
--D     | _, _ => none
--D @[implemented_by Tr.listI]
noncomputable def Tr.list (n : Nat) : Tr α → Nat → Option (List α) :=
  Nat.rec (motive := fun _ => Tr α → Nat → Option (List α)) (fun _ _ => some [])
    (fun _ ih t i => Option.rec (motive := fun _ => Option (List α)) none
      (fun x => Option.rec (motive := fun _ => Option (List α)) none (fun l => some (x :: l)) (ih t (Nat.succ i))) (t.get i)) n

theorem Tr.list_zero (t : Tr α) (i : Nat) : Tr.list 0 t i = some [] := rfl
theorem Tr.list_succ (n : Nat) (t : Tr α) (i : Nat) : Tr.list (n + 1) t i = match t.get i with
    | none => none
    | some x => match Tr.list n t (i + 1) with
      | none => none
      | some l => some (x :: l) := by
  show Option.rec (motive := fun _ => Option (List α)) none _ (t.get i) = _
  cases h : t.get i with
  | none => rfl
  | some x =>
    show Option.rec (motive := fun _ => Option (List α)) none _ (Tr.list n t (i + 1)) = _
    cases h2 : Tr.list n t (i + 1) <;> rfl

theorem Tr.list_spec : ∀ (n : Nat) (t : Tr α) (i : Nat) (l : List α), Tr.list n t i = some l → l.length = n ∧ ∀ j, j < n → l[j]? = t.get (i + j) := by
  intro n
  induction n with
  | zero => intro t i l h; simp [Tr.list_zero] at h; subst h; simp
  | succ n ih =>
    intro t i l h
    rw [Tr.list_succ] at h
    cases hx : t.get i with
    | none => simp [hx] at h
    | some x =>
      cases hl : Tr.list n t (i + 1) with
      | none => simp [hx, hl] at h
      | some l2 =>
        simp [hx, hl] at h
        subst h
        obtain ⟨h1, h2⟩ := ih _ _ _ hl
        refine ⟨by simp [h1], fun j hj => ?_⟩
        cases j with
        | zero => simp [hx]
        | succ j => simp only [List.getElem?_cons_succ]; rw [h2 j (by omega)]; congr 1; omega
end

/-! Where the blocks of the reckoner lie in the model's world. -/

/-- In the model's block 'c' from place 'o' on; where there may be more behind: the block's places, and the places of an element; may it be looked at? -/
structure Ent where
  c : Nat
  o : Nat
  op : Option (Nat × Nat)
  live : Bool

/-- Where the blocks lie; what the values are that are not known; what the functions tell that are not known. -/
structure Emb where
  f : Nat → Option Ent
  s : Nat → Value
  u : Nat → List Value → Option Value

instance : CoeFun Emb (fun _ => Nat → Option Ent) := ⟨Emb.f⟩

structure Emb.le (m m' : Emb) : Prop where
  at_ : ∀ b e, m b = some e → ∃ e', m' b = some e' ∧ e'.c = e.c ∧ e'.o = e.o ∧ e'.op = e.op ∧ (e'.live = true → e.live = true)
  s : m'.s = m.s
  u : m'.u = m.u

instance (m m' : Emb) : CoeFun (m.le m') (fun _ => ∀ b e, m b = some e → ∃ e', m' b = some e' ∧ e'.c = e.c ∧ e'.o = e.o ∧ e'.op = e.op ∧ (e'.live = true → e.live = true)) := ⟨Emb.le.at_⟩

theorem Emb.le_refl (m : Emb) : m.le m := ⟨fun _ e h => ⟨e, h, rfl, rfl, rfl, id⟩, rfl, rfl⟩
theorem Emb.le_trans {a b c : Emb} (h : a.le b) (k : b.le c) : a.le c := ⟨fun x e he => by
  obtain ⟨e1, h1, h2, h3, h4, h5⟩ := h x e he
  obtain ⟨e2, k1, k2, k3, k4, k5⟩ := k x e1 h1
  exact ⟨e2, k1, k2.trans h2, k3.trans h3, k4.trans h4, fun hl => h5 (k5 hl)⟩, k.s.trans h.s, k.u.trans h.u⟩

/-- An address, and the model's. -/
def RA (m : Emb) (a a' : Addr) : Prop := a.spot = none ∧ ∃ e, m a.block = some e ∧ a' = ⟨e.c, e.o + a.off, none⟩

/-- A slice's address, length and capacity, and the model's address and capacity. -/
def RS (m : Emb) (a : Addr) (n c : Nat) (a' : Addr) (c' : Nat) : Prop :=
  a.spot = none ∧ ∃ e, m a.block = some e ∧ ((e.op = none ∧ a' = ⟨e.c, e.o + a.off, none⟩ ∧ c' = c) ∨
    (∃ tot z, e.op = some (tot, z) ∧ a'.block = e.c ∧ a'.spot = none ∧ (n = 0 ∨ a'.off = e.o + a.off) ∧ c ≤ c' ∧ a'.off + c' * z ≤ tot))

theorem RA.mono {m m' : Emb} (h : m.le m') {a a' : Addr} (r : RA m a a') : RA m' a a' := by
  obtain ⟨h1, e, he, ha⟩ := r
  obtain ⟨e', he', h2, h3, -, -⟩ := h _ _ he
  exact ⟨h1, e', he', by rw [h2, h3]; exact ha⟩

theorem RS.mono {m m' : Emb} (h : m.le m') {a a' : Addr} {n c c' : Nat} (r : RS m a n c a' c') : RS m' a n c a' c' := by
  obtain ⟨h1, e, he, hr⟩ := r
  obtain ⟨e', he', h2, h3, h4, -⟩ := h _ _ he
  exact ⟨h1, e', he', by rw [h2, h3, h4]; exact hr⟩

/-- Values that hold no address. -/
def flat : Value → Bool
  | .bool _ | .int _ _ | .float _ _ | .complex _ _ _ | .string _ | .nilFunc | .nilIface | .pointer none | .slice none _ _ | .map none | .chan none => true
  | _ => false

/-- A function of the program, or a method: no round's yield. -/
def noYield : Fn → Bool
  | .yield _ => false
  | .methodOf _ _ => false
  | _ => true

/-! Values that are not known. -/

/-- A value that is not known: its kind, by what it came (0: it is given), of what. -/
def sy (ty k : Nat) (xs : List Value) : Value := .func (.methodOf k "") ⟨xs⟩ ⟨[.int .u64 (.ofNat ty)]⟩
/-- The given one of a number. -/
def unk (ty i : Nat) : Value := sy ty 0 [.int .u64 (.ofNat i)]
def isSym : Value → Bool
  | .func (.methodOf _ _) _ _ => true
  | _ => false
def kindCode : IntKind → Nat
  | .i8 => 3
  | .i16 => 4
  | .i32 => 5
  | .i64 => 6
  | .u8 => 7
  | .u16 => 8
  | .u32 => 9
  | .u64 => 10
/-- Values of a kind: 0 any of one cell, 1 truths, 2 texts, and the numbers' kinds. -/
def tyOk (ty : Nat) (v : Value) : Bool :=
  match v with
  | .agg _ | .tuple _ => false
  | .bool _ => Nat.beq ty 0 || Nat.beq ty 1
  | .string b => Nat.beq ty 0 || (Nat.beq ty 2 && decide (b.size < 4611686018427387904))
  | .int k n => Nat.beq ty 0 || (Nat.beq ty (kindCode k) && decide (k.min ≤ n) && decide (n ≤ k.max))
  | _ => Nat.beq ty 0
def symTy (e : Value) : Nat :=
  match e with
  | .func _ _ ys => match ys.toList with
    | [.int _ (.ofNat ty)] => ty
    | _ => 100
  | _ => 100

/-- One step of what an expression comes to. -/
def den1 (s : Nat → Value) (u : Nat → List Value → Option Value) (go : List Value → Option (List Value)) : Value → Option Value
  | .func (.methodOf k _) xs _ => match k with
    | 0 => match xs.toList with
      | [.int _ (.ofNat i)] => some (s i)
      | _ => none
    | k + 1 => match go xs.toList with
      | some vs => u k vs
      | none => none
  | v => match flat v with
    | true => some v
    | false => none
def mapO (f : Value → Option Value) : List Value → Option (List Value)
  | [] => some []
  | x :: l => match f x with
    | none => none
    | some y => match mapO f l with
      | none => none
      | some ys => some (y :: ys)
def den (s : Nat → Value) (u : Nat → List Value → Option Value) : Nat → Value → Option Value
  | 0 => fun _ => none
  | d + 1 => den1 s u (mapO (den s u d))

theorem mapO_mono {f g : Value → Option Value} (h : ∀ x y, f x = some y → g x = some y) : ∀ (l r : List Value), mapO f l = some r → mapO g l = some r
  | [], r, hr => hr
  | x :: l, r, hr => by
    unfold mapO at hr ⊢
    split at hr
    · cases hr
    · rename_i y hy
      split at hr
      · cases hr
      · rename_i ys hys
        rw [h _ _ hy]
        simp only
        rw [mapO_mono h _ _ hys]
        exact hr

theorem den1_mono {s : Nat → Value} {u : Nat → List Value → Option Value} {f g : List Value → Option (List Value)} (h : ∀ l r, f l = some r → g l = some r) {e v : Value} (hd : den1 s u f e = some v) : den1 s u g e = some v := by
  unfold den1 at hd ⊢
  split
  · rename_i k nm xs ys
    simp only at hd
    split at hd
    · exact hd
    · split at hd
      · rename_i vs hvs
        simp only [h _ _ hvs]
        exact hd
      · cases hd
  · rename_i hne
    split at hd
    · rename_i k nm xs ys
      exact absurd rfl (hne k nm xs ys)
    · exact hd

theorem den_succ {s : Nat → Value} {u : Nat → List Value → Option Value} : ∀ (d : Nat) (e v : Value), den s u d e = some v → den s u (d + 1) e = some v := by
  intro d
  induction d with
  | zero => intro e v h; cases h
  | succ d ih =>
    intro e v h
    exact den1_mono (fun l r => mapO_mono ih l r) h

theorem den_mono {s : Nat → Value} {u : Nat → List Value → Option Value} {d d' : Nat} (h : d ≤ d') {e v : Value} (hd : den s u d e = some v) : den s u d' e = some v := by
  induction h with
  | refl => exact hd
  | step _ ih => exact den_succ _ _ _ ih

theorem den_flat {s : Nat → Value} {u : Nat → List Value → Option Value} {v : Value} (h : flat v = true) (d : Nat) : den s u (d + 1) v = some v := by
  show den1 s u _ v = some v
  unfold den1
  split
  · simp [flat] at h
  · rw [h]

inductive RV (m : Emb) : Value → Value → Prop
  | flat (v : Value) (h : flat v = true) : RV m v v
  | ptr (a a' : Addr) (h : RA m a a') : RV m (.pointer (some a)) (.pointer (some a'))
  | slice (a a' : Addr) (n c c' : Nat) (h : RS m a n c a' c') : RV m (.slice (some a) n c) (.slice (some a') n c')
  | map (b c : Nat) (h : ∃ e, m b = some e ∧ e.c = c) : RV m (.map (some b)) (.map (some c))
  | func (fn : Fn) (hfn : noYield fn = true) (xs xs' ys ys' : List Value) (hx : xs.length = xs'.length) (hy : ys.length = ys'.length)
      (h1 : ∀ i, i < xs.length → RV m (xs.getD i undef) (xs'.getD i undef)) (h2 : ∀ i, i < ys.length → RV m (ys.getD i undef) (ys'.getD i undef)) :
      RV m (.func fn ⟨xs⟩ ⟨ys⟩) (.func fn ⟨xs'⟩ ⟨ys'⟩)
  | yield (b c : Nat) (h : ∃ e, m b = some e ∧ e.c = c) : RV m (.func (.yield b) ⟨[]⟩ ⟨[]⟩) (.func (.yield c) ⟨[]⟩ ⟨[]⟩)
  | seq (b : Nat) (n : Value) (k c' : Nat) (a' : Addr) (hn : RV m n (.int .i64 (.ofNat k))) (hc : k ≤ c') (h : ∃ e, m b = some e ∧ a' = ⟨e.c, e.o, none⟩) : RV m (.func (.yield b) ⟨[n]⟩ ⟨[]⟩) (.slice (some a') k c')
  | seqp (b : Nat) (i : Value) (kd : IntKind) (j z o : Nat) (a' : Addr) (hi : RV m i (.int kd (.ofNat j))) (h : ∃ e, m b = some e ∧ a' = ⟨e.c, e.o + (j * z + o), none⟩) :
      RV m (.func (.yield b) ⟨[i, .int .u64 (.ofNat z), .int .u64 (.ofNat o)]⟩ ⟨[]⟩) (.pointer (some a'))
  | glob (g o : Nat) (h : o < 1048576) : RV m (.chan (some (g * 1048576 + o))) (.pointer (some ⟨g, o, none⟩))
  | iface (t : TypeId) (v v' : Value) (h : RV m v v') : RV m (.iface t v) (.iface t v')
  | agg (xs xs' : List Value) (hx : xs.length = xs'.length) (h : ∀ i, i < xs.length → RV m (xs.getD i undef) (xs'.getD i undef)) : RV m (.agg ⟨xs⟩) (.agg ⟨xs'⟩)
  | tuple (xs xs' : List Value) (hx : xs.length = xs'.length) (h : ∀ i, i < xs.length → RV m (xs.getD i undef) (xs'.getD i undef)) : RV m (.tuple ⟨xs⟩) (.tuple ⟨xs'⟩)
  | sym (k : Nat) (nm : String) (xs ys : Array Value) (v : Value) (d : Nat) (h : den m.s m.u d (.func (.methodOf k nm) xs ys) = some v) (ht : tyOk (symTy (.func (.methodOf k nm) xs ys)) v = true) : RV m (.func (.methodOf k nm) xs ys) v

def RVs (m : Emb) (xs xs' : List Value) : Prop := xs.length = xs'.length ∧ ∀ i, i < xs.length → RV m (xs.getD i undef) (xs'.getD i undef)

theorem RV.mono {m m' : Emb} (h : m.le m') {v v' : Value} (r : RV m v v') : RV m' v v' := by
  induction r with
  | flat v hf => exact .flat v hf
  | ptr a a' hr => exact .ptr a a' (hr.mono h)
  | slice a a' n c c' hr => exact .slice a a' n c c' (hr.mono h)
  | map b c hb =>
    obtain ⟨e, he, hc⟩ := hb
    obtain ⟨e', he', h2, -⟩ := h _ _ he
    exact .map b c ⟨e', he', h2.trans hc⟩
  | func fn hfn xs xs' ys ys' hx hy _ _ i1 i2 => exact .func fn hfn xs xs' ys ys' hx hy i1 i2
  | yield b c hb =>
    obtain ⟨e, he, hc⟩ := hb
    obtain ⟨e', he', h2, -⟩ := h _ _ he
    exact .yield b c ⟨e', he', h2.trans hc⟩
  | seq b n k c' a' _ hc hb i =>
    obtain ⟨e, he, ha⟩ := hb
    obtain ⟨e', he', h2, h3, -⟩ := h _ _ he
    exact .seq b n k c' a' i hc ⟨e', he', by rw [h2, h3]; exact ha⟩
  | seqp b x kd j z o a' _ hb i =>
    obtain ⟨e, he, ha⟩ := hb
    obtain ⟨e', he', h2, h3, -⟩ := h _ _ he
    exact .seqp b x kd j z o a' i ⟨e', he', by rw [h2, h3]; exact ha⟩
  | glob g o h => exact .glob g o h
  | iface t v v' _ i => exact .iface t v v' i
  | agg xs xs' hx _ i => exact .agg xs xs' hx i
  | tuple xs xs' hx _ i => exact .tuple xs xs' hx i
  | sym k nm xs ys v d hd ht => exact .sym k nm xs ys v d (by rw [h.s, h.u]; exact hd) ht

theorem RVs.mono {m m' : Emb} (h : m.le m') {xs xs' : List Value} (r : RVs m xs xs') : RVs m' xs xs' := ⟨r.1, fun i hi => (r.2 i hi).mono h⟩
theorem RVs.nil (m : Emb) : RVs m [] [] := ⟨rfl, fun i hi => by simp at hi⟩
theorem RVs.cons {m : Emb} {x x' : Value} {xs xs' : List Value} (h : RV m x x') (r : RVs m xs xs') : RVs m (x :: xs) (x' :: xs') :=
  ⟨by simp [r.1], fun i hi => by
    cases i with
    | zero => simpa using h
    | succ i => simpa using r.2 i (by simpa using hi)⟩
theorem RVs.head {m : Emb} {x : Value} {xs ys : List Value} (r : RVs m (x :: xs) ys) : ∃ x' xs', ys = x' :: xs' ∧ RV m x x' ∧ RVs m xs xs' := by
  obtain ⟨h1, h2⟩ := r
  cases ys with
  | nil => simp at h1
  | cons y ys =>
    refine ⟨y, ys, rfl, by simpa using h2 0 (by simp), by simpa using h1, fun i hi => ?_⟩
    simpa using h2 (i + 1) (by simpa using hi)
theorem RVs.nil_left {m : Emb} {ys : List Value} (r : RVs m [] ys) : ys = [] := by
  cases ys with
  | nil => rfl
  | cons y ys => exact absurd r.1 (by simp)
theorem RVs.append {m : Emb} {xs xs' ys ys' : List Value} (h : RVs m xs xs') (k : RVs m ys ys') : RVs m (xs ++ ys) (xs' ++ ys') := by
  induction xs generalizing xs' with
  | nil => obtain rfl := h.nil_left; exact k
  | cons x xs ih =>
    obtain ⟨x', t, rfl, h1, h2⟩ := h.head
    exact .cons h1 (ih h2)
theorem RVs.drop {m : Emb} : ∀ (n : Nat) {xs xs' : List Value}, RVs m xs xs' → RVs m (xs.drop n) (xs'.drop n)
  | 0, _, _, h => by simpa using h
  | n + 1, [], ys, h => by obtain rfl := h.nil_left; simpa using h
  | n + 1, x :: xs, ys, h => by
    obtain ⟨x', t, rfl, h1, h2⟩ := h.head
    simpa using RVs.drop n h2
theorem RVs.take {m : Emb} : ∀ (n : Nat) {xs xs' : List Value}, RVs m xs xs' → RVs m (xs.take n) (xs'.take n)
  | 0, _, _, h => by simpa using RVs.nil m
  | n + 1, [], ys, h => by obtain rfl := h.nil_left; simpa using h
  | n + 1, x :: xs, ys, h => by
    obtain ⟨x', t, rfl, h1, h2⟩ := h.head
    simpa using RVs.cons h1 (RVs.take n h2)
theorem RVs.at_ {m : Emb} {xs xs' : List Value} (h : RVs m xs xs') {i : Nat} {v : Value} (hv : xs[i]? = some v) : ∃ v', xs'[i]? = some v' ∧ RV m v v' := by
  obtain ⟨hlt, rfl⟩ := List.getElem?_eq_some_iff.1 hv
  have hlt' : i < xs'.length := by rw [← h.1]; exact hlt
  refine ⟨xs'[i], List.getElem?_eq_getElem hlt', ?_⟩
  have := h.2 i hlt
  simpa [List.getD_eq_getElem?_getD, List.getElem?_eq_getElem hlt, List.getElem?_eq_getElem hlt'] using this
theorem RVs.of_at {m : Emb} {xs xs' : List Value} (hl : xs.length = xs'.length) (h : ∀ (i : Nat) (v v' : Value), xs[i]? = some v → xs'[i]? = some v' → RV m v v') : RVs m xs xs' :=
  ⟨hl, fun i hi => by
    have hi' : i < xs'.length := by omega
    have := h i _ _ (List.getElem?_eq_getElem hi) (List.getElem?_eq_getElem hi')
    simpa [List.getD_eq_getElem?_getD, List.getElem?_eq_getElem hi, List.getElem?_eq_getElem hi'] using this⟩

/-! What the relation says of each form. -/
theorem RV.agg_iff {m : Emb} {xs : List Value} {v' : Value} (h : RV m (.agg ⟨xs⟩) v') : ∃ xs', v' = .agg ⟨xs'⟩ ∧ RVs m xs xs' := by
  cases h with
  | flat _ h => simp [Ev.flat] at h
  | agg _ xs' h1 h2 => exact ⟨xs', rfl, h1, h2⟩
theorem RV.tuple_iff {m : Emb} {xs : List Value} {v' : Value} (h : RV m (.tuple ⟨xs⟩) v') : ∃ xs', v' = .tuple ⟨xs'⟩ ∧ RVs m xs xs' := by
  cases h with
  | flat _ h => simp [Ev.flat] at h
  | tuple _ xs' h1 h2 => exact ⟨xs', rfl, h1, h2⟩
theorem RV.iface_iff {m : Emb} {t : TypeId} {v v' : Value} (h : RV m (.iface t v) v') : ∃ u, v' = .iface t u ∧ RV m v u := by
  cases h with
  | flat _ h => simp [Ev.flat] at h
  | iface _ _ u h => exact ⟨u, rfl, h⟩
theorem RV.func_iff {m : Emb} {fn : Fn} (hn : noYield fn = true) {xs ys : List Value} {v' : Value} (h : RV m (.func fn ⟨xs⟩ ⟨ys⟩) v') : ∃ xs' ys', v' = .func fn ⟨xs'⟩ ⟨ys'⟩ ∧ RVs m xs xs' ∧ RVs m ys ys' := by
  cases h with
  | flat _ h => simp [Ev.flat] at h
  | func _ _ _ xs' _ ys' h1 h2 h3 h4 => exact ⟨xs', ys', rfl, ⟨h1, h3⟩, ⟨h2, h4⟩⟩
  | yield _ _ _ => simp [noYield] at hn
  | seq _ _ _ _ _ _ _ _ => simp [noYield] at hn
  | seqp _ _ _ _ _ _ _ _ _ => simp [noYield] at hn
  | sym _ _ _ _ _ _ _ _ => simp [noYield] at hn
def isMo : Fn → Bool
  | .methodOf _ _ => true
  | _ => false
/-- Not a function: a symbol, or a place of a row. -/
def oddF : Fn → Bool
  | .methodOf _ _ => true
  | .yield _ => true
  | _ => false
theorem RV.func_any {m : Emb} {fn : Fn} (hn : oddF fn = false) {xs ys : Array Value} {v' : Value} (h : RV m (.func fn xs ys) v') : ∃ fn' xs' ys', v' = .func fn' xs' ys' := by
  cases h with
  | flat _ h => simp [Ev.flat] at h
  | func _ _ _ xs' _ ys' h1 h2 h3 h4 => exact ⟨_, _, _, rfl⟩
  | yield _ _ _ => exact ⟨_, _, _, rfl⟩
  | seq _ _ _ _ _ _ _ _ => simp [oddF] at hn
  | seqp _ _ _ _ _ _ _ _ _ => simp [oddF] at hn
  | sym _ _ _ _ _ _ _ _ => simp [oddF] at hn
theorem RV.yield_iff {m : Emb} {b : Nat} {v' : Value} (h : RV m (.func (.yield b) ⟨[]⟩ ⟨[]⟩) v') : ∃ c, v' = .func (.yield c) ⟨[]⟩ ⟨[]⟩ ∧ ∃ e, m b = some e ∧ e.c = c := by
  cases h with
  | flat _ h => simp [Ev.flat] at h
  | func _ hn _ _ _ _ _ _ _ _ => simp [noYield] at hn
  | yield _ c h => exact ⟨c, rfl, h⟩
theorem RV.seqp_iff {m : Emb} {b : Nat} {i z o : Value} {v' : Value} (h : RV m (.func (.yield b) ⟨[i, z, o]⟩ ⟨[]⟩) v') : ∃ a', v' = .pointer (some a') := by
  cases h with
  | flat _ h => simp [Ev.flat] at h
  | func _ hn _ _ _ _ _ _ _ _ => simp [noYield] at hn
  | seqp _ _ _ _ _ _ a' _ _ => exact ⟨a', rfl⟩
theorem RV.ptr_iff {m : Emb} {a : Addr} {v' : Value} (h : RV m (.pointer (some a)) v') : ∃ a', v' = .pointer (some a') ∧ RA m a a' := by
  cases h with
  | flat _ h => simp [Ev.flat] at h
  | ptr _ a' h => exact ⟨a', rfl, h⟩
theorem RV.slice_iff {m : Emb} {a : Addr} {n c : Nat} {v' : Value} (h : RV m (.slice (some a) n c) v') : ∃ a' c', v' = .slice (some a') n c' ∧ RS m a n c a' c' := by
  cases h with
  | flat _ h => simp [Ev.flat] at h
  | slice _ a' _ _ c' h => exact ⟨a', c', rfl, h⟩
theorem RV.chan_iff {m : Emb} {k : Nat} {v' : Value} (h : RV m (.chan (some k)) v') : k % 1048576 < 1048576 ∧ v' = .pointer (some ⟨k / 1048576, k % 1048576, none⟩) := by
  refine ⟨Nat.mod_lt _ (by decide), ?_⟩
  cases h with
  | flat _ h => simp [Ev.flat] at h
  | glob g o h =>
    have h1 : (g * 1048576 + o) / 1048576 = g := by omega
    have h2 : (g * 1048576 + o) % 1048576 = o := by omega
    rw [h1, h2]
theorem RV.map_iff {m : Emb} {b : Nat} {v' : Value} (h : RV m (.map (some b)) v') : ∃ c, v' = .map (some c) ∧ ∃ e, m b = some e ∧ e.c = c := by
  cases h with
  | flat _ h => simp [Ev.flat] at h
  | map _ c h => exact ⟨c, rfl, h⟩
theorem RV.flat_iff {m : Emb} {v v' : Value} (h : RV m v v') (hf : Ev.flat v = true) : v' = v := by
  cases h <;> first | rfl | (simp [Ev.flat] at hf)

/-! What the relation says of what is not known. -/
theorem RV.sym_iff {m : Emb} {e v' : Value} (h : RV m e v') (hs : isSym e = true) : (∃ d, den m.s m.u d e = some v') ∧ tyOk (symTy e) v' = true := by
  cases h <;> first
    | (simp [isSym] at hs; done)
    | skip
  · rename_i hf
    cases e <;> simp [isSym, Ev.flat] at hs hf
  · rename_i fn hfn xs xs' ys ys' hx hy h1 h2
    cases fn <;> simp [isSym, noYield] at hs hfn
  · rename_i d hd ht
    exact ⟨⟨d, hd⟩, ht⟩

/-- What may stand in an expression. -/
def symFlat (e : Value) : Bool := isSym e || Ev.flat e
theorem RV.den_iff {m : Emb} {e v' : Value} (h : RV m e v') (hs : symFlat e = true) : ∃ d, den m.s m.u d e = some v' := by
  cases hi : isSym e with
  | true => exact (h.sym_iff hi).1
  | false =>
    have hf : Ev.flat e = true := by simpa [symFlat, hi] using hs
    rw [h.flat_iff hf]
    exact ⟨1, den_flat hf 0⟩

theorem RVs.den_iff {m : Emb} : ∀ {l l' : List Value}, RVs m l l' → l.all symFlat = true → ∃ d, mapO (den m.s m.u d) l = some l' := by
  intro l
  induction l with
  | nil => intro l' h _; rw [h.nil_left]; exact ⟨0, rfl⟩
  | cons x l ih =>
    intro l' h hs
    obtain ⟨x', t, rfl, h1, h2⟩ := h.head
    simp only [List.all_cons, Bool.and_eq_true] at hs
    obtain ⟨d1, k1⟩ := h1.den_iff hs.1
    obtain ⟨d2, k2⟩ := ih h2 hs.2
    refine ⟨max d1 d2, ?_⟩
    have e1 := den_mono (Nat.le_max_left d1 d2) k1
    have e2 := mapO_mono (fun x y => den_mono (Nat.le_max_right d1 d2)) _ _ k2
    simp only [mapO, e1, e2]

/-- What an unknown function tells of what is related. -/
theorem RV.app {m : Emb} {l l' : List Value} (h : RVs m l l') (hs : l.all symFlat = true) {k ty : Nat} {r : Value} (hu : m.u k l' = some r) (ht : tyOk ty r = true) : RV m (sy ty (k + 1) l) r := by
  obtain ⟨d, hd⟩ := h.den_iff hs
  refine .sym (k + 1) "" ⟨l⟩ ⟨[.int .u64 (.ofNat ty)]⟩ r (d + 1) ?_ ht
  show den1 _ _ _ _ = _
  simp only [den1, hd, hu]

theorem RV.given {m : Emb} {ty i : Nat} (ht : tyOk ty (m.s i) = true) : RV m (unk ty i) (m.s i) :=
  .sym 0 "" ⟨[.int .u64 (.ofNat i)]⟩ ⟨[.int .u64 (.ofNat ty)]⟩ (m.s i) 1 rfl ht
/-! When are two values one? -/
section
variable {α : Type}
def lEq (f : α → α → Bool) : List α → List α → Bool
  | [], [] => true
  | x :: xs, y :: ys => match f x y with
    | true => lEq f xs ys
    | false => false
  | _, _ => false
theorem lEq_ok {f : α → α → Bool} (h : ∀ a b, f a b = true → a = b) : ∀ (xs ys : List α), lEq f xs ys = true → xs = ys
  | [], [], _ => rfl
  | [], _ :: _, e => by simp [lEq] at e
  | _ :: _, [], e => by simp [lEq] at e
  | x :: xs, y :: ys, e => by
    unfold lEq at e
    split at e
    · rename_i h1
      rw [h _ _ h1, lEq_ok h xs ys e]
    · cases e
def oEq (f : α → α → Bool) : Option α → Option α → Bool
  | none, none => true
  | some x, some y => f x y
  | _, _ => false
theorem oEq_ok {f : α → α → Bool} (h : ∀ a b, f a b = true → a = b) : ∀ (x y : Option α), oEq f x y = true → x = y
  | none, none, _ => rfl
  | none, some _, e => by simp [oEq] at e
  | some _, none, e => by simp [oEq] at e
  | some x, some y, e => by rw [h x y e]
def trEq (f : α → α → Bool) : Tr α → Tr α → Bool
  | .nil, .nil => true
  | .node v l r, .node v' l' r' => match oEq f v v' with
    | true => match trEq f l l' with
      | true => trEq f r r'
      | false => false
    | false => false
  | _, _ => false
theorem trEq_ok {f : α → α → Bool} (h : ∀ a b, f a b = true → a = b) : ∀ (x y : Tr α), trEq f x y = true → x = y
  | .nil, .nil, _ => rfl
  | .nil, .node _ _ _, e => by simp [trEq] at e
  | .node _ _ _, .nil, e => by simp [trEq] at e
  | .node v l r, .node v' l' r', e => by
    unfold trEq at e
    split at e
    · rename_i h1
      split at e
      · rename_i h2
        rw [oEq_ok h _ _ h1, trEq_ok h l l' h2, trEq_ok h r r' e]
      · cases e
    · cases e
end

def intEq (a b : Int) : Bool :=
  match a, b with
  | .ofNat x, .ofNat y => Nat.beq x y
  | .negSucc x, .negSucc y => Nat.beq x y
  | _, _ => false
theorem intEq_ok : ∀ (a b : Int), intEq a b = true → a = b
  | .ofNat x, .ofNat y, h => by rw [Nat.eq_of_beq_eq_true h]
  | .negSucc x, .negSucc y, h => by rw [Nat.eq_of_beq_eq_true h]
  | .ofNat _, .negSucc _, h => by simp [intEq] at h
  | .negSucc _, .ofNat _, h => by simp [intEq] at h

def bytesEq (a b : ByteArray) : Bool := lEq (fun x y => Nat.beq x.toNat y.toNat) a.data.toList b.data.toList
theorem bytesEq_ok (a b : ByteArray) (h : bytesEq a b = true) : a = b := by
  have := lEq_ok (f := fun (x y : UInt8) => Nat.beq x.toNat y.toNat) (fun x y h => UInt8.toNat_inj.1 (Nat.eq_of_beq_eq_true h)) _ _ h
  obtain ⟨⟨a⟩⟩ := a
  obtain ⟨⟨b⟩⟩ := b
  simp only at this
  rw [this]

def addrEq (a b : Addr) : Bool :=
  match a, b with
  | ⟨x, i, none⟩, ⟨y, j, none⟩ => match Nat.beq x y with
    | true => Nat.beq i j
    | false => false
  | _, _ => false
theorem addrEq_ok : ∀ (a b : Addr), addrEq a b = true → a = b
  | ⟨x, i, none⟩, ⟨y, j, none⟩, h => by
    unfold addrEq at h
    simp only at h
    split at h
    · rename_i h1
      rw [Nat.eq_of_beq_eq_true h1, Nat.eq_of_beq_eq_true h]
    · cases h
  | ⟨_, _, some _⟩, _, h => by simp [addrEq] at h
  | ⟨_, _, none⟩, ⟨_, _, some _⟩, h => by simp [addrEq] at h

def fnEq : Fn → Fn → Bool
  | .func f, .func g => Nat.beq f g
  | .yield f, .yield g => Nat.beq f g
  | .methodOf t n, .methodOf t' n' => match decide (n = n') with
    | true => Nat.beq t t'
    | false => false
  | _, _ => false
theorem fnEq_ok : ∀ (a b : Fn), fnEq a b = true → a = b := by
  intro a b h
  cases a <;> cases b <;> first
    | (simp [fnEq] at h; done)
    | (rw [Nat.eq_of_beq_eq_true h])
    | (simp only [fnEq] at h; split at h <;> first | (cases h; done) | (rename_i hn; rw [Nat.eq_of_beq_eq_true h, of_decide_eq_true hn]))

def kindEq (a b : IntKind) : Bool := decide (a = b)

def vEq : Nat → Value → Value → Bool
  | 0, _, _ => false
  | _ + 1, .bool a, .bool b => a == b
  | _ + 1, .int k a, .int k' b => match kindEq k k' with
    | true => intEq a b
    | false => false
  | _ + 1, .string a, .string b => bytesEq a b
  | _ + 1, .pointer a, .pointer b => oEq addrEq a b
  | _ + 1, .slice a n c, .slice b n' c' => match oEq addrEq a b, Nat.beq n n' with
    | true, true => Nat.beq c c'
    | _, _ => false
  | _ + 1, .map a, .map b => oEq Nat.beq a b
  | _ + 1, .chan a, .chan b => oEq Nat.beq a b
  | d + 1, .func f xs ys, .func g xs' ys' => match fnEq f g, lEq (vEq d) xs.toList xs'.toList with
    | true, true => lEq (vEq d) ys.toList ys'.toList
    | _, _ => false
  | _ + 1, .nilFunc, .nilFunc => true
  | d + 1, .iface t v, .iface u v' => match Nat.beq t u with
    | true => vEq d v v'
    | false => false
  | _ + 1, .nilIface, .nilIface => true
  | d + 1, .agg xs, .agg ys => lEq (vEq d) xs.toList ys.toList
  | d + 1, .tuple xs, .tuple ys => lEq (vEq d) xs.toList ys.toList
  | _, _, _ => false

theorem arr_of_list {α : Type} {a b : Array α} (h : a.toList = b.toList) : a = b := Array.ext' h

theorem vEq_ok : ∀ (d : Nat) (a b : Value), vEq d a b = true → a = b := by
  intro d
  induction d with
  | zero => intro a b h; simp [vEq] at h
  | succ d ih =>
    intro a b h
    have hl := lEq_ok ih
    cases a <;> cases b <;> first
      | (simp [vEq] at h; done)
      | rfl
      | skip
    · simp only [vEq, beq_iff_eq] at h; rw [h]
    · simp only [vEq] at h
      split at h
      · rename_i h1
        rw [of_decide_eq_true h1, intEq_ok _ _ h]
      · cases h
    · rw [bytesEq_ok _ _ h]
    · rw [oEq_ok addrEq_ok _ _ h]
    · simp only [vEq] at h
      split at h
      · rename_i h1 h2
        rw [oEq_ok addrEq_ok _ _ h1, Nat.eq_of_beq_eq_true h2, Nat.eq_of_beq_eq_true h]
      · cases h
    · rw [oEq_ok (fun _ _ => Nat.eq_of_beq_eq_true) _ _ h]
    · rw [oEq_ok (fun _ _ => Nat.eq_of_beq_eq_true) _ _ h]
    · simp only [vEq] at h
      split at h
      · rename_i h1 h2
        rw [fnEq_ok _ _ h1, arr_of_list (hl _ _ h2), arr_of_list (hl _ _ h)]
      · cases h
    · simp only [vEq] at h
      split at h
      · rename_i h1
        rw [Nat.eq_of_beq_eq_true h1, ih _ _ h]
      · cases h
    · simp only [vEq] at h; rw [arr_of_list (hl _ _ h)]
    · simp only [vEq] at h; rw [arr_of_list (hl _ _ h)]

/-- A truth that is known, or that is taken for granted. -/
--D def lookSI (e : Value) (l : List (Value × Bool)) : Option Bool := match l.find? fun p => vEq 60 p.1 e with | some p => some p.2 | none => noteV e none
--D @[implemented_by lookSI]
noncomputable def lookS (e : Value) (l : List (Value × Bool)) : Option Bool :=
  List.rec (motive := fun _ => Option Bool) none (fun p _ ih => match vEq 60 p.1 e with
    | true => some p.2
    | false => ih) l

theorem lookS_mem {e : Value} {b : Bool} : ∀ {l : List (Value × Bool)}, lookS e l = some b → (e, b) ∈ l := by
  intro l
  induction l with
  | nil => intro h; cases h
  | cons p l ih =>
    obtain ⟨p1, p2⟩ := p
    intro h0
    have h : (match vEq 60 p1 e with | true => some p2 | false => lookS e l) = some b := h0
    clear h0
    split at h
    · rename_i hv
      injection h with h
      obtain rfl := vEq_ok 60 _ _ hv
      subst h
      exact List.mem_cons_self
    · exact List.mem_cons_of_mem _ (ih h)

end Go.Proofs.Ytbopokalfddmcaa.Ev
