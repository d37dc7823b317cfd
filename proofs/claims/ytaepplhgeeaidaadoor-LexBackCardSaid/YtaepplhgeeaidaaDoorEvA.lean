import Derived.Calls
import Derived.Orders
import Derived.Tactics
import Derived.Below
set_option linter.unusedVariables false
set_option linter.unusedSimpArgs false
namespace Go.Proofs.YtaepplhgeeaidaaDoor.Ev
open Go Go.RowKit
structure B16 (α : Type) where
  x0 : α
  x1 : α
  x2 : α
  x3 : α
  x4 : α
  x5 : α
  x6 : α
  x7 : α
  x8 : α
  x9 : α
  x10 : α
  x11 : α
  x12 : α
  x13 : α
  x14 : α
  x15 : α
structure Sel (α : Type) where
  go : B16 α → α
structure Ups (α : Type) where
  go : B16 α → (α → α) → B16 α
def selS (α : Type) : Nat → Sel α
  | 0 => ⟨fun b => b.x0⟩
  | 1 => ⟨fun b => b.x1⟩
  | 2 => ⟨fun b => b.x2⟩
  | 3 => ⟨fun b => b.x3⟩
  | 4 => ⟨fun b => b.x4⟩
  | 5 => ⟨fun b => b.x5⟩
  | 6 => ⟨fun b => b.x6⟩
  | 7 => ⟨fun b => b.x7⟩
  | 8 => ⟨fun b => b.x8⟩
  | 9 => ⟨fun b => b.x9⟩
  | 10 => ⟨fun b => b.x10⟩
  | 11 => ⟨fun b => b.x11⟩
  | 12 => ⟨fun b => b.x12⟩
  | 13 => ⟨fun b => b.x13⟩
  | 14 => ⟨fun b => b.x14⟩
  | _ => ⟨fun b => b.x15⟩
noncomputable def upsS (α : Type) : Nat → Ups α
  | 0 => ⟨fun b f => B16.rec (motive := fun _ => (α → α) → B16 α) (fun x0 x1 x2 x3 x4 x5 x6 x7 x8 x9 x10 x11 x12 x13 x14 x15 f => ⟨f x0, x1, x2, x3, x4, x5, x6, x7, x8, x9, x10, x11, x12, x13, x14, x15⟩) b f⟩
  | 1 => ⟨fun b f => B16.rec (motive := fun _ => (α → α) → B16 α) (fun x0 x1 x2 x3 x4 x5 x6 x7 x8 x9 x10 x11 x12 x13 x14 x15 f => ⟨x0, f x1, x2, x3, x4, x5, x6, x7, x8, x9, x10, x11, x12, x13, x14, x15⟩) b f⟩
  | 2 => ⟨fun b f => B16.rec (motive := fun _ => (α → α) → B16 α) (fun x0 x1 x2 x3 x4 x5 x6 x7 x8 x9 x10 x11 x12 x13 x14 x15 f => ⟨x0, x1, f x2, x3, x4, x5, x6, x7, x8, x9, x10, x11, x12, x13, x14, x15⟩) b f⟩
  | 3 => ⟨fun b f => B16.rec (motive := fun _ => (α → α) → B16 α) (fun x0 x1 x2 x3 x4 x5 x6 x7 x8 x9 x10 x11 x12 x13 x14 x15 f => ⟨x0, x1, x2, f x3, x4, x5, x6, x7, x8, x9, x10, x11, x12, x13, x14, x15⟩) b f⟩
  | 4 => ⟨fun b f => B16.rec (motive := fun _ => (α → α) → B16 α) (fun x0 x1 x2 x3 x4 x5 x6 x7 x8 x9 x10 x11 x12 x13 x14 x15 f => ⟨x0, x1, x2, x3, f x4, x5, x6, x7, x8, x9, x10, x11, x12, x13, x14, x15⟩) b f⟩
  | 5 => ⟨fun b f => B16.rec (motive := fun _ => (α → α) → B16 α) (fun x0 x1 x2 x3 x4 x5 x6 x7 x8 x9 x10 x11 x12 x13 x14 x15 f => ⟨x0, x1, x2, x3, x4, f x5, x6, x7, x8, x9, x10, x11, x12, x13, x14, x15⟩) b f⟩
  | 6 => ⟨fun b f => B16.rec (motive := fun _ => (α → α) → B16 α) (fun x0 x1 x2 x3 x4 x5 x6 x7 x8 x9 x10 x11 x12 x13 x14 x15 f => ⟨x0, x1, x2, x3, x4, x5, f x6, x7, x8, x9, x10, x11, x12, x13, x14, x15⟩) b f⟩
  | 7 => ⟨fun b f => B16.rec (motive := fun _ => (α → α) → B16 α) (fun x0 x1 x2 x3 x4 x5 x6 x7 x8 x9 x10 x11 x12 x13 x14 x15 f => ⟨x0, x1, x2, x3, x4, x5, x6, f x7, x8, x9, x10, x11, x12, x13, x14, x15⟩) b f⟩
  | 8 => ⟨fun b f => B16.rec (motive := fun _ => (α → α) → B16 α) (fun x0 x1 x2 x3 x4 x5 x6 x7 x8 x9 x10 x11 x12 x13 x14 x15 f => ⟨x0, x1, x2, x3, x4, x5, x6, x7, f x8, x9, x10, x11, x12, x13, x14, x15⟩) b f⟩
  | 9 => ⟨fun b f => B16.rec (motive := fun _ => (α → α) → B16 α) (fun x0 x1 x2 x3 x4 x5 x6 x7 x8 x9 x10 x11 x12 x13 x14 x15 f => ⟨x0, x1, x2, x3, x4, x5, x6, x7, x8, f x9, x10, x11, x12, x13, x14, x15⟩) b f⟩
  | 10 => ⟨fun b f => B16.rec (motive := fun _ => (α → α) → B16 α) (fun x0 x1 x2 x3 x4 x5 x6 x7 x8 x9 x10 x11 x12 x13 x14 x15 f => ⟨x0, x1, x2, x3, x4, x5, x6, x7, x8, x9, f x10, x11, x12, x13, x14, x15⟩) b f⟩
  | 11 => ⟨fun b f => B16.rec (motive := fun _ => (α → α) → B16 α) (fun x0 x1 x2 x3 x4 x5 x6 x7 x8 x9 x10 x11 x12 x13 x14 x15 f => ⟨x0, x1, x2, x3, x4, x5, x6, x7, x8, x9, x10, f x11, x12, x13, x14, x15⟩) b f⟩
  | 12 => ⟨fun b f => B16.rec (motive := fun _ => (α → α) → B16 α) (fun x0 x1 x2 x3 x4 x5 x6 x7 x8 x9 x10 x11 x12 x13 x14 x15 f => ⟨x0, x1, x2, x3, x4, x5, x6, x7, x8, x9, x10, x11, f x12, x13, x14, x15⟩) b f⟩
  | 13 => ⟨fun b f => B16.rec (motive := fun _ => (α → α) → B16 α) (fun x0 x1 x2 x3 x4 x5 x6 x7 x8 x9 x10 x11 x12 x13 x14 x15 f => ⟨x0, x1, x2, x3, x4, x5, x6, x7, x8, x9, x10, x11, x12, f x13, x14, x15⟩) b f⟩
  | 14 => ⟨fun b f => B16.rec (motive := fun _ => (α → α) → B16 α) (fun x0 x1 x2 x3 x4 x5 x6 x7 x8 x9 x10 x11 x12 x13 x14 x15 f => ⟨x0, x1, x2, x3, x4, x5, x6, x7, x8, x9, x10, x11, x12, x13, f x14, x15⟩) b f⟩
  | _ => ⟨fun b f => B16.rec (motive := fun _ => (α → α) → B16 α) (fun x0 x1 x2 x3 x4 x5 x6 x7 x8 x9 x10 x11 x12 x13 x14 x15 f => ⟨x0, x1, x2, x3, x4, x5, x6, x7, x8, x9, x10, x11, x12, x13, x14, f x15⟩) b f⟩
def B16.of {α : Type} (x : α) : B16 α := ⟨x, x, x, x, x, x, x, x, x, x, x, x, x, x, x, x⟩
def B16.list {α : Type} (b : B16 α) : List (Nat × α) := [(0, b.x0), (1, b.x1), (2, b.x2), (3, b.x3), (4, b.x4), (5, b.x5), (6, b.x6), (7, b.x7), (8, b.x8), (9, b.x9), (10, b.x10), (11, b.x11), (12, b.x12), (13, b.x13), (14, b.x14), (15, b.x15)]
theorem nat16 {i : Nat} (h : i < 16) : i = 0 ∨ i = 1 ∨ i = 2 ∨ i = 3 ∨ i = 4 ∨ i = 5 ∨ i = 6 ∨ i = 7 ∨ i = 8 ∨ i = 9 ∨ i = 10 ∨ i = 11 ∨ i = 12 ∨ i = 13 ∨ i = 14 ∨ i = 15 := by omega
theorem sel_ups {α : Type} {i j : Nat} (hi : i < 16) (hj : j < 16) (f : α → α) (b : B16 α) : (selS α i).go ((upsS α j).go b f) = if i = j then f ((selS α j).go b) else (selS α i).go b := by
  cases b
  rcases nat16 hi with rfl | rfl | rfl | rfl | rfl | rfl | rfl | rfl | rfl | rfl | rfl | rfl | rfl | rfl | rfl | rfl <;>
  rcases nat16 hj with rfl | rfl | rfl | rfl | rfl | rfl | rfl | rfl | rfl | rfl | rfl | rfl | rfl | rfl | rfl | rfl <;> rfl
theorem sel_of {α : Type} {i : Nat} (hi : i < 16) (x : α) : (selS α i).go (B16.of x) = x := by
  rcases nat16 hi with rfl | rfl | rfl | rfl | rfl | rfl | rfl | rfl | rfl | rfl | rfl | rfl | rfl | rfl | rfl | rfl <;> rfl
theorem sel_list {α : Type} {i : Nat} (hi : i < 16) (b : B16 α) : (i, (selS α i).go b) ∈ b.list := by
  unfold B16.list
  rcases nat16 hi with rfl | rfl | rfl | rfl | rfl | rfl | rfl | rfl | rfl | rfl | rfl | rfl | rfl | rfl | rfl | rfl <;> simp [selS]
structure Lens (α τ : Type) where
  get : τ → Option α
  set : α → τ → τ
abbrev T1 (α : Type) := B16 (Option α)
abbrev T2 (α : Type) := B16 (Option (T1 α))
abbrev T3 (α : Type) := B16 (Option (T2 α))
abbrev T4 (α : Type) := B16 (Option (T3 α))
noncomputable def lens1 (α : Type) (i : Nat) : Lens α (T1 α) := ⟨(selS (Option α) i).go, fun v b => (upsS (Option α) i).go b (fun _ => some v)⟩
noncomputable def lensUp {α τ : Type} (e : τ) (i : Nat) (l : Lens α τ) : Lens α (B16 (Option τ)) :=
  ⟨fun b => Option.rec (motive := fun _ => Option α) none l.get ((selS (Option τ) i).go b), fun v b => (upsS (Option τ) i).go b (fun o => some (l.set v (Option.rec (motive := fun _ => τ) e (fun c => c) o)))⟩
def e1 (α : Type) : T1 α := B16.of none
def e2 (α : Type) : T2 α := B16.of none
def e3 (α : Type) : T3 α := B16.of none
def e4 (α : Type) : T4 α := B16.of none
noncomputable def lens2 (α : Type) (k : Nat) : Lens α (T2 α) := lensUp (e1 α) (Nat.div k 16) (lens1 α (Nat.mod k 16))
noncomputable def lens3 (α : Type) (k : Nat) : Lens α (T3 α) := lensUp (e2 α) (Nat.div k 256) (lens2 α (Nat.mod k 256))
noncomputable def lens4 (α : Type) (k : Nat) : Lens α (T4 α) := lensUp (e3 α) (Nat.div k 4096) (lens3 α (Nat.mod k 4096))
structure LensOk {α τ : Type} (n : Nat) (e : τ) (L : Nat → Lens α τ) : Prop where
  gs : ∀ i j, i < n → j < n → ∀ v t, (L i).get ((L j).set v t) = if i = j then some v else (L i).get t
  em : ∀ i, i < n → (L i).get e = none
theorem lens1_ok (α : Type) : LensOk 16 (e1 α) (lens1 α) := ⟨fun i j hi hj v t => sel_ups hi hj _ t, fun i hi => sel_of hi none⟩
theorem lensUp_ok {α τ : Type} {n : Nat} {e : τ} {L : Nat → Lens α τ} (h : LensOk n e L) (hn : 0 < n) : LensOk (16 * n) (B16.of none) (fun k => lensUp e (Nat.div k n) (L (Nat.mod k n))) := by
  refine ⟨fun i j hi hj v t => ?_, fun i hi => ?_⟩
  · have a1 : i / n < 16 := Nat.div_lt_of_lt_mul (by rw [Nat.mul_comm]; exact hi)
    have a2 : j / n < 16 := Nat.div_lt_of_lt_mul (by rw [Nat.mul_comm]; exact hj)
    have b1 : i % n < n := Nat.mod_lt _ hn
    have b2 : j % n < n := Nat.mod_lt _ hn
    show Option.rec (motive := fun _ => Option α) none (L (i % n)).get ((selS (Option τ) (i / n)).go ((upsS (Option τ) (j / n)).go t _)) = if i = j then some v else Option.rec (motive := fun _ => Option α) none (L (i % n)).get ((selS (Option τ) (i / n)).go t)
    rw [sel_ups a1 a2]
    by_cases hd : i / n = j / n
    · rw [if_pos hd]
      show (L (i % n)).get ((L (j % n)).set v _) = _
      rw [h.gs _ _ b1 b2]
      by_cases hm : i % n = j % n
      · rw [if_pos hm, if_pos (by rw [← Nat.div_add_mod i n, ← Nat.div_add_mod j n, hd, hm])]
      · rw [if_neg hm, if_neg (by rintro rfl; exact hm rfl), hd]
        cases (selS (Option τ) (j / n)).go t with
        | none => exact h.em _ b1
        | some c => rfl
    · rw [if_neg hd, if_neg (by rintro rfl; exact hd rfl)]
  · have a1 : i / n < 16 := Nat.div_lt_of_lt_mul (by rw [Nat.mul_comm]; exact hi)
    show Option.rec (motive := fun _ => Option α) none (L (i % n)).get ((selS (Option τ) (i / n)).go (B16.of none)) = none
    rw [sel_of a1]
theorem lens2_ok (α : Type) : LensOk 256 (e2 α) (lens2 α) := lensUp_ok (lens1_ok α) (by omega)
theorem lens3_ok (α : Type) : LensOk 4096 (e3 α) (lens3 α) := lensUp_ok (lens2_ok α) (by omega)
theorem lens4_ok (α : Type) : LensOk 65536 (e4 α) (lens4 α) := lensUp_ok (lens3_ok α) (by omega)
structure Tr (α : Type) where
  s : T1 α
  m : T2 α
  l : Option (T3 α)
  h : Option (T4 α)
  o : List (Nat × α)
def Tr.nil {α : Type} : Tr α := ⟨e1 α, e2 α, none, none, []⟩
noncomputable def lensO {α τ : Type} (e : τ) (l : Lens α τ) : Lens α (Option τ) :=
  ⟨fun b => Option.rec (motive := fun _ => Option α) none l.get b, fun v b => some (l.set v (Option.rec (motive := fun _ => τ) e (fun c => c) b))⟩
theorem lensO_ok {α τ : Type} {n : Nat} {e : τ} {L : Nat → Lens α τ} (h : LensOk n e L) : LensOk n none (fun k => lensO e (L k)) := by
  refine ⟨fun i j hi hj v t => ?_, fun i hi => rfl⟩
  show (L i).get ((L j).set v (Option.rec (motive := fun _ => τ) e (fun c => c) t)) = if i = j then some v else Option.rec (motive := fun _ => Option α) none (L i).get t
  rw [h.gs i j hi hj]
  cases t with
  | none => rw [show (Option.rec (motive := fun _ => Option α) none (L i).get (none : Option τ)) = none from rfl, show (Option.rec (motive := fun _ => τ) e (fun c => c) (none : Option τ)) = e from rfl, h.em i hi]
  | some c => rfl
noncomputable def lensL (α : Type) (k : Nat) : Lens α (Option (T3 α)) := lensO (e3 α) (lens3 α k)
noncomputable def lensH (α : Type) (k : Nat) : Lens α (Option (T4 α)) := lensO (e4 α) (lens4 α k)
theorem lensL_ok (α : Type) : LensOk 4096 none (lensL α) := lensO_ok (lens3_ok α)
theorem lensH_ok (α : Type) : LensOk 65536 none (lensH α) := lensO_ok (lens4_ok α)
section
variable {α : Type}
def ovGet (l : List (Nat × α)) (k : Nat) : Option α := match l with
  | [] => none
  | p :: l => match Nat.beq p.1 k with
    | true => some p.2
    | false => ovGet l k
noncomputable def trLens (α : Type) (k : Nat) : Lens α (Tr α) :=
  Bool.rec (motive := fun _ => Lens α (Tr α))
    (Bool.rec (motive := fun _ => Lens α (Tr α))
      (Bool.rec (motive := fun _ => Lens α (Tr α))
        (Bool.rec (motive := fun _ => Lens α (Tr α))
          ⟨fun t => ovGet t.o k, fun v t => Tr.rec (motive := fun _ => α → Tr α) (fun s m l h o v => ⟨s, m, l, h, (k, v) :: o⟩) t v⟩
          ⟨fun t => (lensH α k).get t.h, fun v t => Tr.rec (motive := fun _ => α → Tr α) (fun s m l h o v => ⟨s, m, l, (lensH α k).set v h, o⟩) t v⟩ (Nat.ble (Nat.succ k) 65536))
        ⟨fun t => (lensL α k).get t.l, fun v t => Tr.rec (motive := fun _ => α → Tr α) (fun s m l h o v => ⟨s, m, (lensL α k).set v l, h, o⟩) t v⟩ (Nat.ble (Nat.succ k) 4096))
      ⟨fun t => (lens2 α k).get t.m, fun v t => Tr.rec (motive := fun _ => α → Tr α) (fun s m l h o v => ⟨s, (lens2 α k).set v m, l, h, o⟩) t v⟩ (Nat.ble (Nat.succ k) 256))
    ⟨fun t => (lens1 α k).get t.s, fun v t => Tr.rec (motive := fun _ => α → Tr α) (fun s m l h o v => ⟨(lens1 α k).set v s, m, l, h, o⟩) t v⟩ (Nat.ble (Nat.succ k) 16)
noncomputable def Tr.get (t : Tr α) (k : Nat) : Option α :=
  Nat.rec (motive := fun _ => Tr α → Option α) (fun t => (trLens α 0).get t) (fun p _ t => (trLens α (Nat.succ p)).get t) k t
noncomputable def Tr.set (t : Tr α) (k : Nat) (v : α) : Tr α :=
  Nat.rec (motive := fun _ => Tr α → α → Tr α) (fun t v => (trLens α 0).set v t) (fun p _ t v => (trLens α (Nat.succ p)).set v t) k t v
theorem Tr.get_lens (t : Tr α) (k : Nat) : t.get k = (trLens α k).get t := by cases k <;> rfl
theorem Tr.set_lens (t : Tr α) (k : Nat) (v : α) : t.set k v = (trLens α k).set v t := by cases k <;> rfl
theorem ble_lt {a b : Nat} : Nat.ble (Nat.succ a) b = decide (a < b) := by
  cases h : Nat.ble (Nat.succ a) b with
  | true => exact (decide_eq_true (Nat.le_of_ble_eq_true h)).symm
  | false => exact (decide_eq_false (fun hl => by rw [Nat.ble_eq_true_of_le hl] at h; cases h)).symm
inductive Cls (k : Nat) : Prop where
  | s (h : k < 16) (g : ∀ t : Tr α, t.get k = (lens1 α k).get t.s) (u : ∀ (t : Tr α) v, t.set k v = ⟨(lens1 α k).set v t.s, t.m, t.l, t.h, t.o⟩)
  | m (h' : 16 ≤ k) (h : k < 256) (g : ∀ t : Tr α, t.get k = (lens2 α k).get t.m) (u : ∀ (t : Tr α) v, t.set k v = ⟨t.s, (lens2 α k).set v t.m, t.l, t.h, t.o⟩)
  | l (h' : 256 ≤ k) (h : k < 4096) (g : ∀ t : Tr α, t.get k = (lensL α k).get t.l) (u : ∀ (t : Tr α) v, t.set k v = ⟨t.s, t.m, (lensL α k).set v t.l, t.h, t.o⟩)
  | h (h' : 4096 ≤ k) (h : k < 65536) (g : ∀ t : Tr α, t.get k = (lensH α k).get t.h) (u : ∀ (t : Tr α) v, t.set k v = ⟨t.s, t.m, t.l, (lensH α k).set v t.h, t.o⟩)
  | o (h' : 65536 ≤ k) (g : ∀ t : Tr α, t.get k = ovGet t.o k) (u : ∀ (t : Tr α) v, t.set k v = ⟨t.s, t.m, t.l, t.h, (k, v) :: t.o⟩)
theorem cls (k : Nat) : Cls (α := α) k := by
  by_cases h1 : k < 16
  · refine .s h1 (fun t => ?_) (fun t v => ?_) <;> simp only [Tr.get_lens, Tr.set_lens, trLens, ble_lt, h1, decide_true]
  · by_cases h2 : k < 256
    · refine .m (by omega) h2 (fun t => ?_) (fun t v => ?_) <;> simp only [Tr.get_lens, Tr.set_lens, trLens, ble_lt, h1, h2, decide_true, decide_false]
    · by_cases h3 : k < 4096
      · refine .l (by omega) h3 (fun t => ?_) (fun t v => ?_) <;> simp only [Tr.get_lens, Tr.set_lens, trLens, ble_lt, h1, h2, h3, decide_true, decide_false]
      · by_cases h4 : k < 65536
        · refine .h (by omega) h4 (fun t => ?_) (fun t v => ?_) <;> simp only [Tr.get_lens, Tr.set_lens, trLens, ble_lt, h1, h2, h3, h4, decide_true, decide_false]
        · refine .o (by omega) (fun t => ?_) (fun t v => ?_) <;> simp only [Tr.get_lens, Tr.set_lens, trLens, ble_lt, h1, h2, h3, h4, decide_false]
theorem Tr.get_nil (k : Nat) : (Tr.nil : Tr α).get k = none := by
  rcases cls (α := α) k with ⟨h, g, -⟩ | ⟨-, h, g, -⟩ | ⟨-, h, g, -⟩ | ⟨-, h, g, -⟩ | ⟨h, g, -⟩ <;> rw [g]
  · exact (lens1_ok α).em k h
  · exact (lens2_ok α).em k h
  · exact (lensL_ok α).em k h
  · exact (lensH_ok α).em k h
  · rfl
theorem Tr.get_set (t : Tr α) (k j : Nat) (v : α) : (t.set k v).get j = if j = k then some v else t.get j := by
  rcases cls (α := α) j with ⟨h, g, -⟩ | ⟨h', h, g, -⟩ | ⟨h', h, g, -⟩ | ⟨h', h, g, -⟩ | ⟨h, g, -⟩ <;>
  rcases cls (α := α) k with ⟨i, -, u⟩ | ⟨i', i, -, u⟩ | ⟨i', i, -, u⟩ | ⟨i', i, -, u⟩ | ⟨i, -, u⟩ <;> rw [g, g, u] <;> first
    | exact (lens1_ok α).gs j k h i v _
    | exact (lens2_ok α).gs j k h i v _
    | exact (lensL_ok α).gs j k h i v _
    | exact (lensH_ok α).gs j k h i v _
    | (rw [if_neg (by omega)]; done)
    | skip
  show (match Nat.beq k j with | true => some v | false => ovGet t.o j) = _
  by_cases hjk : j = k
  · subst hjk; rw [if_pos rfl, Nat.beq_refl]
  · rw [if_neg hjk]
    cases hb : Nat.beq k j with
    | true => exact absurd (Nat.eq_of_beq_eq_true hb).symm hjk
    | false => rfl
def prs1 (base : Nat) (b : T1 α) : List (Nat × α) := b.list.filterMap fun p => match p.2 with
  | some v => some (base + p.1, v)
  | none => none
def prsU {τ : Type} (n : Nat) (f : Nat → τ → List (Nat × α)) (base : Nat) (b : B16 (Option τ)) : List (Nat × α) := b.list.flatMap fun p => match p.2 with
  | some c => f (base + p.1 * n) c
  | none => []
def prsO {τ : Type} (f : Nat → τ → List (Nat × α)) (o : Option τ) : List (Nat × α) := match o with
  | none => []
  | some c => f 0 c
def Tr.pairs (t : Tr α) : List (Nat × α) :=
  prs1 0 t.s ++ (prsU 16 prs1 0 t.m ++ (prsO (prsU 256 (prsU 16 prs1)) t.l ++ (prsO (prsU 4096 (prsU 256 (prsU 16 prs1))) t.h ++ t.o)))
def PrsOk {τ : Type} (n : Nat) (L : Nat → Lens α τ) (f : Nat → τ → List (Nat × α)) : Prop :=
  ∀ (base k : Nat) (t : τ) (v : α), k < n → (L k).get t = some v → (base + k, v) ∈ f base t
theorem prs1_ok : PrsOk 16 (lens1 α) prs1 := fun base k t v hk h => by
  refine List.mem_filterMap.2 ⟨_, sel_list hk t, ?_⟩
  have h : (selS (Option α) k).go t = some v := h
  simp only [h]
theorem prsU_ok {τ : Type} {n : Nat} {e : τ} {L : Nat → Lens α τ} {f : Nat → τ → List (Nat × α)} (h : PrsOk n L f) (hn : 0 < n) : PrsOk (16 * n) (fun k => lensUp e (Nat.div k n) (L (Nat.mod k n))) (prsU n f) := fun base k t v hk hg => by
  have a1 : k / n < 16 := Nat.div_lt_of_lt_mul (by rw [Nat.mul_comm]; exact hk)
  have hg : Option.rec (motive := fun _ => Option α) none (L (k % n)).get ((selS (Option τ) (k / n)).go t) = some v := hg
  refine List.mem_flatMap.2 ⟨_, sel_list a1 t, ?_⟩
  cases hs : (selS (Option τ) (k / n)).go t with
  | none => rw [hs] at hg; cases hg
  | some c =>
    rw [hs] at hg
    have := h (base + k / n * n) (k % n) c v (Nat.mod_lt _ hn) hg
    rw [Nat.add_assoc, Nat.mul_comm (k / n) n, Nat.div_add_mod] at this
    simp only
    rw [Nat.mul_comm (k / n) n]
    exact this
theorem prsO_ok {τ : Type} {n : Nat} {e : τ} {L : Nat → Lens α τ} {f : Nat → τ → List (Nat × α)} (h : PrsOk n L f) {k : Nat} (hk : k < n) {o : Option τ} {v : α} (hg : (lensO e (L k)).get o = some v) : (k, v) ∈ prsO f o := by
  cases o with
  | none => cases hg
  | some c =>
    have := h 0 k c v hk hg
    rwa [Nat.zero_add] at this
theorem Tr.pairs_of {t : Tr α} {k : Nat} {v : α} (hg : t.get k = some v) : (k, v) ∈ t.pairs := by
  unfold Tr.pairs
  simp only [List.mem_append]
  have z : k = 0 + k := (Nat.zero_add k).symm
  rcases cls (α := α) k with ⟨h, g, -⟩ | ⟨-, h, g, -⟩ | ⟨-, h, g, -⟩ | ⟨-, h, g, -⟩ | ⟨h, g, -⟩ <;> rw [g] at hg
  · left; rw [z]; exact prs1_ok 0 k _ v h hg
  · right; left; rw [z]; exact prsU_ok (e := e1 α) prs1_ok (by omega) 0 k _ v h hg
  · right; right; left; exact prsO_ok (e := e3 α) (prsU_ok (e := e2 α) (prsU_ok (e := e1 α) prs1_ok (by omega)) (by omega)) h hg
  · right; right; right; left; exact prsO_ok (e := e4 α) (prsU_ok (e := e3 α) (prsU_ok (e := e2 α) (prsU_ok (e := e1 α) prs1_ok (by omega)) (by omega)) (by omega)) h hg
  · right; right; right; right
    generalize t.o = l at hg ⊢
    induction l with
    | nil => cases hg
    | cons p l ih =>
      unfold ovGet at hg
      split at hg
      · rename_i hb
        injection hg with hg
        rw [← hg, ← Nat.eq_of_beq_eq_true hb]
        exact List.mem_cons_self
      · exact List.mem_cons_of_mem _ (ih hg)
noncomputable def Tr.putList (l : List α) : Tr α → Nat → Tr α :=
  List.rec (motive := fun _ => Tr α → Nat → Tr α) (fun t _ => t) (fun x _ ih t i => ih (t.set i x) (Nat.succ i)) l
theorem Tr.putList_nil (t : Tr α) (i : Nat) : Tr.putList [] t i = t := rfl
theorem Tr.putList_cons (x : α) (l : List α) (t : Tr α) (i : Nat) : Tr.putList (x :: l) t i = Tr.putList l (t.set i x) (i + 1) := rfl
theorem Tr.get_putList : ∀ (l : List α) (t : Tr α) (i j : Nat), (Tr.putList l t i).get j = if i ≤ j ∧ j < i + l.length then l[j - i]? else t.get j := by
  intro l
  induction l with
  | nil => intro t i j; rw [Tr.putList_nil, if_neg (by simp only [List.length_nil]; omega)]
  | cons x l ih =>
    intro t i j
    rw [Tr.putList_cons, ih, Tr.get_set]
    by_cases h1 : j = i
    · subst h1
      rw [if_neg (by omega), if_pos rfl, if_pos (by simp), Nat.sub_self]
      rfl
    · rw [if_neg h1]
      by_cases h2 : i ≤ j ∧ j < i + (x :: l).length
      · rw [if_pos h2, if_pos (by simp only [List.length_cons] at h2; omega)]
        obtain ⟨d, hd⟩ : ∃ d, j - i = d + 1 := ⟨j - i - 1, by omega⟩
        rw [hd, show j - (i + 1) = d from by omega]
        rfl
      · rw [if_neg h2, if_neg (by simp only [List.length_cons] at h2; omega)]
noncomputable def Tr.list (n : Nat) : Tr α → Nat → Option (List α) :=
  Nat.rec (motive := fun _ => Tr α → Nat → Option (List α)) (fun _ _ => some [])
    (fun _ ih t i => Option.rec (motive := fun _ => Option (List α)) none
      (fun x => Option.rec (motive := fun _ => Option (List α)) none (fun l => some (x :: l)) (ih t (Nat.succ i))) (t.get i)) n
theorem Tr.list_zero (t : Tr α) (i : Nat) : Tr.list 0 t i = some [] := rfl
theorem Tr.list_succ (n : Nat) (t : Tr α) (i : Nat) : Tr.list (n + 1) t i = match t.get i with
    | none => none
    | some x => match Tr.list n t (i + 1) with
      | none => none
      | some l => some (x :: l) := by
  show Option.rec (motive := fun _ => Option (List α)) none _ (t.get i) = _
  cases h : t.get i with
  | none => rfl
  | some x =>
    show Option.rec (motive := fun _ => Option (List α)) none _ (Tr.list n t (i + 1)) = _
    cases h2 : Tr.list n t (i + 1) <;> rfl
theorem Tr.list_spec : ∀ (n : Nat) (t : Tr α) (i : Nat) (l : List α), Tr.list n t i = some l → l.length = n ∧ ∀ j, j < n → l[j]? = t.get (i + j) := by
  intro n
  induction n with
  | zero => intro t i l h; simp [Tr.list_zero] at h; subst h; simp
  | succ n ih =>
    intro t i l h
    rw [Tr.list_succ] at h
    cases hx : t.get i with
    | none => simp [hx] at h
    | some x =>
      cases hl : Tr.list n t (i + 1) with
      | none => simp [hx, hl] at h
      | some l2 =>
        simp [hx, hl] at h
        subst h
        obtain ⟨h1, h2⟩ := ih _ _ _ hl
        refine ⟨by simp [h1], fun j hj => ?_⟩
        cases j with
        | zero => simp [hx]
        | succ j => simp only [List.getElem?_cons_succ]; rw [h2 j (by omega)]; congr 1; omega
end
structure Ent where
  c : Nat
  o : Nat
  op : Option (Nat × Nat)
  live : Bool
structure Emb where
  f : Nat → Option Ent
  s : Nat → Value
  u : Nat → List Value → Option Value
instance : CoeFun Emb (fun _ => Nat → Option Ent) := ⟨Emb.f⟩
structure Emb.le (m m' : Emb) : Prop where
  at_ : ∀ b e, m b = some e → ∃ e', m' b = some e' ∧ e'.c = e.c ∧ e'.o = e.o ∧ e'.op = e.op ∧ (e'.live = true → e.live = true)
  s : m'.s = m.s
  u : m'.u = m.u
instance (m m' : Emb) : CoeFun (m.le m') (fun _ => ∀ b e, m b = some e → ∃ e', m' b = some e' ∧ e'.c = e.c ∧ e'.o = e.o ∧ e'.op = e.op ∧ (e'.live = true → e.live = true)) := ⟨Emb.le.at_⟩
theorem Emb.le_refl (m : Emb) : m.le m := ⟨fun _ e h => ⟨e, h, rfl, rfl, rfl, id⟩, rfl, rfl⟩
theorem Emb.le_trans {a b c : Emb} (h : a.le b) (k : b.le c) : a.le c := ⟨fun x e he => by
  obtain ⟨e1, h1, h2, h3, h4, h5⟩ := h x e he
  obtain ⟨e2, k1, k2, k3, k4, k5⟩ := k x e1 h1
  exact ⟨e2, k1, k2.trans h2, k3.trans h3, k4.trans h4, fun hl => h5 (k5 hl)⟩, k.s.trans h.s, k.u.trans h.u⟩
def RA (m : Emb) (a a' : Addr) : Prop := a.spot = none ∧ ∃ e, m a.block = some e ∧ a' = ⟨e.c, e.o + a.off, none⟩
def RS (m : Emb) (a : Addr) (n c : Nat) (a' : Addr) (c' : Nat) : Prop :=
  a.spot = none ∧ ∃ e, m a.block = some e ∧ ((e.op = none ∧ a' = ⟨e.c, e.o + a.off, none⟩ ∧ c' = c) ∨
    (∃ tot z, e.op = some (tot, z) ∧ a'.block = e.c ∧ a'.spot = none ∧ (n = 0 ∧ c = 0 ∨ a'.off = e.o + a.off) ∧ c ≤ c' ∧ a'.off + c' * z ≤ tot))
theorem RA.mono {m m' : Emb} (h : m.le m') {a a' : Addr} (r : RA m a a') : RA m' a a' := by
  obtain ⟨h1, e, he, ha⟩ := r
  obtain ⟨e', he', h2, h3, -, -⟩ := h _ _ he
  exact ⟨h1, e', he', by rw [h2, h3]; exact ha⟩
theorem RS.mono {m m' : Emb} (h : m.le m') {a a' : Addr} {n c c' : Nat} (r : RS m a n c a' c') : RS m' a n c a' c' := by
  obtain ⟨h1, e, he, hr⟩ := r
  obtain ⟨e', he', h2, h3, h4, -⟩ := h _ _ he
  exact ⟨h1, e', he', by rw [h2, h3, h4]; exact hr⟩
def flat : Value → Bool
  | .bool _ | .int _ _ | .float _ _ | .complex _ _ _ | .string _ | .nilFunc | .nilIface | .pointer none | .slice none _ _ | .map none | .chan none => true
  | _ => false
def noYield : Fn → Bool
  | .yield _ => false
  | .methodOf _ _ => false
  | _ => true
def sy (ty k : Nat) (xs : List Value) : Value := .func (.methodOf k "") ⟨xs⟩ ⟨[.int .u64 (.ofNat ty)]⟩
def unk (ty i : Nat) : Value := sy ty 0 [.int .u64 (.ofNat i)]
def isSym : Value → Bool
  | .func (.methodOf _ _) _ _ => true
  | _ => false
def kindCode : IntKind → Nat
  | .i8 => 3
  | .i16 => 4
  | .i32 => 5
  | .i64 => 6
  | .u8 => 7
  | .u16 => 8
  | .u32 => 9
  | .u64 => 10
def tyOk (ty : Nat) (v : Value) : Bool :=
  match v with
  | .agg _ | .tuple _ => false
  | .bool _ => Nat.beq ty 0 || Nat.beq ty 1
  | .string b => Nat.beq ty 0 || (Nat.beq ty 2 && decide (b.size < 9223372036854775808))
  | .int k n => Nat.beq ty 0 || (Nat.beq ty (kindCode k) && decide (k.min ≤ n) && decide (n ≤ k.max))
  | _ => Nat.beq ty 0
def symTy (e : Value) : Nat :=
  match e with
  | .func _ _ ys => match ys.toList with
    | [.int _ (.ofNat ty)] => ty
    | _ => 100
  | _ => 100
def den1 (s : Nat → Value) (u : Nat → List Value → Option Value) (go : List Value → Option (List Value)) : Value → Option Value
  | .func (.methodOf k _) xs _ => match k with
    | 0 => match xs.toList with
      | [.int _ (.ofNat i)] => some (s i)
      | _ => none
    | k + 1 => match go xs.toList with
      | some vs => u k vs
      | none => none
  | v => match flat v with
    | true => some v
    | false => none
def mapO (f : Value → Option Value) : List Value → Option (List Value)
  | [] => some []
  | x :: l => match f x with
    | none => none
    | some y => match mapO f l with
      | none => none
      | some ys => some (y :: ys)
def den (s : Nat → Value) (u : Nat → List Value → Option Value) : Nat → Value → Option Value
  | 0 => fun _ => none
  | d + 1 => den1 s u (mapO (den s u d))
theorem mapO_mono {f g : Value → Option Value} (h : ∀ x y, f x = some y → g x = some y) : ∀ (l r : List Value), mapO f l = some r → mapO g l = some r
  | [], r, hr => hr
  | x :: l, r, hr => by
    unfold mapO at hr ⊢
    split at hr
    · cases hr
    · rename_i y hy
      split at hr
      · cases hr
      · rename_i ys hys
        rw [h _ _ hy]
        simp only
        rw [mapO_mono h _ _ hys]
        exact hr
theorem den1_mono {s : Nat → Value} {u : Nat → List Value → Option Value} {f g : List Value → Option (List Value)} (h : ∀ l r, f l = some r → g l = some r) {e v : Value} (hd : den1 s u f e = some v) : den1 s u g e = some v := by
  unfold den1 at hd ⊢
  split
  · rename_i k nm xs ys
    simp only at hd
    split at hd
    · exact hd
    · split at hd
      · rename_i vs hvs
        simp only [h _ _ hvs]
        exact hd
      · cases hd
  · rename_i hne
    split at hd
    · rename_i k nm xs ys
      exact absurd rfl (hne k nm xs ys)
    · exact hd
theorem den_succ {s : Nat → Value} {u : Nat → List Value → Option Value} : ∀ (d : Nat) (e v : Value), den s u d e = some v → den s u (d + 1) e = some v := by
  intro d
  induction d with
  | zero => intro e v h; cases h
  | succ d ih =>
    intro e v h
    exact den1_mono (fun l r => mapO_mono ih l r) h
theorem den_mono {s : Nat → Value} {u : Nat → List Value → Option Value} {d d' : Nat} (h : d ≤ d') {e v : Value} (hd : den s u d e = some v) : den s u d' e = some v := by
  induction h with
  | refl => exact hd
  | step _ ih => exact den_succ _ _ _ ih
theorem den_flat {s : Nat → Value} {u : Nat → List Value → Option Value} {v : Value} (h : flat v = true) (d : Nat) : den s u (d + 1) v = some v := by
  show den1 s u _ v = some v
  unfold den1
  split
  · simp [flat] at h
  · rw [h]
inductive RV (m : Emb) : Value → Value → Prop
  | flat (v : Value) (h : flat v = true) : RV m v v
  | ptr (a a' : Addr) (h : RA m a a') : RV m (.pointer (some a)) (.pointer (some a'))
  | slice (a a' : Addr) (n c c' : Nat) (h : RS m a n c a' c') : RV m (.slice (some a) n c) (.slice (some a') n c')
  | map (b c : Nat) (h : ∃ e, m b = some e ∧ e.c = c) : RV m (.map (some b)) (.map (some c))
  | func (fn : Fn) (hfn : noYield fn = true) (xs xs' ys ys' : List Value) (hx : xs.length = xs'.length) (hy : ys.length = ys'.length)
      (h1 : ∀ i, i < xs.length → RV m (xs.getD i undef) (xs'.getD i undef)) (h2 : ∀ i, i < ys.length → RV m (ys.getD i undef) (ys'.getD i undef)) :
      RV m (.func fn ⟨xs⟩ ⟨ys⟩) (.func fn ⟨xs'⟩ ⟨ys'⟩)
  | yield (b c : Nat) (h : ∃ e, m b = some e ∧ e.c = c) : RV m (.func (.yield b) ⟨[]⟩ ⟨[]⟩) (.func (.yield c) ⟨[]⟩ ⟨[]⟩)
  | seq (b : Nat) (n : Value) (k c' : Nat) (a' : Addr) (hn : RV m n (.int .i64 (.ofNat k))) (hc : k ≤ c') (h : ∃ e tot z, m b = some e ∧ e.op = some (tot, z) ∧ a' = ⟨e.c, e.o, none⟩ ∧ e.o + c' * z ≤ tot) : RV m (.func (.yield b) ⟨[n]⟩ ⟨[]⟩) (.slice (some a') k c')
  | seqp (b : Nat) (i : Value) (kd : IntKind) (j z o : Nat) (a' : Addr) (hi : RV m i (.int kd (.ofNat j))) (h : ∃ e, m b = some e ∧ a' = ⟨e.c, e.o + (j * z + o), none⟩) :
      RV m (.func (.yield b) ⟨[i, .int .u64 (.ofNat z), .int .u64 (.ofNat o)]⟩ ⟨[]⟩) (.pointer (some a'))
  | glob (g o : Nat) (h : o < 1048576) : RV m (.chan (some (g * 1048576 + o))) (.pointer (some ⟨g, o, none⟩))
  | iface (t : TypeId) (v v' : Value) (h : RV m v v') : RV m (.iface t v) (.iface t v')
  | agg (xs xs' : List Value) (hx : xs.length = xs'.length) (h : ∀ i, i < xs.length → RV m (xs.getD i undef) (xs'.getD i undef)) : RV m (.agg ⟨xs⟩) (.agg ⟨xs'⟩)
  | tuple (xs xs' : List Value) (hx : xs.length = xs'.length) (h : ∀ i, i < xs.length → RV m (xs.getD i undef) (xs'.getD i undef)) : RV m (.tuple ⟨xs⟩) (.tuple ⟨xs'⟩)
  | sym (k : Nat) (nm : String) (xs ys : Array Value) (v : Value) (d : Nat) (h : den m.s m.u d (.func (.methodOf k nm) xs ys) = some v) (ht : tyOk (symTy (.func (.methodOf k nm) xs ys)) v = true) : RV m (.func (.methodOf k nm) xs ys) v
def RVs (m : Emb) (xs xs' : List Value) : Prop := xs.length = xs'.length ∧ ∀ i, i < xs.length → RV m (xs.getD i undef) (xs'.getD i undef)
theorem RV.mono {m m' : Emb} (h : m.le m') {v v' : Value} (r : RV m v v') : RV m' v v' := by
  induction r with
  | flat v hf => exact .flat v hf
  | ptr a a' hr => exact .ptr a a' (hr.mono h)
  | slice a a' n c c' hr => exact .slice a a' n c c' (hr.mono h)
  | map b c hb =>
    obtain ⟨e, he, hc⟩ := hb
    obtain ⟨e', he', h2, -⟩ := h _ _ he
    exact .map b c ⟨e', he', h2.trans hc⟩
  | func fn hfn xs xs' ys ys' hx hy _ _ i1 i2 => exact .func fn hfn xs xs' ys ys' hx hy i1 i2
  | yield b c hb =>
    obtain ⟨e, he, hc⟩ := hb
    obtain ⟨e', he', h2, -⟩ := h _ _ he
    exact .yield b c ⟨e', he', h2.trans hc⟩
  | seq b n k c' a' _ hc hb i =>
    obtain ⟨e, tot, z, he, ho, ha, hl⟩ := hb
    obtain ⟨e', he', h2, h3, h4, -⟩ := h _ _ he
    exact .seq b n k c' a' i hc ⟨e', tot, z, he', by rw [h4]; exact ho, by rw [h2, h3]; exact ha, by rw [h3]; exact hl⟩
  | seqp b x kd j z o a' _ hb i =>
    obtain ⟨e, he, ha⟩ := hb
    obtain ⟨e', he', h2, h3, -⟩ := h _ _ he
    exact .seqp b x kd j z o a' i ⟨e', he', by rw [h2, h3]; exact ha⟩
  | glob g o h => exact .glob g o h
  | iface t v v' _ i => exact .iface t v v' i
  | agg xs xs' hx _ i => exact .agg xs xs' hx i
  | tuple xs xs' hx _ i => exact .tuple xs xs' hx i
  | sym k nm xs ys v d hd ht => exact .sym k nm xs ys v d (by rw [h.s, h.u]; exact hd) ht
theorem RVs.mono {m m' : Emb} (h : m.le m') {xs xs' : List Value} (r : RVs m xs xs') : RVs m' xs xs' := ⟨r.1, fun i hi => (r.2 i hi).mono h⟩
theorem RVs.nil (m : Emb) : RVs m [] [] := ⟨rfl, fun i hi => by simp at hi⟩
theorem RVs.cons {m : Emb} {x x' : Value} {xs xs' : List Value} (h : RV m x x') (r : RVs m xs xs') : RVs m (x :: xs) (x' :: xs') :=
  ⟨by simp [r.1], fun i hi => by
    cases i with
    | zero => simpa using h
    | succ i => simpa using r.2 i (by simpa using hi)⟩
theorem RVs.head {m : Emb} {x : Value} {xs ys : List Value} (r : RVs m (x :: xs) ys) : ∃ x' xs', ys = x' :: xs' ∧ RV m x x' ∧ RVs m xs xs' := by
  obtain ⟨h1, h2⟩ := r
  cases ys with
  | nil => simp at h1
  | cons y ys =>
    refine ⟨y, ys, rfl, by simpa using h2 0 (by simp), by simpa using h1, fun i hi => ?_⟩
    simpa using h2 (i + 1) (by simpa using hi)
theorem RVs.nil_left {m : Emb} {ys : List Value} (r : RVs m [] ys) : ys = [] := by
  cases ys with
  | nil => rfl
  | cons y ys => exact absurd r.1 (by simp)
theorem RVs.append {m : Emb} {xs xs' ys ys' : List Value} (h : RVs m xs xs') (k : RVs m ys ys') : RVs m (xs ++ ys) (xs' ++ ys') := by
  induction xs generalizing xs' with
  | nil => obtain rfl := h.nil_left; exact k
  | cons x xs ih =>
    obtain ⟨x', t, rfl, h1, h2⟩ := h.head
    exact .cons h1 (ih h2)
theorem RVs.drop {m : Emb} : ∀ (n : Nat) {xs xs' : List Value}, RVs m xs xs' → RVs m (xs.drop n) (xs'.drop n)
  | 0, _, _, h => by simpa using h
  | n + 1, [], ys, h => by obtain rfl := h.nil_left; simpa using h
  | n + 1, x :: xs, ys, h => by
    obtain ⟨x', t, rfl, h1, h2⟩ := h.head
    simpa using RVs.drop n h2
theorem RVs.take {m : Emb} : ∀ (n : Nat) {xs xs' : List Value}, RVs m xs xs' → RVs m (xs.take n) (xs'.take n)
  | 0, _, _, h => by simpa using RVs.nil m
  | n + 1, [], ys, h => by obtain rfl := h.nil_left; simpa using h
  | n + 1, x :: xs, ys, h => by
    obtain ⟨x', t, rfl, h1, h2⟩ := h.head
    simpa using RVs.cons h1 (RVs.take n h2)
theorem RVs.at_ {m : Emb} {xs xs' : List Value} (h : RVs m xs xs') {i : Nat} {v : Value} (hv : xs[i]? = some v) : ∃ v', xs'[i]? = some v' ∧ RV m v v' := by
  obtain ⟨hlt, rfl⟩ := List.getElem?_eq_some_iff.1 hv
  have hlt' : i < xs'.length := by rw [← h.1]; exact hlt
  refine ⟨xs'[i], List.getElem?_eq_getElem hlt', ?_⟩
  have := h.2 i hlt
  simpa [List.getD_eq_getElem?_getD, List.getElem?_eq_getElem hlt, List.getElem?_eq_getElem hlt'] using this
theorem RVs.of_at {m : Emb} {xs xs' : List Value} (hl : xs.length = xs'.length) (h : ∀ (i : Nat) (v v' : Value), xs[i]? = some v → xs'[i]? = some v' → RV m v v') : RVs m xs xs' :=
  ⟨hl, fun i hi => by
    have hi' : i < xs'.length := by omega
    have := h i _ _ (List.getElem?_eq_getElem hi) (List.getElem?_eq_getElem hi')
    simpa [List.getD_eq_getElem?_getD, List.getElem?_eq_getElem hi, List.getElem?_eq_getElem hi'] using this⟩
theorem RV.agg_iff {m : Emb} {xs : List Value} {v' : Value} (h : RV m (.agg ⟨xs⟩) v') : ∃ xs', v' = .agg ⟨xs'⟩ ∧ RVs m xs xs' := by
  cases h with
  | flat _ h => simp [Ev.flat] at h
  | agg _ xs' h1 h2 => exact ⟨xs', rfl, h1, h2⟩
theorem RV.tuple_iff {m : Emb} {xs : List Value} {v' : Value} (h : RV m (.tuple ⟨xs⟩) v') : ∃ xs', v' = .tuple ⟨xs'⟩ ∧ RVs m xs xs' := by
  cases h with
  | flat _ h => simp [Ev.flat] at h
  | tuple _ xs' h1 h2 => exact ⟨xs', rfl, h1, h2⟩
theorem RV.iface_iff {m : Emb} {t : TypeId} {v v' : Value} (h : RV m (.iface t v) v') : ∃ u, v' = .iface t u ∧ RV m v u := by
  cases h with
  | flat _ h => simp [Ev.flat] at h
  | iface _ _ u h => exact ⟨u, rfl, h⟩
theorem RV.func_iff {m : Emb} {fn : Fn} (hn : noYield fn = true) {xs ys : List Value} {v' : Value} (h : RV m (.func fn ⟨xs⟩ ⟨ys⟩) v') : ∃ xs' ys', v' = .func fn ⟨xs'⟩ ⟨ys'⟩ ∧ RVs m xs xs' ∧ RVs m ys ys' := by
  cases h with
  | flat _ h => simp [Ev.flat] at h
  | func _ _ _ xs' _ ys' h1 h2 h3 h4 => exact ⟨xs', ys', rfl, ⟨h1, h3⟩, ⟨h2, h4⟩⟩
  | yield _ _ _ => simp [noYield] at hn
  | seq _ _ _ _ _ _ _ _ => simp [noYield] at hn
  | seqp _ _ _ _ _ _ _ _ _ => simp [noYield] at hn
  | sym _ _ _ _ _ _ _ _ => simp [noYield] at hn
def isMo : Fn → Bool
  | .methodOf _ _ => true
  | _ => false
def oddF : Fn → Bool
  | .methodOf _ _ => true
  | .yield _ => true
  | _ => false
theorem RV.func_any {m : Emb} {fn : Fn} (hn : oddF fn = false) {xs ys : Array Value} {v' : Value} (h : RV m (.func fn xs ys) v') : ∃ fn' xs' ys', v' = .func fn' xs' ys' := by
  cases h with
  | flat _ h => simp [Ev.flat] at h
  | func _ _ _ xs' _ ys' h1 h2 h3 h4 => exact ⟨_, _, _, rfl⟩
  | yield _ _ _ => exact ⟨_, _, _, rfl⟩
  | seq _ _ _ _ _ _ _ _ => simp [oddF] at hn
  | seqp _ _ _ _ _ _ _ _ _ => simp [oddF] at hn
  | sym _ _ _ _ _ _ _ _ => simp [oddF] at hn
theorem RV.yield_iff {m : Emb} {b : Nat} {v' : Value} (h : RV m (.func (.yield b) ⟨[]⟩ ⟨[]⟩) v') : ∃ c, v' = .func (.yield c) ⟨[]⟩ ⟨[]⟩ ∧ ∃ e, m b = some e ∧ e.c = c := by
  cases h with
  | flat _ h => simp [Ev.flat] at h
  | func _ hn _ _ _ _ _ _ _ _ => simp [noYield] at hn
  | yield _ c h => exact ⟨c, rfl, h⟩
theorem RV.seqp_iff {m : Emb} {b : Nat} {i z o : Value} {v' : Value} (h : RV m (.func (.yield b) ⟨[i, z, o]⟩ ⟨[]⟩) v') : ∃ a', v' = .pointer (some a') := by
  cases h with
  | flat _ h => simp [Ev.flat] at h
  | func _ hn _ _ _ _ _ _ _ _ => simp [noYield] at hn
  | seqp _ _ _ _ _ _ a' _ _ => exact ⟨a', rfl⟩
theorem RV.seq_iff {m : Emb} {b : Nat} {n : Value} {v' : Value} (h : RV m (.func (.yield b) ⟨[n]⟩ ⟨[]⟩) v') : ∃ k c' a', v' = .slice (some a') k c' ∧ RV m n (.int .i64 (.ofNat k)) ∧ k ≤ c' ∧ ∃ e tot z, m b = some e ∧ e.op = some (tot, z) ∧ a' = ⟨e.c, e.o, none⟩ ∧ e.o + c' * z ≤ tot := by
  cases h with
  | flat _ h => simp [Ev.flat] at h
  | func _ hn _ _ _ _ _ _ _ _ => simp [noYield] at hn
  | seq _ _ k c' a' hn hc hb => exact ⟨k, c', a', rfl, hn, hc, hb⟩
theorem RV.seqp_parts {m : Emb} {b : Nat} {i : Value} {z o : Nat} {v' : Value} (h : RV m (.func (.yield b) ⟨[i, .int .u64 (.ofNat z), .int .u64 (.ofNat o)]⟩ ⟨[]⟩) v') : ∃ kd j e, v' = .pointer (some ⟨e.c, e.o + (j * z + o), none⟩) ∧ RV m i (.int kd (.ofNat j)) ∧ m b = some e := by
  cases h with
  | flat _ h => simp [Ev.flat] at h
  | func _ hn _ _ _ _ _ _ _ _ => simp [noYield] at hn
  | seqp _ _ kd j _ _ a' hi hb =>
    obtain ⟨e, he, rfl⟩ := hb
    exact ⟨kd, j, e, rfl, hi, he⟩
theorem RV.ptr_iff {m : Emb} {a : Addr} {v' : Value} (h : RV m (.pointer (some a)) v') : ∃ a', v' = .pointer (some a') ∧ RA m a a' := by
  cases h with
  | flat _ h => simp [Ev.flat] at h
  | ptr _ a' h => exact ⟨a', rfl, h⟩
theorem RV.slice_iff {m : Emb} {a : Addr} {n c : Nat} {v' : Value} (h : RV m (.slice (some a) n c) v') : ∃ a' c', v' = .slice (some a') n c' ∧ RS m a n c a' c' := by
  cases h with
  | flat _ h => simp [Ev.flat] at h
  | slice _ a' _ _ c' h => exact ⟨a', c', rfl, h⟩
theorem RV.chan_iff {m : Emb} {k : Nat} {v' : Value} (h : RV m (.chan (some k)) v') : k % 1048576 < 1048576 ∧ v' = .pointer (some ⟨k / 1048576, k % 1048576, none⟩) := by
  refine ⟨Nat.mod_lt _ (by decide), ?_⟩
  cases h with
  | flat _ h => simp [Ev.flat] at h
  | glob g o h =>
    have h1 : (g * 1048576 + o) / 1048576 = g := by omega
    have h2 : (g * 1048576 + o) % 1048576 = o := by omega
    rw [h1, h2]
theorem RV.map_iff {m : Emb} {b : Nat} {v' : Value} (h : RV m (.map (some b)) v') : ∃ c, v' = .map (some c) ∧ ∃ e, m b = some e ∧ e.c = c := by
  cases h with
  | flat _ h => simp [Ev.flat] at h
  | map _ c h => exact ⟨c, rfl, h⟩
theorem RV.flat_iff {m : Emb} {v v' : Value} (h : RV m v v') (hf : Ev.flat v = true) : v' = v := by
  cases h <;> first | rfl | (simp [Ev.flat] at hf)
theorem RV.sym_iff {m : Emb} {e v' : Value} (h : RV m e v') (hs : isSym e = true) : (∃ d, den m.s m.u d e = some v') ∧ tyOk (symTy e) v' = true := by
  cases h <;> first
    | (simp [isSym] at hs; done)
    | skip
  · rename_i hf
    cases e <;> simp [isSym, Ev.flat] at hs hf
  · rename_i fn hfn xs xs' ys ys' hx hy h1 h2
    cases fn <;> simp [isSym, noYield] at hs hfn
  · rename_i d hd ht
    exact ⟨⟨d, hd⟩, ht⟩
def symFlat (e : Value) : Bool := isSym e || Ev.flat e
theorem RV.den_iff {m : Emb} {e v' : Value} (h : RV m e v') (hs : symFlat e = true) : ∃ d, den m.s m.u d e = some v' := by
  cases hi : isSym e with
  | true => exact (h.sym_iff hi).1
  | false =>
    have hf : Ev.flat e = true := by simpa [symFlat, hi] using hs
    rw [h.flat_iff hf]
    exact ⟨1, den_flat hf 0⟩
theorem RVs.den_iff {m : Emb} : ∀ {l l' : List Value}, RVs m l l' → l.all symFlat = true → ∃ d, mapO (den m.s m.u d) l = some l' := by
  intro l
  induction l with
  | nil => intro l' h _; rw [h.nil_left]; exact ⟨0, rfl⟩
  | cons x l ih =>
    intro l' h hs
    obtain ⟨x', t, rfl, h1, h2⟩ := h.head
    simp only [List.all_cons, Bool.and_eq_true] at hs
    obtain ⟨d1, k1⟩ := h1.den_iff hs.1
    obtain ⟨d2, k2⟩ := ih h2 hs.2
    refine ⟨max d1 d2, ?_⟩
    have e1 := den_mono (Nat.le_max_left d1 d2) k1
    have e2 := mapO_mono (fun x y => den_mono (Nat.le_max_right d1 d2)) _ _ k2
    simp only [mapO, e1, e2]
theorem RV.app {m : Emb} {l l' : List Value} (h : RVs m l l') (hs : l.all symFlat = true) {k ty : Nat} {r : Value} (hu : m.u k l' = some r) (ht : tyOk ty r = true) : RV m (sy ty (k + 1) l) r := by
  obtain ⟨d, hd⟩ := h.den_iff hs
  refine .sym (k + 1) "" ⟨l⟩ ⟨[.int .u64 (.ofNat ty)]⟩ r (d + 1) ?_ ht
  show den1 _ _ _ _ = _
  simp only [den1, hd, hu]
theorem RV.given {m : Emb} {ty i : Nat} (ht : tyOk ty (m.s i) = true) : RV m (unk ty i) (m.s i) :=
  .sym 0 "" ⟨[.int .u64 (.ofNat i)]⟩ ⟨[.int .u64 (.ofNat ty)]⟩ (m.s i) 1 rfl ht
section
variable {α : Type}
def lEq (f : α → α → Bool) : List α → List α → Bool
  | [], [] => true
  | x :: xs, y :: ys => match f x y with
    | true => lEq f xs ys
    | false => false
  | _, _ => false
theorem lEq_ok {f : α → α → Bool} (h : ∀ a b, f a b = true → a = b) : ∀ (xs ys : List α), lEq f xs ys = true → xs = ys
  | [], [], _ => rfl
  | [], _ :: _, e => by simp [lEq] at e
  | _ :: _, [], e => by simp [lEq] at e
  | x :: xs, y :: ys, e => by
    unfold lEq at e
    split at e
    · rename_i h1
      rw [h _ _ h1, lEq_ok h xs ys e]
    · cases e
def oEq (f : α → α → Bool) : Option α → Option α → Bool
  | none, none => true
  | some x, some y => f x y
  | _, _ => false
theorem oEq_ok {f : α → α → Bool} (h : ∀ a b, f a b = true → a = b) : ∀ (x y : Option α), oEq f x y = true → x = y
  | none, none, _ => rfl
  | none, some _, e => by simp [oEq] at e
  | some _, none, e => by simp [oEq] at e
  | some x, some y, e => by rw [h x y e]
noncomputable def eq16 (f : α → α → Bool) (a b : B16 α) : Bool :=
  B16.rec (motive := fun _ => (α → α → Bool) → B16 α → Bool) (fun x0 x1 x2 x3 x4 x5 x6 x7 x8 x9 x10 x11 x12 x13 x14 x15 f b => B16.rec (motive := fun _ => Bool) (fun y0 y1 y2 y3 y4 y5 y6 y7 y8 y9 y10 y11 y12 y13 y14 y15 => Bool.rec (motive := fun _ => Bool) false (Bool.rec (motive := fun _ => Bool) false (Bool.rec (motive := fun _ => Bool) false (Bool.rec (motive := fun _ => Bool) false (Bool.rec (motive := fun _ => Bool) false (Bool.rec (motive := fun _ => Bool) false (Bool.rec (motive := fun _ => Bool) false (Bool.rec (motive := fun _ => Bool) false (Bool.rec (motive := fun _ => Bool) false (Bool.rec (motive := fun _ => Bool) false (Bool.rec (motive := fun _ => Bool) false (Bool.rec (motive := fun _ => Bool) false (Bool.rec (motive := fun _ => Bool) false (Bool.rec (motive := fun _ => Bool) false (Bool.rec (motive := fun _ => Bool) false (Bool.rec (motive := fun _ => Bool) false (true) (f x15 y15)) (f x14 y14)) (f x13 y13)) (f x12 y12)) (f x11 y11)) (f x10 y10)) (f x9 y9)) (f x8 y8)) (f x7 y7)) (f x6 y6)) (f x5 y5)) (f x4 y4)) (f x3 y3)) (f x2 y2)) (f x1 y1)) (f x0 y0)) b) a f b
theorem band_rec {x y : Bool} (h : Bool.rec (motive := fun _ => Bool) false y x = true) : x = true ∧ y = true := by
  cases x with
  | false => cases h
  | true => exact ⟨rfl, h⟩
theorem eq16_ok {f : α → α → Bool} (h : ∀ a b, f a b = true → a = b) (a b : B16 α) (e : eq16 f a b = true) : a = b := by
  cases a
  cases b
  obtain ⟨h0, e⟩ := band_rec e
  obtain ⟨h1, e⟩ := band_rec e
  obtain ⟨h2, e⟩ := band_rec e
  obtain ⟨h3, e⟩ := band_rec e
  obtain ⟨h4, e⟩ := band_rec e
  obtain ⟨h5, e⟩ := band_rec e
  obtain ⟨h6, e⟩ := band_rec e
  obtain ⟨h7, e⟩ := band_rec e
  obtain ⟨h8, e⟩ := band_rec e
  obtain ⟨h9, e⟩ := band_rec e
  obtain ⟨h10, e⟩ := band_rec e
  obtain ⟨h11, e⟩ := band_rec e
  obtain ⟨h12, e⟩ := band_rec e
  obtain ⟨h13, e⟩ := band_rec e
  obtain ⟨h14, e⟩ := band_rec e
  obtain ⟨h15, e⟩ := band_rec e
  simp only [B16.mk.injEq]
  exact ⟨h _ _ h0, h _ _ h1, h _ _ h2, h _ _ h3, h _ _ h4, h _ _ h5, h _ _ h6, h _ _ h7, h _ _ h8, h _ _ h9, h _ _ h10, h _ _ h11, h _ _ h12, h _ _ h13, h _ _ h14, h _ _ h15⟩
noncomputable def oEqQ (f : α → α → Bool) (x y : Option α) : Bool :=
  Option.rec (motive := fun _ => Bool) (Option.rec (motive := fun _ => Bool) true (fun _ => false) y) (fun a => Option.rec (motive := fun _ => Bool) false (fun b => f a b) y) x
theorem oEqQ_eq (f : α → α → Bool) (x y : Option α) : oEqQ f x y = oEq f x y := by cases x <;> cases y <;> rfl
theorem oEqQ_ok {f : α → α → Bool} (h : ∀ a b, f a b = true → a = b) (x y : Option α) (e : oEqQ f x y = true) : x = y := oEq_ok h x y (by rw [← oEqQ_eq]; exact e)
def prEq (f : α → α → Bool) (p q : Nat × α) : Bool := Nat.beq p.1 q.1 && f p.2 q.2
theorem prEq_ok {f : α → α → Bool} (h : ∀ a b, f a b = true → a = b) (p q : Nat × α) (e : prEq f p q = true) : p = q := by
  unfold prEq at e
  rw [Bool.and_eq_true] at e
  exact Prod.ext (Nat.eq_of_beq_eq_true e.1) (h _ _ e.2)
noncomputable def trEq (f : α → α → Bool) (x y : Tr α) : Bool :=
  Bool.rec (motive := fun _ => Bool) false (Bool.rec (motive := fun _ => Bool) false (Bool.rec (motive := fun _ => Bool) false (Bool.rec (motive := fun _ => Bool) false (lEq (prEq f) x.o y.o) (oEqQ (eq16 (oEqQ (eq16 (oEqQ (eq16 (oEqQ (eq16 (oEqQ f)))))))) x.h y.h)) (oEqQ (eq16 (oEqQ (eq16 (oEqQ (eq16 (oEqQ f)))))) x.l y.l)) (eq16 (oEqQ (eq16 (oEqQ f))) x.m y.m)) (eq16 (oEqQ f) x.s y.s)
theorem trEq_ok {f : α → α → Bool} (h : ∀ a b, f a b = true → a = b) (x y : Tr α) (e : trEq f x y = true) : x = y := by
  obtain ⟨h1, e⟩ := band_rec e
  obtain ⟨h2, e⟩ := band_rec e
  obtain ⟨h3, e⟩ := band_rec e
  obtain ⟨h4, h5⟩ := band_rec e
  have k1 := fun a b => eq16_ok (f := oEqQ f) (oEqQ_ok h) a b
  have k2 := fun a b => eq16_ok (oEqQ_ok k1) a b
  have k3 := fun a b => eq16_ok (oEqQ_ok k2) a b
  have k4 := fun a b => eq16_ok (oEqQ_ok k3) a b
  cases x
  cases y
  simp only [Tr.mk.injEq]
  exact ⟨k1 _ _ h1, k2 _ _ h2, oEqQ_ok k3 _ _ h3, oEqQ_ok k4 _ _ h4, lEq_ok (prEq_ok h) _ _ h5⟩
end
def intEq (a b : Int) : Bool :=
  match a, b with
  | .ofNat x, .ofNat y => Nat.beq x y
  | .negSucc x, .negSucc y => Nat.beq x y
  | _, _ => false
theorem intEq_ok : ∀ (a b : Int), intEq a b = true → a = b
  | .ofNat x, .ofNat y, h => by rw [Nat.eq_of_beq_eq_true h]
  | .negSucc x, .negSucc y, h => by rw [Nat.eq_of_beq_eq_true h]
  | .ofNat _, .negSucc _, h => by simp [intEq] at h
  | .negSucc _, .ofNat _, h => by simp [intEq] at h
def bytesEq (a b : ByteArray) : Bool := lEq (fun x y => Nat.beq x.toNat y.toNat) a.data.toList b.data.toList
theorem bytesEq_ok (a b : ByteArray) (h : bytesEq a b = true) : a = b := by
  have := lEq_ok (f := fun (x y : UInt8) => Nat.beq x.toNat y.toNat) (fun x y h => UInt8.toNat_inj.1 (Nat.eq_of_beq_eq_true h)) _ _ h
  obtain ⟨⟨a⟩⟩ := a
  obtain ⟨⟨b⟩⟩ := b
  simp only at this
  rw [this]
def addrEq (a b : Addr) : Bool :=
  match a, b with
  | ⟨x, i, none⟩, ⟨y, j, none⟩ => match Nat.beq x y with
    | true => Nat.beq i j
    | false => false
  | _, _ => false
theorem addrEq_ok : ∀ (a b : Addr), addrEq a b = true → a = b
  | ⟨x, i, none⟩, ⟨y, j, none⟩, h => by
    unfold addrEq at h
    simp only at h
    split at h
    · rename_i h1
      rw [Nat.eq_of_beq_eq_true h1, Nat.eq_of_beq_eq_true h]
    · cases h
  | ⟨_, _, some _⟩, _, h => by simp [addrEq] at h
  | ⟨_, _, none⟩, ⟨_, _, some _⟩, h => by simp [addrEq] at h
def fnEq : Fn → Fn → Bool
  | .func f, .func g => Nat.beq f g
  | .yield f, .yield g => Nat.beq f g
  | .methodOf t n, .methodOf t' n' => match decide (n = n') with
    | true => Nat.beq t t'
    | false => false
  | _, _ => false
theorem fnEq_ok : ∀ (a b : Fn), fnEq a b = true → a = b := by
  intro a b h
  cases a <;> cases b <;> first
    | (simp [fnEq] at h; done)
    | (rw [Nat.eq_of_beq_eq_true h])
    | (simp only [fnEq] at h; split at h <;> first | (cases h; done) | (rename_i hn; rw [Nat.eq_of_beq_eq_true h, of_decide_eq_true hn]))
def kindEq (a b : IntKind) : Bool := decide (a = b)
def vEq : Nat → Value → Value → Bool
  | 0, _, _ => false
  | _ + 1, .bool a, .bool b => a == b
  | _ + 1, .int k a, .int k' b => match kindEq k k' with
    | true => intEq a b
    | false => false
  | _ + 1, .string a, .string b => bytesEq a b
  | _ + 1, .pointer a, .pointer b => oEq addrEq a b
  | _ + 1, .slice a n c, .slice b n' c' => match oEq addrEq a b, Nat.beq n n' with
    | true, true => Nat.beq c c'
    | _, _ => false
  | _ + 1, .map a, .map b => oEq Nat.beq a b
  | _ + 1, .chan a, .chan b => oEq Nat.beq a b
  | d + 1, .func f xs ys, .func g xs' ys' => match fnEq f g, lEq (vEq d) xs.toList xs'.toList with
    | true, true => lEq (vEq d) ys.toList ys'.toList
    | _, _ => false
  | _ + 1, .nilFunc, .nilFunc => true
  | d + 1, .iface t v, .iface u v' => match Nat.beq t u with
    | true => vEq d v v'
    | false => false
  | _ + 1, .nilIface, .nilIface => true
  | d + 1, .agg xs, .agg ys => lEq (vEq d) xs.toList ys.toList
  | d + 1, .tuple xs, .tuple ys => lEq (vEq d) xs.toList ys.toList
  | _, _, _ => false
theorem arr_of_list {α : Type} {a b : Array α} (h : a.toList = b.toList) : a = b := Array.ext' h
theorem vEq_ok : ∀ (d : Nat) (a b : Value), vEq d a b = true → a = b := by
  intro d
  induction d with
  | zero => intro a b h; simp [vEq] at h
  | succ d ih =>
    intro a b h
    have hl := lEq_ok ih
    cases a <;> cases b <;> first
      | (simp [vEq] at h; done)
      | rfl
      | skip
    · simp only [vEq, beq_iff_eq] at h; rw [h]
    · simp only [vEq] at h
      split at h
      · rename_i h1
        rw [of_decide_eq_true h1, intEq_ok _ _ h]
      · cases h
    · rw [bytesEq_ok _ _ h]
    · rw [oEq_ok addrEq_ok _ _ h]
    · simp only [vEq] at h
      split at h
      · rename_i h1 h2
        rw [oEq_ok addrEq_ok _ _ h1, Nat.eq_of_beq_eq_true h2, Nat.eq_of_beq_eq_true h]
      · cases h
    · rw [oEq_ok (fun _ _ => Nat.eq_of_beq_eq_true) _ _ h]
    · rw [oEq_ok (fun _ _ => Nat.eq_of_beq_eq_true) _ _ h]
    · simp only [vEq] at h
      split at h
      · rename_i h1 h2
        rw [fnEq_ok _ _ h1, arr_of_list (hl _ _ h2), arr_of_list (hl _ _ h)]
      · cases h
    · simp only [vEq] at h
      split at h
      · rename_i h1
        rw [Nat.eq_of_beq_eq_true h1, ih _ _ h]
      · cases h
    · simp only [vEq] at h; rw [arr_of_list (hl _ _ h)]
    · simp only [vEq] at h; rw [arr_of_list (hl _ _ h)]
noncomputable def lookS (e : Value) (l : List (Value × Bool)) : Option Bool :=
  List.rec (motive := fun _ => Option Bool) none (fun p _ ih => match vEq 60 p.1 e with
    | true => some p.2
    | false => ih) l
theorem lookS_mem {e : Value} {b : Bool} : ∀ {l : List (Value × Bool)}, lookS e l = some b → (e, b) ∈ l := by
  intro l
  induction l with
  | nil => intro h; cases h
  | cons p l ih =>
    obtain ⟨p1, p2⟩ := p
    intro h0
    have h : (match vEq 60 p1 e with | true => some p2 | false => lookS e l) = some b := h0
    clear h0
    split at h
    · rename_i hv
      injection h with h
      obtain rfl := vEq_ok 60 _ _ hv
      subst h
      exact List.mem_cons_self
    · exact List.mem_cons_of_mem _ (ih h)
end Go.Proofs.YtaepplhgeeaidaaDoor.Ev
