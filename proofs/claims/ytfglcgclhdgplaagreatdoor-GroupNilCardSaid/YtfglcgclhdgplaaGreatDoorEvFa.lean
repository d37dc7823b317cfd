/- The third reckoner: the second one for code that is plain, quick in the kernel. Its answers are the second one's. -/
import Derived.Test.YtfglcgclhdgplaaGreatDoorEvZ
set_option linter.unusedVariables false
set_option linter.unusedSimpArgs false
namespace Go.Proofs.YtfglcgclhdgplaaGreatDoor.Ev
open Go Go.RowKit

/-! Frames: sixteen times sixteen places. -/
structure Upd (α β : Type) where
  go : B16 α → (α → (α → β) → β) → (B16 α → β) → β

noncomputable def updS (α β : Type) : Nat → Upd α β
  | 0 => ⟨fun b f k => B16.rec (motive := fun _ => (α → (α → β) → β) → (B16 α → β) → β) (fun x0 x1 x2 x3 x4 x5 x6 x7 x8 x9 x10 x11 x12 x13 x14 x15 f k => f x0 (fun y => k ⟨y, x1, x2, x3, x4, x5, x6, x7, x8, x9, x10, x11, x12, x13, x14, x15⟩)) b f k⟩
  | 1 => ⟨fun b f k => B16.rec (motive := fun _ => (α → (α → β) → β) → (B16 α → β) → β) (fun x0 x1 x2 x3 x4 x5 x6 x7 x8 x9 x10 x11 x12 x13 x14 x15 f k => f x1 (fun y => k ⟨x0, y, x2, x3, x4, x5, x6, x7, x8, x9, x10, x11, x12, x13, x14, x15⟩)) b f k⟩
  | 2 => ⟨fun b f k => B16.rec (motive := fun _ => (α → (α → β) → β) → (B16 α → β) → β) (fun x0 x1 x2 x3 x4 x5 x6 x7 x8 x9 x10 x11 x12 x13 x14 x15 f k => f x2 (fun y => k ⟨x0, x1, y, x3, x4, x5, x6, x7, x8, x9, x10, x11, x12, x13, x14, x15⟩)) b f k⟩
  | 3 => ⟨fun b f k => B16.rec (motive := fun _ => (α → (α → β) → β) → (B16 α → β) → β) (fun x0 x1 x2 x3 x4 x5 x6 x7 x8 x9 x10 x11 x12 x13 x14 x15 f k => f x3 (fun y => k ⟨x0, x1, x2, y, x4, x5, x6, x7, x8, x9, x10, x11, x12, x13, x14, x15⟩)) b f k⟩
  | 4 => ⟨fun b f k => B16.rec (motive := fun _ => (α → (α → β) → β) → (B16 α → β) → β) (fun x0 x1 x2 x3 x4 x5 x6 x7 x8 x9 x10 x11 x12 x13 x14 x15 f k => f x4 (fun y => k ⟨x0, x1, x2, x3, y, x5, x6, x7, x8, x9, x10, x11, x12, x13, x14, x15⟩)) b f k⟩
  | 5 => ⟨fun b f k => B16.rec (motive := fun _ => (α → (α → β) → β) → (B16 α → β) → β) (fun x0 x1 x2 x3 x4 x5 x6 x7 x8 x9 x10 x11 x12 x13 x14 x15 f k => f x5 (fun y => k ⟨x0, x1, x2, x3, x4, y, x6, x7, x8, x9, x10, x11, x12, x13, x14, x15⟩)) b f k⟩
  | 6 => ⟨fun b f k => B16.rec (motive := fun _ => (α → (α → β) → β) → (B16 α → β) → β) (fun x0 x1 x2 x3 x4 x5 x6 x7 x8 x9 x10 x11 x12 x13 x14 x15 f k => f x6 (fun y => k ⟨x0, x1, x2, x3, x4, x5, y, x7, x8, x9, x10, x11, x12, x13, x14, x15⟩)) b f k⟩
  | 7 => ⟨fun b f k => B16.rec (motive := fun _ => (α → (α → β) → β) → (B16 α → β) → β) (fun x0 x1 x2 x3 x4 x5 x6 x7 x8 x9 x10 x11 x12 x13 x14 x15 f k => f x7 (fun y => k ⟨x0, x1, x2, x3, x4, x5, x6, y, x8, x9, x10, x11, x12, x13, x14, x15⟩)) b f k⟩
  | 8 => ⟨fun b f k => B16.rec (motive := fun _ => (α → (α → β) → β) → (B16 α → β) → β) (fun x0 x1 x2 x3 x4 x5 x6 x7 x8 x9 x10 x11 x12 x13 x14 x15 f k => f x8 (fun y => k ⟨x0, x1, x2, x3, x4, x5, x6, x7, y, x9, x10, x11, x12, x13, x14, x15⟩)) b f k⟩
  | 9 => ⟨fun b f k => B16.rec (motive := fun _ => (α → (α → β) → β) → (B16 α → β) → β) (fun x0 x1 x2 x3 x4 x5 x6 x7 x8 x9 x10 x11 x12 x13 x14 x15 f k => f x9 (fun y => k ⟨x0, x1, x2, x3, x4, x5, x6, x7, x8, y, x10, x11, x12, x13, x14, x15⟩)) b f k⟩
  | 10 => ⟨fun b f k => B16.rec (motive := fun _ => (α → (α → β) → β) → (B16 α → β) → β) (fun x0 x1 x2 x3 x4 x5 x6 x7 x8 x9 x10 x11 x12 x13 x14 x15 f k => f x10 (fun y => k ⟨x0, x1, x2, x3, x4, x5, x6, x7, x8, x9, y, x11, x12, x13, x14, x15⟩)) b f k⟩
  | 11 => ⟨fun b f k => B16.rec (motive := fun _ => (α → (α → β) → β) → (B16 α → β) → β) (fun x0 x1 x2 x3 x4 x5 x6 x7 x8 x9 x10 x11 x12 x13 x14 x15 f k => f x11 (fun y => k ⟨x0, x1, x2, x3, x4, x5, x6, x7, x8, x9, x10, y, x12, x13, x14, x15⟩)) b f k⟩
  | 12 => ⟨fun b f k => B16.rec (motive := fun _ => (α → (α → β) → β) → (B16 α → β) → β) (fun x0 x1 x2 x3 x4 x5 x6 x7 x8 x9 x10 x11 x12 x13 x14 x15 f k => f x12 (fun y => k ⟨x0, x1, x2, x3, x4, x5, x6, x7, x8, x9, x10, x11, y, x13, x14, x15⟩)) b f k⟩
  | 13 => ⟨fun b f k => B16.rec (motive := fun _ => (α → (α → β) → β) → (B16 α → β) → β) (fun x0 x1 x2 x3 x4 x5 x6 x7 x8 x9 x10 x11 x12 x13 x14 x15 f k => f x13 (fun y => k ⟨x0, x1, x2, x3, x4, x5, x6, x7, x8, x9, x10, x11, x12, y, x14, x15⟩)) b f k⟩
  | 14 => ⟨fun b f k => B16.rec (motive := fun _ => (α → (α → β) → β) → (B16 α → β) → β) (fun x0 x1 x2 x3 x4 x5 x6 x7 x8 x9 x10 x11 x12 x13 x14 x15 f k => f x14 (fun y => k ⟨x0, x1, x2, x3, x4, x5, x6, x7, x8, x9, x10, x11, x12, x13, y, x15⟩)) b f k⟩
  | _ => ⟨fun b f k => B16.rec (motive := fun _ => (α → (α → β) → β) → (B16 α → β) → β) (fun x0 x1 x2 x3 x4 x5 x6 x7 x8 x9 x10 x11 x12 x13 x14 x15 f k => f x15 (fun y => k ⟨x0, x1, x2, x3, x4, x5, x6, x7, x8, x9, x10, x11, x12, x13, x14, y⟩)) b f k⟩
noncomputable def B16.get {α : Type} (i : Nat) (b : B16 α) : α := (selS α i).go b
noncomputable def B16.set {α : Type} : Nat → α → B16 α → B16 α
  | 0, y, b => ⟨y, b.x1, b.x2, b.x3, b.x4, b.x5, b.x6, b.x7, b.x8, b.x9, b.x10, b.x11, b.x12, b.x13, b.x14, b.x15⟩
  | 1, y, b => ⟨b.x0, y, b.x2, b.x3, b.x4, b.x5, b.x6, b.x7, b.x8, b.x9, b.x10, b.x11, b.x12, b.x13, b.x14, b.x15⟩
  | 2, y, b => ⟨b.x0, b.x1, y, b.x3, b.x4, b.x5, b.x6, b.x7, b.x8, b.x9, b.x10, b.x11, b.x12, b.x13, b.x14, b.x15⟩
  | 3, y, b => ⟨b.x0, b.x1, b.x2, y, b.x4, b.x5, b.x6, b.x7, b.x8, b.x9, b.x10, b.x11, b.x12, b.x13, b.x14, b.x15⟩
  | 4, y, b => ⟨b.x0, b.x1, b.x2, b.x3, y, b.x5, b.x6, b.x7, b.x8, b.x9, b.x10, b.x11, b.x12, b.x13, b.x14, b.x15⟩
  | 5, y, b => ⟨b.x0, b.x1, b.x2, b.x3, b.x4, y, b.x6, b.x7, b.x8, b.x9, b.x10, b.x11, b.x12, b.x13, b.x14, b.x15⟩
  | 6, y, b => ⟨b.x0, b.x1, b.x2, b.x3, b.x4, b.x5, y, b.x7, b.x8, b.x9, b.x10, b.x11, b.x12, b.x13, b.x14, b.x15⟩
  | 7, y, b => ⟨b.x0, b.x1, b.x2, b.x3, b.x4, b.x5, b.x6, y, b.x8, b.x9, b.x10, b.x11, b.x12, b.x13, b.x14, b.x15⟩
  | 8, y, b => ⟨b.x0, b.x1, b.x2, b.x3, b.x4, b.x5, b.x6, b.x7, y, b.x9, b.x10, b.x11, b.x12, b.x13, b.x14, b.x15⟩
  | 9, y, b => ⟨b.x0, b.x1, b.x2, b.x3, b.x4, b.x5, b.x6, b.x7, b.x8, y, b.x10, b.x11, b.x12, b.x13, b.x14, b.x15⟩
  | 10, y, b => ⟨b.x0, b.x1, b.x2, b.x3, b.x4, b.x5, b.x6, b.x7, b.x8, b.x9, y, b.x11, b.x12, b.x13, b.x14, b.x15⟩
  | 11, y, b => ⟨b.x0, b.x1, b.x2, b.x3, b.x4, b.x5, b.x6, b.x7, b.x8, b.x9, b.x10, y, b.x12, b.x13, b.x14, b.x15⟩
  | 12, y, b => ⟨b.x0, b.x1, b.x2, b.x3, b.x4, b.x5, b.x6, b.x7, b.x8, b.x9, b.x10, b.x11, y, b.x13, b.x14, b.x15⟩
  | 13, y, b => ⟨b.x0, b.x1, b.x2, b.x3, b.x4, b.x5, b.x6, b.x7, b.x8, b.x9, b.x10, b.x11, b.x12, y, b.x14, b.x15⟩
  | 14, y, b => ⟨b.x0, b.x1, b.x2, b.x3, b.x4, b.x5, b.x6, b.x7, b.x8, b.x9, b.x10, b.x11, b.x12, b.x13, y, b.x15⟩
  | _, y, b => ⟨b.x0, b.x1, b.x2, b.x3, b.x4, b.x5, b.x6, b.x7, b.x8, b.x9, b.x10, b.x11, b.x12, b.x13, b.x14, y⟩

theorem B16.get_set {α : Type} {i j : Nat} (hi : i < 16) (hj : j < 16) (y : α) (b : B16 α) : B16.get j (B16.set i y b) = if j = i then y else B16.get j b := by
  rcases nat16 hi with rfl | rfl | rfl | rfl | rfl | rfl | rfl | rfl | rfl | rfl | rfl | rfl | rfl | rfl | rfl | rfl <;>
  rcases nat16 hj with rfl | rfl | rfl | rfl | rfl | rfl | rfl | rfl | rfl | rfl | rfl | rfl | rfl | rfl | rfl | rfl <;> rfl
theorem updS_go {α β : Type} {i : Nat} (hi : i < 16) (b : B16 α) (f : α → (α → β) → β) (k : B16 α → β) : (updS α β i).go b f k = f (B16.get i b) (fun y => k (B16.set i y b)) := by
  cases b
  rcases nat16 hi with rfl | rfl | rfl | rfl | rfl | rfl | rfl | rfl | rfl | rfl | rfl | rfl | rfl | rfl | rfl | rfl <;> rfl

abbrev Fr := B16 (B16 (Option Value))
abbrev RA2 := Option (Res × Hp)
noncomputable def Fr.get (i : Nat) (fr : Fr) : Option Value := B16.get (Nat.mod i 16) (B16.get (Nat.div i 16) fr)
noncomputable def Fr.set (i : Nat) (v : Option Value) (fr : Fr) : Fr := B16.set (Nat.div i 16) (B16.set (Nat.mod i 16) v (B16.get (Nat.div i 16) fr)) fr
theorem Fr.get_set {i j : Nat} (hi : i < 256) (hj : j < 256) (v : Option Value) (fr : Fr) : Fr.get j (Fr.set i v fr) = if j = i then v else Fr.get j fr := by
  have a1 : i / 16 < 16 := by omega
  have a2 : j / 16 < 16 := by omega
  have b1 : i % 16 < 16 := by omega
  have b2 : j % 16 < 16 := by omega
  show B16.get (j % 16) (B16.get (j / 16) (B16.set (i / 16) (B16.set (i % 16) v (B16.get (i / 16) fr)) fr)) = if j = i then v else B16.get (j % 16) (B16.get (j / 16) fr)
  rw [B16.get_set a1 a2]
  by_cases h : j / 16 = i / 16
  · rw [if_pos h, B16.get_set b1 b2, h]
    by_cases h' : j % 16 = i % 16
    · rw [if_pos h', if_pos (by omega)]
    · rw [if_neg h', if_neg (by omega)]
  · rw [if_neg h, if_neg (by rintro rfl; exact h rfl)]

noncomputable def rowN : B16 (Option Value) := ⟨none, none, none, none, none, none, none, none, none, none, none, none, none, none, none, none⟩
noncomputable def frN : Fr := ⟨rowN, rowN, rowN, rowN, rowN, rowN, rowN, rowN, rowN, rowN, rowN, rowN, rowN, rowN, rowN, rowN⟩
theorem frN_get {i : Nat} (hi : i < 256) : Fr.get i frN = none := by
  have a1 : i / 16 < 16 := by omega
  have b1 : i % 16 < 16 := by omega
  show B16.get (i % 16) (B16.get (i / 16) frN) = none
  have h : B16.get (i / 16) frN = rowN := by
    rcases nat16 a1 with h | h | h | h | h | h | h | h | h | h | h | h | h | h | h | h <;> rw [h] <;> rfl
  rw [h]
  rcases nat16 b1 with h | h | h | h | h | h | h | h | h | h | h | h | h | h | h | h <;> rw [h] <;> rfl

/-! What is done at each place, made ready once. -/
structure Rd where
  go : Fr → Option Value
structure Wr where
  go : Option Value → Fr → (Fr → RA2) → RA2
structure Put where
  go : Value → Fr → (Fr → RA2) → RA2
structure FO where
  go : CallF → Fr → Hp → (Fr → Hp → RA2) → (Value → Fr → Hp → RA2) → RA2
structure FC where
  go : CallF → Fr → Hp → (Fr → Hp → RA2) → (AX → Fr → Hp → RA2) → RA2

noncomputable def slotS (t : Nat) : Rd := ⟨fun fr => (selS (Option Value) (Nat.mod t 16)).go ((selS (B16 (Option Value)) (Nat.div t 16)).go fr)⟩
noncomputable def rdS : Operand → Rd
  | .tmp t => slotS t
  | .const v => ⟨fun _ => constQ v⟩
  | .global g => ⟨fun _ => some (.chan (some (g * 1048576)))⟩
  | .func f => ⟨fun _ => some (.func (.func f) ⟨[]⟩ ⟨[]⟩)⟩
noncomputable def wrS (t : Nat) : Wr := ⟨fun v fr k => (updS (B16 (Option Value)) RA2 (Nat.div t 16)).go fr (fun row k2 => (updS (Option Value) RA2 (Nat.mod t 16)).go row (fun _ k3 => k3 v) k2) k⟩
noncomputable def putS (sz : Nat) : Option Tmp → Put
  | none => ⟨fun _ fr k => k fr⟩
  | some d => match Nat.blt d sz && Nat.blt d 256 with
    | true => ⟨fun v fr k => (wrS d).go (some v) fr k⟩
    | false => ⟨fun _ _ _ => none⟩

noncomputable def oneO (o : Option Value) (f : Value → RA2) : RA2 := Option.rec (motive := fun _ => RA2) none f o
noncomputable def oneP (o : Val) (f : Value → Hp → RA2) : RA2 := Option.rec (motive := fun _ => RA2) none (fun p => Prod.rec (motive := fun _ => RA2) f p) o
noncomputable def oneR (o : RVal) (f : Value → Hp → RA2) (g : Value → Hp → RA2) : RA2 :=
  Option.rec (motive := fun _ => RA2) none (fun l => List.rec (motive := fun _ => RA2) none (fun x l _ => List.rec (motive := fun _ => RA2)
    (Res.rec (motive := fun _ => Hp → (Value → Hp → RA2) → (Value → Hp → RA2) → RA2) (fun v hp f _ => f v hp) (fun v hp _ g => g v hp) (fun _ _ _ _ => none) x.1 x.2 f g) (fun _ _ _ => none) l) l) o

noncomputable def forceR (v : Value) (f : Value → RA2) : RA2 := Value.rec (motive_1 := fun _ => (Value → RA2) → RA2) (motive_2 := fun _ => Unit) (motive_3 := fun _ => Unit) (fun b f => Bool.rec (motive := fun _ => RA2) (f (.bool false)) (f (.bool true)) b) (fun k n f => Int.rec (motive := fun _ => IntKind → (Value → RA2) → RA2) (fun a k f => Nat.rec (motive := fun _ => RA2) (f (.int k (.ofNat 0))) (fun p _ => f (.int k (.ofNat (Nat.succ p)))) a) (fun a k f => Nat.rec (motive := fun _ => RA2) (f (.int k (.negSucc 0))) (fun p _ => f (.int k (.negSucc (Nat.succ p)))) a) n k f) (fun k b f => f (.float k b)) (fun k r i f => f (.complex k r i)) (fun s f => f (.string s)) (fun a f => f (.pointer a)) (fun a n c f => f (.slice a n c)) (fun r f => f (.map r)) (fun r f => f (.chan r)) (fun fn xs ys _ _ f => f (.func fn xs ys)) (fun f => f (.nilFunc)) (fun t v _ f => f (.iface t v)) (fun f => f (.nilIface)) (fun cs _ f => f (.agg cs)) (fun vs _ f => f (.tuple vs)) (fun _ _ => ()) () (fun _ _ _ _ => ()) v f
theorem forceR_eq (v : Value) (f : Value → RA2) : forceR v f = f v := by
  cases v <;> first
    | rfl
    | (rename_i b; cases b <;> rfl)
    | (rename_i k n; cases n <;> (rename_i a; cases a <;> rfl))

/-! The operands, as a list. -/
structure Rdl where
  go : Fr → Option (List Value)
noncomputable def rdsS : List Operand → Rdl
  | [] => ⟨fun _ => some []⟩
  | x :: l => ⟨fun fr => Option.rec (motive := fun _ => Option (List Value)) none (fun v => Option.rec (motive := fun _ => Option (List Value)) none (fun vs => some (v :: vs)) ((rdsS l).go fr)) ((rdS x).go fr)⟩

/-- A small table of what an operation names. -/
structure Tiny where
  go : Fr → Tr Value
noncomputable def tinyS : List Operand → Tiny
  | [] => ⟨fun _ => .nil⟩
  | .tmp t :: l => ⟨fun fr => Option.rec (motive := fun _ => Tr Value) ((tinyS l).go fr) (fun v => ((tinyS l).go fr).set t v) ((slotS t).go fr)⟩
  | _ :: l => tinyS l

def okX : Operand → Bool
  | .tmp t => Nat.blt t 256
  | _ => true

/-! Operations. -/
noncomputable def retF (p : Put) (hp : Hp) (fr : Fr) (kn : Fr → Hp → RA2) (o : Option Value) : RA2 := oneO o fun v => forceR v fun v => p.go v fr fun fr => kn fr hp
noncomputable def retP (p : Put) (fr : Fr) (kn : Fr → Hp → RA2) (o : Val) : RA2 := oneP o fun v hp => forceR v fun v => p.go v fr fun fr => kn fr hp
noncomputable def slowF (cx : Cx) (p : Put) (o : Op) : FO :=
  match o.operands.toList.all okX with
  | true => ⟨fun call fr hp kn kp => oneR (evOpQ cx call ((tinyS o.operands.toList).go fr) hp o) (fun v hp => forceR v fun v => p.go v fr fun fr => kn fr hp) (fun v hp => kp v fr hp)⟩
  | false => ⟨fun _ _ _ _ _ => none⟩

noncomputable def lenF (cx : Cx) (t : TypeId) (v : Value) : Option Value := lenA cx t v
noncomputable def callF (cx : Cx) (p : Put) (c : Call) : FO :=
  match c.callee with
  | .value (.func f) => match cx.x f with
    | none => ⟨fun call fr hp kn kp => Option.rec (motive := fun _ => RA2) none (fun args => oneR (call (.fn f) args hp) (fun v hp => forceR v fun v => p.go v fr fun fr => kn fr hp) (fun v hp => kp v fr hp)) ((rdsS c.args.toList).go fr)⟩
    | some _ => slowF cx p (.call c)
  | .builtin b => ⟨fun call fr hp kn kp => Option.rec (motive := fun _ => RA2) none (fun args => retP p fr kn (builtinA cx hp b c.argTypes.toList args)) ((rdsS c.args.toList).go fr)⟩
  | _ => slowF cx p (.call c)

noncomputable def opS (cx : Cx) (p : Put) (o : Op) : FO :=
  match o.operands.toList.all okX with
  | false => ⟨fun _ _ _ _ _ => none⟩
  | true => match o with
  | .move x | .assign x => ⟨fun _ fr hp kn _ => retF p hp fr kn ((rdS x).go fr)⟩
  | .load t a => ⟨fun _ fr hp kn _ => oneO ((rdS a).go fr) fun v => retP p fr kn (loadAt cx t hp v)⟩
  | .store t a x => ⟨fun _ fr hp kn _ => oneO ((rdS a).go fr) fun u => oneO ((rdS x).go fr) fun v => retP p fr kn (storeAt cx t hp v u)⟩
  | .nilCheck x => ⟨fun _ fr hp kn _ => oneO ((rdS x).go fr) fun v => retP p fr kn (nilAt cx hp v)⟩
  | .binOp op t x y _ => ⟨fun _ fr hp kn _ => oneO ((rdS x).go fr) fun u => oneO ((rdS y).go fr) fun v => retF p hp fr kn (binQ cx op t (cOp x || cOp y) u v)⟩
  | .unOp op _ x => ⟨fun _ fr hp kn _ => oneO ((rdS x).go fr) fun v => retF p hp fr kn (unS op v)⟩
  | .fieldAddr t x f => ⟨fun _ fr hp kn _ => oneO ((rdS x).go fr) fun v => retF p hp fr kn (fieldAddrQ cx t v f)⟩
  | .field t x f => ⟨fun _ fr hp kn _ => oneO ((rdS x).go fr) fun v => retF p hp fr kn (fieldA cx t v f)⟩
  | .indexAddr t x i => ⟨fun _ fr hp kn _ => oneO ((rdS x).go fr) fun u => oneO ((rdS i).go fr) fun v => retF p hp fr kn (indexAddrQ cx t u v)⟩
  | .index t x i => ⟨fun _ fr hp kn _ => oneO ((rdS x).go fr) fun u => oneO ((rdS i).go fr) fun v => retF p hp fr kn (indexA cx t u v)⟩
  | .extract x i => ⟨fun _ fr hp kn _ => oneO ((rdS x).go fr) fun v => retP p fr kn (partAt hp i v)⟩
  | .call c => callF cx p c
  | o => slowF cx p o

noncomputable def guardQ (want : Bool) (v : Value) (run skip : RA2) : RA2 := Value.rec (motive_1 := fun _ => RA2 → RA2 → Bool → RA2) (motive_2 := fun _ => Unit) (motive_3 := fun _ => Unit) (fun b run skip want => Bool.rec (motive := fun _ => RA2) (Bool.rec (motive := fun _ => RA2) run skip want) (Bool.rec (motive := fun _ => RA2) skip run want) b) (fun _ _ run skip want => none) (fun _ _ run skip want => none) (fun _ _ _ run skip want => none) (fun _ run skip want => none) (fun _ run skip want => none) (fun _ _ _ run skip want => none) (fun _ run skip want => none) (fun _ run skip want => none) (fun _ _ _ _ _ run skip want => none) (fun run skip want => none) (fun _ _ _ run skip want => none) (fun run skip want => none) (fun _ _ run skip want => none) (fun vs _ run skip want => match vs with | ⟨[]⟩ => skip | _ => none) (fun _ _ => ()) () (fun _ _ _ _ => ()) v run skip want
/-- An operation with its guard. -/
noncomputable def guardS (all : List Oper) (p : Put) (j : Nat) (want : Bool) (f : FO) : FO :=
  match all[j]? with
  | none => ⟨fun _ _ _ _ _ => none⟩
  | some o => match o.dst with
    | none => ⟨fun _ _ _ _ _ => none⟩
    | some d => match Nat.blt d 256 with
      | false => ⟨fun _ _ _ _ _ => none⟩
      | true => ⟨fun call fr hp kn kp => oneO ((slotS d).go fr) fun v => guardQ want v (f.go call fr hp kn kp) (p.go undef fr fun fr => kn fr hp)⟩
noncomputable def operS (cx : Cx) (sz : Nat) (all : List Oper) (o : Oper) : FO :=
  match o.guard with
  | none => opS cx (putS sz o.dst) o.op
  | some g => guardS all (putS sz o.dst) g.1 g.2 (opS cx (putS sz o.dst) o.op)

noncomputable def stepF (f : FO) (call : CallF) (fr : Fr) (hp : Hp) (kn : Fr → Hp → RA2) (kp : Value → Fr → Hp → RA2) : RA2 := f.go call fr hp kn kp
noncomputable def stepC (f : FC) (call : CallF) (fr : Fr) (hp : Hp) (kn : Fr → Hp → RA2) (kx : AX → Fr → Hp → RA2) : RA2 := f.go call fr hp kn kx

noncomputable def opsS (cx : Cx) (sz : Nat) (all : List Oper) (l : List Oper) : FO :=
  List.rec (motive := fun _ => FO) ⟨fun _ fr hp kn _ => kn fr hp⟩ (fun o _ ih => ⟨fun call fr hp kn kp => (operS cx sz all o).go call fr hp (fun fr hp => stepF ih call fr hp kn kp) kp⟩) l

/-! Regions that draw their order: whoever writes to what was there is told to be behind, or ahead of, all that look at memory. -/
def ordAll (l : List Oper) (bef : List Nat) (i : Nat) : Bool :=
  l.zipIdx.all fun (o, j) => j == i || pureOp o.op || (if j < i then (bef.getD i 0).testBit j else (bef.getD j 0).testBit i)
noncomputable def drawS (cx : Cx) (sz : Nat) (all : List Oper) (bef : List Nat) (l : List Oper) : Nat → FO :=
  List.rec (motive := fun _ => Nat → FO) (fun _ => ⟨fun _ fr hp kn _ => kn fr hp⟩)
    (fun o _ ih i => match pureOp o.op || ordAll all bef i with
      | true => ⟨fun call fr hp kn kp => (operS cx sz all o).go call fr ⟨hp.tr, hp.nx, hp.nx⟩ (fun fr hp' => stepF (ih (Nat.succ i)) call fr ⟨hp'.tr, hp'.nx, least hp'.lo hp.lo⟩ kn kp) (fun _ _ _ => none)⟩
      | false => ⟨fun call fr hp kn kp => (operS cx sz all o).go call fr ⟨hp.tr, hp.nx, hp.nx⟩ (fun fr hp' => Bool.rec (motive := fun _ => RA2) none (stepF (ih (Nat.succ i)) call fr ⟨hp'.tr, hp'.nx, least hp'.lo hp.lo⟩ kn kp) (Nat.ble hp.nx hp'.lo)) (fun _ _ _ => none)⟩) l

/-! Code. -/
noncomputable def exitF (id : Nat) (kn : Fr → Hp → RA2) (kx : AX → Fr → Hp → RA2) (ax : AX) (fr : Fr) (hp : Hp) : RA2 :=
  AX.rec (motive := fun _ => Nat → (Fr → Hp → RA2) → (AX → Fr → Hp → RA2) → Fr → Hp → RA2) (fun _ _ _ _ _ => none) (fun i id kn kx fr hp => Bool.rec (motive := fun _ => RA2) (kx (.exit i) fr hp) (kn fr hp) (Nat.beq i id)) (fun _ _ kx fr hp => kx .ret fr hp) (fun v _ _ kx fr hp => kx (.pan v) fr hp) ax id kn kx fr hp
noncomputable def regS (cx : Cx) (sz : Nat) (ops : List Oper) (draw : Bool) : FC :=
  match draw with
  | false => match dferA ops with
    | none => ⟨fun call fr hp kn kx => (opsS cx sz ops ops).go call fr hp kn (fun v fr hp => kx (.pan v) fr hp)⟩
    | some _ => ⟨fun _ _ _ _ _ => none⟩
  | true => match drawOk ops with
    | true => ⟨fun call fr hp kn kx => (drawS cx sz ops (befA ops []) ops 0).go call fr hp kn (fun _ _ _ => none)⟩
    | false => ⟨fun _ _ _ _ _ => none⟩

noncomputable def condF (v : Value) (call : CallF) (fr : Fr) (hp : Hp) (kn : Fr → Hp → RA2) (kx : AX → Fr → Hp → RA2) (a b : FC) : RA2 := Value.rec (motive_1 := fun _ => CallF → Fr → Hp → (Fr → Hp → RA2) → (AX → Fr → Hp → RA2) → FC → FC → RA2) (motive_2 := fun _ => Unit) (motive_3 := fun _ => Unit) (fun b call fr hp kn kx p q => Bool.rec (motive := fun _ => RA2) (stepC q call fr hp kn kx) (stepC p call fr hp kn kx) b) (fun _ _ call fr hp kn kx p q => none) (fun _ _ call fr hp kn kx p q => none) (fun _ _ _ call fr hp kn kx p q => none) (fun _ call fr hp kn kx p q => none) (fun _ call fr hp kn kx p q => none) (fun _ _ _ call fr hp kn kx p q => none) (fun _ call fr hp kn kx p q => none) (fun _ call fr hp kn kx p q => none) (fun _ _ _ _ _ call fr hp kn kx p q => none) (fun call fr hp kn kx p q => none) (fun _ _ _ call fr hp kn kx p q => none) (fun call fr hp kn kx p q => none) (fun _ _ call fr hp kn kx p q => none) (fun _ _ call fr hp kn kx p q => none) (fun _ _ => ()) () (fun _ _ _ _ => ()) v call fr hp kn kx a b
noncomputable def compS (cx : Cx) (sz n : Nat) (c : Code) : FC :=
  Code.rec (motive := fun _ => FC)
    ⟨fun _ fr hp kn _ => kn fr hp⟩
    (fun _ ops draw => regS cx sz ops.toList draw)
    (fun _ _ iha ihb => ⟨fun call fr hp kn kx => iha.go call fr hp (fun fr hp => stepC ihb call fr hp kn kx) kx⟩)
    (fun c _ _ iha ihb => match okX c with
      | true => ⟨fun call fr hp kn kx => oneO ((rdS c).go fr) fun v => condF v call fr hp kn kx iha ihb⟩
      | false => ⟨fun _ _ _ _ _ => none⟩)
    (fun id _ ih => ⟨fun call fr hp kn kx => ih.go call fr hp kn (exitF id kn kx)⟩)
    (fun _ ih => ⟨fun call fr hp kn kx => Nat.rec (motive := fun _ => Fr → Hp → RA2) (fun _ _ => none) (fun _ again fr hp => stepC ih call fr hp again kx) n fr hp⟩)
    (fun _ _ _ _ _ _ => ⟨fun _ _ _ _ _ => none⟩)
    (fun id => ⟨fun _ fr hp _ kx => kx (.exit id) fr hp⟩)
    (fun _ ih => ih)
    (fun _ => ⟨fun _ fr hp kn _ => kn fr hp⟩)
    (fun _ => ⟨fun _ _ _ _ _ => none⟩)
    ⟨fun _ fr hp _ kx => kx .ret fr hp⟩
    (fun _ => ⟨fun _ _ _ _ _ => none⟩)
    c

/-! Functions. -/
structure Ress where
  go : Fr → Hp → Option (List Value)
noncomputable def cellF (cx : Cx) (t : TypeId) (hp : Hp) (o : Option Value) : Option Value := match o with
  | some (.pointer (some p)) => loadA cx hp t p
  | _ => none
noncomputable def resS (cx : Cx) : List ResultVar → Ress
  | [] => ⟨fun _ _ => some []⟩
  | .tmp t :: l => ⟨fun fr hp => Option.rec (motive := fun _ => Option (List Value)) none (fun v => Option.rec (motive := fun _ => Option (List Value)) none (fun vs => some (v :: vs)) ((resS cx l).go fr hp)) ((slotS t).go fr)⟩
  | .cell a t :: l => ⟨fun fr hp => Option.rec (motive := fun _ => Option (List Value)) none (fun v => Option.rec (motive := fun _ => Option (List Value)) none (fun vs => some (v :: vs)) ((resS cx l).go fr hp)) (cellF cx t hp ((slotS a).go fr))⟩
def okR : ResultVar → Bool
  | .tmp t => Nat.blt t 256
  | .cell a _ => Nat.blt a 256
noncomputable def doneF (r : Ress) (fr : Fr) (hp : Hp) : RA2 := Option.rec (motive := fun _ => RA2) none (fun l => some (.ret (oneA l), hp)) (r.go fr hp)
noncomputable def leaveF (r : Ress) (ax : AX) (fr : Fr) (hp : Hp) : RA2 :=
  AX.rec (motive := fun _ => Ress → Fr → Hp → RA2) (fun r fr hp => doneF r fr hp) (fun _ _ _ _ => none) (fun r fr hp => doneF r fr hp) (fun v _ _ hp => some (.pan v, hp)) ax r fr hp

/-- Code that is plain: no loops over functions, no jumps, nothing deferred, no ranges over maps. -/
def plainO (o : Oper) : Bool := match o.op with
  | .next _ s => s
  | .defer _ | .go _ | .select _ _ | .send _ _ | .recv _ _ _ => false
  | .call c => match c.callee with
    | .builtin .recover => false
    | _ => true
  | _ => true
def plainC (c : Code) : Bool := match c with
  | .region _ ops _ => ops.toList.all plainO
  | .seq a b => plainC a && plainC b
  | .cond _ a b => plainC a && plainC b
  | .block _ a => plainC a
  | .loop a => plainC a
  | .scope a => plainC a
  | .rangeFunc _ _ _ _ => false
  | .goto _ => false
  | .refuse _ => true
  | _ => true

structure FF where
  go : CallF → List Value → Hp → RA2
noncomputable def argsS (l : List Value) : Nat → Fr → (Fr → RA2) → RA2 :=
  List.rec (motive := fun _ => Nat → Fr → (Fr → RA2) → RA2) (fun _ fr k => k fr) (fun v _ ih i fr k => (wrS i).go (some v) fr fun fr => ih (Nat.succ i) fr k) l
noncomputable def fnS (cx : Cx) (n : Nat) (fi : FI) : FF :=
  match Nat.ble fi.ntmps 256 && plainC fi.body && fi.results.all okR with
  | true => ⟨fun call args hp => Bool.rec (motive := fun _ => RA2) none (argsS args 0 frN fun fr => stepC (compS cx fi.ntmps n fi.body) call fr hp (doneF (resS cx fi.results)) (leaveF (resS cx fi.results))) (Nat.ble (len args) fi.ntmps)⟩
  | false => ⟨fun _ _ _ => none⟩
noncomputable def fnOf (cx : Cx) (n f : Nat) : FF :=
  match cx.f f with
  | none => ⟨fun _ _ _ => none⟩
  | some fi => fnS cx n fi

noncomputable def mixB (r : RA2) (slow : RVal) : RVal := Option.rec (motive := fun _ => RVal) slow (fun x => some [x]) r
noncomputable def mixO (cx : Cx) (n f : Nat) (call : CallF) (args : List Value) (hp : Hp) (o : RVal) : RVal :=
  Option.rec (motive := fun _ => RVal) (mixB ((fnOf cx n f).go call args hp) (evBody cx call n f args hp)) (fun l => some l) o
noncomputable def mixF (cx : Cx) (n d : Nat) : CallF :=
  Nat.rec (motive := fun _ => CallF) (fun _ _ _ => none)
    (fun _ ih c args hp => Cal.rec (motive := fun _ => CallF → List Value → Hp → RVal)
      (fun f ih args hp => mixO cx n f ih args hp (orR cx f args hp))
      (fun b ih args hp => evRound cx ih n b args hp)
      (fun f pan ih args hp => evDfr cx ih n f pan args hp) c ih args hp) d

/-! The answers are the second one's. -/
def RF (fr : Fr) (tm : Tr Value) : Prop := ∀ i, i < 256 → Fr.get i fr = tm.get i

theorem slotS_go (t : Nat) (fr : Fr) : (slotS t).go fr = Fr.get t fr := rfl
theorem blt_lt {a b : Nat} (h : Nat.blt a b = true) : a < b := Nat.lt_of_lt_of_le (Nat.lt_succ_self _) (Nat.le_of_ble_eq_true h)
theorem rdS_eq {fr : Fr} {tm : Tr Value} (r : RF fr tm) {x : Operand} (h : okX x = true) : (rdS x).go fr = evX tm x := by
  cases x with
  | tmp t => exact r t (blt_lt h)
  | const v => exact constQ_eq v
  | global g => rfl
  | func f => rfl
theorem wrS_go {i : Nat} (h : i < 256) (v : Option Value) (fr : Fr) (k : Fr → RA2) : (wrS i).go v fr k = k (Fr.set i v fr) := by
  have a1 : i / 16 < 16 := by omega
  have b1 : i % 16 < 16 := by omega
  show (updS (B16 (Option Value)) RA2 (i / 16)).go fr _ k = _
  rw [updS_go a1]
  show (updS (Option Value) RA2 (i % 16)).go _ _ _ = _
  rw [updS_go b1]
  rfl
theorem RF.set {fr : Fr} {tm : Tr Value} (r : RF fr tm) {d : Nat} (hd : d < 256) (v : Value) : RF (Fr.set d (some v) fr) (tm.set d v) := fun i hi => by
  rw [Fr.get_set hd hi, Tr.get_set]
  split
  · rfl
  · exact r i hi
theorem putS_ok {sz : Nat} {dst : Option Tmp} {fr : Fr} {tm : Tr Value} (r : RF fr tm) {v : Value} {k : Fr → RA2} {x : Res × Hp} (h : (putS sz dst).go v fr k = some x) :
    ∃ fr' tm', putA sz tm dst v = some tm' ∧ RF fr' tm' ∧ k fr' = some x := by
  cases dst with
  | none => exact ⟨fr, tm, rfl, r, h⟩
  | some d =>
    unfold putS at h
    simp only at h
    split at h
    · rename_i hb
      rw [Bool.and_eq_true] at hb
      have h1 := blt_lt hb.2
      have h : (wrS d).go (some v) fr k = some x := h
      rw [wrS_go h1] at h
      refine ⟨_, tm.set d v, ?_, r.set h1 v, h⟩
      rw [putA_def]
      simp only [hb.1]
    · cases h

theorem oneO_some {o : Option Value} {f : Value → RA2} {x : Res × Hp} (h : oneO o f = some x) : ∃ v, o = some v ∧ f v = some x := by
  cases o with
  | none => cases h
  | some v => exact ⟨v, rfl, h⟩
theorem oneP_some {o : Val} {f : Value → Hp → RA2} {x : Res × Hp} (h : oneP o f = some x) : ∃ v hp, o = some (v, hp) ∧ f v hp = some x := by
  cases o with
  | none => cases h
  | some p => exact ⟨p.1, p.2, rfl, h⟩
theorem oneR_some {o : RVal} {f g : Value → Hp → RA2} {x : Res × Hp} (h : oneR o f g = some x) : (∃ v hp, o = some [(.ret v, hp)] ∧ f v hp = some x) ∨ (∃ v hp, o = some [(.pan v, hp)] ∧ g v hp = some x) := by
  cases o with
  | none => cases h
  | some l => match l with
    | [] => cases h
    | [(.ret v, hp)] => exact .inl ⟨v, hp, rfl, h⟩
    | [(.pan v, hp)] => exact .inr ⟨v, hp, rfl, h⟩
    | [(.went v, hp)] => cases h
    | x :: y :: t => cases h
theorem optR_some {α : Type} {o : Option α} {f : α → RA2} {x : Res × Hp} (h : Option.rec (motive := fun _ => RA2) none f o = some x) : ∃ v, o = some v ∧ f v = some x := by
  cases o with
  | none => cases h
  | some v => exact ⟨v, rfl, h⟩
theorem rdsS_eq {fr : Fr} {tm : Tr Value} (r : RF fr tm) : ∀ {l : List Operand}, l.all okX = true → (rdsS l).go fr = evXs tm l
  | [], _ => rfl
  | x :: l, h => by
    simp only [List.all_cons, Bool.and_eq_true] at h
    show Option.rec (motive := fun _ => Option (List Value)) none (fun v => Option.rec (motive := fun _ => Option (List Value)) none (fun vs => some (v :: vs)) ((rdsS l).go fr)) ((rdS x).go fr) = match evX tm x with
      | none => none
      | some v => match evXs tm l with
        | none => none
        | some vs => some (v :: vs)
    rw [rdS_eq r h.1, rdsS_eq r h.2]
    cases evX tm x with
    | none => rfl
    | some v => cases evXs tm l <;> rfl
theorem tinyS_get {fr : Fr} {tm : Tr Value} (r : RF fr tm) : ∀ {l : List Operand}, l.all okX = true → ∀ t, Operand.tmp t ∈ l → ((tinyS l).go fr).get t = tm.get t
  | [], _, t, hm => by cases hm
  | x :: l, h, t, hm => by
    simp only [List.all_cons, Bool.and_eq_true] at h
    have ih := tinyS_get r h.2
    cases x with
    | tmp u =>
      have hu := r u (blt_lt h.1)
      show (Option.rec (motive := fun _ => Tr Value) ((tinyS l).go fr) (fun v => ((tinyS l).go fr).set u v) (Fr.get u fr)).get t = _
      rw [hu]
      by_cases htu : t = u
      · subst htu
        cases htm : tm.get t with
        | none =>
          show ((tinyS l).go fr).get t = none
          by_cases hl : Operand.tmp t ∈ l
          · rw [ih t hl, htm]
          · exact tiny_none l t hl
        | some v => show (((tinyS l).go fr).set t v).get t = _; rw [Tr.get_set, if_pos rfl]
      · have hl : Operand.tmp t ∈ l := by
          rcases List.mem_cons.1 hm with h | h
          · cases h; exact absurd rfl htu
          · exact h
        cases htm : tm.get u with
        | none => exact ih t hl
        | some v => show (((tinyS l).go fr).set u v).get t = _; rw [Tr.get_set, if_neg htu]; exact ih t hl
    | const v => exact ih t (by rcases List.mem_cons.1 hm with h | h; cases h; exact h)
    | global v => exact ih t (by rcases List.mem_cons.1 hm with h | h; cases h; exact h)
    | func v => exact ih t (by rcases List.mem_cons.1 hm with h | h; cases h; exact h)
where
  tiny_none {fr : Fr} : ∀ (l : List Operand) (t : Nat), Operand.tmp t ∉ l → ((tinyS l).go fr).get t = none
  | [], t, _ => Tr.get_nil t
  | x :: l, t, hm => by
    have ih := tiny_none (fr := fr) l t (fun h => hm (List.mem_cons_of_mem _ h))
    cases x with
    | tmp u =>
      show (Option.rec (motive := fun _ => Tr Value) ((tinyS l).go fr) (fun v => ((tinyS l).go fr).set u v) (Fr.get u fr)).get t = _
      cases Fr.get u fr with
      | none => exact ih
      | some v => show (((tinyS l).go fr).set u v).get t = _; rw [Tr.get_set, if_neg (fun h => hm (by rw [h]; exact List.mem_cons_self))]; exact ih
    | const v => exact ih
    | global v => exact ih
    | func v => exact ih

/-- What an operation does, told by the second reckoner. -/
def OpOk (cx : Cx) (sz : Nat) (dst : Option Tmp) (o : Op) (f : FO) : Prop :=
  ∀ call fr hp kn kp x tm, RF fr tm → f.go call fr hp kn kp = some x →
    (∃ v hp' fr' tm', evOp cx call tm hp o = some [(.ret v, hp')] ∧ putA sz tm dst v = some tm' ∧ RF fr' tm' ∧ kn fr' hp' = some x) ∨
    (∃ v hp', evOp cx call tm hp o = some [(.pan v, hp')] ∧ kp v fr hp' = some x)

theorem retF_some {sz : Nat} {dst : Option Tmp} {fr : Fr} {tm : Tr Value} (r : RF fr tm) {hp : Hp} {kn : Fr → Hp → RA2} {o : Option Value} {x : Res × Hp} (h : retF (putS sz dst) hp fr kn o = some x) :
    ∃ v fr' tm', o = some v ∧ putA sz tm dst v = some tm' ∧ RF fr' tm' ∧ kn fr' hp = some x := by
  obtain ⟨v, h1, h2⟩ := oneO_some h
  rw [forceR_eq] at h2
  obtain ⟨fr', tm', h3, h4, h5⟩ := putS_ok r h2
  exact ⟨v, fr', tm', h1, h3, h4, h5⟩
theorem retP_some {sz : Nat} {dst : Option Tmp} {fr : Fr} {tm : Tr Value} (r : RF fr tm) {kn : Fr → Hp → RA2} {o : Val} {x : Res × Hp} (h : retP (putS sz dst) fr kn o = some x) :
    ∃ v hp' fr' tm', o = some (v, hp') ∧ putA sz tm dst v = some tm' ∧ RF fr' tm' ∧ kn fr' hp' = some x := by
  obtain ⟨v, hp', h1, h2⟩ := oneP_some h
  rw [forceR_eq] at h2
  obtain ⟨fr', tm', h3, h4, h5⟩ := putS_ok r h2
  exact ⟨v, hp', fr', tm', h1, h3, h4, h5⟩
theorem retR_some {sz : Nat} {dst : Option Tmp} {fr : Fr} {tm : Tr Value} (r : RF fr tm) {kn : Fr → Hp → RA2} {kp : Value → Fr → Hp → RA2} {o : RVal} {x : Res × Hp} (h : oneR o (fun v hp => forceR v fun v => (putS sz dst).go v fr fun fr => kn fr hp) (fun v hp => kp v fr hp) = some x) :
    (∃ v hp' fr' tm', o = some [(.ret v, hp')] ∧ putA sz tm dst v = some tm' ∧ RF fr' tm' ∧ kn fr' hp' = some x) ∨ (∃ v hp', o = some [(.pan v, hp')] ∧ kp v fr hp' = some x) := by
  rcases oneR_some h with ⟨v, hp', h1, h2⟩ | ⟨v, hp', h1, h2⟩
  · rw [forceR_eq] at h2
    obtain ⟨fr', tm', h3, h4, h5⟩ := putS_ok r h2
    exact .inl ⟨v, hp', fr', tm', h1, h3, h4, h5⟩
  · exact .inr ⟨v, hp', h1, h2⟩

theorem noneFO_ok {cx : Cx} {sz : Nat} {dst : Option Tmp} {o : Op} : OpOk cx sz dst o ⟨fun _ _ _ _ _ => none⟩ := fun _ _ _ _ _ _ _ _ h => by cases h
theorem slowF_ok (cx : Cx) (sz : Nat) (dst : Option Tmp) (o : Op) : OpOk cx sz dst o (slowF cx (putS sz dst) o) := by
  unfold slowF
  split
  · rename_i hall
    intro call fr hp kn kp x tm r h
    have h : oneR (evOpQ cx call ((tinyS o.operands.toList).go fr) hp o) (fun v hp => forceR v fun v => (putS sz dst).go v fr fun fr => kn fr hp) (fun v hp => kp v fr hp) = some x := h
    rw [evOpQ_eq, evOp_congr (tinyS_get r hall)] at h
    exact retR_some r h
  · exact noneFO_ok
theorem callF_ok (cx : Cx) (sz : Nat) (dst : Option Tmp) (c : Call) (hall : (Op.call c).operands.toList.all okX = true) : OpOk cx sz dst (.call c) (callF cx (putS sz dst) c) := by
  have hargs : c.args.toList.all okX = true := by
    rw [List.all_eq_true] at hall ⊢
    intro x hx
    refine hall x ?_
    show x ∈ (Call.operands c).toList
    unfold Call.operands
    simp
    exact .inr (by simpa using hx)
  unfold callF
  split
  · rename_i f hf
    split
    · rename_i hx
      intro call fr hp kn kp x tm r h
      have h : Option.rec (motive := fun _ => RA2) none (fun args => oneR (call (.fn f) args hp) (fun v hp => forceR v fun v => (putS sz dst).go v fr fun fr => kn fr hp) (fun v hp => kp v fr hp)) ((rdsS c.args.toList).go fr) = some x := h
      rw [rdsS_eq r hargs] at h
      obtain ⟨args, h1, h2⟩ := optR_some h
      have he : evOp cx call tm hp (.call c) = call (.fn f) args hp := by
        show evCall cx call tm hp c = _
        unfold evCall
        simp only [h1, hf]
        show (match cx.x f with | some k => lift (extH hp k ([] ++ args ++ [])) | none => call (.fn f) ([] ++ args ++ []) hp) = _
        rw [hx]
        simp
      rw [he]
      exact retR_some r h2
    · exact slowF_ok cx sz dst _
  · rename_i b hb
    intro call fr hp kn kp x tm r h
    have h : Option.rec (motive := fun _ => RA2) none (fun args => retP (putS sz dst) fr kn (builtinA cx hp b c.argTypes.toList args)) ((rdsS c.args.toList).go fr) = some x := h
    rw [rdsS_eq r hargs] at h
    obtain ⟨args, h1, h2⟩ := optR_some h
    obtain ⟨v, hp', fr', tm', h3, h4, h5, h6⟩ := retP_some r h2
    refine .inl ⟨v, hp', fr', tm', ?_, h4, h5, h6⟩
    show evCall cx call tm hp c = _
    unfold evCall
    simp only [h1, hb, h3]
    rfl
  · exact slowF_ok cx sz dst _

theorem opS_ok (cx : Cx) (sz : Nat) (dst : Option Tmp) (o : Op) : OpOk cx sz dst o (opS cx (putS sz dst) o) := by
  unfold opS
  split
  · exact noneFO_ok
  rename_i hall
  have hx : ∀ {fr : Fr} {tm : Tr Value}, RF fr tm → ∀ x, x ∈ o.operands.toList → (rdS x).go fr = evX tm x := fun r x hm => rdS_eq r (List.all_eq_true.1 hall x hm)
  split
  case h_1 x => 
    intro call fr hp kn kp y tm r h
    have h : retF (putS sz dst) hp fr kn ((rdS x).go fr) = some y := h
    rw [hx r x (by simp [Op.operands])] at h
    obtain ⟨v, fr', tm', h1, h2, h3, h4⟩ := retF_some r h
    refine .inl ⟨v, hp, fr', tm', ?_, h2, h3, h4⟩
    show lift (keep hp (evX tm x)) = _
    rw [h1]; rfl
  case h_2 x => 
    intro call fr hp kn kp y tm r h
    have h : retF (putS sz dst) hp fr kn ((rdS x).go fr) = some y := h
    rw [hx r x (by simp [Op.operands])] at h
    obtain ⟨v, fr', tm', h1, h2, h3, h4⟩ := retF_some r h
    refine .inl ⟨v, hp, fr', tm', ?_, h2, h3, h4⟩
    show lift (keep hp (evX tm x)) = _
    rw [h1]; rfl
  case h_3 t a =>
    intro call fr hp kn kp y tm r h
    have h : oneO ((rdS a).go fr) (fun v => retP (putS sz dst) fr kn (loadAt cx t hp v)) = some y := h
    rw [hx r a (by simp [Op.operands])] at h
    obtain ⟨u, hu, h⟩ := oneO_some h
    obtain ⟨v, hp', fr', tm', h1, h2, h3, h4⟩ := retP_some r h
    refine .inl ⟨v, hp', fr', tm', ?_, h2, h3, h4⟩
    rw [← evOpQ_eq]
    show oneV (evXQ tm a) _ = _
    rw [evXQ_eq, hu]
    show lift (loadAt cx t hp u) = _
    rw [h1]; rfl
  case h_4 t a b =>
    intro call fr hp kn kp y tm r h
    have h : oneO ((rdS a).go fr) (fun u => oneO ((rdS b).go fr) fun v => retP (putS sz dst) fr kn (storeAt cx t hp v u)) = some y := h
    rw [hx r a (by simp [Op.operands]), hx r b (by simp [Op.operands])] at h
    obtain ⟨u, hu, h⟩ := oneO_some h
    obtain ⟨u2, hu2, h⟩ := oneO_some h
    obtain ⟨v, hp', fr', tm', h1, h2, h3, h4⟩ := retP_some r h
    refine .inl ⟨v, hp', fr', tm', ?_, h2, h3, h4⟩
    rw [← evOpQ_eq]
    show oneV (evXQ tm a) _ = _
    rw [evXQ_eq, hu]
    show oneV (evXQ tm b) _ = _
    rw [evXQ_eq, hu2]
    show lift (storeAt cx t hp u2 u) = _
    rw [h1]; rfl
  case h_5 a =>
    intro call fr hp kn kp y tm r h
    have h : oneO ((rdS a).go fr) (fun v => retP (putS sz dst) fr kn (nilAt cx hp v)) = some y := h
    rw [hx r a (by simp [Op.operands])] at h
    obtain ⟨u, hu, h⟩ := oneO_some h
    obtain ⟨v, hp', fr', tm', h1, h2, h3, h4⟩ := retP_some r h
    refine .inl ⟨v, hp', fr', tm', ?_, h2, h3, h4⟩
    rw [← evOpQ_eq]
    show oneV (evXQ tm a) _ = _
    rw [evXQ_eq, hu]
    show lift (nilAt cx hp u) = _
    rw [h1]; rfl
  case h_6 op t a b yt =>
    intro call fr hp kn kp y tm r h
    have h : oneO ((rdS a).go fr) (fun u => oneO ((rdS b).go fr) fun v => retF (putS sz dst) hp fr kn (binQ cx op t (cOp a || cOp b) u v)) = some y := h
    rw [hx r a (by simp [Op.operands]), hx r b (by simp [Op.operands])] at h
    obtain ⟨u, hu, h⟩ := oneO_some h
    obtain ⟨u2, hu2, h⟩ := oneO_some h
    obtain ⟨v, fr', tm', h1, h2, h3, h4⟩ := retF_some r h
    refine .inl ⟨v, hp, fr', tm', ?_, h2, h3, h4⟩
    rw [← evOpQ_eq]
    show oneV (evXQ tm a) _ = _
    rw [evXQ_eq, hu]
    show oneV (evXQ tm b) _ = _
    rw [evXQ_eq, hu2]
    show retQ hp (binQ cx op t (cOp a || cOp b) u u2) = _
    rw [h1]; rfl
  case h_7 op t a =>
    intro call fr hp kn kp y tm r h
    have h : oneO ((rdS a).go fr) (fun v => retF (putS sz dst) hp fr kn (unS op v)) = some y := h
    rw [hx r a (by simp [Op.operands])] at h
    obtain ⟨u, hu, h⟩ := oneO_some h
    obtain ⟨v, fr', tm', h1, h2, h3, h4⟩ := retF_some r h
    refine .inl ⟨v, hp, fr', tm', ?_, h2, h3, h4⟩
    rw [← evOpQ_eq]
    show oneV (evXQ tm a) _ = _
    rw [evXQ_eq, hu]
    show retQ hp (unS op u) = _
    rw [h1]; rfl
  case h_8 t a f =>
    intro call fr hp kn kp y tm r h
    have h : oneO ((rdS a).go fr) (fun v => retF (putS sz dst) hp fr kn (fieldAddrQ cx t v f)) = some y := h
    rw [hx r a (by simp [Op.operands])] at h
    obtain ⟨u, hu, h⟩ := oneO_some h
    obtain ⟨v, fr', tm', h1, h2, h3, h4⟩ := retF_some r h
    refine .inl ⟨v, hp, fr', tm', ?_, h2, h3, h4⟩
    rw [← evOpQ_eq]
    show oneV (evXQ tm a) _ = _
    rw [evXQ_eq, hu]
    show retQ hp (fieldAddrQ cx t u f) = _
    rw [h1]; rfl
  case h_9 t a f =>
    intro call fr hp kn kp y tm r h
    have h : oneO ((rdS a).go fr) (fun v => retF (putS sz dst) hp fr kn (fieldA cx t v f)) = some y := h
    rw [hx r a (by simp [Op.operands])] at h
    obtain ⟨u, hu, h⟩ := oneO_some h
    obtain ⟨v, fr', tm', h1, h2, h3, h4⟩ := retF_some r h
    refine .inl ⟨v, hp, fr', tm', ?_, h2, h3, h4⟩
    rw [← evOpQ_eq]
    show oneV (evXQ tm a) _ = _
    rw [evXQ_eq, hu]
    show retQ hp (fieldA cx t u f) = _
    rw [h1]; rfl
  case h_10 t a b =>
    intro call fr hp kn kp y tm r h
    have h : oneO ((rdS a).go fr) (fun u => oneO ((rdS b).go fr) fun v => retF (putS sz dst) hp fr kn (indexAddrQ cx t u v)) = some y := h
    rw [hx r a (by simp [Op.operands]), hx r b (by simp [Op.operands])] at h
    obtain ⟨u, hu, h⟩ := oneO_some h
    obtain ⟨u2, hu2, h⟩ := oneO_some h
    obtain ⟨v, fr', tm', h1, h2, h3, h4⟩ := retF_some r h
    refine .inl ⟨v, hp, fr', tm', ?_, h2, h3, h4⟩
    rw [← evOpQ_eq]
    show oneV (evXQ tm a) _ = _
    rw [evXQ_eq, hu]
    show oneV (evXQ tm b) _ = _
    rw [evXQ_eq, hu2]
    show retQ hp (indexAddrQ cx t u u2) = _
    rw [h1]; rfl
  case h_11 t a b =>
    intro call fr hp kn kp y tm r h
    have h : oneO ((rdS a).go fr) (fun u => oneO ((rdS b).go fr) fun v => retF (putS sz dst) hp fr kn (indexA cx t u v)) = some y := h
    rw [hx r a (by simp [Op.operands]), hx r b (by simp [Op.operands])] at h
    obtain ⟨u, hu, h⟩ := oneO_some h
    obtain ⟨u2, hu2, h⟩ := oneO_some h
    obtain ⟨v, fr', tm', h1, h2, h3, h4⟩ := retF_some r h
    refine .inl ⟨v, hp, fr', tm', ?_, h2, h3, h4⟩
    rw [← evOpQ_eq]
    show oneV (evXQ tm a) _ = _
    rw [evXQ_eq, hu]
    show oneV (evXQ tm b) _ = _
    rw [evXQ_eq, hu2]
    show retQ hp (indexA cx t u u2) = _
    rw [h1]; rfl
  case h_12 a i =>
    intro call fr hp kn kp y tm r h
    have h : oneO ((rdS a).go fr) (fun v => retP (putS sz dst) fr kn (partAt hp i v)) = some y := h
    rw [hx r a (by simp [Op.operands])] at h
    obtain ⟨u, hu, h⟩ := oneO_some h
    obtain ⟨v, hp', fr', tm', h1, h2, h3, h4⟩ := retP_some r h
    refine .inl ⟨v, hp', fr', tm', ?_, h2, h3, h4⟩
    rw [← evOpQ_eq]
    show oneV (evXQ tm a) _ = _
    rw [evXQ_eq, hu]
    show lift (partAt hp i u) = _
    rw [h1]; rfl
  case h_13 c => exact callF_ok cx sz dst c hall
  case h_14 => exact slowF_ok cx sz dst _

def OprOk (cx : Cx) (sz : Nat) (all : List Oper) (o : Oper) (f : FO) : Prop :=
  ∀ call fr hp kn kp x tm, RF fr tm → f.go call fr hp kn kp = some x →
    (∃ fr' tm' hp', evOper cx call sz all o tm hp = some [.ok tm' hp'] ∧ RF fr' tm' ∧ kn fr' hp' = some x) ∨
    (∃ v hp', evOper cx call sz all o tm hp = some [.pan v tm hp'] ∧ kp v fr hp' = some x)

theorem bindL_of {α β : Type} {x : α} {y : β} {f : α → Option (List β)} (h : f x = some [y]) : bindL (some [x]) f = some [y] := by
  show neL (f x) = _
  rw [h]
  rfl
theorem oper_run {cx : Cx} {sz : Nat} {all : List Oper} {o : Oper} {f : FO} (h : OpOk cx sz o.dst o.op f) {call : CallF} {fr : Fr} {hp : Hp} {kn : Fr → Hp → RA2} {kp : Value → Fr → Hp → RA2} {x : Res × Hp} {tm : Tr Value} (r : RF fr tm)
    (hw : wantA cx all tm o.guard = some true) (hg : f.go call fr hp kn kp = some x) :
    (∃ fr' tm' hp', evOper cx call sz all o tm hp = some [.ok tm' hp'] ∧ RF fr' tm' ∧ kn fr' hp' = some x) ∨
    (∃ v hp', evOper cx call sz all o tm hp = some [.pan v tm hp'] ∧ kp v fr hp' = some x) := by
  rcases h call fr hp kn kp x tm r hg with ⟨v, hp', fr', tm', h1, h2, h3, h4⟩ | ⟨v, hp', h1, h2⟩
  · refine .inl ⟨fr', tm', hp', ?_, h3, h4⟩
    rw [evOper_def, hw]
    show bindL (evOp cx call tm hp o.op) (evRes sz o tm) = _
    rw [h1]
    refine bindL_of ?_
    rw [evRes_def]
    simp only [force_eq, h2]
  · refine .inr ⟨v, hp', ?_, h2⟩
    rw [evOper_def, hw]
    show bindL (evOp cx call tm hp o.op) (evRes sz o tm) = _
    rw [h1]
    exact bindL_of rfl

theorem guardQ_some {want : Bool} {v : Value} {run skip : RA2} {x : Res × Hp} (h : guardQ want v run skip = some x) : (∃ b, v = .bool b ∧ ((b = want ∧ run = some x) ∨ (b ≠ want ∧ skip = some x))) ∨ (v = .tuple ⟨[]⟩ ∧ skip = some x) := by
  cases v
  case bool b =>
    refine .inl ⟨b, rfl, ?_⟩
    cases b <;> cases want <;> first
      | exact .inl ⟨rfl, h⟩
      | exact .inr ⟨by decide, h⟩
  case tuple vs =>
    obtain ⟨l⟩ := vs
    cases l with
    | nil => exact .inr ⟨rfl, h⟩
    | cons a l => cases h
  all_goals cases h

theorem operS_ok (cx : Cx) (sz : Nat) (all : List Oper) (o : Oper) : OprOk cx sz all o (operS cx sz all o) := by
  intro call fr hp kn kp x tm r h
  unfold operS at h
  split at h
  · rename_i hg
    exact oper_run (opS_ok cx sz o.dst o.op) r (by rw [wantA_def, hg]) h
  · rename_i g hg
    unfold guardS at h
    split at h
    · cases h
    rename_i oj hoj
    split at h
    · cases h
    rename_i d hd
    split at h
    · cases h
    rename_i hlt
    have h : oneO (Fr.get d fr) (fun v => guardQ g.2 v ((opS cx (putS sz o.dst) o.op).go call fr hp kn kp) ((putS sz o.dst).go undef fr fun fr => kn fr hp)) = some x := h
    rw [r d (blt_lt hlt)] at h
    obtain ⟨v, hv, h⟩ := oneO_some h
    have hskip : wantA cx all tm o.guard = some false → (putS sz o.dst).go undef fr (fun fr => kn fr hp) = some x → (∃ fr' tm' hp', evOper cx call sz all o tm hp = some [.ok tm' hp'] ∧ RF fr' tm' ∧ kn fr' hp' = some x) := fun hw hp1 => by
      obtain ⟨fr', tm', h3, h4, h5⟩ := putS_ok r hp1
      refine ⟨fr', tm', hp, ?_, h4, h5⟩
      rw [evOper_def, hw]
      simp only [h3]
    rcases guardQ_some h with ⟨b, rfl, ⟨hb, h⟩ | ⟨hb, h⟩⟩ | ⟨rfl, h⟩
    · refine oper_run (opS_ok cx sz o.dst o.op) r ?_ h
      rw [wantA_def, hg]
      simp only [hoj, hd, hv]
      show (match boolA cx (.bool b) with | some b => some (b == g.2) | none => none) = _
      simp [boolA, hb]
    · refine .inl (hskip ?_ h)
      rw [wantA_def, hg]
      simp only [hoj, hd, hv]
      show (match boolA cx (.bool b) with | some b => some (b == g.2) | none => none) = _
      simp [boolA, hb]
    · refine .inl (hskip ?_ h)
      rw [wantA_def, hg]
      simp only [hoj, hd, hv]

theorem opsS_ok (cx : Cx) (sz : Nat) (all : List Oper) : ∀ (l : List Oper) (call : CallF) (fr : Fr) (hp : Hp) (kn : Fr → Hp → RA2) (kp : Value → Fr → Hp → RA2) (x : Res × Hp) (tm : Tr Value), RF fr tm → (opsS cx sz all l).go call fr hp kn kp = some x →
    (∃ fr' tm' hp', evOps cx call sz all l tm hp = some [.ok tm' hp'] ∧ RF fr' tm' ∧ kn fr' hp' = some x) ∨
    (∃ v fr' tm' hp', evOps cx call sz all l tm hp = some [.pan v tm' hp'] ∧ RF fr' tm' ∧ kp v fr' hp' = some x) := by
  intro l
  induction l with
  | nil => intro call fr hp kn kp x tm r h; exact .inl ⟨fr, tm, hp, rfl, r, h⟩
  | cons o l ih =>
    intro call fr hp kn kp x tm r h
    have h : (operS cx sz all o).go call fr hp (fun fr hp => stepF (opsS cx sz all l) call fr hp kn kp) kp = some x := h
    rcases operS_ok cx sz all o call fr hp _ kp x tm r h with ⟨fr1, tm1, hp1, h1, r1, h2⟩ | ⟨v, hp1, h1, h2⟩
    · have h2 : (opsS cx sz all l).go call fr1 hp1 kn kp = some x := h2
      rcases ih call fr1 hp1 kn kp x tm1 r1 h2 with ⟨fr2, tm2, hp2, h3, r2, h4⟩ | ⟨v, fr2, tm2, hp2, h3, r2, h4⟩
      · refine .inl ⟨fr2, tm2, hp2, ?_, r2, h4⟩
        show bindL (evOper cx call sz all o tm hp) _ = _
        rw [h1]
        exact bindL_of h3
      · refine .inr ⟨v, fr2, tm2, hp2, ?_, r2, h4⟩
        show bindL (evOper cx call sz all o tm hp) _ = _
        rw [h1]
        exact bindL_of h3
    · refine .inr ⟨v, fr, tm, hp1, ?_, r, h2⟩
      show bindL (evOper cx call sz all o tm hp) _ = _
      rw [h1]
      exact bindL_of rfl

/-! Regions that draw. -/
def MarksIn (all : List Oper) (bef : List Nat) (ms : List DMk) : Prop :=
  ∀ (j : Nat) (m : DMk) (o : Oper), ms[j]? = some m → all[j]? = some o → (pureOp o.op = true → m = .idle) ∧ (writesM m = true → ordAll all bef j = true)

theorem marksOk_of {all : List Oper} {bef : List Nat} {ms : List DMk} (hl : ms.length = all.length) (h : MarksIn all bef ms) : marksOk bef ms = true := by
  have hat : ∀ (j : Nat) (m : DMk), ms[j]? = some m → ∃ o, all[j]? = some o := fun j m hj => by
    have h1 := (List.getElem?_eq_some_iff.1 hj).1
    exact ⟨all[j]'(by omega), List.getElem?_eq_getElem (by omega)⟩
  unfold marksOk
  rw [List.all_eq_true]
  rintro ⟨x, i⟩ hx
  have hx := List.mem_zipIdx_iff_getElem?.1 hx
  simp only at hx ⊢
  obtain ⟨o, ho⟩ := hat i x hx
  cases hw : writesM x with
  | false => rfl
  | true =>
    have hord := (h i x o hx ho).2 hw
    unfold ordAll at hord
    rw [List.all_eq_true] at hord
    show (false || _) = true
    rw [Bool.false_or, List.all_eq_true]
    rintro ⟨y, j⟩ hy
    have hy := List.mem_zipIdx_iff_getElem?.1 hy
    simp only at hy ⊢
    obtain ⟨o', ho'⟩ := hat j y hy
    have h2 := hord (o', j) (List.mem_zipIdx_iff_getElem?.2 ho')
    simp only [Bool.or_eq_true] at h2 ⊢
    rcases h2 with (h2 | h2) | h2
    · exact .inl (.inl (.inl h2))
    · refine .inl (.inl (.inr ?_))
      rw [(h j y o' hy ho').1 h2]
      rfl
    · exact .inr h2

theorem dmk_pure {cx : Cx} {all : List Oper} {o : Oper} {tm : Tr Value} {nx : Nat} {hp : Hp} (h : pureOp o.op = true) : dmkA cx all o tm nx hp = .idle := by
  unfold dmkA
  split
  · rw [h]
  · rfl
theorem dmk_quiet {cx : Cx} {all : List Oper} {o : Oper} {tm : Tr Value} {nx : Nat} {hp : Hp} (h : Nat.ble nx hp.lo = true) : writesM (dmkA cx all o tm nx hp) = false := by
  unfold dmkA
  split
  · split
    · rfl
    · split <;> simp [writesM, h]
  · rfl

theorem drawS_ok (cx : Cx) (sz : Nat) (all : List Oper) (bef : List Nat) : ∀ (l pre : List Oper), all = pre ++ l → ∀ (call : CallF) (fr : Fr) (hp : Hp) (kn : Fr → Hp → RA2) (kp : Value → Fr → Hp → RA2) (x : Res × Hp) (tm : Tr Value) (ms : List DMk), RF fr tm → ms.length = pre.length → MarksIn all bef ms →
    (drawS cx sz all bef l pre.length).go call fr hp kn kp = some x → ∃ fr' tm' hp', evDraw cx call sz all bef l tm hp ms = some (tm', hp') ∧ RF fr' tm' ∧ kn fr' hp' = some x := by
  intro l
  induction l with
  | nil =>
    intro pre hall call fr hp kn kp x tm ms r hlen hm h
    refine ⟨fr, tm, hp, ?_, r, h⟩
    rw [evDraw_nil, marksOk_of (by rw [hall, hlen]; simp) hm]
  | cons o l ih =>
    intro pre hall call fr hp kn kp x tm ms r hlen hm h
    have hat : all[pre.length]? = some o := by rw [hall]; simp
    have go : ∀ (hp' : Hp) (fr' : Fr) (tm' : Tr Value), RF fr' tm' → evOper cx call sz all o tm ⟨hp.tr, hp.nx, hp.nx⟩ = some [.ok tm' hp'] →
        (writesM (dmkA cx all o tm hp.nx hp') = true → ordAll all bef pre.length = true) →
        stepF (drawS cx sz all bef l (Nat.succ pre.length)) call fr' ⟨hp'.tr, hp'.nx, least hp'.lo hp.lo⟩ kn kp = some x →
        ∃ fr' tm' hp', evDraw cx call sz all bef (o :: l) tm hp ms = some (tm', hp') ∧ RF fr' tm' ∧ kn fr' hp' = some x := by
      intro hp1 fr1 tm1 r1 h1 hw h2
      have h2 : (drawS cx sz all bef l (pre ++ [o]).length).go call fr1 ⟨hp1.tr, hp1.nx, least hp1.lo hp.lo⟩ kn kp = some x := by
        rw [List.length_append]
        exact h2
      obtain ⟨fr2, tm2, hp2, h3, r2, h4⟩ := ih (pre ++ [o]) (by rw [hall]; simp) call fr1 _ kn kp x tm1 (ms ++ [dmkA cx all o tm hp.nx hp1]) r1 (by simp [hlen]) (by
        intro j m oj hj hoj
        rw [List.getElem?_append] at hj
        split at hj
        · exact hm j m oj hj hoj
        · rename_i hge
          have hj0 : j - ms.length = 0 := by
            rcases Nat.eq_zero_or_pos (j - ms.length) with h | h
            · exact h
            · rw [List.getElem?_eq_none (by simp; omega)] at hj
              cases hj
          have hjl : j = pre.length := by omega
          rw [hj0] at hj
          simp at hj
          subst hj
          rw [hjl, hat] at hoj
          injection hoj with hoj
          subst hoj
          exact ⟨dmk_pure, fun hh => by rw [hjl]; exact hw hh⟩) h2
      refine ⟨fr2, tm2, hp2, ?_, r2, h4⟩
      rw [evDraw_cons, h1]
      exact h3
    have h : (match pureOp o.op || ordAll all bef pre.length with
        | true => (⟨fun call fr hp kn kp => (operS cx sz all o).go call fr ⟨hp.tr, hp.nx, hp.nx⟩ (fun fr hp' => stepF (drawS cx sz all bef l (Nat.succ pre.length)) call fr ⟨hp'.tr, hp'.nx, least hp'.lo hp.lo⟩ kn kp) (fun _ _ _ => none)⟩ : FO)
        | false => ⟨fun call fr hp kn kp => (operS cx sz all o).go call fr ⟨hp.tr, hp.nx, hp.nx⟩ (fun fr hp' => Bool.rec (motive := fun _ => RA2) none (stepF (drawS cx sz all bef l (Nat.succ pre.length)) call fr ⟨hp'.tr, hp'.nx, least hp'.lo hp.lo⟩ kn kp) (Nat.ble hp.nx hp'.lo)) (fun _ _ _ => none)⟩).go call fr hp kn kp = some x := h
    split at h
    · rename_i hb
      rcases operS_ok cx sz all o call fr _ _ _ x tm r h with ⟨fr1, tm1, hp1, h1, r1, h2⟩ | ⟨v, hp1, h1, h2⟩
      · refine go hp1 fr1 tm1 r1 h1 (fun hw => ?_) h2
        rcases Bool.or_eq_true_iff.1 hb with hb | hb
        · rw [dmk_pure hb] at hw; cases hw
        · exact hb
      · cases h2
    · rcases operS_ok cx sz all o call fr _ _ _ x tm r h with ⟨fr1, tm1, hp1, h1, r1, h2⟩ | ⟨v, hp1, h1, h2⟩
      · cases hq : Nat.ble hp.nx hp1.lo with
        | false => simp only [hq] at h2; cases h2
        | true =>
          simp only [hq] at h2
          exact go hp1 fr1 tm1 r1 h1 (fun hw => by rw [dmk_quiet hq] at hw; cases hw) h2
      · cases h2

/-! Code. -/
def finK (kn : Fr → Hp → RA2) (kx : AX → Fr → Hp → RA2) : AX → Fr → Hp → RA2
  | .normal => kn
  | ax => kx ax
def FcOk (cx : Cx) (sz n : Nat) (c : Code) (f : FC) : Prop :=
  ∀ call fr hp kn kx x tm, RF fr tm → f.go call fr hp kn kx = some x → ∃ ax fr' tm' hp', evCode cx call sz n none c ⟨tm, []⟩ hp = some [(ax, ⟨tm', []⟩, hp')] ∧ RF fr' tm' ∧ finK kn kx ax fr' hp' = some x

theorem noneFC_ok {cx : Cx} {sz n : Nat} {c : Code} : FcOk cx sz n c ⟨fun _ _ _ _ _ => none⟩ := fun _ _ _ _ _ _ _ _ h => by cases h

theorem regS_ok (cx : Cx) (sz n id : Nat) (ops : Array Oper) (draw : Bool) : FcOk cx sz n (.region id ops draw) (regS cx sz ops.toList draw) := by
  unfold regS
  split
  · split
    · rename_i hd
      intro call fr hp kn kx x tm r h
      have he : evCode cx call sz n none (.region id ops false) ⟨tm, []⟩ hp = bindL (evOps cx call sz ops.toList ops.toList tm hp) (plainEnd []) := by
        show evRegion cx call sz none ops.toList ⟨tm, []⟩ hp = _
        unfold evRegion
        rw [hd]
      rcases opsS_ok cx sz ops.toList ops.toList call fr hp _ _ x tm r h with ⟨fr', tm', hp', h1, r1, h2⟩ | ⟨v, fr', tm', hp', h1, r1, h2⟩
      · refine ⟨.normal, fr', tm', hp', ?_, r1, h2⟩
        rw [he, h1]
        exact bindL_of rfl
      · refine ⟨.pan v, fr', tm', hp', ?_, r1, h2⟩
        rw [he, h1]
        exact bindL_of rfl
    · exact noneFC_ok
  · split
    · rename_i hd
      intro call fr hp kn kx x tm r h
      obtain ⟨fr', tm', hp', h1, r1, h2⟩ := drawS_ok cx sz ops.toList (befA ops.toList []) ops.toList [] rfl call fr hp kn _ x tm [] r rfl (fun j m o hj => by simp at hj) h
      refine ⟨.normal, fr', tm', hp', ?_, r1, h2⟩
      show (match drawOk ops.toList with
        | true => match evDraw cx call sz ops.toList (befA ops.toList []) ops.toList tm hp [] with
          | some (tm', hp') => some [(AX.normal, (⟨tm', []⟩ : Fm), hp')]
          | none => none
        | false => none) = _
      rw [hd, h1]
    · exact noneFC_ok

theorem condF_some {v : Value} {call : CallF} {fr : Fr} {hp : Hp} {kn : Fr → Hp → RA2} {kx : AX → Fr → Hp → RA2} {a b : FC} {x : Res × Hp} (h : condF v call fr hp kn kx a b = some x) :
    (v = .bool true ∧ a.go call fr hp kn kx = some x) ∨ (v = .bool false ∧ b.go call fr hp kn kx = some x) := by
  cases v
  case bool t => cases t with
    | true => exact .inl ⟨rfl, h⟩
    | false => exact .inr ⟨rfl, h⟩
  all_goals cases h

theorem compS_ok (cx : Cx) (sz n : Nat) : ∀ c : Code, FcOk cx sz n c (compS cx sz n c) := by
  intro c
  induction c with
  | skip => intro call fr hp kn kx x tm r h; exact ⟨.normal, fr, tm, hp, rfl, r, h⟩
  | region id ops draw => exact regS_ok cx sz n id ops draw
  | seq a b iha ihb =>
    intro call fr hp kn kx x tm r h
    have h : (compS cx sz n a).go call fr hp (fun fr hp => stepC (compS cx sz n b) call fr hp kn kx) kx = some x := h
    obtain ⟨ax, fr1, tm1, hp1, h1, r1, h2⟩ := iha call fr hp _ kx x tm r h
    have he : evCode cx call sz n none (.seq a b) ⟨tm, []⟩ hp = bindL (evCode cx call sz n none a ⟨tm, []⟩ hp) (seqQ (evCode cx call sz n none b)) := rfl
    rw [he, h1]
    cases ax with
    | normal =>
      obtain ⟨ax2, fr2, tm2, hp2, h3, r2, h4⟩ := ihb call fr1 hp1 kn kx x tm1 r1 h2
      exact ⟨ax2, fr2, tm2, hp2, bindL_of h3, r2, h4⟩
    | exit id => exact ⟨.exit id, fr1, tm1, hp1, bindL_of rfl, r1, h2⟩
    | ret => exact ⟨.ret, fr1, tm1, hp1, bindL_of rfl, r1, h2⟩
    | pan v => exact ⟨.pan v, fr1, tm1, hp1, bindL_of rfl, r1, h2⟩
  | cond c a b iha ihb =>
    intro call fr hp kn kx x tm r h
    have h : (match okX c with
      | true => (⟨fun call fr hp kn kx => oneO ((rdS c).go fr) fun v => condF v call fr hp kn kx (compS cx sz n a) (compS cx sz n b)⟩ : FC)
      | false => ⟨fun _ _ _ _ _ => none⟩).go call fr hp kn kx = some x := h
    split at h
    · rename_i hc
      have h : oneO ((rdS c).go fr) (fun v => condF v call fr hp kn kx (compS cx sz n a) (compS cx sz n b)) = some x := h
      rw [rdS_eq r hc] at h
      obtain ⟨v, hv, h⟩ := oneO_some h
      have he : evCode cx call sz n none (.cond c a b) ⟨tm, []⟩ hp = condQ cx (evXQ tm c) (evCode cx call sz n none a ⟨tm, []⟩ hp) (evCode cx call sz n none b ⟨tm, []⟩ hp) := rfl
      rw [he, condQ_eq, hv]
      rcases condF_some h with ⟨rfl, h⟩ | ⟨rfl, h⟩
      · exact iha call fr hp kn kx x tm r h
      · exact ihb call fr hp kn kx x tm r h
    · cases h
  | block id a ih =>
    intro call fr hp kn kx x tm r h
    have h : (compS cx sz n a).go call fr hp kn (exitF id kn kx) = some x := h
    obtain ⟨ax, fr1, tm1, hp1, h1, r1, h2⟩ := ih call fr hp _ _ x tm r h
    have he : evCode cx call sz n none (.block id a) ⟨tm, []⟩ hp = bindL (evCode cx call sz n none a ⟨tm, []⟩ hp) (blockQ id) := rfl
    rw [he, h1]
    cases ax with
    | normal => exact ⟨.normal, fr1, tm1, hp1, bindL_of rfl, r1, h2⟩
    | exit i =>
      have h2 : Bool.rec (motive := fun _ => RA2) (kx (.exit i) fr1 hp1) (kn fr1 hp1) (Nat.beq i id) = some x := h2
      cases hb : Nat.beq i id with
      | true =>
        rw [hb] at h2
        refine ⟨.normal, fr1, tm1, hp1, bindL_of ?_, r1, h2⟩
        show Bool.rec (motive := fun _ => CS) _ _ (Nat.beq i id) = _
        rw [hb]
      | false =>
        rw [hb] at h2
        refine ⟨.exit i, fr1, tm1, hp1, bindL_of ?_, r1, h2⟩
        show Bool.rec (motive := fun _ => CS) _ _ (Nat.beq i id) = _
        rw [hb]
    | ret => exact ⟨.ret, fr1, tm1, hp1, bindL_of rfl, r1, h2⟩
    | pan v => exact ⟨.pan v, fr1, tm1, hp1, bindL_of rfl, r1, h2⟩
  | loop a ih =>
    intro call fr hp kn kx x tm r h
    have he : evCode cx call sz n none (.loop a) ⟨tm, []⟩ hp = iter (evCode cx call sz n none a) n ⟨tm, []⟩ hp := rfl
    rw [he]
    have h : Nat.rec (motive := fun _ => Fr → Hp → RA2) (fun _ _ => none) (fun _ again fr hp => stepC (compS cx sz n a) call fr hp again kx) n fr hp = some x := h
    have hgo : ∀ (m : Nat) (fr : Fr) (hp : Hp) (tm : Tr Value), RF fr tm → Nat.rec (motive := fun _ => Fr → Hp → RA2) (fun _ _ => none) (fun _ again fr hp => stepC (compS cx sz n a) call fr hp again kx) m fr hp = some x →
        ∃ ax fr' tm' hp', iter (evCode cx call sz n none a) m ⟨tm, []⟩ hp = some [(ax, ⟨tm', []⟩, hp')] ∧ RF fr' tm' ∧ finK kn kx ax fr' hp' = some x := by
      intro m
      induction m with
      | zero => intro fr hp tm r h; cases h
      | succ m ihm =>
        intro fr hp tm r h
        have h : (compS cx sz n a).go call fr hp (fun fr hp => Nat.rec (motive := fun _ => Fr → Hp → RA2) (fun _ _ => none) (fun _ again fr hp => stepC (compS cx sz n a) call fr hp again kx) m fr hp) kx = some x := h
        obtain ⟨ax, fr1, tm1, hp1, h1, r1, h2⟩ := ih call fr hp _ _ x tm r h
        have hi : iter (evCode cx call sz n none a) (m + 1) ⟨tm, []⟩ hp = bindL (evCode cx call sz n none a ⟨tm, []⟩ hp) (seqQ (iter (evCode cx call sz n none a) m)) := rfl
        rw [hi, h1]
        cases ax with
        | normal =>
          obtain ⟨ax2, fr2, tm2, hp2, h3, r2, h4⟩ := ihm fr1 hp1 tm1 r1 h2
          exact ⟨ax2, fr2, tm2, hp2, bindL_of h3, r2, h4⟩
        | exit id => exact ⟨.exit id, fr1, tm1, hp1, bindL_of rfl, r1, h2⟩
        | ret => exact ⟨.ret, fr1, tm1, hp1, bindL_of rfl, r1, h2⟩
        | pan v => exact ⟨.pan v, fr1, tm1, hp1, bindL_of rfl, r1, h2⟩
    exact hgo n fr hp tm r h
  | rangeFunc f ps a b iha ihb => exact noneFC_ok
  | exit id => intro call fr hp kn kx x tm r h; exact ⟨.exit id, fr, tm, hp, rfl, r, h⟩
  | scope a ih => exact ih
  | label l => intro call fr hp kn kx x tm r h; exact ⟨.normal, fr, tm, hp, rfl, r, h⟩
  | goto l => exact noneFC_ok
  | ret => intro call fr hp kn kx x tm r h; exact ⟨.ret, fr, tm, hp, rfl, r, h⟩
  | refuse w => exact noneFC_ok

/-! Functions. -/
theorem resS_eq {cx : Cx} {fr : Fr} {tm : Tr Value} (r : RF fr tm) (hp : Hp) : ∀ {l : List ResultVar}, l.all okR = true → (resS cx l).go fr hp = resA cx tm hp l
  | [], _ => rfl
  | x :: l, h => by
    simp only [List.all_cons, Bool.and_eq_true] at h
    have ih := resS_eq (cx := cx) r hp h.2
    cases x with
    | tmp t =>
      have ht := r t (blt_lt h.1)
      show Option.rec (motive := fun _ => Option (List Value)) none (fun v => Option.rec (motive := fun _ => Option (List Value)) none (fun vs => some (v :: vs)) ((resS cx l).go fr hp)) (Fr.get t fr) = match tm.get t with
        | none => none
        | some v => match resA cx tm hp l with
          | none => none
          | some vs => some (v :: vs)
      rw [ht, ih]
      cases tm.get t with
      | none => rfl
      | some v => cases resA cx tm hp l <;> rfl
    | cell a t =>
      have ht := r a (blt_lt h.1)
      show Option.rec (motive := fun _ => Option (List Value)) none (fun v => Option.rec (motive := fun _ => Option (List Value)) none (fun vs => some (v :: vs)) ((resS cx l).go fr hp)) (cellF cx t hp (Fr.get a fr)) = match cellF cx t hp (tm.get a) with
        | none => none
        | some v => match resA cx tm hp l with
          | none => none
          | some vs => some (v :: vs)
      rw [ht, ih]
      cases cellF cx t hp (tm.get a) with
      | none => rfl
      | some v => cases resA cx tm hp l <;> rfl

theorem argsS_ok : ∀ (l : List Value) (i : Nat) (fr : Fr) (tm : Tr Value) (k : Fr → RA2) (x : Res × Hp), RF fr tm → i + l.length ≤ 256 → argsS l i fr k = some x → ∃ fr', RF fr' (Tr.putList l tm i) ∧ k fr' = some x
  | [], i, fr, tm, k, x, r, _, h => ⟨fr, r, h⟩
  | v :: l, i, fr, tm, k, x, r, hl, h => by
    simp only [List.length_cons] at hl
    have h : (wrS i).go (some v) fr (fun fr => argsS l (Nat.succ i) fr k) = some x := h
    rw [wrS_go (by omega)] at h
    exact argsS_ok l (i + 1) _ _ k x (r.set (by omega) v) (by omega) h

theorem len_length' {α : Type} : ∀ l : List α, len l = l.length
  | [] => rfl
  | _ :: l => congrArg Nat.succ (len_length' l)

theorem fnS_ok {cx : Cx} {n f : Nat} {fi : FI} (hf : cx.f f = some fi) {call : CallF} {args : List Value} {hp : Hp} {x : Res × Hp} (h : (fnS cx n fi).go call args hp = some x) : evBody cx call n f args hp = some [x] := by
  unfold fnS at h
  split at h
  case h_2 => cases h
  rename_i hb
  simp only [Bool.and_eq_true] at hb
  have h : Bool.rec (motive := fun _ => RA2) none (argsS args 0 frN fun fr => stepC (compS cx fi.ntmps n fi.body) call fr hp (doneF (resS cx fi.results)) (leaveF (resS cx fi.results))) (Nat.ble (len args) fi.ntmps) = some x := h
  unfold evBody
  rw [hf]
  simp only
  cases hl : Nat.ble (len args) fi.ntmps with
  | false => rw [hl] at h; cases h
  | true =>
    rw [hl] at h
    simp only at h ⊢
    have h1 := Nat.le_of_ble_eq_true hl
    have h2 := Nat.le_of_ble_eq_true hb.1.1
    rw [len_length'] at h1
    obtain ⟨fr, r, h⟩ := argsS_ok args 0 frN .nil _ x (fun i hi => by rw [Tr.get_nil]; exact frN_get hi) (by omega) h
    obtain ⟨ax, fr', tm', hp', h3, r', h4⟩ := compS_ok cx fi.ntmps n fi.body call fr hp _ _ x _ r h
    have hend : bodyEnd cx call fi (ax, ⟨tm', []⟩, hp') = some [x] := by
      have hdone : doneF (resS cx fi.results) fr' hp' = some x → retEnd cx fi tm' (none, hp') = some [x] := fun hd => by
        unfold doneF at hd
        rw [resS_eq r' hp' hb.2] at hd
        obtain ⟨l, h5, h6⟩ := optR_some hd
        unfold retEnd
        simp only [h5]
        injection h6 with h6
        rw [h6]
      unfold bodyEnd
      cases ax with
      | normal => exact bindL_of (hdone h4)
      | exit id => cases h4
      | ret => exact bindL_of (hdone h4)
      | pan v =>
        have h4 : some (Res.pan v, hp') = some x := h4
        injection h4 with h4
        rw [← h4]
        exact bindL_of rfl
    rw [h3, bindL_of hend]
    rfl

theorem mixO_eq (cx : Cx) (n f : Nat) (call : CallF) (args : List Value) (hp : Hp) (o : RVal) : mixO cx n f call args hp o = match o with
    | some l => some l
    | none => evBody cx call n f args hp := by
  cases o with
  | some l => rfl
  | none =>
    show mixB ((fnOf cx n f).go call args hp) (evBody cx call n f args hp) = evBody cx call n f args hp
    cases h : (fnOf cx n f).go call args hp with
    | none => rfl
    | some x =>
      unfold fnOf at h
      split at h
      · cases h
      · rename_i fi hf
        rw [fnS_ok hf h]
        rfl

/-- The third reckoner's answers are the second one's. -/
theorem mixF_eq (cx : Cx) (n : Nat) : ∀ d : Nat, mixF cx n d = evFn cx n d
  | 0 => rfl
  | d + 1 => by
    have ih := mixF_eq cx n d
    funext c args hp
    cases c with
    | fn f =>
      show mixO cx n f (mixF cx n d) args hp (orR cx f args hp) = _
      rw [mixO_eq, ih]
      rfl
    | yield b =>
      show evRound cx (mixF cx n d) n b args hp = _
      rw [ih]
      rfl
    | dfr f pan =>
      show evDfr cx (mixF cx n d) n f pan args hp = _
      rw [ih]
      rfl
theorem of_mix {p : RVal → Bool} {cx : Cx} {n d : Nat} {c : Cal} {args : List Value} {hp : Hp} (h : p (mixF cx n d c args hp) = true) : p (evFn cx n d c args hp) = true := by
  rw [← mixF_eq]
  exact h
end Go.Proofs.YtfglcgclhdgplaaGreatDoor.Ev
