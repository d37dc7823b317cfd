import Derived.Test.YtaepplhgeeaidaaDoorEvBq
set_option linter.unusedVariables false
set_option linter.unusedSimpArgs false
namespace Go.Proofs.YtaepplhgeeaidaaDoor.Ev
open Go Go.RowKit
inductive Cal where
  | fn (f : FuncId)
  | yield (b : Nat)
  | dfr (f : FuncId) (pan : Option Value)
abbrev CallF := Cal → List Value → Hp → RVal
noncomputable def lift (r : Val) : RVal :=
  match r with
  | some (v, hp) => some [(.ret v, hp)]
  | none => none
noncomputable def opt (tm : Tr Value) : Option Operand → Option (Option Value)
  | none => some none
  | some x => match evX tm x with
    | some v => some (some v)
    | none => none
noncomputable def keep (hp : Hp) (o : Option Value) : Val :=
  match o with
  | some v => some (v, hp)
  | none => none
noncomputable def evCall (cx : Cx) (call : CallF) (tm : Tr Value) (hp : Hp) (c : Call) : RVal :=
  match evXs tm c.args.toList with
  | none => none
  | some args => match c.callee with
    | .builtin b => lift (builtinA cx hp b c.argTypes.toList args)
    | .value f => match evX tm f with
      | some (.func (.func f) first captured) => match cx.x f with
        | some k => lift (extH cx hp k (first.toList ++ args ++ captured.toList))
        | none => call (.fn f) (first.toList ++ args ++ captured.toList) hp
      | some (.func (.yield b) ⟨[]⟩ ⟨[]⟩) => call (.yield b) args hp
      | _ => none
    | .invoke r nm => match evX tm r with
      | some (.iface t v) => match cx.m t nm with
        | some f => match cx.x f with
          | some k => lift (extH cx hp k (v :: args))
          | none => call (.fn f) (v :: args) hp
        | none => match methDeref cx.P t nm, v with
          | some (f, e), .pointer (some a) => match cx.x f, loadA cx hp e a with
            | none, some u => call (.fn f) (u :: args) hp
            | _, _ => none
          | _, _ => none
      | _ => none
def nilMeth (P : Program) (t : TypeId) (v : Value) (nm : String) : Bool :=
  match P.info? t, P.underlying t with
  | some i, some d => match i.methods.toList.find? (fun q => q.name == nm) with
    | some q => match q.path.toList, q.func with
      | [], some (_, true) => true
      | [], some (_, false) => match isPtrD d, v with
        | true, .pointer (some _) => true
        | true, _ => false
        | false, _ => true
      | _, _ => false
    | none => false
  | _, _ => false
def methNil (P : Program) (nm : String) (xs : Array Value) : Bool :=
  match xs with
  | ⟨[.iface t v]⟩ => nilMeth P t v nm
  | _ => false
def yieldOk : Value → Bool
  | .func (.yield _) ⟨[]⟩ ⟨[]⟩ => true
  | .func (.yield _) ⟨[_, .int .u64 (.ofNat _), .int .u64 (.ofNat _)]⟩ ⟨[]⟩ => true
  | _ => false
noncomputable def evOp0 (cx : Cx) (tm : Tr Value) (hp : Hp) (o : Op) : Val :=
  match o with
  | .move x | .assign x => keep hp (evX tm x)
  | .pick c a b => match evX tm c with
    | some v => match boolA cx v with
      | some true => keep hp (evX tm a)
      | some false => keep hp (evX tm b)
      | none => none
    | none => none
  | .alloc e => match cx.t e with
    | some te => some (.pointer (some ⟨hp.nx, 0, none⟩), (newRowA hp e (cellsOf te.zero) none).2)
    | none => none
  | .box e x => match evX tm x with
    | some v => some (.pointer (some ⟨hp.nx, 0, none⟩), (newRowA hp e (cellsOf v) none).2)
    | none => none
  | .build t parts => match evParts tm parts.toList with
    | some ps => keep hp (buildA cx t ps)
    | none => none
  | .buildSlice t n parts => match evParts tm parts.toList with
    | some ps => buildSliceA cx hp t n ps
    | none => none
  | .load t a => match evX tm a with
    | some (.pointer (some p)) => keep hp (loadA cx hp t p)
    | some (.chan (some k)) => keep hp (loadG cx k t)
    | some (.func (.methodOf j nm) y z) => keep hp (loadS cx t (.func (.methodOf j nm) y z))
    | some (.func (.yield b) y z) => keep hp (loadQ cx hp t b y.toList z.toList)
    | _ => none
  | .store t a x => match evX tm a, evX tm x with
    | some (.pointer (some p)), some v => match storeA cx hp t p v with
      | some hp' => some (undef, hp')
      | none => none
    | some (.func (.yield b) y z), some v => match storeQ cx hp t b y.toList z.toList v with
      | some hp' => some (undef, hp')
      | none => none
    | _, _ => none
  | .nilCheck x => match evX tm x with
    | some (.pointer (some p)) => some (.pointer (some p), hp)
    | some (.func (.func f) y z) => some (.func (.func f) y z, hp)
    | some (.func (.yield b) y z) => match yieldOk (.func (.yield b) y z) with
      | true => some (.func (.yield b) y z, hp)
      | false => none
    | some (.func (.methodOf j nm) y z) => match isTrue cx [num 3, .func (.methodOf j nm) y z] with
      | true => some (.func (.methodOf j nm) y z, hp)
      | false => none
    | some (.func (.method nm) y z) => match methNil cx.P nm y with
      | true => some (.func (.method nm) y z, hp)
      | false => none
    | some (.map m) => some (.map m, hp)
    | some (.iface t v) => some (.iface t v, hp)
    | _ => none
  | .binOp op t x y _ => match evX tm x, evX tm y with
    | some a, some b => keep hp (binS cx op t (cOp x || cOp y) a b)
    | _, _ => none
  | .unOp op _ x => match evX tm x with
    | some v => keep hp (unS op v)
    | none => none
  | .convert s d x => match evX tm x with
    | some v => convT cx hp s d v
    | none => none
  | .makeInterface t x => match evX tm x, cx.t t with
    | some v, some ti => match ti.desc with
      | .interface _ => none
      | _ => some (.iface t v, hp)
    | _, _ => none
  | .makeFunc fn first captured => match evXs tm first.toList, evXs tm captured.toList, noYield fn with
    | some xs, some ys, true => some (.func fn ⟨xs⟩ ⟨ys⟩, hp)
    | _, _, _ => none
  | .makeSlice t l c => match evX tm l, evX tm c with
    | some a, some b => makeSliceT cx hp t a b
    | _, _ => none
  | .slice t x lo hi mx => match evX tm x, opt tm lo, opt tm hi, opt tm mx with
    | some v, some l, some h, some m => keep hp (sliceT cx hp t v l h m)
    | _, _, _, _ => none
  | .fieldAddr t x f => match evX tm x with
    | some v => keep hp (fieldAddrT cx t v f)
    | none => none
  | .field t x f => match evX tm x with
    | some v => keep hp (fieldA cx t v f)
    | none => none
  | .indexAddr t x ix => match evX tm x, evX tm ix with
    | some v, some i => keep hp (indexAddrT cx t v i)
    | _, _ => none
  | .index t x ix => match evX tm x, evX tm ix with
    | some v, some i => keep hp (indexT cx t v i)
    | _, _ => none
  | .extract x i => match evX tm x with
    | some (.tuple vs) => keep hp (vs.toList[i]?)
    | _ => none
  | .makeMap t r => match opt tm r with
    | some r => makeMapA cx hp t r
    | none => none
  | .lookup t x k ok => match evX tm x, evX tm k with
    | some x, some k => keep hp (lookupA cx hp t x k ok)
    | _, _ => none
  | .mapUpdate t m k x | .insert t m k x => match evX tm m, evX tm k, evX tm x with
    | some m, some k, some x => match mapUpdateA cx hp t m k x with
      | some hp' => some (undef, hp')
      | none => none
    | _, _, _ => none
  | .mapEntry t m k => match evX tm m, evX tm k with
    | some m, some k => mapEntryA cx hp t m k
    | _, _ => none
  | .entryStore _ m s x => match evX tm m, evX tm s, evX tm x with
    | some m, some s, some x => match entryStoreA hp m s x with
      | some hp' => some (undef, hp')
      | none => none
    | _, _, _ => none
  | .typeAssert x _ t ok => match evX tm x with
    | some v => keep hp (assertA cx v t ok)
    | none => none
  | .range t x => match evX tm x with
    | some v => rangeA cx hp t v
    | none => none
  | .entry x => match evX tm x with
    | some v => keep hp (entryA hp v)
    | none => none
  | _ => none
noncomputable def evOp (cx : Cx) (call : CallF) (tm : Tr Value) (hp : Hp) (o : Op) : RVal :=
  match o with
  | .call c => evCall cx call tm hp c
  | .panic x => match evX tm x with
    | some (.iface t v) => some [(.pan (.iface t v), hp)]
    | _ => none
  | .next x str => match evX tm x with
    | some v => bindL (nextA hp v str) fun r => some [(.ret r.1, r.2)]
    | none => none
  | o => lift (evOp0 cx tm hp o)
noncomputable  def oneV (o : Option Value) (f : Value → RVal) : RVal := Option.rec (motive := fun _ => RVal) none f o
noncomputable  def oneT (o : Option TI) (f : TI → RVal) : RVal := Option.rec (motive := fun _ => RVal) none f o
noncomputable  def oneB (o : Option Bool) (x y : RVal) : RVal := Option.rec (motive := fun _ => RVal) none (fun b => Bool.rec (motive := fun _ => RVal) y x b) o
noncomputable  def retQ (hp : Hp) (o : Option Value) : RVal := Option.rec (motive := fun _ => RVal) none (fun v => some [(.ret v, hp)]) o
noncomputable  def constQ (v : Value) : Option Value := Value.rec (motive_1 := fun _ => Option Value) (motive_2 := fun _ => Unit) (motive_3 := fun _ => Unit) (fun b => some (.bool b)) (fun k n => some (.int k n)) (fun k b => match constOk (.float k b) with | true => some (.float k b) | false => none) (fun k r i => match constOk (.complex k r i) with | true => some (.complex k r i) | false => none) (fun s => some (.string s)) (fun a => match constOk (.pointer a) with | true => some (.pointer a) | false => none) (fun a n c => match constOk (.slice a n c) with | true => some (.slice a n c) | false => none) (fun r => match constOk (.map r) with | true => some (.map r) | false => none) (fun r => match constOk (.chan r) with | true => some (.chan r) | false => none) (fun fn xs ys _ _ => match constOk (.func fn xs ys) with | true => some (.func fn xs ys) | false => none) (match constOk (.nilFunc) with | true => some (.nilFunc) | false => none) (fun t v _ => match constOk (.iface t v) with | true => some (.iface t v) | false => none) (match constOk (.nilIface) with | true => some (.nilIface) | false => none) (fun cs _ => match constOk (.agg cs) with | true => some (.agg cs) | false => none) (fun vs _ => match constOk (.tuple vs) with | true => some (.tuple vs) | false => none) (fun _ _ => ()) () (fun _ _ _ _ => ()) v
theorem constQ_eq (v : Value) : constQ v = match constOk v with | true => some v | false => none := by cases v <;> rfl
noncomputable  def evXQ (tm : Tr Value) (o : Operand) : Option Value :=
  Operand.rec (motive := fun _ => Tr Value → Option Value) (fun t tm => tm.get t) (fun v _ => constQ v) (fun g _ => some (.chan (some (g * 1048576)))) (fun f _ => some (.func (.func f) ⟨[]⟩ ⟨[]⟩)) o tm
theorem evXQ_eq (tm : Tr Value) (o : Operand) : evXQ tm o = evX tm o := by
  cases o <;> first | rfl | exact constQ_eq _
noncomputable  def loadAt (cx : Cx) (t : TypeId) (hp : Hp) (v : Value) : Val := match v with
  | .pointer (some p) => keep hp (loadA cx hp t p)
  | .chan (some k) => keep hp (loadG cx k t)
  | .func (.methodOf j nm) y z => keep hp (loadS cx t (.func (.methodOf j nm) y z))
  | .func (.yield b) y z => keep hp (loadQ cx hp t b y.toList z.toList)
  | _ => none
noncomputable  def storeAt (cx : Cx) (t : TypeId) (hp : Hp) (v u : Value) : Val := match u with
  | .pointer (some p) => match storeA cx hp t p v with
    | some hp' => some (undef, hp')
    | none => none
  | .func (.yield b) y z => match storeQ cx hp t b y.toList z.toList v with
    | some hp' => some (undef, hp')
    | none => none
  | _ => none
noncomputable  def nilAt (cx : Cx) (hp : Hp) (v : Value) : Val := match v with
  | .pointer (some p) => some (.pointer (some p), hp)
  | .func (.func f) y z => some (.func (.func f) y z, hp)
  | .func (.yield b) y z => match yieldOk (.func (.yield b) y z) with
    | true => some (.func (.yield b) y z, hp)
    | false => none
  | .func (.methodOf j nm) y z => match isTrue cx [num 3, .func (.methodOf j nm) y z] with
    | true => some (.func (.methodOf j nm) y z, hp)
    | false => none
  | .func (.method nm) y z => match methNil cx.P nm y with
    | true => some (.func (.method nm) y z, hp)
    | false => none
  | .map m => some (.map m, hp)
  | .iface t v => some (.iface t v, hp)
  | _ => none
noncomputable  def partAt (hp : Hp) (i : Nat) (v : Value) : Val := match v with
  | .tuple vs => keep hp (vs.toList[i]?)
  | _ => none
noncomputable  def addQ (a b : Int) : Int := Int.rec (motive := fun _ => Int → Int) (fun x b => Int.rec (motive := fun _ => Nat → Int) (fun y x => .ofNat (Nat.add x y)) (fun y x => Int.add (.ofNat x) (.negSucc y)) b x) (fun x b => Int.add (.negSucc x) b) a b
theorem addQ_eq (a b : Int) : addQ a b = a + b := by cases a <;> cases b <;> rfl
noncomputable  def eqQ (a b : Int) : Bool := Int.rec (motive := fun _ => Int → Bool) (fun x b => Int.rec (motive := fun _ => Nat → Bool) (fun y x => Nat.beq x y) (fun _ _ => false) b x) (fun x b => Int.rec (motive := fun _ => Nat → Bool) (fun _ _ => false) (fun y x => Nat.beq x y) b x) a b
noncomputable  def ltQ (a b : Int) : Bool := Int.rec (motive := fun _ => Int → Bool) (fun x b => Int.rec (motive := fun _ => Nat → Bool) (fun y x => Nat.ble (Nat.succ x) y) (fun _ _ => false) b x) (fun x b => Int.rec (motive := fun _ => Nat → Bool) (fun _ _ => true) (fun y x => Nat.ble (Nat.succ y) x) b x) a b
theorem beq_decide {x y : Nat} : Nat.beq x y = decide (x = y) := by
  cases h : Nat.beq x y with
  | true => simp [Nat.eq_of_beq_eq_true h]
  | false => simp [Nat.ne_of_beq_eq_false h]
theorem eqQ_eq (a b : Int) : eqQ a b = decide (a = b) := by
  cases a <;> cases b
  · show Nat.beq _ _ = _; rw [beq_decide]; simp [Int.ofNat_inj]
  · show false = _; simp
  · show false = _; simp
  · show Nat.beq _ _ = _; rw [beq_decide]; simp
theorem ltQ_eq (a b : Int) : ltQ a b = decide (a < b) := by
  have hb : ∀ x y : Nat, Nat.ble (Nat.succ x) y = decide (x < y) := fun x y => by
    show Nat.ble (x + 1) y = _
    cases h : Nat.ble (x + 1) y with
    | true => exact (decide_eq_true (Nat.le_of_ble_eq_true h)).symm
    | false => exact (decide_eq_false (fun hl => by rw [Nat.ble_eq_true_of_le hl] at h; cases h)).symm
  cases a <;> cases b
  · show Nat.ble _ _ = _; rw [hb]; simp
  · show false = _; simp; omega
  · show true = _; simp; omega
  · show Nat.ble _ _ = _; rw [hb]; simp; omega
theorem decide_not_lt (a b : Int) : (!decide (b < a)) = decide (a ≤ b) := by rw [← decide_not]; congr 1; exact propext Int.not_lt
noncomputable  def wrapQ (k : IntKind) (n : Int) : Int := IntKind.rec (motive := fun _ => Int → Int) (wrapA .i8) (wrapA .i16) (wrapA .i32)
  (fun n => Int.rec (motive := fun _ => Int) (fun a => Bool.rec (motive := fun _ => Int) (IntKind.i64.wrap (.ofNat a)) (.ofNat a) (Nat.ble (Nat.succ a) 9223372036854775808)) (fun a => wrapA .i64 (.negSucc a)) n)
  (wrapA .u8) (wrapA .u16) (wrapA .u32) (wrapA .u64) k n
theorem wrapQ_eq (k : IntKind) (n : Int) : wrapQ k n = wrapA k n := by
  cases k <;> first
    | rfl
    | skip
  cases n
  · rename_i a
    show Bool.rec (motive := fun _ => Int) (IntKind.i64.wrap (.ofNat a)) (.ofNat a) (Nat.ble (Nat.succ a) 9223372036854775808) = _
    simp only [wrapA, Nat.blt]
    cases Nat.ble (a + 1) 9223372036854775808 <;> rfl
  · rfl
noncomputable  def kcQ (k : IntKind) : Nat := IntKind.rec (motive := fun _ => Nat) 3 4 5 6 7 8 9 10 k
theorem kcQ_inj {k k' : IntKind} (h : Nat.beq (kcQ k) (kcQ k') = true) : k = k' := by
  cases k <;> cases k' <;> first | rfl | (cases h; done)
theorem kcQ_refl (k : IntKind) : Nat.beq (kcQ k) (kcQ k) = true := by cases k <;> rfl
noncomputable  def sameQ (k k' : IntKind) (v : Option Value) : Option Value := Bool.rec (motive := fun _ => Option Value) none v (Nat.beq (kcQ k) (kcQ k'))
theorem sameQ_eq (k k' : IntKind) (v : Option Value) : sameQ k k' v = if k = k' then v else none := by
  unfold sameQ
  cases h : Nat.beq (kcQ k) (kcQ k') with
  | true => rw [if_pos (kcQ_inj h)]
  | false =>
    rw [if_neg]
    rintro rfl
    rw [kcQ_refl] at h
    cases h
noncomputable  def intQ (op : BinOp) (k : IntKind) (a : Int) (k' : IntKind) (b : Int) : Option Value :=
  BinOp.rec (motive := fun _ => IntKind → Int → IntKind → Int → Option Value)
    (fun k a k' b => sameQ k k' (some (.int k (wrapQ k (addQ a b)))))
    (fun k a k' b => sameQ k k' (intA .sub k a b))
    (fun k a k' b => sameQ k k' (intA .mul k a b))
    (fun k a k' b => sameQ k k' (intA .quo k a b))
    (fun k a k' b => sameQ k k' (intA .rem k a b))
    (fun k a k' b => sameQ k k' (intA .and k a b))
    (fun k a k' b => sameQ k k' (intA .or k a b))
    (fun k a k' b => sameQ k k' (intA .xor k a b))
    (fun k a k' b => shiftA .shl k a b)
    (fun k a k' b => shiftA .shr k a b)
    (fun k a k' b => sameQ k k' (intA .andNot k a b))
    (fun k a k' b => sameQ k k' (some (.bool (eqQ a b))))
    (fun k a k' b => sameQ k k' (some (.bool (Bool.not (eqQ a b)))))
    (fun k a k' b => sameQ k k' (some (.bool (ltQ a b))))
    (fun k a k' b => sameQ k k' (some (.bool (Bool.not (ltQ b a)))))
    (fun k a k' b => sameQ k k' (some (.bool (ltQ b a))))
    (fun k a k' b => sameQ k k' (some (.bool (Bool.not (ltQ a b)))))
    op k a k' b
theorem intQ_eq {cx : Cx} (op : BinOp) (t : TypeId) (c : Bool) (k : IntKind) (a : Int) (k' : IntKind) (b : Int) : intQ op k a k' b = binA cx op t c (.int k a) (.int k' b) := by
  cases op <;> simp only [intQ, binA, sameQ_eq, intA, addQ_eq, wrapQ_eq, eqQ_eq, ltQ_eq]
  all_goals first
    | rfl
    | (split <;> simp [bne, GE.ge, GT.gt, decide_not_lt]; done)
noncomputable  def binI (k : IntKind) (a : Int) (y : Value) : Cx → BinOp → TypeId → Bool → Option Value := Value.rec (motive_1 := fun _ => IntKind → Int → Cx → BinOp → TypeId → Bool → Option Value) (motive_2 := fun _ => Unit) (motive_3 := fun _ => Unit) (fun b k0 a0 cx op t0 c0 => binS cx op t0 c0 (.int k0 a0) (.bool b)) (fun k' b k a _ op _ _ => intQ op k a k' b) (fun k b k0 a0 cx op t0 c0 => binS cx op t0 c0 (.int k0 a0) (.float k b)) (fun k r i k0 a0 cx op t0 c0 => binS cx op t0 c0 (.int k0 a0) (.complex k r i)) (fun s k0 a0 cx op t0 c0 => binS cx op t0 c0 (.int k0 a0) (.string s)) (fun a k0 a0 cx op t0 c0 => binS cx op t0 c0 (.int k0 a0) (.pointer a)) (fun a n c k0 a0 cx op t0 c0 => binS cx op t0 c0 (.int k0 a0) (.slice a n c)) (fun r k0 a0 cx op t0 c0 => binS cx op t0 c0 (.int k0 a0) (.map r)) (fun r k0 a0 cx op t0 c0 => binS cx op t0 c0 (.int k0 a0) (.chan r)) (fun fn xs ys _ _ k0 a0 cx op t0 c0 => binS cx op t0 c0 (.int k0 a0) (.func fn xs ys)) (fun k0 a0 cx op t0 c0 => binS cx op t0 c0 (.int k0 a0) (.nilFunc)) (fun t v _ k0 a0 cx op t0 c0 => binS cx op t0 c0 (.int k0 a0) (.iface t v)) (fun k0 a0 cx op t0 c0 => binS cx op t0 c0 (.int k0 a0) (.nilIface)) (fun cs _ k0 a0 cx op t0 c0 => binS cx op t0 c0 (.int k0 a0) (.agg cs)) (fun vs _ k0 a0 cx op t0 c0 => binS cx op t0 c0 (.int k0 a0) (.tuple vs)) (fun _ _ => ()) () (fun _ _ _ _ => ()) y k a
noncomputable  def binQ (cx : Cx) (op : BinOp) (t : TypeId) (c : Bool) (x y : Value) : Option Value := Value.rec (motive_1 := fun _ => Cx → BinOp → TypeId → Bool → Value → Option Value) (motive_2 := fun _ => Unit) (motive_3 := fun _ => Unit) (fun b cx op t0 c0 y => binS cx op t0 c0 (.bool b) y) (fun k a cx op t c y => binI k a y cx op t c) (fun k b cx op t0 c0 y => binS cx op t0 c0 (.float k b) y) (fun k r i cx op t0 c0 y => binS cx op t0 c0 (.complex k r i) y) (fun s cx op t0 c0 y => binS cx op t0 c0 (.string s) y) (fun a cx op t0 c0 y => binS cx op t0 c0 (.pointer a) y) (fun a n c cx op t0 c0 y => binS cx op t0 c0 (.slice a n c) y) (fun r cx op t0 c0 y => binS cx op t0 c0 (.map r) y) (fun r cx op t0 c0 y => binS cx op t0 c0 (.chan r) y) (fun fn xs ys _ _ cx op t0 c0 y => binS cx op t0 c0 (.func fn xs ys) y) (fun cx op t0 c0 y => binS cx op t0 c0 (.nilFunc) y) (fun t v _ cx op t0 c0 y => binS cx op t0 c0 (.iface t v) y) (fun cx op t0 c0 y => binS cx op t0 c0 (.nilIface) y) (fun cs _ cx op t0 c0 y => binS cx op t0 c0 (.agg cs) y) (fun vs _ cx op t0 c0 y => binS cx op t0 c0 (.tuple vs) y) (fun _ _ => ()) () (fun _ _ _ _ => ()) x cx op t c y
theorem binI_eq {cx : Cx} (k : IntKind) (a : Int) (y : Value) (op : BinOp) (t : TypeId) (c : Bool) : binI k a y cx op t c = binS cx op t c (.int k a) y := by
  cases y <;> first
    | rfl
    | (show intQ _ _ _ _ _ = _; rw [intQ_eq (cx := cx) op t c]; rfl)
theorem binQ_eq (cx : Cx) (op : BinOp) (t : TypeId) (c : Bool) (x y : Value) : binQ cx op t c x y = binS cx op t c x y := by
  cases x <;> first
    | rfl
    | exact binI_eq ..
noncomputable  def indexAddrQ (cx : Cx) (t : TypeId) (x ix : Value) : Option Value := Value.rec (motive_1 := fun _ => Cx → TypeId → Value → Option Value) (motive_2 := fun _ => Unit) (motive_3 := fun _ => Unit) (fun b cx t0 ix => indexAddrA cx t0 (.bool b) ix) (fun k n cx t0 ix => indexAddrA cx t0 (.int k n) ix) (fun k b cx t0 ix => indexAddrA cx t0 (.float k b) ix) (fun k r i cx t0 ix => indexAddrA cx t0 (.complex k r i) ix) (fun s cx t0 ix => indexAddrA cx t0 (.string s) ix) (fun a cx t0 ix => indexAddrA cx t0 (.pointer a) ix) (fun a n c cx t0 ix => indexAddrA cx t0 (.slice a n c) ix) (fun r cx t0 ix => indexAddrA cx t0 (.map r) ix) (fun r cx t0 ix => indexAddrA cx t0 (.chan r) ix) (fun fn xs ys _ _ cx t ix => indexAddrT cx t (.func fn xs ys) ix) (fun cx t0 ix => indexAddrA cx t0 (.nilFunc) ix) (fun t v _ cx t0 ix => indexAddrA cx t0 (.iface t v) ix) (fun cx t0 ix => indexAddrA cx t0 (.nilIface) ix) (fun cs _ cx t0 ix => indexAddrA cx t0 (.agg cs) ix) (fun vs _ cx t0 ix => indexAddrA cx t0 (.tuple vs) ix) (fun _ _ => ()) () (fun _ _ _ _ => ()) x cx t ix
noncomputable  def fieldAddrQ (cx : Cx) (t : TypeId) (x : Value) (f : Nat) : Option Value := Value.rec (motive_1 := fun _ => Cx → TypeId → Nat → Option Value) (motive_2 := fun _ => Unit) (motive_3 := fun _ => Unit) (fun b cx t0 f => fieldAddrA cx t0 (.bool b) f) (fun k n cx t0 f => fieldAddrA cx t0 (.int k n) f) (fun k b cx t0 f => fieldAddrA cx t0 (.float k b) f) (fun k r i cx t0 f => fieldAddrA cx t0 (.complex k r i) f) (fun s cx t0 f => fieldAddrA cx t0 (.string s) f) (fun a cx t0 f => fieldAddrA cx t0 (.pointer a) f) (fun a n c cx t0 f => fieldAddrA cx t0 (.slice a n c) f) (fun r cx t0 f => fieldAddrA cx t0 (.map r) f) (fun r cx t0 f => fieldAddrA cx t0 (.chan r) f) (fun fn xs ys _ _ cx t f => fieldAddrT cx t (.func fn xs ys) f) (fun cx t0 f => fieldAddrA cx t0 (.nilFunc) f) (fun t v _ cx t0 f => fieldAddrA cx t0 (.iface t v) f) (fun cx t0 f => fieldAddrA cx t0 (.nilIface) f) (fun cs _ cx t0 f => fieldAddrA cx t0 (.agg cs) f) (fun vs _ cx t0 f => fieldAddrA cx t0 (.tuple vs) f) (fun _ _ => ()) () (fun _ _ _ _ => ()) x cx t f
theorem indexAddrQ_eq (cx : Cx) (t : TypeId) (x ix : Value) : indexAddrQ cx t x ix = indexAddrT cx t x ix := by cases x <;> rfl
theorem fieldAddrQ_eq (cx : Cx) (t : TypeId) (x : Value) (f : Nat) : fieldAddrQ cx t x f = fieldAddrT cx t x f := by cases x <;> rfl
noncomputable  def q_move (x : Operand) (cx : Cx) (call : CallF) (tm : Tr Value) (hp : Hp) : RVal := retQ hp (evXQ tm x)
noncomputable  def q_assign (x : Operand) (cx : Cx) (call : CallF) (tm : Tr Value) (hp : Hp) : RVal := retQ hp (evXQ tm x)
noncomputable  def q_pick (c : Operand) (a : Operand) (b : Operand) (cx : Cx) (call : CallF) (tm : Tr Value) (hp : Hp) : RVal := oneV (evXQ tm c) fun v => oneB (boolA cx v) (retQ hp (evXQ tm a)) (retQ hp (evXQ tm b))
noncomputable  def q_alloc (e : TypeId) (cx : Cx) (call : CallF) (tm : Tr Value) (hp : Hp) : RVal := oneT (cx.t e) fun te => some [(.ret (.pointer (some ⟨hp.nx, 0, none⟩)), (newRowA hp e (cellsOf te.zero) none).2)]
noncomputable  def q_box (e : TypeId) (x : Operand) (cx : Cx) (call : CallF) (tm : Tr Value) (hp : Hp) : RVal := oneV (evXQ tm x) fun v => some [(.ret (.pointer (some ⟨hp.nx, 0, none⟩)), (newRowA hp e (cellsOf v) none).2)]
noncomputable  def q_build (t : TypeId) (parts : Array (Nat × Operand)) (cx : Cx) (call : CallF) (tm : Tr Value) (hp : Hp) : RVal := lift (match evParts tm parts.toList with | some ps => keep hp (buildA cx t ps) | none => none)
noncomputable  def q_load (t : TypeId) (a : Operand) (cx : Cx) (call : CallF) (tm : Tr Value) (hp : Hp) : RVal := oneV (evXQ tm a) fun v => lift (loadAt cx t hp v)
noncomputable  def q_store (t : TypeId) (a : Operand) (x : Operand) (cx : Cx) (call : CallF) (tm : Tr Value) (hp : Hp) : RVal := oneV (evXQ tm a) fun u => oneV (evXQ tm x) fun v => lift (storeAt cx t hp v u)
noncomputable  def q_nilCheck (x : Operand) (cx : Cx) (call : CallF) (tm : Tr Value) (hp : Hp) : RVal := oneV (evXQ tm x) fun v => lift (nilAt cx hp v)
noncomputable  def q_binOp (op : BinOp) (t : TypeId) (x : Operand) (y : Operand) (_ : TypeId) (cx : Cx) (call : CallF) (tm : Tr Value) (hp : Hp) : RVal := oneV (evXQ tm x) fun u => oneV (evXQ tm y) fun v => retQ hp (binQ cx op t (cOp x || cOp y) u v)
noncomputable  def q_unOp (op : UnOp) (_ : TypeId) (x : Operand) (cx : Cx) (call : CallF) (tm : Tr Value) (hp : Hp) : RVal := oneV (evXQ tm x) fun v => retQ hp (unS op v)
noncomputable  def q_convert (s : TypeId) (d : TypeId) (x : Operand) (cx : Cx) (call : CallF) (tm : Tr Value) (hp : Hp) : RVal := oneV (evXQ tm x) fun v => lift (convT cx hp s d v)
noncomputable  def q_slice (t : TypeId) (x : Operand) (lo : Option Operand) (hi : Option Operand) (mx : Option Operand) (cx : Cx) (call : CallF) (tm : Tr Value) (hp : Hp) : RVal := oneV (evXQ tm x) fun v => lift (match opt tm lo, opt tm hi, opt tm mx with | some l, some h, some m => keep hp (sliceT cx hp t v l h m) | _, _, _ => none)
noncomputable  def q_fieldAddr (t : TypeId) (x : Operand) (f : Nat) (cx : Cx) (call : CallF) (tm : Tr Value) (hp : Hp) : RVal := oneV (evXQ tm x) fun v => retQ hp (fieldAddrQ cx t v f)
noncomputable  def q_field (t : TypeId) (x : Operand) (f : Nat) (cx : Cx) (call : CallF) (tm : Tr Value) (hp : Hp) : RVal := oneV (evXQ tm x) fun v => retQ hp (fieldA cx t v f)
noncomputable  def q_indexAddr (t : TypeId) (x : Operand) (i : Operand) (cx : Cx) (call : CallF) (tm : Tr Value) (hp : Hp) : RVal := oneV (evXQ tm x) fun u => oneV (evXQ tm i) fun v => retQ hp (indexAddrQ cx t u v)
noncomputable  def q_index (t : TypeId) (x : Operand) (i : Operand) (cx : Cx) (call : CallF) (tm : Tr Value) (hp : Hp) : RVal := oneV (evXQ tm x) fun u => oneV (evXQ tm i) fun v => retQ hp (indexT cx t u v)
noncomputable  def q_lookup (t : TypeId) (x : Operand) (k : Operand) (ok : Bool) (cx : Cx) (call : CallF) (tm : Tr Value) (hp : Hp) : RVal := oneV (evXQ tm x) fun u => oneV (evXQ tm k) fun v => retQ hp (lookupA cx hp t u v ok)
noncomputable  def q_next (x : Operand) (str : Bool) (cx : Cx) (call : CallF) (tm : Tr Value) (hp : Hp) : RVal := match evX tm x with | some v => bindL (nextA hp v str) fun r => some [(.ret r.1, r.2)] | none => none
noncomputable  def q_extract (x : Operand) (i : Nat) (cx : Cx) (call : CallF) (tm : Tr Value) (hp : Hp) : RVal := oneV (evXQ tm x) fun v => lift (partAt hp i v)
noncomputable  def q_call (c : Call) (cx : Cx) (call : CallF) (tm : Tr Value) (hp : Hp) : RVal := evCall cx call tm hp c
noncomputable  def q_panic (x : Operand) (cx : Cx) (call : CallF) (tm : Tr Value) (hp : Hp) : RVal := match evX tm x with | some (.iface t v) => some [(.pan (.iface t v), hp)] | _ => none
noncomputable def evOpQ (cx : Cx) (call : CallF) (tm : Tr Value) (hp : Hp) (o : Op) : RVal :=
  Op.rec (motive := fun _ => Cx → CallF → Tr Value → Hp → RVal)
    q_move
    q_assign
    q_pick
    q_alloc
    q_box
    q_build
    (fun t len parts cx _ tm hp => lift (evOp0 cx tm hp (.buildSlice t len parts)))
    (fun mapType map key value cx _ tm hp => lift (evOp0 cx tm hp (.insert mapType map key value)))
    q_load
    q_store
    (fun _ _ _ _ _ => none)
    (fun _ _ _ _ _ => none)
    q_nilCheck
    q_binOp
    q_unOp
    q_convert
    (fun _ _ _ _ _ _ => none)
    (fun xType x cx _ tm hp => lift (evOp0 cx tm hp (.makeInterface xType x)))
    (fun fn first captured cx _ tm hp => lift (evOp0 cx tm hp (.makeFunc fn first captured)))
    (fun t reserve cx _ tm hp => lift (evOp0 cx tm hp (.makeMap t reserve)))
    (fun _ _ _ _ _ _ => none)
    (fun t len cap cx _ tm hp => lift (evOp0 cx tm hp (.makeSlice t len cap)))
    q_slice
    q_fieldAddr
    q_field
    q_indexAddr
    q_index
    q_lookup
    (fun mapType map key value cx _ tm hp => lift (evOp0 cx tm hp (.mapUpdate mapType map key value)))
    (fun mapType map key cx _ tm hp => lift (evOp0 cx tm hp (.mapEntry mapType map key)))
    (fun mapType map stamp value cx _ tm hp => lift (evOp0 cx tm hp (.entryStore mapType map stamp value)))
    (fun xType x cx _ tm hp => lift (evOp0 cx tm hp (.range xType x)))
    q_next
    (fun iter cx _ tm hp => lift (evOp0 cx tm hp (.entry iter)))
    (fun x xType asserted commaOk cx _ tm hp => lift (evOp0 cx tm hp (.typeAssert x xType asserted commaOk)))
    q_extract
    q_call
    (fun _ _ _ _ _ => none)
    (fun _ _ _ _ _ => none)
    q_panic
    (fun _ _ _ _ _ _ => none)
    (fun _ _ _ _ _ _ _ => none)
    (fun _ _ _ _ _ _ => none)
    o cx call tm hp
theorem evOpQ_eq (cx : Cx) (call : CallF) (tm : Tr Value) (hp : Hp) (o : Op) : evOpQ cx call tm hp o = evOp cx call tm hp o := by
  cases o
  case move x => show retQ hp (evXQ tm x) = lift (keep hp (evX tm x)); rw [evXQ_eq]; cases evX tm x <;> rfl
  case pick c a b => show oneV (evXQ tm c) _ = lift (evOp0 cx tm hp (.pick c a b)); simp only [evXQ_eq, evOp0]; cases evX tm c with | none => rfl | some v => (show oneB (boolA cx v) _ _ = lift (match boolA cx v with | some true => keep hp (evX tm a) | some false => keep hp (evX tm b) | none => none); cases boolA cx v with | none => rfl | some u => cases u with | true => (show retQ hp (evX tm a) = lift (keep hp (evX tm a)); cases evX tm a <;> rfl) | false => (show retQ hp (evX tm b) = lift (keep hp (evX tm b)); cases evX tm b <;> rfl))
  case alloc e => show oneT (cx.t e) _ = lift (evOp0 cx tm hp (.alloc e)); simp only [evOp0]; cases cx.t e <;> rfl
  case box e x => show oneV (evXQ tm x) _ = lift (evOp0 cx tm hp (.box e x)); simp only [evXQ_eq, evOp0]; cases evX tm x <;> rfl
  case build t parts => rfl
  case load t a => show oneV (evXQ tm a) _ = lift (evOp0 cx tm hp (.load t a)); simp only [evXQ_eq, evOp0]; cases evX tm a with | none => rfl | some v => (show lift (loadAt cx t hp v) = _; congr 1; cases v <;> first | rfl | (rename_i q; cases q <;> rfl) | (rename_i fn _ _; cases fn <;> rfl))
  case store t a x => show oneV (evXQ tm a) _ = lift (evOp0 cx tm hp (.store t a x)); simp only [evXQ_eq, evOp0]; cases evX tm a with | none => rfl | some u => (cases evX tm x with | none => (show none = _; cases u <;> first | rfl | (rename_i p; cases p <;> rfl) | (rename_i fn _ _; cases fn <;> rfl)) | some v => (show lift (storeAt cx t hp v u) = _; congr 1; cases u <;> first | rfl | (rename_i q; cases q <;> rfl) | (rename_i fn _ _; cases fn <;> rfl)))
  case nilCheck x => show oneV (evXQ tm x) _ = lift (evOp0 cx tm hp (.nilCheck x)); simp only [evXQ_eq, evOp0]; cases evX tm x with | none => rfl | some v => (show lift (nilAt cx hp v) = _; congr 1; cases v <;> first | rfl | (rename_i q; cases q <;> rfl) | (rename_i fn _ _; cases fn <;> rfl))
  case binOp op t x y yt => show oneV (evXQ tm x) _ = lift (evOp0 cx tm hp (.binOp op t x y yt)); simp only [evXQ_eq, evOp0]; cases evX tm x with | none => rfl | some u => (cases evX tm y with | none => rfl | some v => (show retQ hp (binQ cx op t _ u v) = _; rw [binQ_eq]; show _ = lift (keep hp (binS cx op t _ u v)); cases binS cx op t (cOp x || cOp y) u v <;> rfl))
  case unOp op t x => show oneV (evXQ tm x) _ = lift (evOp0 cx tm hp (.unOp op t x)); simp only [evXQ_eq, evOp0]; cases evX tm x with | none => rfl | some u => (show retQ hp (unS op u) = lift (keep hp (unS op u)); cases unS op u <;> rfl)
  case fieldAddr t x f => show oneV (evXQ tm x) _ = lift (evOp0 cx tm hp (.fieldAddr t x f)); simp only [evXQ_eq, evOp0]; cases evX tm x with | none => rfl | some u => (show retQ hp (fieldAddrQ cx t u f) = lift (keep hp (fieldAddrT cx t u f)); rw [fieldAddrQ_eq]; cases fieldAddrT cx t u f <;> rfl)
  case field t x f => show oneV (evXQ tm x) _ = lift (evOp0 cx tm hp (.field t x f)); simp only [evXQ_eq, evOp0]; cases evX tm x with | none => rfl | some u => (show retQ hp (fieldA cx t u f) = lift (keep hp (fieldA cx t u f)); cases fieldA cx t u f <;> rfl)
  case indexAddr t x i => show oneV (evXQ tm x) _ = lift (evOp0 cx tm hp (.indexAddr t x i)); simp only [evXQ_eq, evOp0]; cases evX tm x with | none => rfl | some u => (cases evX tm i with | none => rfl | some v => (show retQ hp (indexAddrQ cx t u v) = lift (keep hp (indexAddrT cx t u v)); rw [indexAddrQ_eq]; cases indexAddrT cx t u v <;> rfl))
  case index t x i => show oneV (evXQ tm x) _ = lift (evOp0 cx tm hp (.index t x i)); simp only [evXQ_eq, evOp0]; cases evX tm x with | none => rfl | some u => (cases evX tm i with | none => rfl | some v => (show retQ hp (indexT cx t u v) = lift (keep hp (indexT cx t u v)); cases indexT cx t u v <;> rfl))
  case lookup t x k ok => show oneV (evXQ tm x) _ = lift (evOp0 cx tm hp (.lookup t x k ok)); simp only [evXQ_eq, evOp0]; cases evX tm x with | none => rfl | some u => (cases evX tm k with | none => rfl | some v => (show retQ hp (lookupA cx hp t u v ok) = lift (keep hp (lookupA cx hp t u v ok)); cases lookupA cx hp t u v ok <;> rfl))
  case slice t x lo hi mx => show oneV (evXQ tm x) _ = lift (evOp0 cx tm hp (.slice t x lo hi mx)); simp only [evXQ_eq, evOp0]; cases evX tm x with | none => rfl | some u => (cases opt tm lo <;> cases opt tm hi <;> cases opt tm mx <;> rfl)
  case convert s d x => show oneV (evXQ tm x) _ = lift (evOp0 cx tm hp (.convert s d x)); simp only [evXQ_eq, evOp0]; cases evX tm x with | none => rfl | some u => rfl
  case extract x i => show oneV (evXQ tm x) _ = lift (evOp0 cx tm hp (.extract x i)); simp only [evXQ_eq, evOp0]; cases evX tm x with | none => rfl | some u => (show lift (partAt hp i u) = _; congr 1; cases u <;> rfl)
  case assign x => show retQ hp (evXQ tm x) = lift (keep hp (evX tm x)); rw [evXQ_eq]; cases evX tm x <;> rfl
  all_goals rfl
noncomputable def force {α : Type} (v : Value) (f : Value → α) : α :=
  match v with
  | .int k (.ofNat a) => Nat.rec (motive := fun _ => α) (f (.int k (.ofNat 0))) (fun p _ => f (.int k (.ofNat (Nat.succ p)))) a
  | .int k (.negSucc a) => Nat.rec (motive := fun _ => α) (f (.int k (.negSucc 0))) (fun p _ => f (.int k (.negSucc (Nat.succ p)))) a
  | .bool true => f (.bool true)
  | .bool false => f (.bool false)
  | v => f v
theorem force_eq {α : Type} (v : Value) (f : Value → α) : force v f = f v := by
  unfold force
  split
  · rename_i k a; cases a <;> rfl
  · rename_i k a; cases a <;> rfl
  all_goals rfl
inductive TSR where
  | ok (tm : Tr Value) (hp : Hp)
  | pan (v : Value) (tm : Tr Value) (hp : Hp)
abbrev TS := Option (List TSR)
abbrev TD := Option (Tr Value × Hp)
noncomputable def forceT (v : Value) (f : Value → TS) : TS := Value.rec (motive_1 := fun _ => (Value → TS) → TS) (motive_2 := fun _ => Unit) (motive_3 := fun _ => Unit) (fun b f => Bool.rec (motive := fun _ => TS) (f (.bool false)) (f (.bool true)) b) (fun k n f => Int.rec (motive := fun _ => IntKind → (Value → TS) → TS) (fun a k f => Nat.rec (motive := fun _ => TS) (f (.int k (.ofNat 0))) (fun p _ => f (.int k (.ofNat (Nat.succ p)))) a) (fun a k f => Nat.rec (motive := fun _ => TS) (f (.int k (.negSucc 0))) (fun p _ => f (.int k (.negSucc (Nat.succ p)))) a) n k f) (fun k b f => f (.float k b)) (fun k r i f => f (.complex k r i)) (fun s f => f (.string s)) (fun a f => f (.pointer a)) (fun a n c f => f (.slice a n c)) (fun r f => f (.map r)) (fun r f => f (.chan r)) (fun fn xs ys _ _ f => f (.func fn xs ys)) (fun f => f (.nilFunc)) (fun t v _ f => f (.iface t v)) (fun f => f (.nilIface)) (fun cs _ f => f (.agg cs)) (fun vs _ f => f (.tuple vs)) (fun _ _ => ()) () (fun _ _ _ _ => ()) v f
theorem forceT_eq (v : Value) (f : Value → TS) : forceT v f = f v := by
  cases v <;> first
    | rfl
    | (rename_i b; cases b <;> rfl)
    | (rename_i k n; cases n <;> (rename_i a; cases a <;> rfl))
noncomputable def putA (sz : Nat) (tm : Tr Value) (dst : Option Tmp) (v : Value) : Option (Tr Value) :=
  Option.rec (motive := fun _ => Option (Tr Value)) (some tm) (fun d => Bool.rec (motive := fun _ => Option (Tr Value)) none (some (tm.set d v)) (Nat.ble (Nat.succ d) sz)) dst
theorem putA_def (sz : Nat) (tm : Tr Value) (dst : Option Tmp) (v : Value) : putA sz tm dst v = match dst with
    | none => some tm
    | some d => match Nat.blt d sz with
      | true => some (tm.set d v)
      | false => none := by
  cases dst with
  | none => rfl
  | some d =>
    show Bool.rec (motive := fun _ => Option (Tr Value)) none (some (tm.set d v)) (Nat.ble (Nat.succ d) sz) = match Nat.ble (Nat.succ d) sz with | true => some (tm.set d v) | false => none
    cases Nat.ble (Nat.succ d) sz <;> rfl
noncomputable def wantG (cx : Cx) (all : List Oper) (tm : Tr Value) (j : Nat) (want : Bool) : Option Bool :=
  match all[j]? with
  | none => none
  | some o => match o.dst with
    | none => none
    | some d => match tm.get d with
      | some (.tuple ⟨[]⟩) => some false
      | some v => match boolA cx v with
        | some b => some (b == want)
        | none => none
      | none => none
noncomputable def wantA (cx : Cx) (all : List Oper) (tm : Tr Value) (g : Option (Nat × Bool)) : Option Bool :=
  Option.rec (motive := fun _ => Option Bool) (some true) (fun p => wantG cx all tm p.1 p.2) g
theorem wantA_def (cx : Cx) (all : List Oper) (tm : Tr Value) (g : Option (Nat × Bool)) : wantA cx all tm g = match g with
    | none => some true
    | some (j, want) => match all[j]? with
      | none => none
      | some o => match o.dst with
        | none => none
        | some d => match tm.get d with
          | some (.tuple ⟨[]⟩) => some false
          | some v => match boolA cx v with
            | some b => some (b == want)
            | none => none
          | none => none := by
  cases g <;> rfl
noncomputable  def resTm (tm : Option (Tr Value)) (hp : Hp) : TS := Option.rec (motive := fun _ => TS) none (fun tm => some [.ok tm hp]) tm
noncomputable def evRes (sz : Nat) (o : Oper) (tm : Tr Value) (r : Res × Hp) : TS :=
  Res.rec (motive := fun _ => Nat → Oper → Tr Value → Hp → TS) (fun v sz o tm hp => forceT v fun v => resTm (putA sz tm o.dst v) hp) (fun v _ _ tm hp => some [.pan v tm hp]) (fun _ _ _ _ _ => none) r.1 sz o tm r.2
theorem evRes_def (sz : Nat) (o : Oper) (tm : Tr Value) (r : Res × Hp) : evRes sz o tm r = match r with
    | (.ret v, hp') => force v fun v => match putA sz tm o.dst v with
      | none => none
      | some tm' => some [.ok tm' hp']
    | (.pan v, hp') => some [.pan v tm hp']
    | (.went _, _) => none := by
  obtain ⟨r, hp⟩ := r
  cases r with
  | ret v =>
    show forceT v (fun v => resTm (putA sz tm o.dst v) hp) = force v fun v => match putA sz tm o.dst v with
      | none => none
      | some tm' => some [.ok tm' hp]
    rw [forceT_eq, force_eq]
    cases putA sz tm o.dst v <;> rfl
  | pan v => rfl
  | went v => rfl
noncomputable def evOper (cx : Cx) (call : CallF) (sz : Nat) (all : List Oper) (o : Oper) (tm : Tr Value) (hp : Hp) : TS :=
  Option.rec (motive := fun _ => TS) none (fun b => Bool.rec (motive := fun _ => TS) (resTm (putA sz tm o.dst undef) hp) (bindL (evOpQ cx call tm hp o.op) (evRes sz o tm)) b) (wantA cx all tm o.guard)
theorem evOper_def (cx : Cx) (call : CallF) (sz : Nat) (all : List Oper) (o : Oper) (tm : Tr Value) (hp : Hp) : evOper cx call sz all o tm hp = match wantA cx all tm o.guard with
    | none => none
    | some false => match putA sz tm o.dst undef with
      | none => none
      | some tm' => some [.ok tm' hp]
    | some true => bindL (evOp cx call tm hp o.op) (evRes sz o tm) := by
  unfold evOper
  rw [evOpQ_eq]
  cases wantA cx all tm o.guard with
  | none => rfl
  | some b => cases b with
    | true => rfl
    | false =>
      show resTm (putA sz tm o.dst undef) hp = match putA sz tm o.dst undef with
        | none => none
        | some tm' => some [.ok tm' hp]
      cases putA sz tm o.dst undef <;> rfl
noncomputable def evOps (cx : Cx) (call : CallF) (sz : Nat) (all : List Oper) (l : List Oper) : Tr Value → Hp → TS :=
  List.rec (motive := fun _ => Tr Value → Hp → TS) (fun tm hp => some [.ok tm hp])
    (fun o _ ih tm hp => bindL (evOper cx call sz all o tm hp) (fun r => TSR.rec (motive := fun _ => TS) (fun tm' hp' => ih tm' hp') (fun v tm' hp' => some [.pan v tm' hp']) r)) l
noncomputable def befA (l : List Oper) : List Nat → List Nat :=
  List.rec (motive := fun _ => List Nat → List Nat) (fun acc => acc)
    (fun o _ ih acc => ih (acc ++ [o.after.toList.foldl (fun s e => match Region.binds .any e, Nat.blt e.on acc.length with
      | true, true => s ||| 2 ^ e.on ||| acc.getD e.on 0
      | _, _ => s) 0])) l
def backA (l : List Oper) : Bool := l.zipIdx.all fun (o, i) => o.after.toList.all fun e => !Region.binds .any e || Nat.blt e.on i
def looksA (o : Oper) (l : List Oper) : List Tmp :=
  (o.op.operands.toList.filterMap fun | .tmp t => some t | _ => none) ++ (match o.guard with
    | some (j, _) => match l[j]? with
      | some o' => o'.dst.toList
      | none => []
    | none => [])
noncomputable def tmpsA (l : List Oper) (bef : List Nat) : Bool :=
  l.zipIdx.all fun (o, i) => match o.dst with
    | none => true
    | some d => l.zipIdx.all fun (o', j) =>
      i == j || !((looksA o' l).contains d || o'.dst == some d) || (if i < j then (bef.getD j 0).testBit i else (bef.getD i 0).testBit j)
def pureOp : Op → Bool
  | .move _ | .assign _ | .pick _ _ _ | .binOp _ _ _ _ _ | .unOp _ _ _ | .makeInterface _ _ | .makeFunc _ _ _ | .fieldAddr _ _ _ | .field _ _ _ | .indexAddr _ _ _ | .index _ _ _ | .extract _ _ | .nilCheck _ | .typeAssert _ _ _ _ => true
  | _ => false
inductive DMk where
  | idle
  | one (b : Nat) (w : Bool)
  | whole (u : Option Nat) (w : Bool)
noncomputable def focA (tm : Tr Value) (o : Op) : Option Nat :=
  match o with
  | .load _ a => match evX tm a with
    | some (.pointer (some p)) => some p.block
    | _ => none
  | .store _ a _ => match evX tm a with
    | some (.pointer (some p)) => some p.block
    | _ => none
  | .lookup _ x _ _ => match evX tm x with
    | some (.map (some b)) => some b
    | _ => none
  | _ => none
noncomputable def wriA (tm : Tr Value) (o : Op) : Option Nat :=
  match o with
  | .call c => match c.callee with
    | .builtin .append => match evXs tm c.args.toList with
      | some [.slice (some a) _ _, _] => some a.block
      | _ => none
    | _ => none
  | _ => none
noncomputable def wriB (tm : Tr Value) (o : Op) (hp hp' : Hp) : Option Nat :=
  match wriA tm o with
  | some b => some b
  | none => match diffA hp.tr hp'.tr (hp.nx - hp'.lo) hp'.lo with
    | [b] => some b
    | _ => none
noncomputable def dmkA (cx : Cx) (all : List Oper) (o : Oper) (tm : Tr Value) (h0 hp : Hp) : DMk :=
  match wantA cx all tm o.guard with
  | some true => match pureOp o.op with
    | true => .idle
    | false => match focA tm o.op with
      | some b => .one b (!Nat.ble h0.nx hp.lo)
      | none => .whole (wriB tm o.op h0 hp) (!Nat.ble h0.nx hp.lo)
  | _ => .idle
def idleM : DMk → Bool
  | .idle => true
  | _ => false
def writesM : DMk → Bool
  | .idle => false
  | .one _ w => w
  | .whole _ w => w
def apartM : DMk → DMk → Bool
  | .one a _, .one b _ => !Nat.beq a b
  | .whole (some a) _, .one b false => !Nat.beq a b
  | _, _ => false
noncomputable def marksOk (bef : List Nat) (ms : List DMk) : Bool :=
  ms.zipIdx.all fun (x, i) => !writesM x || ms.zipIdx.all fun (y, j) => j == i || idleM y || apartM x y || (if j < i then (bef.getD i 0).testBit j else (bef.getD j 0).testBit i)
noncomputable def drawOk (l : List Oper) : Bool := backA l && tmpsA l (befA l [])
noncomputable def evDraw (cx : Cx) (call : CallF) (sz : Nat) (all : List Oper) (bef : List Nat) (l : List Oper) : Tr Value → Hp → List DMk → TD :=
  List.rec (motive := fun _ => Tr Value → Hp → List DMk → TD) (fun tm hp ms => match marksOk bef ms with
      | true => some (tm, hp)
      | false => none)
    (fun o _ ih tm hp ms => match evOper cx call sz all o tm { tr := hp.tr, nx := hp.nx, lo := hp.nx } with
      | some [.ok tm' hp'] => ih tm' { tr := hp'.tr, nx := hp'.nx, lo := least hp'.lo hp.lo } (ms ++ [dmkA cx all o tm hp hp'])
      | _ => none) l
inductive AX where
  | normal
  | exit (id : Nat)
  | ret
  | pan (v : Value)
inductive ADef where
  | mark
  | call (f : FuncId) (args : List Value)
structure Fm where
  tm : Tr Value
  ds : List ADef
abbrev CS := Option (List (AX × Fm × Hp))
noncomputable  def seqQ (f : Fm → Hp → CS) (o : AX × Fm × Hp) : CS :=
  AX.rec (motive := fun _ => (Fm → Hp → CS) → Fm → Hp → CS) (fun f fm hp => f fm hp) (fun id _ fm hp => some [(.exit id, fm, hp)]) (fun _ fm hp => some [(.ret, fm, hp)]) (fun v _ fm hp => some [(.pan v, fm, hp)]) o.1 f o.2.1 o.2.2
theorem seqQ_eq (f : Fm → Hp → CS) : seqQ f = fun o => match o with
      | (.normal, fm', hp') => f fm' hp'
      | o => some [o] := by
  funext ⟨a, fm, hp⟩
  cases a <;> rfl
noncomputable  def blockQ (id : Nat) (o : AX × Fm × Hp) : CS :=
  AX.rec (motive := fun _ => Nat → Fm → Hp → CS) (fun _ fm hp => some [(.normal, fm, hp)]) (fun i id fm hp => Bool.rec (motive := fun _ => CS) (some [(.exit i, fm, hp)]) (some [(.normal, fm, hp)]) (Nat.beq i id)) (fun _ fm hp => some [(.ret, fm, hp)]) (fun v _ fm hp => some [(.pan v, fm, hp)]) o.1 id o.2.1 o.2.2
theorem blockQ_eq (id : Nat) : blockQ id = fun o => match o with
      | (.exit id', fm', hp') => match Nat.beq id' id with
        | true => some [(.normal, fm', hp')]
        | false => some [(.exit id', fm', hp')]
      | o => some [o] := by
  funext ⟨a, fm, hp⟩
  cases a with
  | exit i =>
    show Bool.rec (motive := fun _ => CS) (some [(.exit i, fm, hp)]) (some [(.normal, fm, hp)]) (Nat.beq i id) = _
    cases h : Nat.beq i id <;> simp only [h]
  | _ => rfl
noncomputable  def boolQ (cx : Cx) (v : Value) : Option Bool := Value.rec (motive_1 := fun _ => Cx → Option Bool) (motive_2 := fun _ => Unit) (motive_3 := fun _ => Unit) (fun b _ => some b) (fun k n cx => boolA cx (.int k n)) (fun k b cx => boolA cx (.float k b)) (fun k r i cx => boolA cx (.complex k r i)) (fun s cx => boolA cx (.string s)) (fun a cx => boolA cx (.pointer a)) (fun a n c cx => boolA cx (.slice a n c)) (fun r cx => boolA cx (.map r)) (fun r cx => boolA cx (.chan r)) (fun fn xs ys _ _ cx => boolA cx (.func fn xs ys)) (fun cx => boolA cx (.nilFunc)) (fun t v _ cx => boolA cx (.iface t v)) (fun cx => boolA cx (.nilIface)) (fun cs _ cx => boolA cx (.agg cs)) (fun vs _ cx => boolA cx (.tuple vs)) (fun _ _ => ()) () (fun _ _ _ _ => ()) v cx
theorem boolQ_eq (cx : Cx) (v : Value) : boolQ cx v = boolA cx v := by cases v <;> rfl
noncomputable  def condQ (cx : Cx) (v : Option Value) (x y : CS) : CS :=
  Option.rec (motive := fun _ => CS) none (fun v => Option.rec (motive := fun _ => CS) none (fun b => Bool.rec (motive := fun _ => CS) y x b) (boolQ cx v)) v
theorem condQ_eq (cx : Cx) (tm : Tr Value) (c : Operand) (x y : CS) : condQ cx (evXQ tm c) x y = match evX tm c with
      | some v => match boolA cx v with
        | some true => x
        | some false => y
        | none => none
      | none => none := by
  rw [evXQ_eq]
  cases evX tm c with
  | none => rfl
  | some v =>
    show Option.rec (motive := fun _ => CS) none (fun b => Bool.rec (motive := fun _ => CS) y x b) (boolQ cx v) = match boolA cx v with
        | some true => x
        | some false => y
        | none => none
    rw [boolQ_eq]
    cases boolA cx v with
    | none => rfl
    | some b => cases b <;> rfl
noncomputable def iter (body : Fm → Hp → CS) (n : Nat) : Fm → Hp → CS :=
  Nat.rec (motive := fun _ => Fm → Hp → CS) (fun _ _ => none)
    (fun _ ih fm hp => bindL (body fm hp) (seqQ ih)) n
noncomputable def roOk (hp : Hp) (ro : Option Nat) : Bool :=
  match ro with
  | none => true
  | some b => match loopOb hp b with
    | some _ => true
    | none => false
def jumpA (p : Option JX) : AX :=
  match p with
  | none => .normal
  | some .ret => .ret
  | some (.exit id) => .exit id
def pendA (x : AX) : Option JX :=
  match x with
  | .normal => none
  | .ret => some .ret
  | .exit id => some (.exit id)
  | .pan _ => none
def isNormal : AX → Bool
  | .normal => true
  | _ => false
def markA (ro : Option Nat) (ds : List ADef) : List ADef :=
  match ro with
  | none => .mark :: ds
  | some _ => ds
noncomputable def rangeEnd (b : Nat) (fm : Fm) (r : Res × Hp) : CS :=
  match r with
  | (.ret _, hp2) => match loopOb hp2 b with
    | none => none
    | some lp => match lp.st with
      | .busy => none
      | _ => some [(jumpA lp.pend, fm, killA (loopSet hp2 b { lp with st := .exhausted }) b)]
  | (.pan v, hp2) => some [(.pan v, fm, hp2)]
  | (.went _, _) => none
noncomputable def evRange (cx : Cx) (call : CallF) (sz : Nat) (ro : Option Nat) (g : Operand) (ps : Array Tmp) (assign body : Code) (fm : Fm) (hp : Hp) : CS :=
  match roOk hp ro with
  | false => none
  | true => match evX fm.tm g with
    | some (.func (.func f) first captured) => match cx.x f with
      | some _ => none
      | none => bindL (call (.fn f) (first.toList ++ [.func (.yield hp.nx) ⟨[]⟩ ⟨[]⟩] ++ captured.toList) (loopNew hp { st := .ready, pend := none, tm := fm.tm, sz := sz, ps := ps.toList, assign := assign, body := body }))
        (rangeEnd hp.nx ⟨fm.tm, markA ro fm.ds⟩)
    | _ => none
noncomputable def dferA (ops : List Oper) : Option (List Oper × Oper × Call) :=
  List.rec (motive := fun _ => Option (List Oper × Oper × Call)) none (fun o l ih => match l with
    | [] => match o.op, o.guard with
      | .defer c, none => some ([], o, c)
      | _, _ => none
    | _ :: _ => match ih with
      | some (i, o', c) => some (o :: i, o', c)
      | none => none) ops
noncomputable def evDefer (cx : Cx) (tm : Tr Value) (c : Call) : Option ADef :=
  match evXs tm c.args.toList with
  | none => none
  | some args => match c.callee with
    | .value f => match evX tm f with
      | some (.func (.func f) first captured) => some (.call f (first.toList ++ args ++ captured.toList))
      | _ => none
    | _ => none
def plainEnd (ds : List ADef) (r : TSR) : CS :=
  match r with
  | .ok tm hp => some [(.normal, ⟨tm, ds⟩, hp)]
  | .pan v tm hp => some [(.pan v, ⟨tm, ds⟩, hp)]
noncomputable def deferEnd (cx : Cx) (sz : Nat) (o : Oper) (c : Call) (ds : List ADef) (r : TSR) : CS :=
  match r with
  | .ok tm hp => match evDefer cx tm c, putA sz tm o.dst undef with
    | some d, some tm2 => some [(.normal, ⟨tm2, d :: ds⟩, hp)]
    | _, _ => none
  | .pan v tm hp => some [(.pan v, ⟨tm, ds⟩, hp)]
noncomputable def evRegion (cx : Cx) (call : CallF) (sz : Nat) (ro : Option Nat) (ops : List Oper) (fm : Fm) (hp : Hp) : CS :=
  match dferA ops with
  | none => bindL (evOps cx call sz ops ops fm.tm hp) (plainEnd fm.ds)
  | some (init, o, c) => match ro with
    | some _ => none
    | none => bindL (evOps cx call sz ops init fm.tm hp) (deferEnd cx sz o c fm.ds)
noncomputable def evCode (cx : Cx) (call : CallF) (sz n : Nat) (ro : Option Nat) (c : Code) : Fm → Hp → CS :=
  Code.rec (motive := fun _ => Fm → Hp → CS)
    (fun fm hp => some [(.normal, fm, hp)])
    (fun _ ops draw fm hp => match draw with
      | false => evRegion cx call sz ro ops.toList fm hp
      | true => match drawOk ops.toList with
        | true => match evDraw cx call sz ops.toList (befA ops.toList []) ops.toList fm.tm hp [] with
          | some (tm', hp') => some [(.normal, ⟨tm', fm.ds⟩, hp')]
          | none => none
        | false => none)
    (fun _ _ iha ihb fm hp => bindL (iha fm hp) (seqQ ihb))
    (fun c _ _ iha ihb fm hp => condQ cx (evXQ fm.tm c) (iha fm hp) (ihb fm hp))
    (fun id _ ih fm hp => bindL (ih fm hp) (blockQ id))
    (fun _ ih fm hp => iter ih n fm hp)
    (fun g ps a b _ _ fm hp => evRange cx call sz ro g ps a b fm hp)
    (fun id fm hp => some [(.exit id, fm, hp)])
    (fun _ ih fm hp => ih fm hp)
    (fun _ fm hp => some [(.normal, fm, hp)])
    (fun _ _ _ => none)
    (fun fm hp => some [(.ret, fm, hp)])
    (fun _ _ _ => none)
    c
abbrev SS := Option (List (AX × Fm × Hp × Option Value))
def recA (ops : List Oper) : Option (Oper × List Oper) :=
  match ops with
  | o :: l => match o.op, o.guard with
    | .call c, none => match c.callee, c.args.toList with
      | .builtin .recover, [] => some (o, l)
      | _, _ => none
    | _, _ => none
  | [] => none
def recV (pan : Option Value) : Value :=
  match pan with
  | some v => v
  | none => .nilIface
def withPan (pan : Option Value) (o : AX × Fm × Hp) : SS := some [(o.1, o.2.1, o.2.2, pan)]
noncomputable def evCodeS (cx : Cx) (call : CallF) (sz n : Nat) (c : Code) : Fm → Hp → Option Value → SS :=
  Code.rec (motive := fun _ => Fm → Hp → Option Value → SS)
    (fun fm hp pan => some [(.normal, fm, hp, pan)])
    (fun id ops draw fm hp pan => match draw, recA ops.toList with
      | false, some (o, l) => match putA sz fm.tm o.dst (recV pan) with
        | none => none
        | some tm' => bindL (bindL (evOps cx call sz ops.toList l tm' hp) (plainEnd fm.ds)) (withPan none)
      | _, _ => bindL (evCode cx call sz n none (.region id ops draw) fm hp) (withPan pan))
    (fun _ _ iha ihb fm hp pan => bindL (iha fm hp pan) fun o => match o with
      | (.normal, fm', hp', pan') => ihb fm' hp' pan'
      | o => some [o])
    (fun c _ _ iha ihb fm hp pan => match evX fm.tm c with
      | some v => match boolA cx v with
        | some true => iha fm hp pan
        | some false => ihb fm hp pan
        | none => none
      | none => none)
    (fun id _ ih fm hp pan => bindL (ih fm hp pan) fun o => match o with
      | (.exit id', fm', hp', pan') => match Nat.beq id' id with
        | true => some [(.normal, fm', hp', pan')]
        | false => some [(.exit id', fm', hp', pan')]
      | o => some [o])
    (fun a _ fm hp pan => bindL (evCode cx call sz n none (.loop a) fm hp) (withPan pan))
    (fun _ _ _ _ _ _ _ _ _ => none)
    (fun id fm hp pan => some [(.exit id, fm, hp, pan)])
    (fun _ ih fm hp pan => ih fm hp pan)
    (fun l fm hp pan => bindL (evCode cx call sz n none (.label l) fm hp) (withPan pan))
    (fun _ _ _ _ => none)
    (fun fm hp pan => some [(.ret, fm, hp, pan)])
    (fun _ _ _ _ => none)
    c
noncomputable def resA (cx : Cx) (tm : Tr Value) (hp : Hp) (l : List ResultVar) : Option (List Value) :=
  List.rec (motive := fun _ => Option (List Value)) (some []) (fun x _ ih => match (match x with
      | .tmp t => tm.get t
      | .cell a t => match tm.get a with
        | some (.pointer (some p)) => loadA cx hp t p
        | _ => none) with
    | none => none
    | some v => match ih with
      | none => none
      | some vs => some (v :: vs)) l
noncomputable def oneA (l : List Value) : Value :=
  match l with
  | [v] => v
  | l => .tuple ⟨l⟩
noncomputable def roundEnd (b : Nat) (o : AX × Fm × Hp) : RVal :=
  match o with
  | (.pan _, _, _) => none
  | (x, _, hp2) => match loopOb hp2 b with
    | none => none
    | some lp2 => some [(.ret (.bool (isNormal x)), loopSet hp2 b { lp2 with st := (match isNormal x with | true => .ready | false => .done), pend := pendA x })]
noncomputable def roundGo (cx : Cx) (call : CallF) (n b sz : Nat) (body : Code) (o : AX × Fm × Hp) : RVal :=
  match o with
  | (.normal, fm1, hp1) => match loopOb hp1 b with
    | none => none
    | some lp1 => match lp1.st with
      | .ready => bindL (evCode cx call sz n (some b) body fm1 (loopSet hp1 b { lp1 with st := .busy })) (roundEnd b)
      | _ => none
  | _ => none
noncomputable def evRound (cx : Cx) (call : CallF) (n b : Nat) (args : List Value) (hp : Hp) : RVal :=
  match loopOb hp b with
  | none => none
  | some lp => match lp.st with
    | .ready => match putPs lp.sz lp.ps args lp.tm with
      | none => none
      | some tm0 => bindL (evCode cx call lp.sz n (some b) lp.assign ⟨tm0, []⟩ hp) (roundGo cx call n b lp.sz lp.body)
    | _ => none
def modeA (x : AX) : Option (Option Value) :=
  match x with
  | .normal => some none
  | .ret => some none
  | .pan v => some (some v)
  | .exit _ => none
noncomputable def leaveEnd (ih : Option Value → Hp → Option (List (Option Value × Hp))) (r : Res × Hp) : Option (List (Option Value × Hp)) :=
  match r with
  | (.went pan, hp) => ih pan hp
  | _ => none
noncomputable def evLeave (call : CallF) (ds : List ADef) : Option Value → Hp → Option (List (Option Value × Hp)) :=
  List.rec (motive := fun _ => Option Value → Hp → Option (List (Option Value × Hp))) (fun u hp => some [(u, hp)])
    (fun d _ ih u hp => match d with
      | .mark => ih u hp
      | .call f args => bindL (call (.dfr f u) args hp) (leaveEnd ih)) ds
noncomputable def retEnd (cx : Cx) (fi : FI) (tm : Tr Value) (q : Option Value × Hp) : RVal :=
  match q with
  | (some v, hp2) => some [(.pan v, hp2)]
  | (none, hp2) => match resA cx tm hp2 fi.results with
    | some l => some [(.ret (oneA l), hp2)]
    | none => none
noncomputable def bodyEnd (cx : Cx) (call : CallF) (fi : FI) (o : AX × Fm × Hp) : RVal :=
  match modeA o.1 with
  | none => none
  | some u => bindL (evLeave call o.2.1.ds u o.2.2) (retEnd cx fi o.2.1.tm)
def refsV : Nat → Value → List Nat
  | 0, _ => []
  | _ + 1, .pointer (some a) => [a.block]
  | _ + 1, .slice (some a) _ _ => [a.block]
  | _ + 1, .map (some b) => [b]
  | d + 1, .func fn xs ys => (match fn with | .yield b => [b] | _ => []) ++ (xs.toList.flatMap (refsV d) ++ ys.toList.flatMap (refsV d))
  | d + 1, .iface _ v => refsV d v
  | d + 1, .agg xs => xs.toList.flatMap (refsV d)
  | d + 1, .tuple xs => xs.toList.flatMap (refsV d)
  | _, _ => []
noncomputable def refsO : AObj → List Nat
  | .cells t n _ _ _ => match Tr.list n t 0 with
    | some l => l.flatMap (refsV 9)
    | none => []
  | .map es _ => es.flatMap fun e => refsV 9 e.key ++ refsV 9 e.val
  | .miter (some m) _ _ _ => [m]
  | _ => []
noncomputable def reachA (tr : Tr AObj) (n : Nat) : List Nat → Tr Bool → Tr Bool :=
  Nat.rec (motive := fun _ => List Nat → Tr Bool → Tr Bool) (fun _ seen => seen) (fun _ ih l seen => match l with
    | [] => seen
    | b :: l => match seen.get b with
      | some _ => ih l seen
      | none => match tr.get b with
        | some o => ih (refsO o ++ l) (seen.set b true)
        | none => ih l seen) n
noncomputable def fromTo (n : Nat) : Nat → List Nat := Nat.rec (motive := fun _ => Nat → List Nat) (fun _ => []) (fun _ ih a => a :: ih (Nat.succ a)) n
def resV : Res → List Nat
  | .ret v => refsV 9 v
  | .pan v => refsV 9 v
  | .went _ => []
noncomputable def idleA (n0 : Nat) (a : Res × Hp) (l : List Nat) : Bool :=
  match reachA a.2.tr 100000 (resV a.1 ++ fromTo (n0 - a.2.lo) a.2.lo) .nil with
  | seen => l.all fun b => match Nat.ble n0 b, seen.get b with
    | true, none => true
    | _, _ => false
def resEq : Res → Res → Bool
  | .ret a, .ret b => vEq 30 a b
  | .pan a, .pan b => vEq 30 a b
  | _, _ => false
noncomputable def join2 (n0 : Nat) (a b : Res × Hp) : Option (Res × Hp) :=
  match resEq a.1 b.1, Nat.beq a.2.nx b.2.nx with
  | true, true => match (diffA a.2.tr b.2.tr (a.2.nx - least a.2.lo b.2.lo) (least a.2.lo b.2.lo)).filter (fun k => Nat.blt k a.2.nx) with
    | l => match idleA n0 (a.1, ⟨a.2.tr, a.2.nx, least a.2.lo b.2.lo⟩) l with
      | true => some (a.1, ⟨(killAll a.2 l).tr, a.2.nx, least (killAll a.2 l).lo b.2.lo⟩)
      | false => none
  | _, _ => none
noncomputable def joinF (n0 : Nat) (l : List (Res × Hp)) : Res × Hp → Option (Res × Hp) :=
  List.rec (motive := fun _ => Res × Hp → Option (Res × Hp)) (fun a => some a) (fun b _ ih a => match join2 n0 a b with
    | some c => ih c
    | none => none) l
noncomputable def joinA (n0 : Nat) (l : List (Res × Hp)) : List (Res × Hp) :=
  match l with
  | [] => []
  | [x] => [x]
  | x :: l => match joinF n0 l x with
    | some c => [c]
    | none => x :: l
noncomputable def joinR (n0 : Nat) (r : RVal) : RVal :=
  match r with
  | none => none
  | some l => some (joinA n0 l)
noncomputable def unlo1 (lo : Nat) (q : Res × Hp) : Res × Hp := Prod.rec (motive := fun _ => Res × Hp) (fun r hp => (r, ⟨hp.tr, hp.nx, least hp.lo lo⟩)) q
noncomputable def unloL (lo : Nat) (l : List (Res × Hp)) : List (Res × Hp) := List.rec (motive := fun _ => List (Res × Hp)) [] (fun q _ ih => unlo1 lo q :: ih) l
noncomputable def unlo (lo : Nat) (r : RVal) : RVal :=
  match r with
  | none => none
  | some l => some (unloL lo l)
noncomputable def evBody (cx : Cx) (call : CallF) (n f : Nat) (args : List Value) (hp : Hp) : RVal :=
  match cx.f f with
  | none => none
  | some fi => match Nat.ble (len args) fi.ntmps with
    | false => none
    | true => unlo hp.lo (joinR hp.nx (bindL (evCode cx call fi.ntmps n none fi.body ⟨Tr.putList args .nil 0, []⟩ ⟨hp.tr, hp.nx, hp.nx⟩) (bodyEnd cx call fi)))
noncomputable def dfrEnd (cx : Cx) (fi : FI) (o : AX × Fm × Hp × Option Value) : RVal :=
  match o with
  | (x, ⟨tm, ds⟩, hp2, pan) => match ds, modeA x with
    | [], some none => match resA cx tm hp2 fi.results with
      | some _ => some [(.went pan, hp2)]
      | none => none
    | _, _ => none
noncomputable def evDfr (cx : Cx) (call : CallF) (n f : Nat) (pan : Option Value) (args : List Value) (hp : Hp) : RVal :=
  match cx.f f with
  | none => none
  | some fi => match Nat.ble (len args) fi.ntmps with
    | false => none
    | true => bindL (evCodeS cx call fi.ntmps n fi.body ⟨Tr.putList args .nil 0, []⟩ hp pan) (dfrEnd cx fi)
noncomputable def orR (cx : Cx) (f : FuncId) (args : List Value) (hp : Hp) : RVal :=
  match cx.o f with
  | some o => o args hp
  | none => none
def flatO (o : List Value → Hp → Option Value) : OrcF := fun args hp =>
  match o args hp with
  | some v => match flat v with
    | true => some [(.ret v, hp)]
    | false => none
  | none => none
noncomputable def evFn (cx : Cx) (n d : Nat) : CallF :=
  Nat.rec (motive := fun _ => CallF) (fun _ _ _ => none)
    (fun _ ih c args hp => match c with
      | .fn f => match orR cx f args hp with
        | some l => some l
        | none => evBody cx ih n f args hp
      | .yield b => evRound cx ih n b args hp
      | .dfr f pan => evDfr cx ih n f pan args hp) d
end Go.Proofs.YtaepplhgeeaidaaDoor.Ev
