/- The second reckoner: operations, regions, code, calls. -/
import Derived.Test.YtkceooieieogjaaEvBq
set_option linter.unusedVariables false
set_option linter.unusedSimpArgs false
namespace Go.Proofs.Ytkceooieieogjaa.Ev
open Go Go.RowKit

/-- What is called: a function, a round of a loop, a function that was deferred (and the panic that is under way). -/
inductive Cal where
  | fn (f : FuncId)
  | yield (b : Nat)
  | dfr (f : FuncId) (pan : Option Value)

/-- How a call ends: it returns; it panics; a deferred one returns (and the panic that is still under way). -/
inductive Res where
  | ret (v : Value)
  | pan (v : Value)
  | went (pan : Option Value)

abbrev RVal := Option (List (Res × Hp))
abbrev CallF := Cal → List Value → Hp → RVal

noncomputable def lift (r : Val) : RVal :=
  match r with
  | some (v, hp) => some [(.ret v, hp)]
  | none => none

noncomputable def opt (tm : Tr Value) : Option Operand → Option (Option Value)
  | none => some none
  | some x => match evX tm x with
    | some v => some (some v)
    | none => none

noncomputable def keep (hp : Hp) (o : Option Value) : Val :=
  match o with
  | some v => some (v, hp)
  | none => none

noncomputable def evCall (cx : Cx) (call : CallF) (tm : Tr Value) (hp : Hp) (c : Call) : RVal :=
  match evXs tm c.args.toList with
  | none => none
  | some args => match c.callee with
    | .builtin b => lift (builtinA cx hp b c.argTypes.toList args)
    | .value f => match evX tm f with
      | some (.func (.func f) first captured) => match cx.x f with
        | some k => lift (keep hp (extA k (first.toList ++ args ++ captured.toList)))
        | none => call (.fn f) (first.toList ++ args ++ captured.toList) hp
      | some (.func (.yield b) _ _) => call (.yield b) args hp
      | _ => none
    | .invoke r nm => match evX tm r with
      | some (.iface t v) => match cx.m t nm with
        | some f => match cx.x f with
          | some k => lift (keep hp (extA k (v :: args)))
          | none => call (.fn f) (v :: args) hp
        | none => none
      | _ => none

noncomputable def evOp0 (cx : Cx) (tm : Tr Value) (hp : Hp) (o : Op) : Val :=
  match o with
  | .move x | .assign x => keep hp (evX tm x)
  | .pick c a b => match evX tm c with
    | some v => match boolA cx v with
      | some true => keep hp (evX tm a)
      | some false => keep hp (evX tm b)
      | none => none
    | none => none
  | .alloc e => match cx.t e with
    | some te => some (.pointer (some ⟨hp.nx, 0, none⟩), (newRowA hp e (cellsOf te.zero) none).2)
    | none => none
  | .box e x => match evX tm x with
    | some v => some (.pointer (some ⟨hp.nx, 0, none⟩), (newRowA hp e (cellsOf v) none).2)
    | none => none
  | .build t parts => match evParts tm parts.toList with
    | some ps => keep hp (buildA cx t ps)
    | none => none
  | .buildSlice t n parts => match evParts tm parts.toList with
    | some ps => buildSliceA cx hp t n ps
    | none => none
  | .load t a => match evX tm a with
    | some (.pointer (some p)) => keep hp (loadA cx hp t p)
    | some (.chan (some k)) => keep hp (loadG cx k t)
    | _ => none
  | .store t a x => match evX tm a, evX tm x with
    | some (.pointer (some p)), some v => match storeA cx hp t p v with
      | some hp' => some (undef, hp')
      | none => none
    | _, _ => none
  | .nilCheck x => match evX tm x with
    | some (.pointer (some p)) => some (.pointer (some p), hp)
    | some (.func (.func f) y z) => some (.func (.func f) y z, hp)
    | some (.func (.yield b) _ _) => some (.func (.yield b) ⟨[]⟩ ⟨[]⟩, hp)
    | some (.map m) => some (.map m, hp)
    | some (.iface t v) => some (.iface t v, hp)
    | _ => none
  | .binOp op t x y _ => match evX tm x, evX tm y with
    | some a, some b => keep hp (binS cx op t (cOp x || cOp y) a b)
    | _, _ => none
  | .unOp op _ x => match evX tm x with
    | some v => keep hp (unS op v)
    | none => none
  | .convert s d x => match evX tm x with
    | some v => match isSym v with
      | false => convA cx hp s d v
      | true => keep hp (convS cx s d v)
    | none => none
  | .makeInterface t x => match evX tm x, cx.t t with
    | some v, some ti => match ti.desc with
      | .interface _ => none
      | _ => some (.iface t v, hp)
    | _, _ => none
  | .makeFunc fn first captured => match evXs tm first.toList, evXs tm captured.toList, noYield fn with
    | some xs, some ys, true => some (.func fn ⟨xs⟩ ⟨ys⟩, hp)
    | _, _, _ => none
  | .makeSlice t l c => match evX tm l, evX tm c with
    | some a, some b => makeSliceA cx hp t a b
    | _, _ => none
  | .slice t x lo hi mx => match evX tm x, opt tm lo, opt tm hi, opt tm mx with
    | some v, some l, some h, some m => keep hp (sliceA cx hp t v l h m)
    | _, _, _, _ => none
  | .fieldAddr t x f => match evX tm x with
    | some v => keep hp (fieldAddrA cx t v f)
    | none => none
  | .field t x f => match evX tm x with
    | some v => keep hp (fieldA cx t v f)
    | none => none
  | .indexAddr t x ix => match evX tm x, evX tm ix with
    | some v, some i => keep hp (indexAddrA cx t v i)
    | _, _ => none
  | .index t x ix => match evX tm x, evX tm ix with
    | some v, some i => keep hp (indexA cx t v i)
    | _, _ => none
  | .extract x i => match evX tm x with
    | some (.tuple vs) => keep hp (vs.toList[i]?)
    | _ => none
  | .makeMap t r => match opt tm r with
    | some r => makeMapA cx hp t r
    | none => none
  | .lookup t x k ok => match evX tm x, evX tm k with
    | some x, some k => keep hp (lookupA cx hp t x k ok)
    | _, _ => none
  | .mapUpdate t m k x | .insert t m k x => match evX tm m, evX tm k, evX tm x with
    | some m, some k, some x => match mapUpdateA cx hp t m k x with
      | some hp' => some (undef, hp')
      | none => none
    | _, _, _ => none
  | .mapEntry t m k => match evX tm m, evX tm k with
    | some m, some k => mapEntryA cx hp t m k
    | _, _ => none
  | .entryStore _ m s x => match evX tm m, evX tm s, evX tm x with
    | some m, some s, some x => match entryStoreA hp m s x with
      | some hp' => some (undef, hp')
      | none => none
    | _, _, _ => none
  | .typeAssert x _ t ok => match evX tm x with
    | some v => keep hp (assertA cx v t ok)
    | none => none
  | .range t x => match evX tm x with
    | some v => rangeA cx hp t v
    | none => none
  | .entry x => match evX tm x with
    | some v => keep hp (entryA hp v)
    | none => none
  | _ => none

noncomputable def evOp (cx : Cx) (call : CallF) (tm : Tr Value) (hp : Hp) (o : Op) : RVal :=
  match o with
  | .call c => evCall cx call tm hp c
  | .panic x => match evX tm x with
    | some (.iface t v) => some [(.pan (.iface t v), hp)]
    | _ => none
  | .next x str => match evX tm x with
    | some v => bindL (nextA hp v str) fun r => some [(.ret r.1, r.2)]
    | none => none
  | o => lift (evOp0 cx tm hp o)

/-- A value with its number reckoned, handed on. -/
--D def forceI {α : Type} (v : Value) (f : Value → α) : α := f v
--D @[implemented_by forceI]
noncomputable def force {α : Type} (v : Value) (f : Value → α) : α :=
  match v with
  | .int k (.ofNat a) => Nat.rec (motive := fun _ => α) (f (.int k (.ofNat 0))) (fun p _ => f (.int k (.ofNat (Nat.succ p)))) a
  | .int k (.negSucc a) => Nat.rec (motive := fun _ => α) (f (.int k (.negSucc 0))) (fun p _ => f (.int k (.negSucc (Nat.succ p)))) a
  | .bool true => f (.bool true)
  | .bool false => f (.bool false)
  | v => f v

theorem force_eq {α : Type} (v : Value) (f : Value → α) : force v f = f v := by
  unfold force
  split
  · rename_i k a; cases a <;> rfl
  · rename_i k a; cases a <;> rfl
  all_goals rfl

inductive TSR where
  | ok (tm : Tr Value) (hp : Hp)
  | pan (v : Value) (tm : Tr Value) (hp : Hp)

abbrev TS := Option (List TSR)
abbrev TD := Option (Tr Value × Hp)

noncomputable def putA (sz : Nat) (tm : Tr Value) (dst : Option Tmp) (v : Value) : Option (Tr Value) :=
  match dst with
  | none => some tm
  | some d => match Nat.blt d sz with
    | true => some (tm.set d v)
    | false => none

/-- Is the operation carried out? -/
noncomputable def wantA (cx : Cx) (all : List Oper) (tm : Tr Value) (g : Option (Nat × Bool)) : Option Bool :=
  match g with
  | none => some true
  | some (j, want) => match all[j]? with
    | none => none
    | some o => match o.dst with
      | none => none
      | some d => match tm.get d with
        | some (.tuple ⟨[]⟩) => some false
        | some v => match boolA cx v with
          | some b => some (b == want)
          | none => none
        | none => none

noncomputable def evRes (sz : Nat) (o : Oper) (tm : Tr Value) (r : Res × Hp) : TS :=
  match r with
  | (.ret v, hp') => force v fun v => match putA sz tm o.dst v with
    | none => none
    | some tm' => some [.ok tm' hp']
  | (.pan v, hp') => some [.pan v tm hp']
  | (.went _, _) => none

noncomputable def evOper (cx : Cx) (call : CallF) (sz : Nat) (all : List Oper) (o : Oper) (tm : Tr Value) (hp : Hp) : TS :=
  match wantA cx all tm o.guard with
  | none => none
  | some false => match putA sz tm o.dst undef with
    | none => none
    | some tm' => some [.ok tm' hp]
  | some true => bindL (evOp cx call tm hp o.op) (evRes sz o tm)

--D def evOperT (cx : Cx) (call : CallF) (sz : Nat) (all : List Oper) (o : Oper) (tm : Tr Value) (hp : Hp) : TS :=
--D   match evOper cx call sz all o tm hp with
--D   | none => dbgTrace ("FAIL at " ++ o.pos ++ " dst " ++ toString (repr o.dst)) fun _ => none
--D   | r => r
--D def evOpsI (cx : Cx) (call : CallF) (sz : Nat) (all : List Oper) : List Oper → Tr Value → Hp → TS
--D   | [], tm, hp => some [.ok tm hp]
--D   | o :: l, tm, hp => bindL (evOperT cx call sz all o tm hp) fun r => match r with
--D     | .ok tm' hp' => evOpsI cx call sz all l tm' hp'
--D     | .pan v tm' hp' => some [.pan v tm' hp']
--D @[implemented_by evOpsI]
noncomputable def evOps (cx : Cx) (call : CallF) (sz : Nat) (all : List Oper) (l : List Oper) : Tr Value → Hp → TS :=
  List.rec (motive := fun _ => Tr Value → Hp → TS) (fun tm hp => some [.ok tm hp])
    (fun o _ ih tm hp => bindL (evOper cx call sz all o tm hp) fun r => match r with
      | .ok tm' hp' => ih tm' hp'
      | .pan v tm' hp' => some [.pan v tm' hp']) l

/-! Regions that draw their order. -/

/-- What each operation has behind it, as bits: what is told to be ahead of it, and what those have. -/
--D def befAI : List Oper → List Nat → List Nat
--D   | [], acc => acc
--D   | o :: l, acc => befAI l (acc ++ [o.after.toList.foldl (fun s e => match Region.binds .any e, Nat.blt e.on acc.length with
--D       | true, true => s ||| 2 ^ e.on ||| acc.getD e.on 0
--D       | _, _ => s) 0])
--D @[implemented_by befAI]
noncomputable def befA (l : List Oper) : List Nat → List Nat :=
  List.rec (motive := fun _ => List Nat → List Nat) (fun acc => acc)
    (fun o _ ih acc => ih (acc ++ [o.after.toList.foldl (fun s e => match Region.binds .any e, Nat.blt e.on acc.length with
      | true, true => s ||| 2 ^ e.on ||| acc.getD e.on 0
      | _, _ => s) 0])) l

/-- The edges that bind go back. -/
def backA (l : List Oper) : Bool := l.zipIdx.all fun (o, i) => o.after.toList.all fun e => !Region.binds .any e || Nat.blt e.on i

def looksA (o : Oper) (l : List Oper) : List Tmp :=
  (o.op.operands.toList.filterMap fun | .tmp t => some t | _ => none) ++ (match o.guard with
    | some (j, _) => match l[j]? with
      | some o' => o'.dst.toList
      | none => []
    | none => [])

/-- Whoever names what another writes is told to be behind it, or ahead of it. -/
noncomputable def tmpsA (l : List Oper) (bef : List Nat) : Bool :=
  l.zipIdx.all fun (o, i) => match o.dst with
    | none => true
    | some d => l.zipIdx.all fun (o', j) =>
      i == j || !((looksA o' l).contains d || o'.dst == some d) || (if i < j then (bef.getD j 0).testBit i else (bef.getD i 0).testBit j)

/-- An operation that looks at no memory. -/
def pureOp : Op → Bool
  | .move _ | .assign _ | .pick _ _ _ | .binOp _ _ _ _ _ | .unOp _ _ _ | .makeInterface _ _ | .makeFunc _ _ _ | .fieldAddr _ _ _ | .field _ _ _ | .indexAddr _ _ _ | .index _ _ _ | .extract _ _ | .nilCheck _ | .typeAssert _ _ _ _ => true
  | _ => false

/-- What an operation does with memory: nothing; it looks at one block; at any, and writes to one only, of those that were there. Does it write to what was there before it? -/
inductive DMk where
  | idle
  | one (b : Nat) (w : Bool)
  | whole (u : Option Nat) (w : Bool)

noncomputable def focA (tm : Tr Value) (o : Op) : Option Nat :=
  match o with
  | .load _ a => match evX tm a with
    | some (.pointer (some p)) => some p.block
    | _ => none
  | .store _ a _ => match evX tm a with
    | some (.pointer (some p)) => some p.block
    | _ => none
  | .lookup _ x _ _ => match evX tm x with
    | some (.map (some b)) => some b
    | _ => none
  | _ => none

/-- The one block that was there and that an operation writes to. -/
noncomputable def wriA (tm : Tr Value) (o : Op) : Option Nat :=
  match o with
  | .call c => match c.callee with
    | .builtin .append => match evXs tm c.args.toList with
      | some [.slice (some a) _ _, _] => some a.block
      | _ => none
    | _ => none
  | _ => none

noncomputable def dmkA (cx : Cx) (all : List Oper) (o : Oper) (tm : Tr Value) (nx : Nat) (hp : Hp) : DMk :=
  match wantA cx all tm o.guard with
  | some true => match pureOp o.op with
    | true => .idle
    | false => match focA tm o.op with
      | some b => .one b (!Nat.ble nx hp.lo)
      | none => .whole (wriA tm o.op) (!Nat.ble nx hp.lo)
  | _ => .idle

def idleM : DMk → Bool
  | .idle => true
  | _ => false
def writesM : DMk → Bool
  | .idle => false
  | .one _ w => w
  | .whole _ w => w
def apartM : DMk → DMk → Bool
  | .one a _, .one b _ => !Nat.beq a b
  | .whole (some a) _, .one b false => !Nat.beq a b
  | _, _ => false

/-- Who writes to what was there is told to be behind, or ahead of, all that look at memory, but for those of another block. -/
noncomputable def marksOk (bef : List Nat) (ms : List DMk) : Bool :=
  ms.zipIdx.all fun (x, i) => !writesM x || ms.zipIdx.all fun (y, j) => j == i || idleM y || apartM x y || (if j < i then (bef.getD i 0).testBit j else (bef.getD j 0).testBit i)

noncomputable def drawOk (l : List Oper) : Bool := backA l && tmpsA l (befA l [])

--D def evDrawI (cx : Cx) (call : CallF) (sz : Nat) (all : List Oper) (bef : List Nat) : List Oper → Tr Value → Hp → List DMk → TD
--D   | [], tm, hp, ms => match marksOk bef ms with
--D     | true => some (tm, hp)
--D     | false => dbgTrace ("NO ORDER at " ++ toString (all.map (·.pos))) fun _ => none
--D   | o :: l, tm, hp, ms => match evOperT cx call sz all o tm { tr := hp.tr, nx := hp.nx, lo := hp.nx } with
--D       | some [.ok tm' hp'] => evDrawI cx call sz all bef l tm' { tr := hp'.tr, nx := hp'.nx, lo := least hp'.lo hp.lo } (ms ++ [dmkA cx all o tm hp.nx hp'])
--D       | _ => dbgTrace ("DRAW: not one at " ++ o.pos) fun _ => none
--D @[implemented_by evDrawI]
noncomputable def evDraw (cx : Cx) (call : CallF) (sz : Nat) (all : List Oper) (bef : List Nat) (l : List Oper) : Tr Value → Hp → List DMk → TD :=
  List.rec (motive := fun _ => Tr Value → Hp → List DMk → TD) (fun tm hp ms => match marksOk bef ms with
      | true => some (tm, hp)
      | false => none)
    (fun o _ ih tm hp ms => match evOper cx call sz all o tm { tr := hp.tr, nx := hp.nx, lo := hp.nx } with
      | some [.ok tm' hp'] => ih tm' { tr := hp'.tr, nx := hp'.nx, lo := least hp'.lo hp.lo } (ms ++ [dmkA cx all o tm hp.nx hp'])
      | _ => none) l

inductive AX where
  | normal
  | exit (id : Nat)
  | ret
  | pan (v : Value)

/-- What is deferred: the mark of a loop over a function; a call. -/
inductive ADef where
  | mark
  | call (f : FuncId) (args : List Value)

structure Fm where
  tm : Tr Value
  ds : List ADef

abbrev CS := Option (List (AX × Fm × Hp))

--D def iterI (body : Fm → Hp → CS) : Nat → Fm → Hp → CS
--D   | 0, _, _ => dbgTrace "ITER" fun _ => none
--D   | n+1, fm, hp => bindL (body fm hp) fun o => match o with
--D       | (.normal, fm', hp') => iterI body n fm' hp'
--D       | o => some [o]
--D @[implemented_by iterI]
noncomputable def iter (body : Fm → Hp → CS) (n : Nat) : Fm → Hp → CS :=
  Nat.rec (motive := fun _ => Fm → Hp → CS) (fun _ _ => none)
    (fun _ ih fm hp => bindL (body fm hp) fun o => match o with
      | (.normal, fm', hp') => ih fm' hp'
      | o => some [o]) n

/-! A loop over a function. -/
noncomputable def roOk (hp : Hp) (ro : Option Nat) : Bool :=
  match ro with
  | none => true
  | some b => match loopOb hp b with
    | some _ => true
    | none => false

def jumpA (p : Option JX) : AX :=
  match p with
  | none => .normal
  | some .ret => .ret
  | some (.exit id) => .exit id

def pendA (x : AX) : Option JX :=
  match x with
  | .normal => none
  | .ret => some .ret
  | .exit id => some (.exit id)
  | .pan _ => none

def isNormal : AX → Bool
  | .normal => true
  | _ => false

def markA (ro : Option Nat) (ds : List ADef) : List ADef :=
  match ro with
  | none => .mark :: ds
  | some _ => ds

noncomputable def rangeEnd (b : Nat) (fm : Fm) (r : Res × Hp) : CS :=
  match r with
  | (.ret _, hp2) => match loopOb hp2 b with
    | none => none
    | some lp => match lp.st with
      | .busy => none
      | _ => some [(jumpA lp.pend, fm, killA (loopSet hp2 b { lp with st := .exhausted }) b)]
  | (.pan v, hp2) => some [(.pan v, fm, hp2)]
  | (.went _, _) => none

noncomputable def evRange (cx : Cx) (call : CallF) (sz : Nat) (ro : Option Nat) (g : Operand) (ps : Array Tmp) (assign body : Code) (fm : Fm) (hp : Hp) : CS :=
  match roOk hp ro with
  | false => none
  | true => match evX fm.tm g with
    | some (.func (.func f) first captured) => match cx.x f with
      | some _ => none
      | none => bindL (call (.fn f) (first.toList ++ [.func (.yield hp.nx) ⟨[]⟩ ⟨[]⟩] ++ captured.toList) (loopNew hp { st := .ready, pend := none, tm := fm.tm, sz := sz, ps := ps.toList, assign := assign, body := body }))
        (rangeEnd hp.nx ⟨fm.tm, markA ro fm.ds⟩)
    | _ => none

/-! A region, the last operation of which may defer a call. -/
--D def dferAI : List Oper → Option (List Oper × Oper × Call)
--D   | [] => none
--D   | [o] => match o.op, o.guard with
--D     | .defer c, none => some ([], o, c)
--D     | _, _ => none
--D   | o :: l => (dferAI l).map fun (i, o', c) => (o :: i, o', c)
--D @[implemented_by dferAI]
noncomputable def dferA (ops : List Oper) : Option (List Oper × Oper × Call) :=
  List.rec (motive := fun _ => Option (List Oper × Oper × Call)) none (fun o l ih => match l with
    | [] => match o.op, o.guard with
      | .defer c, none => some ([], o, c)
      | _, _ => none
    | _ :: _ => match ih with
      | some (i, o', c) => some (o :: i, o', c)
      | none => none) ops

noncomputable def evDefer (cx : Cx) (tm : Tr Value) (c : Call) : Option ADef :=
  match evXs tm c.args.toList with
  | none => none
  | some args => match c.callee with
    | .value f => match evX tm f with
      | some (.func (.func f) first captured) => some (.call f (first.toList ++ args ++ captured.toList))
      | _ => none
    | _ => none

def plainEnd (ds : List ADef) (r : TSR) : CS :=
  match r with
  | .ok tm hp => some [(.normal, ⟨tm, ds⟩, hp)]
  | .pan v tm hp => some [(.pan v, ⟨tm, ds⟩, hp)]

noncomputable def deferEnd (cx : Cx) (sz : Nat) (o : Oper) (c : Call) (ds : List ADef) (r : TSR) : CS :=
  match r with
  | .ok tm hp => match evDefer cx tm c, putA sz tm o.dst undef with
    | some d, some tm2 => some [(.normal, ⟨tm2, d :: ds⟩, hp)]
    | _, _ => none
  | .pan v tm hp => some [(.pan v, ⟨tm, ds⟩, hp)]

noncomputable def evRegion (cx : Cx) (call : CallF) (sz : Nat) (ro : Option Nat) (ops : List Oper) (fm : Fm) (hp : Hp) : CS :=
  match dferA ops with
  | none => bindL (evOps cx call sz ops ops fm.tm hp) (plainEnd fm.ds)
  | some (init, o, c) => match ro with
    | some _ => none
    | none => bindL (evOps cx call sz ops init fm.tm hp) (deferEnd cx sz o c fm.ds)

--D def valS : Nat → Value → String
--D   | 0, _ => ".."
--D   | _, .bool b => toString b
--D   | _, .int k n => reprStr k ++ ":" ++ toString n
--D   | _, .string b => "str " ++ toString b.size
--D   | _, .nilFunc => "nilFunc"
--D   | _, .nilIface => "nilIface"
--D   | d+1, .iface t v => "iface " ++ toString t ++ " " ++ valS d v
--D   | d+1, .func f xs ys => "func " ++ reprStr f ++ toString (xs.toList.map (valS d)) ++ toString (ys.toList.map (valS d))
--D   | _, .pointer none => "nil"
--D   | _, .pointer (some a) => "&" ++ toString a.block ++ "." ++ toString a.off
--D   | _, .slice none n c => "nilslice"
--D   | _, .slice (some a) n c => "[" ++ toString a.block ++ "." ++ toString a.off ++ ":" ++ toString n ++ ":" ++ toString c ++ "]"
--D   | d+1, .agg xs => "agg " ++ toString (xs.toList.map (valS d))
--D   | d+1, .tuple xs => "tuple " ++ toString (xs.toList.map (valS d))
--D   | _, _ => "?"
--D def evCodeI (cx : Cx) (call : CallF) (sz n : Nat) (ro : Option Nat) : Code → Fm → Hp → CS
--D   | .skip, fm, hp => some [(.normal, fm, hp)]
--D   | .region _ ops draw, fm, hp => match draw with
--D       | false => evRegion cx call sz ro ops.toList fm hp
--D       | true => match drawOk ops.toList with
--D         | true => match evDraw cx call sz ops.toList (befA ops.toList []) ops.toList fm.tm hp [] with
--D           | some (tm', hp') => some [(.normal, ⟨tm', fm.ds⟩, hp')]
--D           | none => none
--D         | false => dbgTrace ("DRAW NOT OK " ++ (ops.toList.map (·.pos)).toString) fun _ => none
--D   | .seq a b, fm, hp => bindL (evCodeI cx call sz n ro a fm hp) fun o => match o with
--D       | (.normal, fm', hp') => evCodeI cx call sz n ro b fm' hp'
--D       | o => some [o]
--D   | .cond c a b, fm, hp => match evX fm.tm c with
--D       | some v => match boolA cx v with
--D         | some true => evCodeI cx call sz n ro a fm hp
--D         | some false => evCodeI cx call sz n ro b fm hp
--D         | none => dbgTrace ("COND " ++ valS 40 v) fun _ => none
--D       | none => dbgTrace "COND" fun _ => none
--D   | .block id a, fm, hp => bindL (evCodeI cx call sz n ro a fm hp) fun o => match o with
--D       | (.exit id', fm', hp') => match Nat.beq id' id with
--D         | true => some [(.normal, fm', hp')]
--D         | false => some [(.exit id', fm', hp')]
--D       | o => some [o]
--D   | .loop a, fm, hp => iterI (evCodeI cx call sz n ro a) n fm hp
--D   | .rangeFunc g ps a b, fm, hp => evRange cx call sz ro g ps a b fm hp
--D   | .exit id, fm, hp => some [(.exit id, fm, hp)]
--D   | .scope a, fm, hp => evCodeI cx call sz n ro a fm hp
--D   | .label _, fm, hp => some [(.normal, fm, hp)]
--D   | .goto _, _, _ => dbgTrace "GOTO" fun _ => none
--D   | .ret, fm, hp => some [(.ret, fm, hp)]
--D   | .refuse _, _, _ => dbgTrace "REFUSE" fun _ => none
--D @[implemented_by evCodeI]
noncomputable def evCode (cx : Cx) (call : CallF) (sz n : Nat) (ro : Option Nat) (c : Code) : Fm → Hp → CS :=
  Code.rec (motive := fun _ => Fm → Hp → CS)
    (fun fm hp => some [(.normal, fm, hp)])
    (fun _ ops draw fm hp => match draw with
      | false => evRegion cx call sz ro ops.toList fm hp
      | true => match drawOk ops.toList with
        | true => match evDraw cx call sz ops.toList (befA ops.toList []) ops.toList fm.tm hp [] with
          | some (tm', hp') => some [(.normal, ⟨tm', fm.ds⟩, hp')]
          | none => none
        | false => none)
    (fun _ _ iha ihb fm hp => bindL (iha fm hp) fun o => match o with
      | (.normal, fm', hp') => ihb fm' hp'
      | o => some [o])
    (fun c _ _ iha ihb fm hp => match evX fm.tm c with
      | some v => match boolA cx v with
        | some true => iha fm hp
        | some false => ihb fm hp
        | none => none
      | none => none)
    (fun id _ ih fm hp => bindL (ih fm hp) fun o => match o with
      | (.exit id', fm', hp') => match Nat.beq id' id with
        | true => some [(.normal, fm', hp')]
        | false => some [(.exit id', fm', hp')]
      | o => some [o])
    (fun _ ih fm hp => iter ih n fm hp)
    (fun g ps a b _ _ fm hp => evRange cx call sz ro g ps a b fm hp)
    (fun id fm hp => some [(.exit id, fm, hp)])
    (fun _ ih fm hp => ih fm hp)
    (fun _ fm hp => some [(.normal, fm, hp)])
    (fun _ _ _ => none)
    (fun fm hp => some [(.ret, fm, hp)])
    (fun _ _ _ => none)
    c

/-! The body of a call that was deferred: it may recover. -/
abbrev SS := Option (List (AX × Fm × Hp × Option Value))

def recA (ops : List Oper) : Option (Oper × List Oper) :=
  match ops with
  | o :: l => match o.op, o.guard with
    | .call c, none => match c.callee, c.args.toList with
      | .builtin .recover, [] => some (o, l)
      | _, _ => none
    | _, _ => none
  | [] => none

def recV (pan : Option Value) : Value :=
  match pan with
  | some v => v
  | none => .nilIface

def withPan (pan : Option Value) (o : AX × Fm × Hp) : SS := some [(o.1, o.2.1, o.2.2, pan)]

--D def evCodeSI (cx : Cx) (call : CallF) (sz n : Nat) : Code → Fm → Hp → Option Value → SS
--D   | .skip, fm, hp, pan => some [(.normal, fm, hp, pan)]
--D   | .region id ops draw, fm, hp, pan => match draw, recA ops.toList with
--D       | false, some (o, l) => match putA sz fm.tm o.dst (recV pan) with
--D         | none => none
--D         | some tm' => bindL (bindL (evOps cx call sz ops.toList l tm' hp) (plainEnd fm.ds)) (withPan none)
--D       | _, _ => bindL (evCode cx call sz n none (.region id ops draw) fm hp) (withPan pan)
--D   | .seq a b, fm, hp, pan => bindL (evCodeSI cx call sz n a fm hp pan) fun o => match o with
--D       | (.normal, fm', hp', pan') => evCodeSI cx call sz n b fm' hp' pan'
--D       | o => some [o]
--D   | .cond c a b, fm, hp, pan => match evX fm.tm c with
--D       | some v => match boolA cx v with
--D         | some true => evCodeSI cx call sz n a fm hp pan
--D         | some false => evCodeSI cx call sz n b fm hp pan
--D         | none => none
--D       | none => none
--D   | .block id a, fm, hp, pan => bindL (evCodeSI cx call sz n a fm hp pan) fun o => match o with
--D       | (.exit id', fm', hp', pan') => if id' = id then some [(.normal, fm', hp', pan')] else some [(.exit id', fm', hp', pan')]
--D       | o => some [o]
--D   | .loop a, fm, hp, pan => bindL (evCode cx call sz n none (.loop a) fm hp) (withPan pan)
--D   | .exit id, fm, hp, pan => some [(.exit id, fm, hp, pan)]
--D   | .scope a, fm, hp, pan => evCodeSI cx call sz n a fm hp pan
--D   | .label l, fm, hp, pan => bindL (evCode cx call sz n none (.label l) fm hp) (withPan pan)
--D   | .ret, fm, hp, pan => some [(.ret, fm, hp, pan)]
--D   | _, _, _, _ => none
--D @[implemented_by evCodeSI]
noncomputable def evCodeS (cx : Cx) (call : CallF) (sz n : Nat) (c : Code) : Fm → Hp → Option Value → SS :=
  Code.rec (motive := fun _ => Fm → Hp → Option Value → SS)
    (fun fm hp pan => some [(.normal, fm, hp, pan)])
    (fun id ops draw fm hp pan => match draw, recA ops.toList with
      | false, some (o, l) => match putA sz fm.tm o.dst (recV pan) with
        | none => none
        | some tm' => bindL (bindL (evOps cx call sz ops.toList l tm' hp) (plainEnd fm.ds)) (withPan none)
      | _, _ => bindL (evCode cx call sz n none (.region id ops draw) fm hp) (withPan pan))
    (fun _ _ iha ihb fm hp pan => bindL (iha fm hp pan) fun o => match o with
      | (.normal, fm', hp', pan') => ihb fm' hp' pan'
      | o => some [o])
    (fun c _ _ iha ihb fm hp pan => match evX fm.tm c with
      | some v => match boolA cx v with
        | some true => iha fm hp pan
        | some false => ihb fm hp pan
        | none => none
      | none => none)
    (fun id _ ih fm hp pan => bindL (ih fm hp pan) fun o => match o with
      | (.exit id', fm', hp', pan') => match Nat.beq id' id with
        | true => some [(.normal, fm', hp', pan')]
        | false => some [(.exit id', fm', hp', pan')]
      | o => some [o])
    (fun a _ fm hp pan => bindL (evCode cx call sz n none (.loop a) fm hp) (withPan pan))
    (fun _ _ _ _ _ _ _ _ _ => none)
    (fun id fm hp pan => some [(.exit id, fm, hp, pan)])
    (fun _ ih fm hp pan => ih fm hp pan)
    (fun l fm hp pan => bindL (evCode cx call sz n none (.label l) fm hp) (withPan pan))
    (fun _ _ _ _ => none)
    (fun fm hp pan => some [(.ret, fm, hp, pan)])
    (fun _ _ _ _ => none)
    c

--D def resAI (cx : Cx) (tm : Tr Value) (hp : Hp) (l : List ResultVar) : Option (List Value) := l.mapM fun
--D       | .tmp t => tm.get t
--D       | .cell a t => match tm.get a with
--D         | some (.pointer (some p)) => loadA cx hp t p
--D         | _ => none
--D @[implemented_by resAI]
noncomputable def resA (cx : Cx) (tm : Tr Value) (hp : Hp) (l : List ResultVar) : Option (List Value) :=
  List.rec (motive := fun _ => Option (List Value)) (some []) (fun x _ ih => match (match x with
      | .tmp t => tm.get t
      | .cell a t => match tm.get a with
        | some (.pointer (some p)) => loadA cx hp t p
        | _ => none) with
    | none => none
    | some v => match ih with
      | none => none
      | some vs => some (v :: vs)) l

noncomputable def oneA (l : List Value) : Value :=
  match l with
  | [v] => v
  | l => .tuple ⟨l⟩

/-- A round. -/
noncomputable def roundEnd (b : Nat) (o : AX × Fm × Hp) : RVal :=
  match o with
  | (.pan _, _, _) => none
  | (x, _, hp2) => match loopOb hp2 b with
    | none => none
    | some lp2 => some [(.ret (.bool (isNormal x)), loopSet hp2 b { lp2 with st := (match isNormal x with | true => .ready | false => .done), pend := pendA x })]

noncomputable def roundGo (cx : Cx) (call : CallF) (n b sz : Nat) (body : Code) (o : AX × Fm × Hp) : RVal :=
  match o with
  | (.normal, fm1, hp1) => match loopOb hp1 b with
    | none => none
    | some lp1 => match lp1.st with
      | .ready => bindL (evCode cx call sz n (some b) body fm1 (loopSet hp1 b { lp1 with st := .busy })) (roundEnd b)
      | _ => none
  | _ => none

noncomputable def evRound (cx : Cx) (call : CallF) (n b : Nat) (args : List Value) (hp : Hp) : RVal :=
  match loopOb hp b with
  | none => none
  | some lp => match lp.st with
    | .ready => match putPs lp.sz lp.ps args lp.tm with
      | none => none
      | some tm0 => bindL (evCode cx call lp.sz n (some b) lp.assign ⟨tm0, []⟩ hp) (roundGo cx call n b lp.sz lp.body)
    | _ => none

/-! A function: its body, its deferred calls, its results. -/
def modeA (x : AX) : Option (Option Value) :=
  match x with
  | .normal => some none
  | .ret => some none
  | .pan v => some (some v)
  | .exit _ => none

noncomputable def leaveEnd (ih : Option Value → Hp → Option (List (Option Value × Hp))) (r : Res × Hp) : Option (List (Option Value × Hp)) :=
  match r with
  | (.went pan, hp) => ih pan hp
  | _ => none

--D def evLeaveI (call : CallF) : List ADef → Option Value → Hp → Option (List (Option Value × Hp))
--D   | [], u, hp => some [(u, hp)]
--D   | .mark :: l, u, hp => evLeaveI call l u hp
--D   | .call f args :: l, u, hp => bindL (call (.dfr f u) args hp) (leaveEnd (evLeaveI call l))
--D @[implemented_by evLeaveI]
noncomputable def evLeave (call : CallF) (ds : List ADef) : Option Value → Hp → Option (List (Option Value × Hp)) :=
  List.rec (motive := fun _ => Option Value → Hp → Option (List (Option Value × Hp))) (fun u hp => some [(u, hp)])
    (fun d _ ih u hp => match d with
      | .mark => ih u hp
      | .call f args => bindL (call (.dfr f u) args hp) (leaveEnd ih)) ds

noncomputable def retEnd (cx : Cx) (fi : FI) (tm : Tr Value) (q : Option Value × Hp) : RVal :=
  match q with
  | (some v, hp2) => some [(.pan v, hp2)]
  | (none, hp2) => match resA cx tm hp2 fi.results with
    | some l => some [(.ret (oneA l), hp2)]
    | none => none

noncomputable def bodyEnd (cx : Cx) (call : CallF) (fi : FI) (o : AX × Fm × Hp) : RVal :=
  match modeA o.1 with
  | none => none
  | some u => bindL (evLeave call o.2.1.ds u o.2.2) (retEnd cx fi o.2.1.tm)

/-! What a value leads to. -/
def refsV : Nat → Value → List Nat
  | 0, _ => []
  | _ + 1, .pointer (some a) => [a.block]
  | _ + 1, .slice (some a) _ _ => [a.block]
  | _ + 1, .map (some b) => [b]
  | d + 1, .func fn xs ys => (match fn with | .yield b => [b] | _ => []) ++ (xs.toList.flatMap (refsV d) ++ ys.toList.flatMap (refsV d))
  | d + 1, .iface _ v => refsV d v
  | d + 1, .agg xs => xs.toList.flatMap (refsV d)
  | d + 1, .tuple xs => xs.toList.flatMap (refsV d)
  | _, _ => []

noncomputable def refsO : AObj → List Nat
  | .cells t n _ _ _ => match Tr.list n t 0 with
    | some l => l.flatMap (refsV 9)
    | none => []
  | .map es _ => es.flatMap fun e => refsV 9 e.key ++ refsV 9 e.val
  | .miter (some m) _ _ _ => [m]
  | _ => []

--D def reachAI (tr : Tr AObj) : Nat → List Nat → Tr Bool → Tr Bool
--D   | 0, _, seen => seen
--D   | _ + 1, [], seen => seen
--D   | n + 1, b :: l, seen => match seen.getI b with
--D     | some _ => reachAI tr n l seen
--D     | none => match tr.getI b with
--D       | some o => reachAI tr n (refsO o ++ l) (Tr.setFI (b+1) seen b true)
--D       | none => reachAI tr n l seen
--D @[implemented_by reachAI]
noncomputable def reachA (tr : Tr AObj) (n : Nat) : List Nat → Tr Bool → Tr Bool :=
  Nat.rec (motive := fun _ => List Nat → Tr Bool → Tr Bool) (fun _ seen => seen) (fun _ ih l seen => match l with
    | [] => seen
    | b :: l => match seen.get b with
      | some _ => ih l seen
      | none => match tr.get b with
        | some o => ih (refsO o ++ l) (seen.set b true)
        | none => ih l seen) n

--D def fromToI : Nat → Nat → List Nat
--D   | 0, _ => []
--D   | n+1, a => a :: fromToI n (a+1)
--D @[implemented_by fromToI]
noncomputable def fromTo (n : Nat) : Nat → List Nat := Nat.rec (motive := fun _ => Nat → List Nat) (fun _ => []) (fun _ ih a => a :: ih (Nat.succ a)) n

def resV : Res → List Nat
  | .ret v => refsV 9 v
  | .pan v => refsV 9 v
  | .went _ => []

/-- May what differs be forgotten? It is new, and nothing leads to it. -/
noncomputable def idleA (n0 : Nat) (a : Res × Hp) (l : List Nat) : Bool :=
  match reachA a.2.tr 100000 (resV a.1 ++ fromTo (n0 - a.2.lo) a.2.lo) .nil with
  | seen => l.all fun b => match Nat.ble n0 b, seen.get b with
    | true, none => true
    | _, _ => false

/-! Outcomes that are one, once what differs is forgotten. -/
def resEq : Res → Res → Bool
  | .ret a, .ret b => vEq 30 a b
  | .pan a, .pan b => vEq 30 a b
  | _, _ => false

noncomputable def join2 (n0 : Nat) (a b : Res × Hp) : Option (Res × Hp) :=
  match resEq a.1 b.1, Nat.beq a.2.nx b.2.nx with
  | true, true => match (diffA a.2.tr b.2.tr a.2.nx 0).filter (fun k => Nat.blt k a.2.nx) with
    | l => match idleA n0 a l with
      | true => match hpEq (killAll a.2 l) (killAll b.2 l) with
        | true => some (a.1, killAll a.2 l)
        | false => none
      | false => none
  | _, _ => none

--D def joinFI (n0 : Nat) : List (Res × Hp) → Res × Hp → Option (Res × Hp)
--D   | [], a => some a
--D   | b :: l, a => match join2 n0 a b with
--D     | some c => joinFI n0 l c
--D     | none => dbgTrace ("NO JOIN " ++ toString n0 ++ " " ++ toString (resEq a.1 b.1) ++ toString a.2.nx ++ " " ++ toString b.2.nx ++ " lo " ++ toString a.2.lo ++ " " ++ toString b.2.lo ++ " " ++ toString (diffA a.2.tr b.2.tr a.2.nx 0) ++ toString (idleA n0 a (diffA a.2.tr b.2.tr a.2.nx 0)) ++ toString ((diffA a.2.tr b.2.tr a.2.nx 0).map fun b => idleA n0 a [b])) fun _ => none
--D @[implemented_by joinFI]
noncomputable def joinF (n0 : Nat) (l : List (Res × Hp)) : Res × Hp → Option (Res × Hp) :=
  List.rec (motive := fun _ => Res × Hp → Option (Res × Hp)) (fun a => some a) (fun b _ ih a => match join2 n0 a b with
    | some c => ih c
    | none => none) l

noncomputable def joinA (n0 : Nat) (l : List (Res × Hp)) : List (Res × Hp) :=
  match l with
  | [] => []
  | [x] => [x]
  | x :: l => match joinF n0 l x with
    | some c => [c]
    | none => x :: l

noncomputable def joinR (n0 : Nat) (r : RVal) : RVal :=
  match r with
  | none => none
  | some l => some (joinA n0 l)

noncomputable def evBody (cx : Cx) (call : CallF) (n f : Nat) (args : List Value) (hp : Hp) : RVal :=
  match cx.f f with
  | none => none
  | some fi => match Nat.ble (len args) fi.ntmps with
    | false => none
    | true => joinR hp.nx (bindL (evCode cx call fi.ntmps n none fi.body ⟨Tr.putList args .nil 0, []⟩ hp) (bodyEnd cx call fi))

noncomputable def dfrEnd (cx : Cx) (fi : FI) (o : AX × Fm × Hp × Option Value) : RVal :=
  match o with
  | (x, ⟨tm, ds⟩, hp2, pan) => match ds, modeA x with
    | [], some none => match resA cx tm hp2 fi.results with
      | some _ => some [(.went pan, hp2)]
      | none => none
    | _, _ => none

noncomputable def evDfr (cx : Cx) (call : CallF) (n f : Nat) (pan : Option Value) (args : List Value) (hp : Hp) : RVal :=
  match cx.f f with
  | none => none
  | some fi => match Nat.ble (len args) fi.ntmps with
    | false => none
    | true => bindL (evCodeS cx call fi.ntmps n fi.body ⟨Tr.putList args .nil 0, []⟩ hp pan) (dfrEnd cx fi)

/-- What a contract tells of a call. -/
noncomputable def orV (cx : Cx) (f : FuncId) (args : List Value) (hp : Hp) : Option Value :=
  match cx.o f with
  | some o => match o args hp with
    | some v => match flat v with
      | true => some v
      | false => none
    | none => none
  | none => none

--D def evFnI (cx : Cx) (n : Nat) : Nat → CallF
--D   | 0, _, _, _ => dbgTrace "DEPTH" fun _ => none
--D   | d+1, .fn f, args, hp => match orV cx f args hp with
--D     | some v => some [(.ret v, hp)]
--D     | none => match evBody cx (evFnI cx n d) n f args hp with
--D     | none => dbgTrace ("in " ++ toString f) fun _ => none
--D     | some l => if l.length > 1 then dbgTrace ("MANY " ++ toString l.length ++ " in " ++ toString f) fun _ => some l else some l
--D   | d+1, .yield b, args, hp => match evRound cx (evFnI cx n d) n b args hp with
--D     | none => dbgTrace "in a round" fun _ => none
--D     | r => r
--D   | d+1, .dfr f pan, args, hp => match evDfr cx (evFnI cx n d) n f pan args hp with
--D     | none => dbgTrace ("in deferred " ++ toString f) fun _ => none
--D     | r => r
--D @[implemented_by evFnI]
noncomputable def evFn (cx : Cx) (n d : Nat) : CallF :=
  Nat.rec (motive := fun _ => CallF) (fun _ _ _ => none)
    (fun _ ih c args hp => match c with
      | .fn f => match orV cx f args hp with
        | some v => some [(.ret v, hp)]
        | none => evBody cx ih n f args hp
      | .yield b => evRound cx ih n b args hp
      | .dfr f pan => evDfr cx ih n f pan args hp) d
end Go.Proofs.Ytkceooieieogjaa.Ev
