/- The second reckoner: operations, regions, code, calls. -/
import Derived.Test.YtcehoogppaadgabGreatDoorEvB
set_option linter.unusedVariables false
set_option linter.unusedSimpArgs false
namespace Go.Proofs.YtcehoogppaadgabGreatDoor.Ev
open Go Go.RowKit

/-- What is called: a function, a round of a loop. -/
inductive Cal where
  | fn (f : FuncId)
  | yield (b : Nat)

abbrev CallF := Cal → List Value → Hp → Val

noncomputable def opt (tm : Tr Value) : Option Operand → Option (Option Value)
  | none => some none
  | some x => match evX tm x with
    | some v => some (some v)
    | none => none

noncomputable def keep (hp : Hp) (o : Option Value) : Val :=
  match o with
  | some v => some (v, hp)
  | none => none

noncomputable def evCall (cx : Cx) (call : CallF) (tm : Tr Value) (hp : Hp) (c : Call) : Val :=
  match evXs tm c.args.toList with
  | none => none
  | some args => match c.callee with
    | .builtin b => builtinA cx hp b c.argTypes.toList args
    | .value f => match evX tm f with
      | some (.func (.func f) first captured) => match cx.x f with
        | some k => keep hp (extA k (first.toList ++ args ++ captured.toList))
        | none => call (.fn f) (first.toList ++ args ++ captured.toList) hp
      | some (.func (.yield b) _ _) => call (.yield b) args hp
      | _ => none
    | .invoke r nm => match evX tm r with
      | some (.iface t v) => match cx.m t nm with
        | some f => match cx.x f with
          | some k => keep hp (extA k (v :: args))
          | none => call (.fn f) (v :: args) hp
        | none => none
      | _ => none

noncomputable def evOp (cx : Cx) (call : CallF) (tm : Tr Value) (hp : Hp) (o : Op) : Val :=
  match o with
  | .move x | .assign x => keep hp (evX tm x)
  | .pick c a b => match evX tm c with
    | some (.bool true) => keep hp (evX tm a)
    | some (.bool false) => keep hp (evX tm b)
    | _ => none
  | .alloc e => match cx.t e with
    | some te => some (.pointer (some ⟨hp.nx, 0, none⟩), (newRowA hp e (cellsOf te.zero) none).2)
    | none => none
  | .box e x => match evX tm x with
    | some v => some (.pointer (some ⟨hp.nx, 0, none⟩), (newRowA hp e (cellsOf v) none).2)
    | none => none
  | .build t parts => match evParts tm parts.toList with
    | some ps => keep hp (buildA cx t ps)
    | none => none
  | .buildSlice t n parts => match evParts tm parts.toList with
    | some ps => buildSliceA cx hp t n ps
    | none => none
  | .load t a => match evX tm a with
    | some (.pointer (some p)) => keep hp (loadA cx hp t p)
    | some (.chan (some k)) => keep hp (loadG cx k t)
    | _ => none
  | .store t a x => match evX tm a, evX tm x with
    | some (.pointer (some p)), some v => match storeA cx hp t p v with
      | some hp' => some (undef, hp')
      | none => none
    | _, _ => none
  | .nilCheck x => match evX tm x with
    | some (.pointer (some p)) => some (.pointer (some p), hp)
    | some (.func (.func f) y z) => some (.func (.func f) y z, hp)
    | some (.func (.yield b) _ _) => some (.func (.yield b) ⟨[]⟩ ⟨[]⟩, hp)
    | some (.map m) => some (.map m, hp)
    | some (.iface t v) => some (.iface t v, hp)
    | _ => none
  | .binOp op t x y _ => match evX tm x, evX tm y with
    | some a, some b => keep hp (binA cx op t a b)
    | _, _ => none
  | .unOp op _ x => match evX tm x with
    | some v => keep hp (unA op v)
    | none => none
  | .convert s d x => match evX tm x with
    | some v => convA cx hp s d v
    | none => none
  | .makeInterface t x => match evX tm x, cx.t t with
    | some v, some ti => match ti.desc with
      | .interface _ => none
      | _ => some (.iface t v, hp)
    | _, _ => none
  | .makeFunc fn first captured => match evXs tm first.toList, evXs tm captured.toList, noYield fn with
    | some xs, some ys, true => some (.func fn ⟨xs⟩ ⟨ys⟩, hp)
    | _, _, _ => none
  | .makeSlice t l c => match evX tm l, evX tm c with
    | some a, some b => makeSliceA cx hp t a b
    | _, _ => none
  | .slice t x lo hi mx => match evX tm x, opt tm lo, opt tm hi, opt tm mx with
    | some v, some l, some h, some m => keep hp (sliceA cx hp t v l h m)
    | _, _, _, _ => none
  | .fieldAddr t x f => match evX tm x with
    | some v => keep hp (fieldAddrA cx t v f)
    | none => none
  | .field t x f => match evX tm x with
    | some v => keep hp (fieldA cx t v f)
    | none => none
  | .indexAddr t x ix => match evX tm x, evX tm ix with
    | some v, some i => keep hp (indexAddrA cx t v i)
    | _, _ => none
  | .index t x ix => match evX tm x, evX tm ix with
    | some v, some i => keep hp (indexA cx t v i)
    | _, _ => none
  | .extract x i => match evX tm x with
    | some (.tuple vs) => keep hp (vs.toList[i]?)
    | _ => none
  | .makeMap t r => match opt tm r with
    | some r => makeMapA cx hp t r
    | none => none
  | .lookup t x k ok => match evX tm x, evX tm k with
    | some x, some k => keep hp (lookupA cx hp t x k ok)
    | _, _ => none
  | .mapUpdate t m k x | .insert t m k x => match evX tm m, evX tm k, evX tm x with
    | some m, some k, some x => match mapUpdateA cx hp t m k x with
      | some hp' => some (undef, hp')
      | none => none
    | _, _, _ => none
  | .mapEntry t m k => match evX tm m, evX tm k with
    | some m, some k => mapEntryA cx hp t m k
    | _, _ => none
  | .entryStore _ m s x => match evX tm m, evX tm s, evX tm x with
    | some m, some s, some x => match entryStoreA hp m s x with
      | some hp' => some (undef, hp')
      | none => none
    | _, _, _ => none
  | .typeAssert x _ t ok => match evX tm x with
    | some v => keep hp (assertA cx v t ok)
    | none => none
  | .call c => evCall cx call tm hp c
  | _ => none

/-- A value with its number reckoned, handed on. -/
--D def forceI {α : Type} (v : Value) (f : Value → α) : α := f v
--D @[implemented_by forceI]
noncomputable def force {α : Type} (v : Value) (f : Value → α) : α :=
  match v with
  | .int k (.ofNat a) => Nat.rec (motive := fun _ => α) (f (.int k (.ofNat 0))) (fun p _ => f (.int k (.ofNat (Nat.succ p)))) a
  | .int k (.negSucc a) => Nat.rec (motive := fun _ => α) (f (.int k (.negSucc 0))) (fun p _ => f (.int k (.negSucc (Nat.succ p)))) a
  | .bool true => f (.bool true)
  | .bool false => f (.bool false)
  | v => f v

theorem force_eq {α : Type} (v : Value) (f : Value → α) : force v f = f v := by
  unfold force
  split
  · rename_i k a; cases a <;> rfl
  · rename_i k a; cases a <;> rfl
  all_goals rfl

abbrev TS := Option (Tr Value × Hp)

noncomputable def putA (sz : Nat) (tm : Tr Value) (dst : Option Tmp) (v : Value) : Option (Tr Value) :=
  match dst with
  | none => some tm
  | some d => match Nat.blt d sz with
    | true => some (tm.set d v)
    | false => none

/-- Is the operation carried out? -/
noncomputable def wantA (all : List Oper) (tm : Tr Value) (g : Option (Nat × Bool)) : Option Bool :=
  match g with
  | none => some true
  | some (j, want) => match all[j]? with
    | none => none
    | some o => match o.dst with
      | none => none
      | some d => match tm.get d with
        | some (.bool b) => some (b == want)
        | some (.tuple ⟨[]⟩) => some false
        | _ => none

noncomputable def evOper (cx : Cx) (call : CallF) (sz : Nat) (all : List Oper) (o : Oper) (tm : Tr Value) (hp : Hp) : TS :=
  match wantA all tm o.guard with
  | none => none
  | some false => match putA sz tm o.dst undef with
    | none => none
    | some tm' => some (tm', hp)
  | some true => match evOp cx call tm hp o.op with
    | none => none
    | some (v, hp') => force v fun v => match putA sz tm o.dst v with
      | none => none
      | some tm' => some (tm', hp')

--D def evOperT (cx : Cx) (call : CallF) (sz : Nat) (all : List Oper) (o : Oper) (tm : Tr Value) (hp : Hp) : TS :=
--D   match evOper cx call sz all o tm hp with
--D   | none => dbgTrace ("FAIL at " ++ o.pos ++ " dst " ++ toString (repr o.dst)) fun _ => none
--D   | r => r
--D def evOpsI (cx : Cx) (call : CallF) (sz : Nat) (all : List Oper) : List Oper → Tr Value → Hp → TS
--D   | [], tm, hp => some (tm, hp)
--D   | o :: l, tm, hp => match evOperT cx call sz all o tm hp with
--D     | none => none
--D     | some (tm', hp') => evOpsI cx call sz all l tm' hp'
--D @[implemented_by evOpsI]
noncomputable def evOps (cx : Cx) (call : CallF) (sz : Nat) (all : List Oper) (l : List Oper) : Tr Value → Hp → TS :=
  List.rec (motive := fun _ => Tr Value → Hp → TS) (fun tm hp => some (tm, hp))
    (fun o _ ih tm hp => match evOper cx call sz all o tm hp with
      | none => none
      | some (tm', hp') => ih tm' hp') l

/-! Regions that draw their order. -/

/-- What each operation has behind it, as bits: what is told to be ahead of it, and what those have. -/
--D def befAI : List Oper → List Nat → List Nat
--D   | [], acc => acc
--D   | o :: l, acc => befAI l (acc ++ [o.after.toList.foldl (fun s e => match Region.binds .any e, Nat.blt e.on acc.length with
--D       | true, true => s ||| 2 ^ e.on ||| acc.getD e.on 0
--D       | _, _ => s) 0])
--D @[implemented_by befAI]
noncomputable def befA (l : List Oper) : List Nat → List Nat :=
  List.rec (motive := fun _ => List Nat → List Nat) (fun acc => acc)
    (fun o _ ih acc => ih (acc ++ [o.after.toList.foldl (fun s e => match Region.binds .any e, Nat.blt e.on acc.length with
      | true, true => s ||| 2 ^ e.on ||| acc.getD e.on 0
      | _, _ => s) 0])) l

/-- The edges that bind go back. -/
def backA (l : List Oper) : Bool := l.zipIdx.all fun (o, i) => o.after.toList.all fun e => !Region.binds .any e || Nat.blt e.on i

def looksA (o : Oper) (l : List Oper) : List Tmp :=
  (o.op.operands.toList.filterMap fun | .tmp t => some t | _ => none) ++ (match o.guard with
    | some (j, _) => match l[j]? with
      | some o' => o'.dst.toList
      | none => []
    | none => [])

/-- Whoever names what another writes is told to be behind it, or ahead of it. -/
noncomputable def tmpsA (l : List Oper) (bef : List Nat) : Bool :=
  l.zipIdx.all fun (o, i) => match o.dst with
    | none => true
    | some d => l.zipIdx.all fun (o', j) =>
      i == j || !((looksA o' l).contains d || o'.dst == some d) || (if i < j then (bef.getD j 0).testBit i else (bef.getD i 0).testBit j)

/-- An operation that looks at no memory. -/
def pureOp : Op → Bool
  | .move _ | .assign _ | .pick _ _ _ | .binOp _ _ _ _ _ | .unOp _ _ _ | .makeInterface _ _ | .makeFunc _ _ _ | .fieldAddr _ _ _ | .field _ _ _ | .indexAddr _ _ _ | .index _ _ _ | .extract _ _ | .nilCheck _ | .typeAssert _ _ _ _ => true
  | _ => false

/-- Behind all that stand ahead, ahead of all that stand behind, but for what looks at no memory. -/
noncomputable def wallA (l : List Oper) (bef : List Nat) (i : Nat) : Bool :=
  l.zipIdx.all fun (o, j) => j == i || pureOp o.op || (if j < i then (bef.getD i 0).testBit j else (bef.getD j 0).testBit i)

noncomputable def drawOk (l : List Oper) : Bool := backA l && tmpsA l (befA l [])

/-- In a region that draws an operation that is no wall writes to nothing that was there before it. -/
--D def evDrawI (cx : Cx) (call : CallF) (sz : Nat) (all : List Oper) (bef : List Nat) : List Oper → Nat → Tr Value → Hp → TS
--D   | [], _, tm, hp => some (tm, hp)
--D   | o :: l, i, tm, hp => match evOperT cx call sz all o tm { tr := hp.tr, nx := hp.nx, lo := hp.nx } with
--D       | none => none
--D       | some (tm', hp') => match Nat.ble hp.nx hp'.lo with
--D         | true => evDrawI cx call sz all bef l (Nat.succ i) tm' { tr := hp'.tr, nx := hp'.nx, lo := hp.lo }
--D         | false => match wallA all bef i with
--D           | true => evDrawI cx call sz all bef l (Nat.succ i) tm' { tr := hp'.tr, nx := hp'.nx, lo := least hp'.lo hp.lo }
--D           | false => dbgTrace ("NO WALL at " ++ o.pos ++ " dst " ++ toString (repr o.dst)) fun _ => none
--D @[implemented_by evDrawI]
noncomputable def evDraw (cx : Cx) (call : CallF) (sz : Nat) (all : List Oper) (bef : List Nat) (l : List Oper) : Nat → Tr Value → Hp → TS :=
  List.rec (motive := fun _ => Nat → Tr Value → Hp → TS) (fun _ tm hp => some (tm, hp))
    (fun o _ ih i tm hp => match evOper cx call sz all o tm { tr := hp.tr, nx := hp.nx, lo := hp.nx } with
      | none => none
      | some (tm', hp') => match Nat.ble hp.nx hp'.lo with
        | true => ih (Nat.succ i) tm' { tr := hp'.tr, nx := hp'.nx, lo := hp.lo }
        | false => match wallA all bef i with
          | true => ih (Nat.succ i) tm' { tr := hp'.tr, nx := hp'.nx, lo := least hp'.lo hp.lo }
          | false => none) l

inductive AX where
  | normal
  | exit (id : Nat)
  | ret

abbrev CS := Option (AX × Tr Value × Hp)

--D def iterI (body : Tr Value → Hp → CS) : Nat → Tr Value → Hp → CS
--D   | 0, _, _ => dbgTrace "ITER" fun _ => none
--D   | n+1, tm, hp => match body tm hp with
--D       | some (.normal, tm', hp') => iterI body n tm' hp'
--D       | r => r
--D @[implemented_by iterI]
noncomputable def iter (body : Tr Value → Hp → CS) (n : Nat) : Tr Value → Hp → CS :=
  Nat.rec (motive := fun _ => Tr Value → Hp → CS) (fun _ _ => none)
    (fun _ ih tm hp => match body tm hp with
      | some (.normal, tm', hp') => ih tm' hp'
      | r => r) n

/-! A loop over a function. -/
noncomputable def roOk (hp : Hp) (ro : Option Nat) : Bool :=
  match ro with
  | none => true
  | some b => match loopOb hp b with
    | some _ => true
    | none => false

def jumpA (p : Option JX) : AX :=
  match p with
  | none => .normal
  | some .ret => .ret
  | some (.exit id) => .exit id

def pendA (x : AX) : Option JX :=
  match x with
  | .normal => none
  | .ret => some .ret
  | .exit id => some (.exit id)

def isNormal : AX → Bool
  | .normal => true
  | _ => false

noncomputable def evRange (cx : Cx) (call : CallF) (sz : Nat) (ro : Option Nat) (g : Operand) (ps : Array Tmp) (assign body : Code) (tm : Tr Value) (hp : Hp) : CS :=
  match roOk hp ro with
  | false => none
  | true => match evX tm g with
    | some (.func (.func f) first captured) => match cx.x f with
      | some _ => none
      | none => match call (.fn f) (first.toList ++ [.func (.yield hp.nx) ⟨[]⟩ ⟨[]⟩] ++ captured.toList) (loopNew hp { st := .ready, pend := none, tm := tm, sz := sz, ps := ps.toList, assign := assign, body := body }) with
        | none => none
        | some (_, hp2) => match loopOb hp2 hp.nx with
          | none => none
          | some lp => match lp.st with
            | .busy => none
            | _ => some (jumpA lp.pend, tm, loopSet hp2 hp.nx { lp with st := .exhausted })
    | _ => none

--D def evCodeI (cx : Cx) (call : CallF) (sz n : Nat) (ro : Option Nat) : Code → Tr Value → Hp → CS
--D   | .skip, tm, hp => some (.normal, tm, hp)
--D   | .region _ ops draw, tm, hp => match draw with
--D       | false => match evOpsI cx call sz ops.toList ops.toList tm hp with
--D         | some (tm', hp') => some (.normal, tm', hp')
--D         | none => none
--D       | true => match drawOk ops.toList with
--D         | true => match evDrawI cx call sz ops.toList (befA ops.toList []) ops.toList 0 tm hp with
--D           | some (tm', hp') => some (.normal, tm', hp')
--D           | none => none
--D         | false => dbgTrace ("DRAW NOT OK " ++ (ops.toList.map (·.pos)).toString) fun _ => none
--D   | .seq a b, tm, hp => match evCodeI cx call sz n ro a tm hp with
--D       | some (.normal, tm', hp') => evCodeI cx call sz n ro b tm' hp'
--D       | r => r
--D   | .cond c a b, tm, hp => match evX tm c with
--D       | some (.bool true) => evCodeI cx call sz n ro a tm hp
--D       | some (.bool false) => evCodeI cx call sz n ro b tm hp
--D       | _ => dbgTrace "COND" fun _ => none
--D   | .block id a, tm, hp => match evCodeI cx call sz n ro a tm hp with
--D       | some (.exit id', tm', hp') => match Nat.beq id' id with
--D         | true => some (.normal, tm', hp')
--D         | false => some (.exit id', tm', hp')
--D       | r => r
--D   | .loop a, tm, hp => iterI (evCodeI cx call sz n ro a) n tm hp
--D   | .rangeFunc g ps a b, tm, hp => evRange cx call sz ro g ps a b tm hp
--D   | .exit id, tm, hp => some (.exit id, tm, hp)
--D   | .scope a, tm, hp => evCodeI cx call sz n ro a tm hp
--D   | .label _, tm, hp => some (.normal, tm, hp)
--D   | .goto _, _, _ => dbgTrace "GOTO" fun _ => none
--D   | .ret, tm, hp => some (.ret, tm, hp)
--D   | .refuse _, _, _ => dbgTrace "REFUSE" fun _ => none
--D @[implemented_by evCodeI]
noncomputable def evCode (cx : Cx) (call : CallF) (sz n : Nat) (ro : Option Nat) (c : Code) : Tr Value → Hp → CS :=
  Code.rec (motive := fun _ => Tr Value → Hp → CS)
    (fun tm hp => some (.normal, tm, hp))
    (fun _ ops draw tm hp => match draw with
      | false => match evOps cx call sz ops.toList ops.toList tm hp with
        | some (tm', hp') => some (.normal, tm', hp')
        | none => none
      | true => match drawOk ops.toList with
        | true => match evDraw cx call sz ops.toList (befA ops.toList []) ops.toList 0 tm hp with
          | some (tm', hp') => some (.normal, tm', hp')
          | none => none
        | false => none)
    (fun _ _ iha ihb tm hp => match iha tm hp with
      | some (.normal, tm', hp') => ihb tm' hp'
      | r => r)
    (fun c _ _ iha ihb tm hp => match evX tm c with
      | some (.bool true) => iha tm hp
      | some (.bool false) => ihb tm hp
      | _ => none)
    (fun id _ ih tm hp => match ih tm hp with
      | some (.exit id', tm', hp') => match Nat.beq id' id with
        | true => some (.normal, tm', hp')
        | false => some (.exit id', tm', hp')
      | r => r)
    (fun _ ih tm hp => iter ih n tm hp)
    (fun g ps a b _ _ tm hp => evRange cx call sz ro g ps a b tm hp)
    (fun id tm hp => some (.exit id, tm, hp))
    (fun _ ih tm hp => ih tm hp)
    (fun _ tm hp => some (.normal, tm, hp))
    (fun _ _ _ => none)
    (fun tm hp => some (.ret, tm, hp))
    (fun _ _ _ => none)
    c

--D def resAI (cx : Cx) (tm : Tr Value) (hp : Hp) (l : List ResultVar) : Option (List Value) := l.mapM fun
--D       | .tmp t => tm.get t
--D       | .cell a t => match tm.get a with
--D         | some (.pointer (some p)) => loadA cx hp t p
--D         | _ => none
--D @[implemented_by resAI]
noncomputable def resA (cx : Cx) (tm : Tr Value) (hp : Hp) (l : List ResultVar) : Option (List Value) :=
  List.rec (motive := fun _ => Option (List Value)) (some []) (fun x _ ih => match (match x with
      | .tmp t => tm.get t
      | .cell a t => match tm.get a with
        | some (.pointer (some p)) => loadA cx hp t p
        | _ => none) with
    | none => none
    | some v => match ih with
      | none => none
      | some vs => some (v :: vs)) l

noncomputable def oneA (l : List Value) : Value :=
  match l with
  | [v] => v
  | l => .tuple ⟨l⟩

/-- A round. -/
noncomputable def evRound (cx : Cx) (call : CallF) (n b : Nat) (args : List Value) (hp : Hp) : Val :=
  match loopOb hp b with
  | none => none
  | some lp => match lp.st with
    | .ready => match putPs lp.sz lp.ps args lp.tm with
      | none => none
      | some tm0 => match evCode cx call lp.sz n (some b) lp.assign tm0 hp with
        | some (.normal, tm1, hp1) => match loopOb hp1 b with
          | none => none
          | some lp1 => match lp1.st with
            | .ready => match evCode cx call lp.sz n (some b) lp.body tm1 (loopSet hp1 b { lp1 with st := .busy }) with
              | none => none
              | some (x, _, hp2) => match loopOb hp2 b with
                | none => none
                | some lp2 => some (.bool (isNormal x), loopSet hp2 b { lp2 with st := (match isNormal x with | true => .ready | false => .done), pend := pendA x })
            | _ => none
        | _ => none
    | _ => none

noncomputable def evBody (cx : Cx) (call : CallF) (n f : Nat) (args : List Value) (hp : Hp) : Val :=
  match cx.f f with
  | none => none
  | some fi => match Nat.ble (len args) fi.ntmps with
    | false => none
    | true => match evCode cx call fi.ntmps n none fi.body (Tr.putList args .nil 0) hp with
      | some (.exit _, _, _) => none
      | some (_, tm, hp') => match resA cx tm hp' fi.results with
        | some l => some (oneA l, hp')
        | none => none
      | none => none

--D def evFnI (cx : Cx) (n : Nat) : Nat → CallF
--D   | 0, _, _, _ => dbgTrace "DEPTH" fun _ => none
--D   | d+1, .fn f, args, hp => match evBody cx (evFnI cx n d) n f args hp with
--D     | none => dbgTrace ("in " ++ toString f) fun _ => none
--D     | r => r
--D   | d+1, .yield b, args, hp => match evRound cx (evFnI cx n d) n b args hp with
--D     | none => dbgTrace "in a round" fun _ => none
--D     | r => r
--D @[implemented_by evFnI]
noncomputable def evFn (cx : Cx) (n d : Nat) : CallF :=
  Nat.rec (motive := fun _ => CallF) (fun _ _ _ => none)
    (fun _ ih c args hp => match c with
      | .fn f => evBody cx ih n f args hp
      | .yield b => evRound cx ih n b args hp) d
end Go.Proofs.YtcehoogppaadgabGreatDoor.Ev
