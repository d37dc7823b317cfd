import Derived.Test.YtaepplhgeeaidaaDoorEvA
set_option linter.unusedVariables false
set_option linter.unusedSimpArgs false
namespace Go.Proofs.YtaepplhgeeaidaaDoor.Ev
open Go Go.RowKit
inductive JX where
  | ret
  | exit (id : Nat)
structure ALoop where
  st : LoopState
  pend : Option JX
  tm : Tr Value
  sz : Nat
  ps : List Tmp
  assign : Code
  body : Code
inductive AObj where
  | cells (t : Tr Value) (n : Nat) (e : TypeId) (op : Option Nat) (str : Bool)
  | map (es : List MapEntry) (clock : Nat)
  | loop (l : ALoop)
  | miter (m : Option Nat) (since : Nat) (seen : List Nat) (last : Nat)
  | siter (s : ByteArray) (pos : Nat)
    | seq (e n : Value) (ks : List Nat) (ty : TypeId)
  | dead
structure Hp where
  tr : Tr AObj
  nx : Nat
  lo : Nat
structure TI where
  desc : TypeDesc
  size : Nat
  bytes : Nat
  zero : Value
  eqOk : Bool
  cmp : Bool
structure FI where
  body : Code
  ntmps : Nat
  results : List ResultVar
inductive ExtK where
  | add64 | sub64 | cmpstr | noEscape | mapClone | overlaps (t : TypeId)
inductive Res where
  | ret (v : Value)
  | pan (v : Value)
  | went (pan : Option Value)
abbrev RVal := Option (List (Res × Hp))
abbrev Val := Option (Value × Hp)
abbrev OrcF := List Value → Hp → RVal
structure Cx where
  P : Program
  ty : Tr (Option TI)
  fn : Tr (Option FI)
  ex : List (FuncId × ExtK)
  me : List (TypeId × String × FuncId)
  gv : List (Nat × Tr Value)
  orc : List (FuncId × OrcF) := []
  as : List (Value × Bool) := []
  U : Nat → List Value → Option Value := fun _ _ => none
noncomputable def Cx.o (cx : Cx) (f : FuncId) : Option OrcF :=
  List.rec (motive := fun _ => Option OrcF) none (fun p _ ih => match Nat.beq p.1 f with
    | true => some p.2
    | false => ih) cx.orc
noncomputable def Cx.v (cx : Cx) (g : Nat) : Option (Tr Value) :=
  List.rec (motive := fun _ => Option (Tr Value)) none (fun p _ ih => match Nat.beq p.1 g with
    | true => some p.2
    | false => ih) cx.gv
noncomputable def Cx.x (cx : Cx) (f : FuncId) : Option ExtK :=
  List.rec (motive := fun _ => Option ExtK) none (fun p _ ih => match Nat.beq p.1 f with
    | true => some p.2
    | false => ih) cx.ex
def isPtrD : TypeDesc → Bool
  | .pointer _ => true
  | _ => false
def methOf (P : Program) (t : TypeId) (nm : String) : Option FuncId :=
  match P.info? t with
  | none => none
  | some i => match P.underlying t with
    | none => none
    | some d => match i.methods.toList.find? (fun q => q.name == nm) with
      | none => none
      | some q => match q.path.toList, q.func with
        | [], some (f, r) => match isPtrD d, r with
          | true, true => some f
          | false, false => some f
          | _, _ => none
        | _, _ => none
def methDeref (P : Program) (t : TypeId) (nm : String) : Option (FuncId × TypeId) :=
  match P.info? t with
  | none => none
  | some i => match P.underlying t with
    | some (.pointer e) => match i.methods.toList.find? (fun q => q.name == nm) with
      | none => none
      | some q => match q.path.toList, q.func with
        | [], some (f, false) => some (f, e)
        | _, _ => none
    | _ => none
noncomputable def Cx.m (cx : Cx) (t : TypeId) (nm : String) : Option FuncId :=
  List.rec (motive := fun _ => Option FuncId) (methOf cx.P t nm) (fun p _ ih => match Nat.beq p.1 t with
    | true => match decide (p.2.1 = nm) with
      | true => some p.2.2
      | false => ih
    | false => ih) cx.me
def extA : ExtK → List Value → Option Value
  | .add64, [.int _ (.ofNat x), .int _ (.ofNat y), .int _ (.ofNat c)] => match Nat.ble c 1 with
    | true => some (.tuple ⟨[.int .u64 (.ofNat ((x + y + c) % 18446744073709551616)), .int .u64 (.ofNat ((x + y + c) / 18446744073709551616))]⟩)
    | false => none
  | .sub64, [.int _ (.ofNat x), .int _ (.ofNat y), .int _ (.ofNat c)] => match Nat.ble c 1 with
    | true => some (.tuple ⟨[.int .u64 (.ofNat ((x + 18446744073709551616 - y - c) % 18446744073709551616)), .int .u64 (.ofNat (if x < y + c then 1 else 0))]⟩)
    | false => none
  | .cmpstr, [.string a, .string b] => some (.int .i64 (Extern.BytealgCompare.cmp a b))
  | .noEscape, [x] => some x
  | _, _ => none
noncomputable def Cx.t (cx : Cx) (t : TypeId) : Option TI :=
  match cx.ty.get t with
  | some o => o
  | none => none
noncomputable def Cx.f (cx : Cx) (f : FuncId) : Option FI :=
  match cx.fn.get f with
  | some o => o
  | none => none
noncomputable def plainRow (hp : Hp) (b : Nat) : Bool :=
  match hp.tr.get b with
  | some (.cells _ _ _ _ str) => !str
  | _ => false
noncomputable def extH (cx : Cx) (hp : Hp) (k : ExtK) (args : List Value) : Val :=
  match k with
  | .mapClone => match args with
    | [.iface t (.map (some b))] => match hp.tr.get b with
      | some (.map es c) => some (.iface t (.map (some hp.nx)), { tr := hp.tr.set hp.nx (.map es c), nx := Nat.succ hp.nx, lo := hp.lo })
      | _ => none
    | _ => none
  | .overlaps t => match cx.t t with
    | some ti => match ti.desc with
      | .slice e => match cx.t e, args with
        | some _, [.slice (some a) _ _, .slice (some b) _ _] => match Nat.beq a.block b.block, plainRow hp a.block && plainRow hp b.block with
          | false, true => some (.bool false, hp)
          | _, _ => none
        | _, _ => none
      | _ => none
    | none => none
  | k => match extA k args with
    | some v => some (v, hp)
    | none => none
def isAggD : TypeDesc → Bool
  | .struct _ | .array _ _ => true
  | _ => false
def cellsOf : Value → List Value
  | .agg cs => cs.toList
  | v => [v]
def tiOf (P : Program) (t : TypeId) : Option TI :=
  match P.info? t with
  | none => none
  | some i => match P.underlying t with
    | none => none
    | some d => match i.zero with
      | none => none
      | some z => match (cellsOf z).all flat with
        | false => none
        | true => some { desc := d, size := i.size, bytes := i.bytes, zero := z, eqOk := !(P.eqGuardType P.depth t) && !(P.stoodInHeld t), cmp := i.comparable }
def fiOfF (fn : Func) : Option FI :=
  match fn.body with
  | none => none
  | some c => match fn.name == "runtime.NumGoroutine" with
    | true => none
    | false => some { body := c, ntmps := fn.ntmps, results := fn.results.toList }
noncomputable def cxOf (P : Program) (ex : List (FuncId × ExtK)) (me : List (TypeId × String × FuncId) := []) (gv : List (Nat × Tr Value) := []) (orc : List (FuncId × OrcF) := []) (as : List (Value × Bool) := []) (U : Nat → List Value → Option Value := fun _ _ => none) : Cx :=
  { P := P, ex := ex, me := me, gv := gv, orc := orc, as := as, U := U, ty := Tr.putList ((List.range P.types.size).map (tiOf P)) .nil 0, fn := Tr.putList (P.funcs.toList.map fiOfF) .nil 0 }
def isCell : Value → Bool
  | .agg _ | .tuple _ => false
  | _ => true
noncomputable def allCell (l : List Value) : Bool := List.rec (motive := fun _ => Bool) true (fun x _ ih => Bool.rec (motive := fun _ => Bool) false ih (isCell x)) l
noncomputable def len {α : Type} (l : List α) : Nat := List.rec (motive := fun _ => Nat) 0 (fun _ _ ih => Nat.succ ih) l
noncomputable def least (a b : Nat) : Nat := Nat.sub a (Nat.sub a b)
def constOk (v : Value) : Bool :=
  match v with
  | .agg cs => cs.toList.all flat
  | v => flat v
noncomputable def evX (tm : Tr Value) : Operand → Option Value
  | .tmp t => tm.get t
  | .const v => match constOk v with
    | true => some v
    | false => none
  | .global g => some (.chan (some (g * 1048576)))
  | .func f => some (.func (.func f) ⟨[]⟩ ⟨[]⟩)
noncomputable def evXs (tm : Tr Value) (l : List Operand) : Option (List Value) :=
  List.rec (motive := fun _ => Option (List Value)) (some []) (fun x _ ih => match evX tm x with
    | none => none
    | some v => match ih with
      | none => none
      | some vs => some (v :: vs)) l
noncomputable def getRow (hp : Hp) (a : Addr) (n : Nat) : Option (List Value) :=
  match hp.tr.get a.block with
  | some (.cells t k _ _ _) => match Nat.ble (a.off + n) k with
    | true => Tr.list n t a.off
    | false => none
  | _ => none
noncomputable def loadA (cx : Cx) (hp : Hp) (t : TypeId) (a : Addr) : Option Value :=
  match cx.t t with
  | some ti => match isAggD ti.desc with
    | true => match getRow hp a ti.size with
      | some l => some (.agg ⟨l⟩)
      | none => none
    | false => match getRow hp a 1 with
      | some [v] => some v
      | _ => none
  | none => none
noncomputable def loadG (cx : Cx) (k : Nat) (t : TypeId) : Option Value :=
  match cx.v (Nat.div k 1048576), cx.t t with
  | some tr, some ti => match isAggD ti.desc with
    | true => match Tr.list ti.size tr (Nat.mod k 1048576) with
      | some l => match l.all flat with
        | true => some (.agg ⟨l⟩)
        | false => none
      | none => none
    | false => match tr.get (Nat.mod k 1048576) with
      | some v => match flat v with
        | true => some v
        | false => none
      | none => none
  | _, _ => none
noncomputable def putRow (hp : Hp) (a : Addr) (l : List Value) : Option Hp :=
  match hp.tr.get a.block with
  | some (.cells t k e op str) => match Nat.ble (a.off + len l) k with
    | true => match allCell l with
      | true => some { tr := hp.tr.set a.block (.cells (Tr.putList l t a.off) k e op str), nx := hp.nx, lo := least a.block hp.lo }
      | false => none
    | false => none
  | _ => none
noncomputable def storeA (cx : Cx) (hp : Hp) (t : TypeId) (a : Addr) (v : Value) : Option Hp :=
  match cx.t t with
  | some ti => match Nat.beq (len (cellsOf v)) ti.size with
    | true => putRow hp a (cellsOf v)
    | false => none
  | none => none
noncomputable def newRowA (hp : Hp) (e : TypeId) (l : List Value) (op : Option Nat) : Addr × Hp :=
  (⟨hp.nx, 0, none⟩, { tr := hp.tr.set hp.nx (.cells (Tr.putList l .nil 0) (len l) e op false), nx := Nat.succ hp.nx, lo := hp.lo })
def wrapA (k : IntKind) (n : Int) : Int :=
  match k, n with
  | .i64, .ofNat a => match Nat.blt a 9223372036854775808 with
    | true => .ofNat a
    | false => k.wrap n
  | .i64, .negSucc a => match Nat.blt a 9223372036854775808 with
    | true => .negSucc a
    | false => k.wrap n
  | .u64, .ofNat a => .ofNat (Nat.mod a 18446744073709551616)
  | .u32, .ofNat a => .ofNat (Nat.mod a 4294967296)
  | .u8, .ofNat a => .ofNat (Nat.mod a 256)
  | k, n => k.wrap n
def intA (op : BinOp) (k : IntKind) (a b : Int) : Option Value :=
  match op with
  | .add => some (.int k (wrapA k (a + b)))
  | .sub => some (.int k (wrapA k (a - b)))
  | .mul => some (.int k (wrapA k (a * b)))
  | .quo => if b = 0 then none else some (.int k (wrapA k (a.tdiv b)))
  | .rem => if b = 0 then none else some (.int k (a.tmod b))
  | .and => some (.int k (k.wrap (BitVec.ofInt k.bits a &&& BitVec.ofInt k.bits b).toNat))
  | .or => some (.int k (k.wrap (BitVec.ofInt k.bits a ||| BitVec.ofInt k.bits b).toNat))
  | .xor => some (.int k (k.wrap (BitVec.ofInt k.bits a ^^^ BitVec.ofInt k.bits b).toNat))
  | .andNot => some (.int k (k.wrap (BitVec.ofInt k.bits a &&& ~~~(BitVec.ofInt k.bits b)).toNat))
  | .eql => some (.bool (a == b))
  | .neq => some (.bool (a != b))
  | .lss => some (.bool (a < b))
  | .leq => some (.bool (a ≤ b))
  | .gtr => some (.bool (a > b))
  | .geq => some (.bool (a ≥ b))
  | _ => none
def shiftA (op : BinOp) (k : IntKind) (a b : Int) : Option Value :=
  if b < 0 then none else match op with
  | .shl => some (.int k (wrapA k (a * 2 ^ (min b.toNat k.bits))))
  | .shr => some (.int k (a.fdiv (2 ^ (min b.toNat k.bits))))
  | _ => none
def strA (op : BinOp) (x y : ByteArray) : Option Value :=
  match op with
  | .add => if ((x.size + y.size : Nat) : Int) > IntKind.i64.max then none else some (.string (x ++ y))
  | .eql => some (.bool (x.toList == y.toList))
  | .neq => some (.bool !(x.toList == y.toList))
  | .lss => some (.bool (Op.bytesLess x.toList y.toList))
  | .leq => some (.bool (Op.bytesLess x.toList y.toList || x.toList == y.toList))
  | .gtr => some (.bool !(Op.bytesLess x.toList y.toList || x.toList == y.toList))
  | .geq => some (.bool !(Op.bytesLess x.toList y.toList))
  | _ => none
noncomputable def partA (cx : Cx) (t : TypeId) (l : List Value) (off : Nat) : Option Value :=
  match cx.t t with
  | none => none
  | some ti => match isAggD ti.desc with
    | true => match Nat.ble (off + ti.size) (len l) with
      | true => some (.agg ⟨(l.drop off).take ti.size⟩)
      | false => none
    | false => l[off]?
noncomputable def eqFields (cx : Cx) (eq : TypeId → Value → Value → Option Bool) (xs ys : List Value) : List Field → Option Bool
  | [] => some true
  | f :: fs => match f.name == "_" with
    | false => match partA cx f.type xs f.offset, partA cx f.type ys f.offset with
      | some x, some y => match eq f.type x y with
        | some true => eqFields cx eq xs ys fs
        | some false => some false
        | none => none
      | _, _ => none
    | true => none
def cellTy (P : Program) (t : TypeId) : Nat :=
  match P.underlying t with
  | some .bool => 1
  | some (.int k) => kindCode k
  | some .string => 2
  | _ => 0
def kindsOf (P : Program) (t : TypeId) : Option (List Nat) :=
  match P.cellTypes P.depth t with
  | none => none
  | some ts => some ((List.range (P.cellsOf t)).map fun i => match ts[i % ts.length]? with | some u => cellTy P u | none => 0)
def num (n : Nat) : Value := .int .u64 (.ofNat n)
def rdAll (r : Addr → Option Value) (a : Addr) : List Nat → Nat → Bool
  | [], _ => true
  | k :: ks, j => (match r (a.add j) with
    | some v => tyOk k v
    | none => false) && rdAll r a ks (j + 1)
def tSl : Value → Bool
  | .slice _ n _ => Nat.blt n 9223372036854775808
  | _ => false
def tSt : Value → Bool
  | .string s => Nat.blt s.size 9223372036854775808
  | _ => false
def tIn : Value → Value → Bool
  | .slice (some _) n _, .int _ (.ofNat j) => Nat.blt j n
  | _, _ => false
def cutV : List Value → Option Value
  | [.int _ (.ofNat z), .slice A n c, .int _ (.ofNat i), .int _ (.ofNat j)] => match Nat.ble i j && Nat.ble j n with
    | true => match Nat.beq c i with
      | true => some (.slice A (j - i) (c - i))
      | false => some (.slice (A.map (·.add (i * z))) (j - i) (c - i))
    | false => none
  | _ => none
def tCuS : Value → Value → Value → Bool
  | .slice _ n _, .int _ (.ofNat i), .int _ (.ofNat j) => Nat.ble i j && Nat.ble j n
  | _, _, _ => false
def tPtr : Value → Bool
  | .pointer (some _) => true
  | _ => false
def tRd (P : Program) (r : Addr → Option Value) (t : TypeId) : Value → Bool
  | .pointer (some a) => match kindsOf P t with
    | some ks => rdAll r a ks 0
    | none => false
  | _ => false
def Rds (P : Program) (r : Addr → Option Value) : Nat → TypeId → List Value → Prop
  | 0, _, _ => False
  | f + 1, t, cs => match P.underlying t with
    | some (.slice e) => match cs with
      | [.slice none n _] => n = 0
      | [.slice (some a) n c] => n ≤ c ∧ (n < 9223372036854775808 ∧ n * P.bytesOf e ≤ 140737488351232) ∧ ∀ i, i < n → ∃ l, l.length = P.cellsOf e ∧ (∀ j v, l[j]? = some v → r (a.add (i * P.cellsOf e + j)) = some v) ∧ Rds P r f e l
      | _ => False
    | some (.struct fs) => cs.length = P.cellsOf t ∧ ∀ (i : Nat) (fd : Field), fs[i]? = some fd → Rds P r f fd.type ((cs.drop fd.offset).take (P.cellsOf fd.type))
    | some (.array n e) => cs.length = P.cellsOf t ∧ ∀ i, i < n → Rds P r f e ((cs.drop (i * P.cellsOf e)).take (P.cellsOf e))
    | some .string => match cs with
      | [.string s] => s.size < 9223372036854775808
      | _ => False
    | some _ => match cs with
      | [v] => tyOk (cellTy P t) v = true
      | _ => False
    | none => False
def flatF (go : TypeId → Option (List TypeId)) (sz : TypeId → Nat) : Nat → List Field → Option (List TypeId)
  | _, [] => some []
  | off, f :: fs => match go f.type with
    | some ts => match Nat.beq f.offset off, Nat.beq ts.length (sz f.type) with
      | true, true => match flatF go sz (off + ts.length) fs with
        | some us => some (ts ++ us)
        | none => none
      | _, _ => none
    | none => none
def flatT (P : Program) : Nat → TypeId → Option (List TypeId)
  | 0, _ => none
  | d + 1, t => match P.underlying t with
    | some (.struct fs) => match flatF (flatT P d) P.cellsOf 0 fs.toList with
      | some ts => match Nat.beq ts.length (P.cellsOf t) with
        | true => some ts
        | false => none
      | none => none
    | some (.array n e) => match flatT P d e with
      | some ts => match Nat.beq ts.length (P.cellsOf e), Nat.beq (P.cellsOf t) (n * ts.length) with
        | true, true => some ((List.replicate n ts).flatten)
        | _, _ => none
      | none => none
    | some _ => some [t]
    | none => none
open Classical in
noncomputable  def deepB (P : Program) (r : Addr → Option Value) (t : TypeId) (x : Value) : Bool := decide (∃ f, Rds P r f t [x])
open Classical in
noncomputable  def deepE (P : Program) (r : Addr → Option Value) (e : TypeId) (x : Value) : Bool := decide (∃ t f, P.underlying t = some (.slice e) ∧ Rds P r f t [x])
def tNe : Value → Bool
  | .slice _ n _ => Nat.blt 0 n
  | _ => false
def readN (r : Addr → Option Value) (a : Addr) : Nat → Option (List Value)
  | 0 => some []
  | n + 1 => match readN r a n, r (a.add n) with
    | some l, some v => some (l ++ [v])
    | _, _ => none
def tNat : Value → Bool
  | .int .i64 (.ofNat _) => true
  | _ => false
def tLt : Value → Value → Bool
  | .int _ (.ofNat n), .int _ (.ofNat i) => Nat.blt i n
  | _, _ => false
def tBy : Value → Value → Bool
  | .string s, .int _ (.ofNat i) => Nat.blt i s.size
  | _, _ => false
def tLe : Value → Value → Bool
  | .int _ (.ofNat n), .int _ (.ofNat k) => Nat.ble n k
  | _, _ => false
def tCut : Value → Value → Value → Bool
  | .string s, .int _ (.ofNat a), .int _ (.ofNat b) => Nat.ble a b && Nat.ble b s.size
  | _, _, _ => false
def tDiv : Value → Value → Bool
  | .int k a, .int k' b => Nat.beq (kindCode k) (kindCode k') && tyOk (kindCode k) (.int k a) && !decide (b = 0)
  | _, _ => false
noncomputable def bytesA (l : List Value) : Option (List UInt8) :=
  List.rec (motive := fun _ => Option (List UInt8)) (some []) (fun x _ ih => match x with
    | .int .u8 n => match ih with
      | some bs => some (UInt8.ofNat n.toNat :: bs)
      | none => none
    | _ => none) l
def overL (xs : List Value) (o : Nat) (vs : List Value) : List Value := xs.take o ++ (vs ++ xs.drop (o + vs.length))
def timesL (vs : List Value) (n : Nat) : List Value := (List.replicate n vs).flatten
noncomputable def seqOp (vs : List Value) : Option Value :=
  match vs with
  | .int _ (.ofNat k) :: vs => match k with
    | 0 => match vs with
      | [.agg ⟨xs⟩, .int _ (.ofNat i), .int _ (.ofNat z), .int _ (.ofNat o)] => xs[i * z + o]?
      | _ => none
    | 1 => match vs with
      | .agg ⟨xs⟩ :: .int _ (.ofNat i) :: .int _ (.ofNat z) :: .int _ (.ofNat o) :: ys => some (.agg ⟨overL xs (i * z + o) ys⟩)
      | _ => none
    | 2 => match vs with
      | [.agg ⟨xs⟩, .agg ⟨ys⟩] => some (.agg ⟨xs ++ ys⟩)
      | _ => none
    | 3 => some (.agg ⟨vs⟩)
    | 4 => match vs with
      | .int _ (.ofNat n) :: ys => some (.agg ⟨timesL ys n⟩)
      | _ => none
    | 5 => match vs with
      | [.string s, .int _ (.ofNat i)] => match s.data.toList[i]? with
        | some b => some (.int .u8 b.toNat)
        | none => none
      | _ => none
    | 6 => match vs with
      | [.string s, .int _ (.ofNat a), .int _ (.ofNat b)] => some (.string (s.extract a b))
      | _ => none
    | 7 => match vs with
      | [.string s] => some (.agg ⟨s.data.toList.map fun b => .int .u8 b.toNat⟩)
      | _ => none
    | 8 => match vs with
      | [.agg ⟨xs⟩] => match bytesA xs with
        | some bs => some (.string ⟨⟨bs⟩⟩)
        | none => none
      | _ => none
    | 9 => match vs with
      | [.agg ⟨xs⟩, .int _ (.ofNat n), .int _ (.ofNat z)] => some (.agg ⟨xs.take (n * z)⟩)
      | _ => none
    | _ => none
  | _ => none
noncomputable  def opRd (P : Program) (r : Addr → Option Value) (k : Nat) (vs : List Value) : Option Value :=
  match k, vs with
  | 4, [.slice _ n _] => some (.int .i64 n)
  | 4, [.string s] => some (.int .i64 s.size)
  | 6, [.int _ (.ofNat z), .slice (some a) _ _, .int _ (.ofNat i)] => some (.pointer (some (a.add (i * z))))
  | 7, [.pointer (some a), .int _ (.ofNat o)] => some (.pointer (some (a.add o)))
  | 8, [.int _ (.ofNat 0), x] => some (.bool (tSl x))
  | 8, [.int _ (.ofNat 1), x, i] => some (.bool (tIn x i))
  | 8, [.int _ (.ofNat 2), .int _ (.ofNat t), p] => some (.bool (tRd P r t p))
  | 8, [.int _ (.ofNat 3), p] => some (.bool (tPtr p))
  | 8, [.int _ (.ofNat 4), .int _ (.ofNat t), x] => some (.bool (deepB P r t x))
  | 8, [.int _ (.ofNat 5), x] => some (.bool (tNat x))
  | 8, [.int _ (.ofNat 6), x] => some (.bool (tSt x))
  | 8, [.int _ (.ofNat 7), x] => some (.bool (tNe x))
  | 8, [.int _ (.ofNat 8), .int _ (.ofNat e), x] => some (.bool (deepE P r e x))
  | 8, [.int _ (.ofNat 9), n, i] => some (.bool (tLt n i))
  | 8, [.int _ (.ofNat 10), x, i] => some (.bool (tBy x i))
  | 8, [.int _ (.ofNat 11), n, k] => some (.bool (tLe n k))
  | 8, [.int _ (.ofNat 12), x, a, b] => some (.bool (tCut x a b))
  | 8, [.int _ (.ofNat 13), x, y] => some (.bool (tDiv x y))
  | 8, [.int _ (.ofNat 14), x, a, b] => some (.bool (tCuS x a b))
  | 9, [.int _ (.ofNat _), .slice none _ _] => some (.agg ⟨[]⟩)
  | 10, vs => seqOp vs
  | 11, vs => cutV vs
  | 9, [.int _ (.ofNat z), .slice (some a) n _] => match readN r a (n * z) with
    | some l => some (.agg ⟨l⟩)
    | none => none
  | _, _ => none
noncomputable def asN (e : Value) (l : List (Value × Bool)) : Option Bool :=
  List.rec (motive := fun _ => Option Bool) none (fun p _ ih => match vEq 60 p.1 e with
    | true => some p.2
    | false => ih) l
def isT : Option Bool → Bool
  | some true => true
  | _ => false
def factTy (x : Value) : List (Value × Bool) → Option TypeId
  | [] => none
  | p :: l => match p with
    | (.func (.methodOf 9 _) ⟨[.int _ (.ofNat 4), .int .u64 (.ofNat t), y]⟩ ⟨[.int _ (.ofNat 1)]⟩, true) => match vEq 60 y x with
      | true => some t
      | false => factTy x l
    | _ => factTy x l
def factLt (x i : Value) : List (Value × Bool) → Bool
  | [] => false
  | p :: l => match p with
    | (.func (.methodOf 1 _) ⟨[.int _ (.ofNat 13), .int .u64 (.ofNat _), .bool _, j, .func (.methodOf 5 _) ⟨[y]⟩ _]⟩ _, true) => match vEq 60 j i && vEq 60 y x with
      | true => true
      | false => factLt x i l
    | _ => factLt x i l
noncomputable def natS (as : List (Value × Bool)) (i : Value) : Bool :=
  match i with
  | .int .i64 (.ofNat _) => true
  | i => isT (asN (sy 1 9 [.int .u64 (.ofNat 5), i]) as)
noncomputable def inS (as : List (Value × Bool)) (x i : Value) : Bool := isT (asN (sy 1 9 [.int .u64 (.ofNat 1), x, i]) as) || (factLt x i as && natS as i)
def nextOf : Value → Option Value
  | .func (.methodOf 1 _) ⟨[.int _ (.ofNat 0), .int .u64 (.ofNat _), .bool _, y, .int .i64 (.ofNat 1)]⟩ _ => some y
  | _ => none
def givenS : Value → Bool
  | .func (.methodOf 0 _) ⟨[.int _ (.ofNat _)]⟩ _ => true
  | _ => false
def ltOf (i : Value) : List (Value × Bool) → Option Value
  | [] => none
  | p :: l => match p with
    | (.func (.methodOf 1 _) ⟨[.int _ (.ofNat 13), .int .u64 (.ofNat _), .bool _, j, .func (.methodOf 5 _) ⟨[y]⟩ _]⟩ _, true) => match vEq 60 j i with
      | true => some y
      | false => ltOf i l
    | _ => ltOf i l
def pathOf : Nat → Value → Option (Nat × Value × Value × Nat)
  | 0, _ => none
  | d + 1, p => match p with
    | .func (.methodOf 7 _) ⟨[.int _ (.ofNat z), x, i]⟩ _ => some (z, x, i, 0)
    | .func (.methodOf 8 _) ⟨[q, .int _ (.ofNat o)]⟩ _ => match pathOf d q with
      | some (z, x, i, o') => some (z, x, i, o' + o)
      | none => none
    | _ => none
def elemTs (P : Program) (t : TypeId) (z : Nat) : Option (List TypeId) :=
  match P.underlying t with
  | some (.slice e) => match Nat.beq (P.cellsOf e) z with
    | true => flatT P 30 e
    | false => none
  | _ => none
noncomputable def deepTy (P : Program) (as : List (Value × Bool)) : Nat → Value → Option TypeId
  | 0, _ => none
  | d + 1, x => match factTy x as with
    | some t => some t
    | none => match x with
      | .func (.methodOf 6 _) ⟨[p]⟩ _ => match pathOf 9 p with
        | some (z, y, i, o) => match deepTy P as d y with
          | some ty => match elemTs P ty z, inS as y i with
            | some ts, true => ts[o]?
            | _, _ => none
          | none => none
        | none => none
      | .func (.methodOf 12 _) ⟨[.int _ (.ofNat z), y, _, _]⟩ _ => match deepTy P as d y with
        | some ty => match P.underlying ty with
          | some (.slice e) => match Nat.beq (P.cellsOf e) z with
            | true => some ty
            | false => none
          | _ => none
        | none => none
      | _ => none
noncomputable def totS (P : Program) (as : List (Value × Bool)) : Nat → Value → Bool
  | 0, _ => false
  | d + 1, x => match givenS x || flat x with
    | true => true
    | false => match x with
      | .func (.methodOf 6 _) ⟨[p]⟩ _ => match pathOf 9 p with
        | some (z, y, i, o) => match deepTy P as 20 y with
          | some ty => match elemTs P ty z with
            | some ts => totS P as d y && (totS P as d i && (inS as y i && Nat.blt o ts.length))
            | none => false
          | none => false
        | none => false
      | _ => false
def kindsEq (P : Program) : List Nat → List TypeId → Bool
  | [], _ => true
  | _ :: _, [] => false
  | k :: ks, t :: ts => Nat.beq (cellTy P t) k && kindsEq P ks ts
def lenTy (P : Program) (t : Option TypeId) : Bool :=
  match t with
  | some t => match P.underlying t with
    | some (.slice _) => true
    | _ => false
  | none => false
def textTy (P : Program) (t : Option TypeId) : Bool :=
  match t with
  | some t => match P.underlying t with
    | some .string => true
    | _ => false
  | none => false
noncomputable def nextNat (P : Program) (as : List (Value × Bool)) (x : Value) : Bool :=
  match nextOf x with
  | some y => match ltOf y as with
    | some X => totS P as 9 X && (lenTy P (deepTy P as 20 X) && (inS as X y && natS as y))
    | none => false
  | none => false
noncomputable def follows (P : Program) (as : List (Value × Bool)) (l : List Value) : Bool :=
  match l with
  | [.int _ (.ofNat k), x] => match k with
    | 0 => lenTy P (deepTy P as 20 x)
    | 6 => textTy P (deepTy P as 20 x)
    | 5 => natS as x || nextNat P as x
    | 3 => (pathOf 9 x).isSome
    | _ => false
  | [.int _ (.ofNat k), y, x] => match k with
    | 1 => match deepTy P as 20 y with
      | some t => (match P.underlying t with
        | some (.slice _) => true
        | _ => false) && inS as y x
      | none => false
    | 2 => match y, pathOf 9 x with
      | .int _ (.ofNat t), some (z, y, i, o) => match deepTy P as 20 y with
        | some ty => match elemTs P ty z, kindsOf P t, inS as y i with
          | some ts, some ks, true => kindsEq P ks (ts.drop o)
          | _, _, _ => false
        | none => false
      | _, _ => false
    | 4 => match y, deepTy P as 20 x with
      | .int _ (.ofNat t), some u => Nat.beq t u
      | _, _ => false
    | 8 => match y, deepTy P as 20 x with
      | .int _ (.ofNat e), some u => match P.underlying u with
        | some (.slice e') => Nat.beq e e'
        | _ => false
      | _, _ => false
    | _ => false
  | _ => false
noncomputable def isTrue (cx : Cx) (l : List Value) : Bool :=
  match follows cx.P cx.as l with
  | true => true
  | false => match lookS (sy 1 9 l) cx.as with
    | some true => true
    | _ => false
noncomputable def ltS (cx : Cx) (n i : Value) : Bool :=
  match n, i with
  | .int _ (.ofNat a), .int _ (.ofNat b) => Nat.blt b a
  | n, i => isTrue cx [num 9, n, i]
noncomputable def leS (cx : Cx) (n : Value) (k : Nat) : Bool :=
  match n with
  | .int _ (.ofNat a) => Nat.ble a k
  | n => isTrue cx [num 11, n, num k]
def cellK (k : Nat) (v : Value) : Bool := (isSym v && (Nat.beq (symTy v) k || Nat.beq k 0)) || (flat v && tyOk k v)
def cellsK (ks : List Nat) : Nat → List Value → Bool
  | _, [] => true
  | o, v :: l => cellK (ks.getD (Nat.mod o ks.length) 0) v && cellsK ks (o + 1) l
def cellsQ (e i : Value) (z : Nat) (ks : List Nat) : Nat → Nat → List Value
  | _, 0 => []
  | o, n + 1 => sy (ks.getD o 0) 11 [num 0, e, i, num z, num o] :: cellsQ e i z ks (o + 1) n
def seqPtr : List Value → Option (Value × Nat × Nat)
  | [i, .int .u64 (.ofNat z), .int .u64 (.ofNat o)] => some (i, z, o)
  | _ => none
noncomputable def loadQ (cx : Cx) (hp : Hp) (t : TypeId) (b : Nat) (xs ys : List Value) : Option Value :=
  match seqPtr xs, ys with
  | some (i, z, o), [] => match cx.t t, hp.tr.get b with
    | some ti, some (.seq e n ks _) => match Nat.beq (len ks) z, Nat.ble (o + ti.size) z, symFlat i, ltS cx n i && symFlat n with
      | true, true, true, true => match isAggD ti.desc with
        | true => some (.agg ⟨cellsQ e i z ks o ti.size⟩)
        | false => match Nat.beq ti.size 1 with
          | true => some (sy (ks.getD o 0) 11 [num 0, e, i, num z, num o])
          | false => none
      | _, _, _, _ => none
    | _, _ => none
  | _, _ => none
noncomputable def storeQ (cx : Cx) (hp : Hp) (t : TypeId) (b : Nat) (xs ys : List Value) (v : Value) : Option Hp :=
  match seqPtr xs, ys with
  | some (i, z, o), [] => match cx.t t, hp.tr.get b with
    | some ti, some (.seq e n ks ty) => match Nat.beq (len ks) z, Nat.ble (o + ti.size) z && Nat.ble 1 ti.size, symFlat i, ltS cx n i && symFlat n, Nat.beq (len (cellsOf v)) ti.size, cellsK ks o (cellsOf v) with
      | true, true, true, true, true, true => some { tr := hp.tr.set b (.seq (sy 0 11 (num 1 :: e :: i :: num z :: num o :: cellsOf v)) n ks ty), nx := hp.nx, lo := least b hp.lo }
      | _, _, _, _, _, _ => none
    | _, _ => none
  | _, _ => none
def hasTy (ty : Nat) (a : Value) : Bool :=
  match isSym a with
  | true => Nat.beq (symTy a) ty
  | false => match a with
    | .int k _ => Nat.beq ty (kindCode k)
    | .bool _ => Nat.beq ty 1
    | .string _ => Nat.beq ty 2
    | _ => false
noncomputable def eqB (cx : Cx) (eq : TypeId → Value → Value → Option Bool) (t : TypeId) (x y : Value) : Option Bool :=
  match cx.t t with
  | none => none
  | some ti => match ti.desc, x, y with
    | .bool, .bool a, .bool b => some (a == b)
    | .int _, .int k a, .int k' b => if k = k' then some (a == b) else none
    | .string, .string a, .string b => some (a == b)
    | .pointer _, .pointer none, .pointer b => some b.isNone
    | .pointer _, .pointer (some _), .pointer none => some false
    | .pointer e, .pointer (some a), .pointer (some b) => match cx.t e with
      | some te => match Nat.beq te.size 0, Nat.beq a.block b.block with
        | false, true => some (Nat.beq a.off b.off)
        | _, _ => none
      | none => none
    | .interface _, .nilIface, .iface _ _ => some false
    | .interface _, .iface _ _, .nilIface => some false
    | .interface _, .nilIface, .nilIface => some true
    | .interface _, .iface tx vx, .iface ty vy => match Nat.beq tx ty with
      | false => some false
      | true => match cx.t tx with
        | some tj => match tj.cmp with
          | true => eq tx vx vy
          | false => none
        | none => none
    | .slice _, .slice none _ _, .slice b _ _ => some b.isNone
    | .slice _, .slice (some _) _ _, .slice none _ _ => some false
    | .map _ _, .map none, .map b => some b.isNone
    | .map _ _, .map (some _), .map none => some false
    | .func _ _ _, .nilFunc, .nilFunc => some true
    | .func _ _ _, .nilFunc, .func fn _ _ => match oddF fn with
      | true => none
      | false => some false
    | .func _ _ _, .func fn _ _, .nilFunc => match oddF fn with
      | true => none
      | false => some false
    | .struct fields, .agg xs, .agg ys => match ti.eqOk with
      | true => eqFields cx eq xs.toList ys.toList fields.toList
      | false => none
    | _, _, _ => none
def symKind : TypeDesc → Option Nat
  | .bool => some 1
  | .int k => some (kindCode k)
  | .string => some 2
  | _ => none
noncomputable def symEq (cx : Cx) (t : TypeId) (x y : Value) : Option Bool :=
  match cx.t t with
  | some ti => match symKind ti.desc with
    | some ty => match hasTy ty x, hasTy ty y, symFlat x && symFlat y with
      | true, true, true => lookS (sy 1 1 [num 11, num t, .bool false, x, y]) cx.as
      | _, _, _ => none
    | none => none
  | none => none
noncomputable def eqA (cx : Cx) : Nat → TypeId → Value → Value → Option Bool
  | 0, _, _, _ => none
  | d + 1, t, x, y => match isSym x || isSym y with
    | true => symEq cx t x y
    | false => eqB cx (eqA cx d) t x y
def cOp : Operand → Bool
  | .const _ => true
  | _ => false
def nilOk (c : Bool) (x y : Value) : Bool :=
  match x, y with
  | .nilIface, .nilIface => c
  | _, _ => true
noncomputable def binA (cx : Cx) (op : BinOp) (t : TypeId) (c : Bool) (x y : Value) : Option Value :=
  match x, y with
  | .int k a, .int k' b => match op with
    | .shl => shiftA .shl k a b
    | .shr => shiftA .shr k a b
    | op => if k = k' then intA op k a b else none
  | .string a, .string b => strA op a b
  | x, y => match nilOk c x y with
    | false => none
    | true => match op with
      | .eql => match eqA cx 9 t x y with
        | some b => some (.bool b)
        | none => none
      | .neq => match eqA cx 9 t x y with
        | some b => some (.bool !b)
        | none => none
      | _ => none
def unA (op : UnOp) (x : Value) : Option Value :=
  match op, x with
  | .neg, .int k n => some (.int k (wrapA k (0 - n)))
  | .not, .bool b => some (.bool !b)
  | .xor, .int k n => intA .xor k (if k.signed then -1 else k.max) n
  | _, _ => none
def binCode : BinOp → Nat
  | .add => 0 | .sub => 1 | .mul => 2 | .quo => 3 | .rem => 4 | .and => 5 | .or => 6 | .xor => 7 | .shl => 8 | .shr => 9 | .andNot => 10
  | .eql => 11 | .neq => 12 | .lss => 13 | .leq => 14 | .gtr => 15 | .geq => 16
def binOf : Nat → BinOp
  | 0 => .add | 1 => .sub | 2 => .mul | 3 => .quo | 4 => .rem | 5 => .and | 6 => .or | 7 => .xor | 8 => .shl | 9 => .shr | 10 => .andNot
  | 11 => .eql | 12 => .neq | 13 => .lss | 14 => .leq | 15 => .gtr | _ => .geq
theorem binOf_code (op : BinOp) : binOf (binCode op) = op := by cases op <;> rfl
def unCode : UnOp → Nat
  | .neg => 0 | .xor => 1 | .not => 2 | .plus => 3
def unOf : Nat → UnOp
  | 0 => .neg | 1 => .xor | 2 => .not | _ => .plus
theorem unOf_code (op : UnOp) : unOf (unCode op) = op := by cases op <;> rfl
def kindOf : Nat → IntKind
  | 3 => .i8 | 4 => .i16 | 5 => .i32 | 6 => .i64 | 7 => .u8 | 8 => .u16 | 9 => .u32 | _ => .u64
theorem kindOf_code (k : IntKind) : kindOf (kindCode k) = k := by cases k <;> rfl
def bare (cx : Cx) : Cx := { P := cx.P, ty := cx.ty, fn := cx.fn, ex := [], me := [], gv := [], orc := [], as := [], U := cx.U }
noncomputable def opSem (cx : Cx) (k : Nat) (vs : List Value) : Option Value :=
  match k, vs with
  | 0, [.int _ (.ofNat op), .int _ (.ofNat t), .bool c, x, y] => binA (bare cx) (binOf op) t c x y
  | 1, [.int _ (.ofNat op), x] => unA (unOf op) x
  | 2, [.int _ (.ofNat kc), .int _ n] => some (.int (kindOf kc) (wrapA (kindOf kc) n))
  | 3, [.bool mx, .int k x, .int _ y] => some (.int k (match mx with
    | true => (if y > x then y else x)
    | false => (if y < x then y else x)))
  | _, _ => none
def opForm : BinOp → Nat
  | .eql | .neq | .lss | .leq | .gtr | .geq => 0
  | .add | .sub | .mul | .and | .or | .xor | .andNot => 1
  | _ => 2
def isBoolD : TypeDesc → Bool
  | .bool => true
  | _ => false
def symTy2 (x y : Value) : Nat :=
  match isSym x with
  | true => symTy x
  | false => symTy y
def txL (x : Value) : Value := match x with
  | .string s => .int .i64 s.size
  | x => sy 6 5 [x]
noncomputable def symBin (cx : Cx) (op : BinOp) (t : TypeId) (c : Bool) (ty : Nat) (x y : Value) : Option Value :=
  match hasTy ty x, hasTy ty y with
    | true, true => match Nat.ble 3 ty, opForm op with
      | true, 0 => some (sy 1 1 [num (binCode op), num t, .bool c, x, y])
      | true, 1 => some (sy ty 1 [num (binCode op), num t, .bool c, x, y])
      | false, 0 => match Nat.beq ty 2 with
        | true => some (sy 1 1 [num (binCode op), num t, .bool c, x, y])
        | false => match Nat.beq ty 1, cx.t t, op with
          | true, some ti, .eql => match isBoolD ti.desc with
            | true => some (sy 1 1 [num (binCode op), num t, .bool c, x, y])
            | false => none
          | true, some ti, .neq => match isBoolD ti.desc with
            | true => some (sy 1 1 [num (binCode op), num t, .bool c, x, y])
            | false => none
          | _, _, _ => none
      | true, _ => match op with
        | .quo => match isTrue cx [num 13, x, y] with
          | true => some (sy ty 1 [num (binCode op), num t, .bool c, x, y])
          | false => none
        | .rem => match isTrue cx [num 13, x, y] with
          | true => some (sy ty 1 [num (binCode op), num t, .bool c, x, y])
          | false => none
        | _ => none
      | false, 1 => match Nat.beq ty 2, op with
        | true, .add => match leS cx (txL x) 2305843009213693952 && leS cx (txL y) 2305843009213693952 with
          | true => some (sy 2 1 [num (binCode op), num t, .bool c, x, y])
          | false => none
        | _, _ => none
      | _, _ => none
    | _, _ => none
noncomputable def binS (cx : Cx) (op : BinOp) (t : TypeId) (c : Bool) (x y : Value) : Option Value :=
  match isSym x, isSym y with
  | false, false => binA cx op t c x y
  | _, _ => match symFlat x && symFlat y with
    | true => symBin cx op t c (symTy2 x y) x y
    | false => none
def unS (op : UnOp) (x : Value) : Option Value :=
  match isSym x with
  | false => unA op x
  | true => match Nat.ble 3 (symTy x) with
    | true => match op with
      | .neg => some (sy (symTy x) 2 [num (unCode op), x])
      | .xor => some (sy (symTy x) 2 [num (unCode op), x])
      | _ => none
    | false => match Nat.beq (symTy x) 1 with
      | true => match op with
        | .not => some (sy 1 2 [num (unCode op), x])
        | _ => none
      | false => none
def tyKind (ty : Nat) : Bool := Nat.ble 3 ty && Nat.ble ty 10
noncomputable def convS (cx : Cx) (src dst : TypeId) (x : Value) : Option Value :=
  match cx.t src, cx.t dst with
  | some _, some d => match d.desc, tyKind (symTy x) with
    | .int k, true => some (sy (kindCode k) 3 [num (kindCode k), x])
    | _, _ => none
  | _, _ => none
noncomputable def convA (cx : Cx) (hp : Hp) (src dst : TypeId) (x : Value) : Val :=
  match cx.t src, cx.t dst with
  | some s, some d => match s.desc, d.desc, x with
    | _, .int k, .int _ n => some (.int k (wrapA k n), hp)
    | _, .string, .string b => some (.string b, hp)
    | .pointer _, .unsafePointer, .pointer none => some (.pointer none, hp)
    | .pointer t, .unsafePointer, .pointer (some a) => match cx.t t, hp.tr.get a.block with
      | some ti, some (.cells _ k _ _ _) => match Nat.beq ti.size 0, Nat.blt a.off k with
        | false, true => some (.pointer (some a), hp)
        | _, _ => none
      | _, _ => none
    | .unsafePointer, .pointer _, .pointer none => some (.pointer none, hp)
    | .unsafePointer, .pointer u, .pointer (some a) => match hp.tr.get a.block, cx.t u with
      | some (.cells _ k e none _), some _ => match cx.t e with
        | some te => match liesAt cx.P cx.P.depth e (k / te.size) a.off u 1 with
          | true => some (.pointer (some a), hp)
          | false => none
        | none => none
      | _, _ => none
    | _, .slice e, .string b => match cx.t e with
      | some ti => match ti.desc with
        | .int .u8 => some (.slice (some ⟨hp.nx, 0, none⟩) b.size b.size,
            { tr := hp.tr.set hp.nx (.cells (Tr.putList (b.data.toList.map fun c => .int .u8 c.toNat) .nil 0) b.size e (some 1) true), nx := Nat.succ hp.nx, lo := hp.lo })
        | _ => none
      | none => none
    | .slice _, .slice e, .slice (some a) n c => match Nat.beq src dst, cx.t e with
      | true, some ti => match ti.desc with
        | .int .u8 => match hp.tr.get a.block with
          | some (.cells t k e op _) => some (.slice (some a) n c, { tr := hp.tr.set a.block (.cells t k e op true), nx := hp.nx, lo := least a.block hp.lo })
          | _ => none
        | _ => none
      | _, _ => none
    | .slice e, .string, .slice none _ _ => match cx.t e with
      | some ti => match ti.desc with
        | .int .u8 => some (.string .empty, hp)
        | _ => none
      | none => none
    | .slice e, .string, .slice (some a) n _ => match cx.t e with
      | some ti => match ti.desc with
        | .int .u8 => match getRow hp a n with
          | some l => match bytesA l with
            | some bs => some (.string ⟨⟨bs⟩⟩, hp)
            | none => none
          | none => none
        | _ => none
      | none => none
    | _, _, _ => none
  | _, _ => none
noncomputable def convQ (cx : Cx) (hp : Hp) (src dst : TypeId) (x : Value) : Option Value :=
  match cx.t src, cx.t dst with
  | some s, some d => match s.desc, d.desc, x with
    | .slice e, .string, .func (.yield b) ⟨[n]⟩ ⟨[]⟩ => match cx.t e with
      | some ti => match ti.desc with
        | .int .u8 => match hp.tr.get b with
          | some (.seq x n' ks _) => match vEq 60 n n' && symFlat n, lEq Nat.beq ks [7], leS cx n 1048576 with
            | true, true, true => some (sy 2 11 [num 8, x])
            | _, _, _ => none
          | _ => none
        | _ => none
      | none => none
    | _, _, _ => none
  | _, _ => none
noncomputable def convB (cx : Cx) (hp : Hp) (src dst : TypeId) (x : Value) : Val :=
  match cx.t src, cx.t dst with
  | some s, some d => match s.desc, d.desc with
    | .string, .string => match hasTy 2 x with
      | true => some (x, hp)
      | false => none
    | .string, .slice e => match cx.t e with
      | some ti => match ti.desc, hasTy 2 x && Nat.beq (cellTy cx.P e) 7 with
        | .int .u8, true => some (.func (.yield hp.nx) ⟨[sy 6 5 [x]]⟩ ⟨[]⟩, { tr := hp.tr.set hp.nx (.seq (sy 0 11 [num 7, x]) (sy 6 5 [x]) [7] e), nx := Nat.succ hp.nx, lo := hp.lo })
        | _, _ => none
      | none => none
    | _, _ => none
  | _, _ => none
noncomputable def convT (cx : Cx) (hp : Hp) (src dst : TypeId) (x : Value) : Val :=
  match isSym x with
  | false => match convA cx hp src dst x with
    | some r => some r
    | none => match convQ cx hp src dst x with
      | some v => some (v, hp)
      | none => none
  | true => match convS cx src dst x with
    | some v => some (v, hp)
    | none => convB cx hp src dst x
noncomputable def fillA (place : Nat → Option (Nat × Nat)) (n : Nat) (l : List (Nat × Value)) : Tr Value → Option (Tr Value) :=
  List.rec (motive := fun _ => Tr Value → Option (Tr Value)) (fun t => some t) (fun x _ ih t => match place x.1 with
    | none => none
    | some (off, size) => match Nat.beq (len (cellsOf x.2)) size, Nat.ble (off + size) n with
      | true, true => ih (Tr.putList (cellsOf x.2) t off)
      | _, _ => none) l
noncomputable def fieldPlaces (cx : Cx) (l : List Field) : Option (List (Nat × Nat)) :=
  List.rec (motive := fun _ => Option (List (Nat × Nat))) (some []) (fun f _ ih => match cx.t f.type with
    | none => none
    | some ti => match ih with
      | none => none
      | some ps => some ((f.offset, ti.size) :: ps)) l
noncomputable def repeatA (l : List Value) (n : Nat) : List Value := Nat.rec (motive := fun _ => List Value) [] (fun _ ih => l ++ ih) n
noncomputable def evParts (tm : Tr Value) (l : List (Nat × Operand)) : Option (List (Nat × Value)) :=
  List.rec (motive := fun _ => Option (List (Nat × Value))) (some []) (fun x _ ih => match evX tm x.2 with
    | none => none
    | some v => match ih with
      | none => none
      | some vs => some ((x.1, v) :: vs)) l
noncomputable def buildA (cx : Cx) (t : TypeId) (parts : List (Nat × Value)) : Option Value :=
  match cx.t t with
  | some ti => match ti.desc with
    | .struct fields => match fieldPlaces cx fields.toList with
      | some ps => match fillA (fun i => ps[i]?) (len (cellsOf ti.zero)) parts (Tr.putList (cellsOf ti.zero) .nil 0) with
        | some tr => match Tr.list (len (cellsOf ti.zero)) tr 0 with
          | some l => some (.agg ⟨l⟩)
          | none => none
        | none => none
      | none => none
    | .array _ e => match cx.t e with
      | some te => match fillA (fun i => some (i * te.size, te.size)) (len (cellsOf ti.zero)) parts (Tr.putList (cellsOf ti.zero) .nil 0) with
        | some tr => match Tr.list (len (cellsOf ti.zero)) tr 0 with
          | some l => some (.agg ⟨l⟩)
          | none => none
        | none => none
      | none => none
    | _ => none
  | none => none
noncomputable def zerosA (te : TI) (n : Nat) : List Value := repeatA (cellsOf te.zero) n
noncomputable def buildSliceA (cx : Cx) (hp : Hp) (t : TypeId) (n : Nat) (parts : List (Nat × Value)) : Val :=
  match cx.t t with
  | some ti => match ti.desc with
    | .slice e => match cx.t e with
      | some te => match Nat.ble (n * te.size) 16777216, Nat.ble 1 te.size, Nat.beq (len (cellsOf te.zero)) te.size with
        | true, true, true => match fillA (fun i => some (i * te.size, te.size)) (n * te.size) parts (Tr.putList (zerosA te n) .nil 0) with
          | some tr => some (.slice (some ⟨hp.nx, 0, none⟩) n n, { tr := hp.tr.set hp.nx (.cells tr (n * te.size) e none false), nx := Nat.succ hp.nx, lo := hp.lo })
          | none => none
        | _, _, _ => none
      | none => none
    | _ => none
  | none => none
noncomputable def boundA (x : Option Value) (y d : Nat) : Option Nat :=
  match x with
  | none => some d
  | some (.int _ (.ofNat i)) => match Nat.ble i y with
    | true => some i
    | false => none
  | _ => none
noncomputable def highA (hi mx : Option Value) (n m : Nat) : Option Nat :=
  match hi with
  | none => match mx with
    | none => some n
    | some _ => none
  | some v => boundA (some v) m 0
noncomputable def cutA (hp : Hp) (a : Addr) (size n c : Nat) (lo hi mx : Option Value) : Option Value :=
  match hp.tr.get a.block with
  | some (.cells _ _ _ op _) =>
    match boundA mx c c with
    | none => none
    | some m => match highA hi mx n m with
      | none => none
      | some h => match boundA lo h 0 with
        | none => none
        | some l => match op with
          | none => match Nat.beq m l with
            | true => some (.slice (some a) (h - l) (m - l))
            | false => some (.slice (some (a.add (l * size))) (h - l) (m - l))
          | some z => match Nat.beq z size, Nat.ble h m with
            | true, true => some (.slice (some (a.add (l * size))) (h - l) (m - l))
            | _, _ => none
  | _ => none
noncomputable def sliceA (cx : Cx) (hp : Hp) (t : TypeId) (x : Value) (lo hi mx : Option Value) : Option Value :=
  match cx.t t with
  | none => none
  | some ti => match ti.desc, x with
    | .array n e, .pointer (some a) => match cx.t e with
      | some te => match hp.tr.get a.block with
        | some (.cells _ _ _ none _) => cutA hp a te.size n n lo hi mx
        | _ => none
      | none => none
    | .string, .string s => match mx with
      | some _ => none
      | none => match highA hi none s.size s.size with
        | none => none
        | some h => match boundA lo h 0 with
          | none => none
          | some l => some (.string (s.extract l h))
    | .slice e, .slice (some a) n c => match cx.t e with
      | some te => cutA hp a te.size n c lo hi mx
      | none => none
    | .slice e, .slice none n c => match cx.t e with
      | some te => match boundA mx c c with
        | none => none
        | some m => match highA hi mx n m with
          | none => none
          | some h => match boundA lo h 0 with
            | none => none
            | some l => some (.slice none (h - l) (m - l))
      | none => none
    | _, _ => none
def loOr : Option Value → Value
  | some v => v
  | none => .int .i64 (.ofNat 0)
def hiOr (x : Value) : Option Value → Value
  | some v => v
  | none => match x with
    | .string s => .int .i64 (.ofNat s.size)
    | x => sy 6 5 [x]
noncomputable def cutS (cx : Cx) (t : TypeId) (x : Value) (lo hi mx : Option Value) : Option Value :=
  match cx.t t with
  | none => none
  | some ti => match ti.desc, mx with
    | .string, none => match symFlat x && (hasTy 2 x && (isSym x || tyOk 2 x)), symFlat (loOr lo) && symFlat (hiOr x hi), isTrue cx [num 12, x, loOr lo, hiOr x hi] with
      | true, true, true => some (sy 2 11 [num 6, x, loOr lo, hiOr x hi])
      | _, _, _ => none
    | _, _ => none
def hiSl (x : Value) : Option Value → Value
  | some v => v
  | none => sy 6 5 [x]
noncomputable def cutR (cx : Cx) (t : TypeId) (x : Value) (lo hi mx : Option Value) : Option Value :=
  match cx.t t with
  | none => none
  | some ti => match ti.desc, mx with
    | .slice e, none => match isSym x && (symFlat (loOr lo) && symFlat (hiSl x hi)) with
      | false => none
      | true => match cx.t e, lenTy cx.P (deepTy cx.P cx.as 20 x) with
        | some te, true => match isTrue cx [num 14, x, loOr lo, hiSl x hi] with
          | true => some (sy 0 12 [num te.size, x, loOr lo, hiSl x hi])
          | false => none
        | _, _ => none
    | _, _ => none
noncomputable def cutQ (cx : Cx) (t : TypeId) (x : Value) (lo hi mx : Option Value) : Option Value :=
  match x with
  | .func (.yield b) ⟨[n]⟩ ⟨[]⟩ => match cx.t t with
    | none => none
    | some ti => match ti.desc, lo, hi, mx with
      | .slice e, none, some h, none => match cx.t e, symFlat h && (symFlat n && hasTy 6 h), isTrue cx [num 11, h, n] with
        | some _, true, true => some (.func (.yield b) ⟨[h]⟩ ⟨[]⟩)
        | _, _, _ => none
      | _, _, _, _ => none
  | _ => none
noncomputable def sliceT (cx : Cx) (hp : Hp) (t : TypeId) (x : Value) (lo hi mx : Option Value) : Option Value :=
  match sliceA cx hp t x lo hi mx with
  | some v => some v
  | none => match cutS cx t x lo hi mx with
    | some v => some v
    | none => match cutR cx t x lo hi mx with
      | some v => some v
      | none => cutQ cx t x lo hi mx
noncomputable def makeSliceA (cx : Cx) (hp : Hp) (t : TypeId) (l c : Value) : Val :=
  match cx.t t with
  | none => none
  | some ti => match ti.desc, l, c with
    | .slice e, .int _ (.ofNat n), .int _ (.ofNat k) => match cx.t e with
      | some te => match Nat.ble n k, Nat.ble k 1048576, Nat.ble te.bytes 65536, Nat.ble 1 te.size, Nat.beq (len (cellsOf te.zero)) te.size with
        | true, true, true, true, true => some (.slice (some ⟨hp.nx, 0, none⟩) n k,
            { tr := hp.tr.set hp.nx (.cells (Tr.putList (zerosA te k) .nil 0) (k * te.size) e none false), nx := Nat.succ hp.nx, lo := hp.lo })
        | _, _, _, _, _ => none
      | none => none
    | _, _, _ => none
noncomputable def makeS (cx : Cx) (hp : Hp) (t : TypeId) (l c : Value) : Val :=
  match cx.t t with
  | none => none
  | some ti => match ti.desc, l, c with
    | .slice e, n, n' => match cx.t e, flatT cx.P 30 e with
      | some te, some ts => match isSym n && (Nat.beq (symTy n) 6 && vEq 60 n n'), leS cx n (Nat.div 140737488351232 te.bytes), Nat.ble te.bytes 65536 && Nat.ble 1 te.size, Nat.beq (len (cellsOf te.zero)) te.size && Nat.beq (len ts) te.size, cellsK (ts.map (cellTy cx.P)) 0 (cellsOf te.zero) with
        | true, true, true, true, true => some (.func (.yield hp.nx) ⟨[n]⟩ ⟨[]⟩,
            { tr := hp.tr.set hp.nx (.seq (sy 0 11 (num 4 :: n :: cellsOf te.zero)) n (ts.map (cellTy cx.P)) e), nx := Nat.succ hp.nx, lo := hp.lo })
        | _, _, _, _, _ => none
      | _, _ => none
    | _, _, _ => none
noncomputable def makeSliceT (cx : Cx) (hp : Hp) (t : TypeId) (l c : Value) : Val :=
  match makeSliceA cx hp t l c with
  | some r => some r
  | none => makeS cx hp t l c
noncomputable def indexAddrA (cx : Cx) (t : TypeId) (x ix : Value) : Option Value :=
  match cx.t t with
  | none => none
  | some ti => match ti.desc, x, ix with
    | .array n e, .pointer (some a), .int _ (.ofNat i) => match cx.t e with
      | some te => match Nat.blt i n with
        | true => some (.pointer (some (a.add (i * te.size))))
        | false => none
      | none => none
    | .slice e, .slice (some a) n _, .int _ (.ofNat i) => match cx.t e with
      | some te => match Nat.blt i n with
        | true => some (.pointer (some (a.add (i * te.size))))
        | false => none
      | none => none
    | .array n e, .chan (some k), .int _ (.ofNat i) => match cx.t e with
      | some te => match Nat.blt i n, Nat.blt (Nat.mod k 1048576 + i * te.size) 1048576 with
        | true, true => some (.chan (some (k + i * te.size)))
        | _, _ => none
      | none => none
    | _, _, _ => none
noncomputable def indexA (cx : Cx) (t : TypeId) (x ix : Value) : Option Value :=
  match cx.t t with
  | none => none
  | some ti => match ti.desc, x, ix with
    | .array n e, .agg cs, .int _ (.ofNat i) => match cx.t e with
      | some te => match Nat.blt i n with
        | true => partA cx e cs.toList (i * te.size)
        | false => none
      | none => none
    | .string, .string s, .int _ (.ofNat i) => match s.data.toList[i]? with
      | some b => some (.int .u8 b.toNat)
      | none => none
    | _, _, _ => none
noncomputable def indexS (cx : Cx) (t : TypeId) (x ix : Value) : Option Value :=
  match cx.t t with
  | none => none
  | some ti => match ti.desc with
    | .string => match symFlat x && symFlat ix, isTrue cx [num 10, x, ix] with
      | true, true => some (sy 7 11 [num 5, x, ix])
      | _, _ => none
    | _ => none
noncomputable def indexT (cx : Cx) (t : TypeId) (x ix : Value) : Option Value :=
  match indexA cx t x ix with
  | some v => some v
  | none => indexS cx t x ix
noncomputable def fieldA (cx : Cx) (t : TypeId) (x : Value) (f : Nat) : Option Value :=
  match cx.t t with
  | none => none
  | some ti => match ti.desc, x with
    | .struct fs, .agg cs => match fs.toList[f]? with
      | some fd => partA cx fd.type cs.toList fd.offset
      | none => none
    | _, _ => none
noncomputable def fieldAddrA (cx : Cx) (t : TypeId) (x : Value) (f : Nat) : Option Value :=
  match cx.t t with
  | none => none
  | some ti => match ti.desc, x with
    | .struct fs, .pointer (some a) => match fs.toList[f]? with
      | some fd => match cx.t fd.type with
        | some te => match Nat.beq te.size 0 with
          | true => none
          | false => some (.pointer (some (a.add fd.offset)))
        | none => none
      | none => none
    | .struct fs, .chan (some k) => match fs.toList[f]? with
      | some fd => match cx.t fd.type with
        | some te => match Nat.beq te.size 0, Nat.blt (Nat.mod k 1048576 + fd.offset) 1048576 with
          | false, true => some (.chan (some (k + fd.offset)))
          | _, _ => none
        | none => none
      | none => none
    | _, _ => none
noncomputable def idxS (cx : Cx) (t : TypeId) (x ix : Value) : Option Value :=
  match cx.t t with
  | none => none
  | some ti => match ti.desc with
    | .slice e => match cx.t e with
      | some te => match isTrue cx [num 1, x, ix], symFlat ix with
        | true, true => some (sy 0 7 [num te.size, x, ix])
        | _, _ => none
      | none => none
    | _ => none
noncomputable def fieldS (cx : Cx) (t : TypeId) (x : Value) (f : Nat) : Option Value :=
  match cx.t t with
  | none => none
  | some ti => match ti.desc with
    | .struct fs => match fs.toList[f]? with
      | some fd => match cx.t fd.type with
        | some te => match Nat.beq te.size 0, isTrue cx [num 3, x] with
          | false, true => some (sy 0 8 [x, num fd.offset])
          | _, _ => none
        | none => none
      | none => none
    | _ => none
def cellsS (p : Value) : List Nat → Nat → List Value
  | [], _ => []
  | k :: ks, j => sy k 6 [sy 0 8 [p, num j]] :: cellsS p ks (j + 1)
noncomputable def loadS (cx : Cx) (t : TypeId) (p : Value) : Option Value :=
  match cx.t t, kindsOf cx.P t with
  | some ti, some ks => match isTrue cx [num 2, num t, p], Nat.beq (len ks) ti.size with
    | true, true => match isAggD ti.desc with
      | true => some (.agg ⟨cellsS p ks 0⟩)
      | false => match ks with
        | [k] => some (sy k 6 [sy 0 8 [p, num 0]])
        | _ => none
    | _, _ => none
  | _, _ => none
noncomputable def lenS (cx : Cx) (t : TypeId) (x : Value) : Option Value :=
  match cx.t t with
  | none => none
  | some ti => match ti.desc with
    | .slice _ => match isSym x, isTrue cx [num 0, x] with
      | true, true => some (sy 6 5 [x])
      | _, _ => none
    | .string => match isSym x, isTrue cx [num 6, x] with
      | true, true => some (sy 6 5 [x])
      | _, _ => none
    | _ => none
noncomputable def idxQ (cx : Cx) (t : TypeId) (x ix : Value) : Option Value :=
  match x with
  | .func (.yield b) ⟨[n]⟩ ⟨[]⟩ => match cx.t t with
    | none => none
    | some ti => match ti.desc with
      | .slice e => match cx.t e with
        | some te => match ltS cx n ix, symFlat ix && symFlat n with
          | true, true => some (.func (.yield b) ⟨[ix, num te.size, num 0]⟩ ⟨[]⟩)
          | _, _ => none
        | none => none
      | _ => none
  | _ => none
noncomputable def fieldQ (cx : Cx) (t : TypeId) (x : Value) (f : Nat) : Option Value :=
  match x with
  | .func (.yield b) ⟨xs⟩ ⟨[]⟩ => match seqPtr xs with
    | some (i, z, o) => match cx.t t with
      | none => none
      | some ti => match ti.desc with
        | .struct fs => match fs.toList[f]? with
          | some fd => match cx.t fd.type with
            | some te => match Nat.beq te.size 0 with
              | true => none
              | false => some (.func (.yield b) ⟨[i, num z, num (o + fd.offset)]⟩ ⟨[]⟩)
            | none => none
          | none => none
        | _ => none
    | none => none
  | _ => none
def isRow : Value → Bool
  | .func (.yield _) _ _ => true
  | _ => false
noncomputable def indexAddrT (cx : Cx) (t : TypeId) (x ix : Value) : Option Value :=
  match isSym x with
  | true => idxS cx t x ix
  | false => match isRow x with
    | true => idxQ cx t x ix
    | false => indexAddrA cx t x ix
noncomputable def fieldAddrT (cx : Cx) (t : TypeId) (x : Value) (f : Nat) : Option Value :=
  match isSym x with
  | true => fieldS cx t x f
  | false => match isRow x with
    | true => fieldQ cx t x f
    | false => fieldAddrA cx t x f
noncomputable def lenA (cx : Cx) (t : TypeId) (x : Value) : Option Value :=
  match cx.t t with
  | none => none
  | some ti => match ti.desc, x with
    | .string, .string s => some (.int .i64 s.size)
    | .array n _, _ => some (.int .i64 n)
    | .slice _, .slice _ n _ => some (.int .i64 n)
    | .map _ _, .map none => some (.int .i64 0)
    | .slice _, .func (.yield b) ⟨[n]⟩ ⟨[]⟩ => some n
    | .slice _, x => lenS cx t x
    | .string, x => lenS cx t x
    | _, _ => none
noncomputable def firstA (hp : Hp) (size n : Nat) : Value → Option (List Value)
  | .slice (some a) _ _ => getRow hp a (n * size)
  | .slice none _ _ => some []
  | .string s => some ((s.data.toList.take n).map fun b => .int .u8 b.toNat)
  | _ => none
def lenOfA : Value → Option Nat
  | .slice _ n _ => some n
  | .string s => some s.size
  | _ => none
noncomputable def growA (hp : Hp) (te : TI) (e : TypeId) (str : Bool) (need : Nat) (l : List Value) : Val :=
  match Nat.beq (len (cellsOf te.zero)) te.size, Nat.beq (len l) (need * te.size), Nat.ble need 1048576, Nat.ble te.bytes 65536, Nat.ble 1 te.size, allCell l with
  | true, true, true, true, true, true =>
    some (.slice (some ⟨hp.nx, 0, none⟩) need need, { tr := hp.tr.set hp.nx (.cells (Tr.putList l .nil 0) (len l) e (some te.size) str), nx := Nat.succ hp.nx, lo := hp.lo })
  | _, _, _, _, _, _ => none
noncomputable def killA (hp : Hp) (b : Nat) : Hp := { tr := hp.tr.set b .dead, nx := hp.nx, lo := least b hp.lo }
def isIntD : TypeDesc → Bool
  | .int _ => true
  | _ => false
noncomputable def newsA (hp : Hp) (te : TI) (u : TypeDesc) (x : Value) : Option (Nat × List Value) :=
  match isIntD u with
  | true => match x with
    | .int _ (.ofNat n) => match Nat.ble n 1048576, Nat.ble te.bytes 65536, Nat.beq (len (cellsOf te.zero)) te.size with
      | true, true, true => some (n, zerosA te n)
      | _, _, _ => none
    | _ => none
  | false => match lenOfA x with
    | some k => match firstA hp te.size k x with
      | some l => some (k, l)
      | none => none
    | none => none
noncomputable def emptyS (hp : Hp) : Value → Bool
  | .slice none n c => Nat.beq n 0 && Nat.beq c 0
  | .slice (some a) n c => Nat.beq n 0 && (Nat.beq c 0 && (match hp.tr.get a.block with
    | some (.cells _ _ _ none _) => true
    | _ => false))
  | _ => false
noncomputable def appendS (cx : Cx) (hp : Hp) (e : TypeId) (te : TI) (u : TypeDesc) (s x : Value) : Val :=
  match isSym x, isIntD u, emptyS hp s, flatT cx.P 30 e with
  | true, false, true, some ts => match isTrue cx [num 8, num e, x], Nat.beq (len ts) te.size, Nat.beq (len (cellsOf te.zero)) te.size with
    | true, true, true => match lookS (sy 1 9 [num 7, x]) cx.as with
      | some false => some (s, hp)
      | some true => some (.func (.yield hp.nx) ⟨[sy 6 5 [x]]⟩ ⟨[]⟩, { tr := hp.tr.set hp.nx (.seq (sy 0 10 [num te.size, x]) (sy 6 5 [x]) (ts.map (cellTy cx.P)) e), nx := Nat.succ hp.nx, lo := hp.lo })
      | none => none
    | _, _, _ => none
  | _, _, _, _ => none
noncomputable def srcQ (cx : Cx) (hp : Hp) (te : TI) (e : TypeId) (u : TypeDesc) (ks : List Nat) (x : Value) : Option (Value × Value) :=
  match newsA hp te u x with
  | some (k, l) => match cellsK ks 0 l, Nat.beq (len l) (k * te.size), isIntD u with
    | true, true, false => some (sy 0 11 (num 3 :: l), .int .i64 (.ofNat k))
    | _, _, _ => none
  | none => match isIntD u, isSym x with
    | true, _ => none
    | false, true => match isTrue cx [num 8, num e, x] with
      | true => some (sy 0 10 [num te.size, x], sy 6 5 [x])
      | false => none
    | false, false => match x with
      | .func (.yield b) ⟨[n]⟩ ⟨[]⟩ => match hp.tr.get b with
        | some (.seq ex n' ks' _) => match vEq 60 n n', lEq Nat.beq ks ks', symFlat n with
          | true, true, true => some (ex, n)
          | false, true, true => match symFlat n', isTrue cx [num 11, n, n'] with
            | true, true => some (sy 0 11 [num 9, ex, n, num te.size], n)
            | _, _ => none
          | _, _, _ => none
        | _ => none
      | _ => none
def sumQ (n k : Value) : Value :=
  match n, k with
  | .int .i64 (.ofNat a), .int .i64 (.ofNat b) => .int .i64 (.ofNat (a + b))
  | n, k => sy 6 1 [num 0, num 0, .bool false, n, k]
noncomputable def dstQ (cx : Cx) (hp : Hp) (te : TI) (e : TypeId) (ks : List Nat) (s : Value) : Option (Nat × Value × Value) :=
  match s with
  | .func (.yield b) ⟨[n]⟩ ⟨[]⟩ => match hp.tr.get b with
    | some (.seq en n' ks' ty) => match vEq 60 n n', lEq Nat.beq ks ks', Nat.beq ty e, symFlat n with
      | true, true, true, true => some (b, en, n)
      | _, _, _, _ => none
    | _ => none
  | .slice (some a) n c => match hp.tr.get a.block with
    | some (.cells _ nb ty op _) => match getRow hp a (n * te.size), Nat.beq ty e, (match op with
        | none => Nat.ble (a.off + c * te.size) nb
        | some z => Nat.beq z te.size && Nat.ble 1 n) with
      | some l, true, true => match cellsK ks 0 l with
        | true => some (a.block, sy 0 11 (num 3 :: l), .int .i64 (.ofNat n))
        | false => none
      | _, _, _ => none
    | _ => none
  | _ => none
noncomputable def appendQ (cx : Cx) (hp : Hp) (e : TypeId) (te : TI) (u : TypeDesc) (s x : Value) : Val :=
  match flatT cx.P 30 e with
  | none => none
  | some ts => match Nat.beq (len ts) te.size && (Nat.beq (len (cellsOf te.zero)) te.size && (Nat.ble te.bytes 65536 && Nat.ble 1 te.size)), srcQ cx hp te e u (ts.map (cellTy cx.P)) x with
    | true, some (ex, k) => match s with
      | .slice none n c => match Nat.beq n 0 && Nat.beq c 0, ltS cx k (.int .i64 0), leS cx k 1048576 with
        | true, true, true => some (.func (.yield hp.nx) ⟨[k]⟩ ⟨[]⟩, { tr := hp.tr.set hp.nx (.seq ex k (ts.map (cellTy cx.P)) e), nx := Nat.succ hp.nx, lo := hp.lo })
        | true, false, _ => match asN (sy 1 9 [num 9, k, .int .i64 0]) cx.as with
          | some false => some (.slice none 0 0, hp)
          | _ => none
        | _, _, _ => none
      | s => match dstQ cx hp te e (ts.map (cellTy cx.P)) s with
        | some (b, en, n) => match leS cx n 524288 && leS cx k 524288 with
          | true => some (.func (.yield hp.nx) ⟨[sumQ n k]⟩ ⟨[]⟩, { tr := (hp.tr.set b .dead).set hp.nx (.seq (sy 0 11 [num 2, en, ex]) (sumQ n k) (ts.map (cellTy cx.P)) e), nx := Nat.succ hp.nx, lo := least b hp.lo })
          | false => none
        | none => none
    | _, _ => none
noncomputable def appendA (cx : Cx) (hp : Hp) (t u : TypeId) (s x : Value) : Val :=
  match cx.t t, cx.t u with
  | some ti, some tu => match ti.desc with
    | .slice e => match cx.t e with
      | some te => match newsA hp te tu.desc x with
        | none => appendS cx hp e te tu.desc s x
        | some (k, l) => match s with
          | .slice none n c => match Nat.beq n 0, Nat.beq c 0 with
            | true, true => match k with
              | 0 => some (.slice none 0 0, hp)
              | k => growA hp te e false k l
            | _, _ => none
          | .slice (some a) n c => match hp.tr.get a.block with
            | some (.cells _ _ e' op str) => match Nat.beq e e' with
              | false => none
              | true => match op with
                | none => match Nat.ble (n + k) c with
                  | true => match putRow hp (a.add (n * te.size)) l with
                    | some hp' => some (.slice (some a) (n + k) c, hp')
                    | none => none
                  | false => match getRow hp a (n * te.size) with
                    | some old => growA hp te e false (n + k) (old ++ l)
                    | none => none
                | some z => match Nat.beq z te.size with
                  | false => none
                  | true => match Nat.ble 1 c && Nat.ble (n + k) c with
                    | true => match putRow hp (a.add (n * te.size)) l with
                      | some hp' => some (.slice (some a) (n + k) c, hp')
                      | none => none
                    | false => match getRow hp a (n * te.size) with
                      | some old => growA (killA hp a.block) te e str (n + k) (old ++ l)
                      | none => none
            | _ => none
          | _ => none
      | none => none
    | _ => none
  | _, _ => none
noncomputable def appendT (cx : Cx) (hp : Hp) (t u : TypeId) (s x : Value) : Val :=
  match appendA cx hp t u s x with
  | some r => some r
  | none => match cx.t t, cx.t u with
    | some ti, some tu => match ti.desc with
      | .slice e => match cx.t e with
        | some te => appendQ cx hp e te tu.desc s x
        | none => none
      | _ => none
    | _, _ => none
noncomputable def capA (cx : Cx) (hp : Hp) (t : TypeId) (x : Value) : Option Value :=
  match cx.t t with
  | none => none
  | some ti => match ti.desc, x with
    | .slice _, .slice none _ c => some (.int .i64 c)
    | .slice _, .slice (some a) _ c => match hp.tr.get a.block with
      | some (.cells _ _ _ none _) => some (.int .i64 c)
      | _ => none
    | _, _ => none
noncomputable def copyA (cx : Cx) (hp : Hp) (t : TypeId) (d x : Value) : Val :=
  match cx.t t with
  | none => none
  | some ti => match ti.desc, d, lenOfA x with
    | .slice e, .slice base n _, some k => match cx.t e with
      | some te => match firstA hp te.size (Nat.min k n) x with
        | none => none
        | some l => match base with
          | none => some (.int .i64 (Nat.min k n), hp)
          | some a => match Nat.beq (Nat.min k n) 0 with
            | true => some (.int .i64 (Nat.min k n), hp)
            | false => match putRow hp a l with
              | some hp' => some (.int .i64 (Nat.min k n), hp')
              | none => none
      | none => none
    | _, _, _ => none
noncomputable def clearA (cx : Cx) (hp : Hp) (t : TypeId) (x : Value) : Val :=
  match cx.t t with
  | none => none
  | some ti => match ti.desc, x with
    | .slice _, .slice none _ _ => some (.tuple ⟨[]⟩, hp)
    | .slice _, .slice (some _) 0 _ => some (.tuple ⟨[]⟩, hp)
    | .slice e, .slice (some a) n _ => match cx.t e with
      | some te => match putRow hp a (zerosA te n) with
        | some hp' => some (.tuple ⟨[]⟩, hp')
        | none => none
      | none => none
    | _, _ => none
noncomputable def minmaxA (mx : Bool) : List Value → Option Value
  | [.int k x, .int _ y] => some (.int k (match mx with
    | true => (if y > x then y else x)
    | false => (if y < x then y else x)))
  | [x, y] => match symFlat x && symFlat y, Nat.ble 3 (symTy2 x y), (hasTy (symTy2 x y) x && hasTy (symTy2 x y) y) && ((isSym x || tyOk (symTy2 x y) x) && (isSym y || tyOk (symTy2 x y) y)) with
    | true, true, true => some (sy (symTy2 x y) 4 [.bool mx, x, y])
    | _, _, _ => none
  | _ => none
def plainKey : TypeDesc → Bool
  | .int _ | .string | .bool => true
  | _ => false
def structD : TypeDesc → Bool
  | .struct _ => true
  | _ => false
noncomputable def mapTy (cx : Cx) (t : TypeId) : Option (TypeId × TypeDesc × Value) :=
  match cx.t t with
  | none => none
  | some ti => match ti.desc with
    | .map kt et => match cx.t kt, cx.t et with
      | some tk, some te => match plainKey tk.desc || structD tk.desc with
        | true => some (kt, tk.desc, te.zero)
        | false => none
      | _, _ => none
    | _ => none
noncomputable def keyOkS (cx : Cx) (d : TypeDesc) (k : Value) : Bool :=
  match d, k with
  | .struct fs, .agg cs => cs.toList.all flat && fs.toList.all fun f => match cx.t f.type, partA cx f.type cs.toList f.offset with
    | some tf, some _ => plainKey tf.desc
    | _, _ => false
  | _, _ => false
noncomputable def findS (cx : Cx) (kt : TypeId) (k : Value) (l : List MapEntry) : Nat → Option (Option (Nat × Value)) :=
  List.rec (motive := fun _ => Nat → Option (Option (Nat × Value))) (fun _ => some none) (fun e _ ih i => match constOk e.key, eqA cx 9 kt k e.key, Instr.sameBits 10000 e.key k with
    | true, some true, true => some (some (i, e.val))
    | true, some false, _ => ih (Nat.succ i)
    | _, _, _ => none) l
noncomputable def findA (cx : Cx) (kt : TypeId) (d : TypeDesc) (k : Value) (es : List MapEntry) : Option (Option (Nat × Value)) :=
  match plainKey d with
  | true => Instr.findNow d k es 0
  | false => match keyOkS cx d k with
    | true => findS cx kt k es 0
    | false => none
noncomputable def mapOb (hp : Hp) (x : Value) : Option (Nat × List MapEntry × Nat) :=
  match x with
  | .map (some b) => match hp.tr.get b with
    | some (.map es clock) => some (b, es, clock)
    | _ => none
  | _ => none
noncomputable def mapEs (hp : Hp) (x : Value) : Option (List MapEntry) :=
  match x with
  | .map none => some []
  | x => match mapOb hp x with
    | some (_, es, _) => some es
    | none => none
noncomputable def mapSet (hp : Hp) (b : Nat) (es : List MapEntry) (clock : Nat) : Hp :=
  { tr := hp.tr.set b (.map es clock), nx := hp.nx, lo := least b hp.lo }
noncomputable def makeMapA (cx : Cx) (hp : Hp) (t : TypeId) (r : Option Value) : Val :=
  match mapTy cx t with
  | none => none
  | some _ => match r with
    | none => some (.map (some hp.nx), { tr := hp.tr.set hp.nx (.map [] 0), nx := Nat.succ hp.nx, lo := hp.lo })
    | some (.int _ _) => some (.map (some hp.nx), { tr := hp.tr.set hp.nx (.map [] 0), nx := Nat.succ hp.nx, lo := hp.lo })
    | _ => none
noncomputable def lookupA (cx : Cx) (hp : Hp) (t : TypeId) (x k : Value) (ok : Bool) : Option Value :=
  match mapTy cx t with
  | none => none
  | some (kt, d, z) => match mapEs hp x with
    | none => none
    | some es => match findA cx kt d k es with
      | none => none
      | some none => match ok with
        | true => some (.tuple ⟨[z, .bool false]⟩)
        | false => some z
      | some (some (_, v)) => match ok with
        | true => some (.tuple ⟨[v, .bool true]⟩)
        | false => some v
noncomputable def mapUpdateA (cx : Cx) (hp : Hp) (t : TypeId) (x k v : Value) : Option Hp :=
  match mapTy cx t with
  | none => none
  | some (kt, d, _) => match mapOb hp x with
    | none => none
    | some (b, es, clock) => match findA cx kt d k es with
      | none => none
      | some none => some (mapSet hp b (es ++ [{ key := k, val := v, born := clock }]) (Nat.succ clock))
      | some (some (i, _)) => some (mapSet hp b (es.modify i fun e => { e with key := k, val := v }) clock)
noncomputable def mapEntryA (cx : Cx) (hp : Hp) (t : TypeId) (x k : Value) : Val :=
  match mapTy cx t with
  | none => none
  | some (kt, d, z) => match mapOb hp x with
    | none => none
    | some (b, es, clock) => match findA cx kt d k es with
      | none => none
      | some none => some (.tuple ⟨[z, .int .i64 (.ofNat clock)]⟩, mapSet hp b (es ++ [{ key := k, val := z, born := clock }]) (Nat.succ clock))
      | some (some (i, v)) => match es[i]? with
        | some e => some (.tuple ⟨[v, .int .i64 (.ofNat e.born)]⟩, mapSet hp b (es.modify i fun e => { e with key := k }) clock)
        | none => none
noncomputable def entryStoreA (hp : Hp) (x s v : Value) : Option Hp :=
  match mapOb hp x, s with
  | some (b, es, clock), .int _ n => match es.findIdx? (fun e => (e.born : Int) == n) with
    | some i => some (mapSet hp b (es.modify i fun e => { e with val := v }) clock)
    | none => none
  | _, _ => none
noncomputable def deleteA (cx : Cx) (hp : Hp) (t : TypeId) (x k : Value) : Option Hp :=
  match mapTy cx t with
  | none => none
  | some (kt, d, _) => match x with
    | .map none => match plainKey d with
      | true => some hp
      | false => none
    | x => match mapOb hp x with
      | none => none
      | some (b, es, clock) => match findA cx kt d k es with
        | none => none
        | some none => some (mapSet hp b es clock)
        | some (some (i, _)) => some (mapSet hp b (es.eraseIdx i) clock)
noncomputable def lenM (cx : Cx) (hp : Hp) (t : TypeId) (x : Value) : Option Value :=
  match cx.t t with
  | none => none
  | some ti => match ti.desc with
    | .map _ _ => match mapOb hp x with
      | some (_, es, _) => some (.int .i64 (.ofNat (len es)))
      | none => none
    | _ => none
noncomputable def clearM (cx : Cx) (hp : Hp) (t : TypeId) (x : Value) : Val :=
  match cx.t t with
  | none => none
  | some _ => match mapOb hp x with
    | some (b, _, clock) => some (.tuple ⟨[]⟩, mapSet hp b [] clock)
    | none => match x with
      | .map none => some (.tuple ⟨[]⟩, hp)
      | _ => none
noncomputable def builtinA (cx : Cx) (hp : Hp) (b : Builtin) (ts : List TypeId) (args : List Value) : Val :=
  match b, ts, args with
  | .len, t :: _, [x] => match lenA cx t x with
    | some v => some (v, hp)
    | none => match lenM cx hp t x with
      | some v => some (v, hp)
      | none => none
  | .delete, t :: _, [x, k] => match deleteA cx hp t x k with
    | some hp' => some (.tuple ⟨[]⟩, hp')
    | none => none
  | .cap, t :: _, [x] => match capA cx hp t x with
    | some v => some (v, hp)
    | none => none
  | .unsafeSliceData, _, [.slice (some a) n c] => match Nat.beq c 0, Nat.beq n 0 with
    | false, false => some (.pointer (some a), hp)
    | _, _ => none
  | .unsafeSliceData, _, [.slice none _ _] => some (.pointer none, hp)
  | .unsafeString, _ :: _, [.pointer _, .int _ (.ofNat 0)] => some (.string .empty, hp)
  | .unsafeString, t :: _, [.pointer (some a), .int _ (.ofNat n)] => match cx.t t with
    | some ti => match ti.desc with
      | .pointer e => match cx.t e with
        | some te => match te.desc with
          | .int .u8 => match hp.tr.get a.block with
            | some (.cells _ _ e' _ _) => match Nat.beq e e' && Nat.beq te.size 1 && Nat.ble n 9223372036854775807 with
              | true => match getRow hp a n with
                | some l => match bytesA l with
                  | some bs => some (.string ⟨⟨bs⟩⟩, killA hp a.block)
                  | none => none
                | none => none
              | false => none
            | _ => none
          | _ => none
        | none => none
      | _ => none
    | none => none
  | .append, [t, u], [s, x] => appendT cx hp t u s x
  | .copy, t :: _, [d, x] => copyA cx hp t d x
  | .clear, t :: _, [x] => match clearA cx hp t x with
    | some r => some r
    | none => clearM cx hp t x
  | .min, _, l => match minmaxA false l with
    | some v => some (v, hp)
    | none => none
  | .max, _, l => match minmaxA true l with
    | some v => some (v, hp)
    | none => none
  | _, _, _ => none
noncomputable def rangeA (cx : Cx) (hp : Hp) (t : TypeId) (x : Value) : Val :=
  match cx.t t with
  | none => none
  | some ti => match ti.desc, x with
  | .string, .string s => some (.pointer (some ⟨hp.nx, 0, none⟩), { tr := hp.tr.set hp.nx (.siter s 0), nx := Nat.succ hp.nx, lo := hp.lo })
  | .map _ _, .map none => some (.pointer (some ⟨hp.nx, 0, none⟩), { tr := hp.tr.set hp.nx (.miter none 0 [] 0), nx := Nat.succ hp.nx, lo := hp.lo })
  | .map _ _, .map (some m) => match hp.tr.get m with
    | some (.map _ clock) => some (.pointer (some ⟨hp.nx, 0, none⟩), { tr := hp.tr.set hp.nx (.miter (some m) clock [] clock), nx := Nat.succ hp.nx, lo := hp.lo })
    | _ => none
  | _, _ => none
noncomputable def objSet (hp : Hp) (b : Nat) (o : AObj) : Hp := { tr := hp.tr.set b o, nx := hp.nx, lo := least b hp.lo }
def eldA (since : Nat) (es : List MapEntry) : Bool := es.all fun e => Nat.blt e.born since
def leftA (seen : List Nat) (es : List MapEntry) : List MapEntry := es.filter fun e => !seen.contains e.born
noncomputable def nextA (hp : Hp) (x : Value) (isString : Bool) : Option (List (Value × Hp)) :=
  match x with
  | .pointer (some ⟨r, 0, none⟩) => match hp.tr.get r, isString with
    | some (.siter s pos), true => match Nat.blt pos s.size with
      | true => some [(.tuple ⟨[.bool true, .int .i64 (.ofNat pos), .int .i32 (Utf8.decode s pos).1]⟩, objSet hp r (.siter s (pos + (Utf8.decode s pos).2)))]
      | false => some [(.tuple ⟨[.bool false]⟩, hp)]
    | some (.miter none _ _ _), false => some [(.tuple ⟨[.bool false]⟩, hp)]
    | some (.miter (some m) since seen last), false => match hp.tr.get m with
      | some (.map es clock) => match eldA since es, Nat.ble since last with
        | true, true => match leftA seen es with
          | [] => some [(.tuple ⟨[.bool false]⟩, hp)]
          | l => some (l.map fun e => (.tuple ⟨[.bool true, e.key, e.val]⟩, objSet hp r (.miter (some m) since (seen ++ [e.born]) clock)))
        | _, _ => none
      | _ => none
    | _, _ => none
  | _ => none
noncomputable def entryA (hp : Hp) (x : Value) : Option Value :=
  match x with
  | .pointer (some ⟨r, 0, none⟩) => match hp.tr.get r with
    | some (.miter (some m) _ seen stepped) => match seen.getLast?, hp.tr.get m with
      | some stamp, some (.map es clock) => match Nat.beq clock stepped, es.find? (fun e => Nat.beq e.born stamp) with
        | true, some e => some (.tuple ⟨[e.key, e.val]⟩)
        | _, _ => none
      | _, _ => none
    | _ => none
  | _ => none
noncomputable def loopOb (hp : Hp) (b : Nat) : Option ALoop :=
  match hp.tr.get b with
  | some (.loop l) => some l
  | _ => none
noncomputable def loopSet (hp : Hp) (b : Nat) (l : ALoop) : Hp := { tr := hp.tr.set b (.loop l), nx := hp.nx, lo := least b hp.lo }
noncomputable def loopNew (hp : Hp) (l : ALoop) : Hp := { tr := hp.tr.set hp.nx (.loop l), nx := Nat.succ hp.nx, lo := hp.lo }
noncomputable def putPs (sz : Nat) : List Tmp → List Value → Tr Value → Option (Tr Value)
  | [], [], tm => some tm
  | t :: ts, v :: vs, tm => match Nat.blt t sz with
    | true => putPs sz ts vs (tm.set t v)
    | false => none
  | _, _, _ => none
def isIfaceD : TypeDesc → Bool
  | .interface _ => true
  | _ => false
noncomputable def assertA (cx : Cx) (v : Value) (t : TypeId) (ok : Bool) : Option Value :=
  match cx.t t with
  | none => none
  | some ti => match isIfaceD ti.desc with
    | true => none
    | false => match v with
      | .nilIface => match ok with
        | true => some (.tuple ⟨[ti.zero, .bool false]⟩)
        | false => none
      | .iface u x => match Nat.beq u t with
        | true => match ok with
          | true => some (.tuple ⟨[x, .bool true]⟩)
          | false => some x
        | false => match ok with
          | true => some (.tuple ⟨[ti.zero, .bool false]⟩)
          | false => none
      | _ => none
end Go.Proofs.YtaepplhgeeaidaaDoor.Ev
