import Derived.Test.YtmfkdhloofmhoaaDoorLtV
set_option linter.unusedVariables false
namespace Go.Proofs.YtmfkdhloofmhoaaDoor
open Go Ev
abbrev T := ByteArray
abbrev Lab := T × T
abbrev Mat := Int × T × T
def cmpT (a b : T) : Int := Extern.BytealgCompare.cmp a b
def digB (c : Nat) : Bool := !(decide (c < 48)) && !(decide (57 < c))
def lowB (c : Nat) : Bool := !(decide (c < 97)) && !(decide (122 < c))
def inB (c : Nat) : Bool := (lowB c || digB c) || c == 95
theorem inB_eq {c : Nat} {b1 b2 b3 b4 b5 : Bool} (h1 : decide (c < 97) = b1) (h2 : decide (122 < c) = b2) (h3 : decide (c < 48) = b3) (h4 : decide (57 < c) = b4) (h5 : (c == 95) = b5) : inB c = (((!b1 && !b2) || (!b3 && !b4)) || b5) := by
  subst h1 h2 h3 h4 h5
  rfl
def allN (t : T) : Nat → Nat → Bool
  | _, 0 => true
  | i, k + 1 => inB (t[i]!).toNat && allN t (i + 1) k
def namB (s : T) : Bool := !(decide (s.size < 1)) && (!(decide (24 < s.size)) && (!(digB (s[0]!).toNat) && allN s 0 s.size))
def wrL (x : Lab) : Bool := !(namB x.1) || (eqT x.2 ⟨⟨[]⟩⟩ || decide (64 < x.2.size))
def wrM (x : Mat) : Bool := !(x.1 == 1 || x.1 == 2) || (!(namB x.2.1) || decide (64 < x.2.2.size))
def ascF : List Lab → Bool
  | x :: y :: l => decide (cmpT x.1 y.1 < 0) && ascF (y :: l)
  | _ => true
def chkL (l : List Lab) : Int := if 8 < l.length then 3 else if !(l.any wrL) && ascF l then 0 else 2
def chkM (m : List Mat) : Int := if 8 < m.length then 3 else if m.any wrM then 2 else 0
def fstT (l : List Lab) (n : T) : Lab := (l.find? fun x => cmpT x.1 n == 0).getD (⟨⟨[]⟩⟩, ⟨⟨[]⟩⟩)
def askB (l : List Lab) (x : Mat) : Bool := eqT (fstT l x.2.1).2 x.2.2 == (x.1 == 1)
def takB (m : List Mat) (l : List Lab) : Bool := chkM m == 0 && (chkL l == 0 && m.all (askB l))
def pickL (l : List Lab) (ns : List T) (b : Bool) : List Lab := if chkL l = 0 then l.filter (fun x => ns.any (fun s => eqT s x.1) == b) else []
def eL (x : Lab) : List Value := [.string x.1, .string x.2]
def eM (x : Mat) : List Value := [.int .i64 x.1, .string x.2.1, .string x.2.2]
def dT : List Value → List T
  | .string s :: l => s :: dT l
  | _ => []
def dL : List Value → List Lab
  | .string a :: .string b :: l => (a, b) :: dL l
  | _ => []
def dM : List Value → List Mat
  | .int _ k :: .string a :: .string b :: l => (k, a, b) :: dM l
  | _ => []
theorem dL_e : ∀ l : List Lab, dL (l.flatMap eL) = l
  | [] => rfl
  | x :: l => by show (x.1, x.2) :: dL (l.flatMap eL) = x :: l; rw [dL_e l]
theorem dM_e : ∀ l : List Mat, dM (l.flatMap eM) = l
  | [] => rfl
  | x :: l => by show (x.1, x.2.1, x.2.2) :: dM (l.flatMap eM) = x :: l; rw [dM_e l]
def litF (k : Int) : Nat → List T → Bool
  | i, s :: l => if k < i then false else if 300 < s.size then false else litF k (i + 1) l
  | i, [] => decide ((i : Int) ≤ k)
def labF : List Lab → List Lab → Bool
  | x :: l, y :: m => eqT x.1 y.1 && (eqT x.2 y.2 && labF l m)
  | _, _ => true
def labB (l m : List Lab) : Bool := decide (l.length = m.length) && labF l m
def ltU : Nat → List Value → Option Value
  | 0, [.string s] => some (.bool (namB s))
  | 1, [.string a, .string b] => some (.int .i64 (cmpT a b))
  | 2, [.agg ⟨c⟩] => some (.int .i64 (idxF wrL 0 (dL c)))
  | 3, [.agg ⟨c⟩] => some (.int .i64 (idxF wrM 0 (dM c)))
  | 4, [.agg ⟨c⟩] => some (.agg ⟨(dL c).flatMap eL⟩)
  | 5, [.agg ⟨c⟩] => some (.int .i64 (.ofNat (dL c).length))
  | 6, [.agg ⟨c⟩] => some (.bool (ascF (dL c)))
  | 7, [.agg ⟨c⟩, .string n] => some (.string (fstT (dL c) n).1)
  | 8, [.agg ⟨c⟩, .string n] => some (.string (fstT (dL c) n).2)
  | 9, [.agg ⟨c⟩, .string n] => some (.int .i64 (idxF (fun s => eqT s n) 0 (dT c)))
  | 10, [.agg ⟨c⟩, .int _ k] => some (.bool (litF k 0 (dT c)))
  | 11, [.agg ⟨c⟩, .agg ⟨d⟩] => some (.bool (labB (dL c) (dL d)))
  | 12, [.agg ⟨c⟩] => some (.int .i64 (chkL (dL c)))
  | 13, [.agg ⟨c⟩] => some (.int .i64 (chkM (dM c)))
  | 14, [.agg ⟨c⟩, .agg ⟨d⟩, .bool b] => some (.agg ⟨(pickL (dL c) (dT d) b).flatMap eL⟩)
  | 15, [.agg ⟨c⟩, .agg ⟨d⟩, .bool b] => some (.int .i64 (.ofNat (pickL (dL c) (dT d) b).length))
  | 16, [.agg ⟨c⟩, .agg ⟨d⟩] => some (.bool (takB (dM c) (dL d)))
  | _, _ => none
section
variable {cx : Cx} {R : Addr → Option Value} (hU : cx.U = ltU)
include hU
theorem u0 (s : T) : uRd cx R 16 [.string s] = some (.bool (namB s)) := by rw [n_U 0, hU]; rfl
theorem u1 (a b : T) : uRd cx R 17 [.string a, .string b] = some (.int .i64 (cmpT a b)) := by rw [n_U 1, hU]; rfl
theorem u2 (l : List Lab) : uRd cx R 18 [.agg ⟨l.flatMap eL⟩] = some (.int .i64 (idxF wrL 0 l)) := by rw [n_U 2, hU]; show some (Value.int .i64 (idxF wrL 0 (dL _))) = _; rw [dL_e]
theorem u3 (l : List Mat) : uRd cx R 19 [.agg ⟨l.flatMap eM⟩] = some (.int .i64 (idxF wrM 0 l)) := by rw [n_U 3, hU]; show some (Value.int .i64 (idxF wrM 0 (dM _))) = _; rw [dM_e]
theorem u8 (l : List Lab) (n : T) : uRd cx R 24 [.agg ⟨l.flatMap eL⟩, .string n] = some (.string (fstT l n).2) := by rw [n_U 8, hU]; show some (Value.string (fstT (dL _) n).2) = _; rw [dL_e]
theorem u16 (m : List Mat) (l : List Lab) : uRd cx R 32 [.agg ⟨m.flatMap eM⟩, .agg ⟨l.flatMap eL⟩] = some (.bool (takB m l)) := by rw [n_U 16, hU]; show some (Value.bool (takB (dM _) (dL _))) = _; rw [dM_e, dL_e]
end
end Go.Proofs.YtmfkdhloofmhoaaDoor
