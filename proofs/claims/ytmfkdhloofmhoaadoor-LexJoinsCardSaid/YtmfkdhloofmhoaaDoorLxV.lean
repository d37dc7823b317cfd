import Derived.Test.YtmfkdhloofmhoaaDoorLxM
import Derived.Lib.Bytealg
import Derived.Lib.Index
import Derived.Lib.ParseIntB
import Derived.Lib.ItoaNum
set_option linter.unusedVariables false
set_option linter.unusedSimpArgs false
set_option linter.unusedSectionVars false
namespace Go.Proofs.YtmfkdhloofmhoaaDoor
open Go Go.RowKit Ev
def tl (s : ByteArray) : B8 := s.data.toList
theorem tl_tx (l : B8) : tl (tx l) = l := rfl
theorem tx_tl (s : ByteArray) : tx (tl s) = s := rfl
theorem tx_size (l : B8) : (tx l).size = l.length := rfl
theorem loop_eq (bs : ByteArray) : ∀ (k i : Nat) (r : List UInt8), bs.size - i = k → ByteArray.toList.loop bs i r = r.reverse ++ (tl bs).drop i := by
  intro k
  induction k with
  | zero =>
    intro i r h
    unfold ByteArray.toList.loop
    rw [if_neg (by omega), List.drop_of_length_le (show (tl bs).length ≤ i from by show bs.size ≤ i; omega), List.append_nil]
  | succ k ih =>
    intro i r h
    unfold ByteArray.toList.loop
    rw [if_pos (by omega), ih (i + 1) _ (by omega)]
    have hl : i < (tl bs).length := by show i < bs.size; omega
    rw [List.drop_eq_getElem_cons hl, List.reverse_cons, List.append_assoc]
    have h1 : bs.get! i = (tl bs)[i] := by
      have : bs.get! i = bs.data[i]! := rfl
      rw [this, getElem!_pos bs.data i hl]
      rfl
    rw [h1]
    rfl
theorem eqT_tx (a b : ByteArray) : eqT a b = (tl a == tl b) := by
  unfold eqT ByteArray.toList
  rw [loop_eq a _ 0 [] rfl, loop_eq b _ 0 [] rfl]
  rfl
theorem ext_tx (l : B8) (i j : Nat) : (tx l).extract i j = tx ((l.drop i).take (j - i)) := by
  have h : ((tx l).extract i j).data = (tx l).data.extract i j := ByteArray.data_extract
  have h2 : ((tx l).data.extract i j).toList = (l.drop i).take (j - i) := by
    rw [Array.toList_extract]
    rfl
  rw [← tx_tl ((tx l).extract i j)]
  unfold tl
  rw [h, h2]
section
variable {cx : Cx} {R : Addr → Option Value}
theorem x_len (l : B8) : uRd cx R 4 [.string (tx l)] = some (.int .i64 (Int.ofNat l.length)) := n_slen (tx l)
theorem x_byte {l : B8} {i : Nat} (h : i < l.length) (k : IntKind) : uRd cx R 10 [num 5, .string (tx l), .int k (.ofNat i)] = some (.int .u8 (Int.ofNat (l.getD i 0).toNat)) := by
  rw [uRd_rd _ _ _ _ (by omega)]
  show (match l[i]? with | some b => some (Value.int .u8 b.toNat) | none => none) = _
  rw [List.getD_eq_getElem?_getD, List.getElem?_eq_getElem h]
  rfl
theorem x_cut (l : B8) (k k' : IntKind) (i j : Nat) : uRd cx R 10 [num 6, .string (tx l), .int k (.ofNat i), .int k' (.ofNat j)] = some (.string (tx ((l.drop i).take (j - i)))) := by
  rw [uRd_rd _ _ _ _ (by omega)]
  show some (Value.string ((tx l).extract i j)) = _
  rw [ext_tx]
theorem x_t12 (l : B8) (k k' : IntKind) (i j : Nat) : uRd cx R 8 [num 12, .string (tx l), .int k (.ofNat i), .int k' (.ofNat j)] = some (.bool (Nat.ble i j && Nat.ble j l.length)) := by rw [n_tr]; rfl
theorem x_t10 (l : B8) (k : IntKind) (i : Nat) : uRd cx R 8 [num 10, .string (tx l), .int k (.ofNat i)] = some (.bool (Nat.blt i l.length)) := by rw [n_tr]; rfl
theorem x_seq (t : Nat) (c : Bool) (a b : B8) : uRd cx R 0 [num 11, num t, .bool c, .string (tx a), .string (tx b)] = some (.bool (a == b)) := by
  rw [n_seq, eqT_tx]
  rfl
def eB (c : UInt8) : List Value := [.int .u8 (Int.ofNat c.toNat)]
theorem bytes_eB : ∀ l : B8, bytesA (l.flatMap eB) = some l
  | [] => rfl
  | c :: l => by
    show (match bytesA (l.flatMap eB) with | some bs => some (UInt8.ofNat (Int.ofNat c.toNat).toNat :: bs) | none => none) = _
    rw [bytes_eB l]
    show some (UInt8.ofNat c.toNat :: l) = _
    rw [UInt8.ofNat_toNat]
theorem x_text (l : B8) : uRd cx R 10 [num 8, .agg ⟨l.flatMap eB⟩] = some (.string (tx l)) := by
  rw [uRd_rd _ _ _ _ (by omega)]
  show (match bytesA (l.flatMap eB) with | some bs => some (Value.string ⟨⟨bs⟩⟩) | none => none) = _
  rw [bytes_eB]
  rfl
end
def eTok (x : Tok) : List Value := [.int .i64 x.1, .string (tx x.2.1), .int .i64 x.2.2.1, .int .i64 x.2.2.2]
def dTok : List Value → List Tok
  | .int _ a :: .string s :: .int _ b :: .int _ c :: l => (a, tl s, b, c) :: dTok l
  | _ => []
theorem eTok_len (x : Tok) : (eTok x).length = 4 := rfl
theorem dTok_e : ∀ l : List Tok, dTok (l.flatMap eTok) = l
  | [] => rfl
  | x :: l => by
    show (x.1, tl (tx x.2.1), x.2.2.1, x.2.2.2) :: dTok (l.flatMap eTok) = x :: l
    rw [dTok_e l]
    rfl
def valF (x : B8) : Option Int := match Lib.parseIntB 64 x with
  | .ok v => if Lib.itoa v = x then some v else none
  | _ => none
def namF (x : B8) : Bool := namB (tx x)
def conF (x : B8) : Bool := decide (0 ≤ Lib.index [41, 93, 125] x)
def frsF (x : B8) (neg : Bool) : Tok × Nat := firstF namF valF x neg
def unqP (x : B8) : B8 × Nat := (unqF x).getD ([], 0)
def idxB (a : B8) (c : Int) : Int := Lib.indexByte a c.toNat.toUInt8
def tksB (w : Bool) : List Tok → List Tok → Bool
  | x :: l, y :: m => x.1 == y.1 && (x.2.1 == y.2.1 && (x.2.2.1 == y.2.2.1 && ((!w || x.2.2.2 == y.2.2.2) && tksB w l m)))
  | [], [] => true
  | _, _ => false
def allR (s : B8) : List Tok × Int × Nat := if 16384 < s.length then ([], 3, 0) else match allF frsF conF s with
  | .ok l => (l, 0, 0)
  | .error i => ([], 13, i)
def lxU : Nat → List Value → Option Value
  | 0, [.string s] => some (.bool (namB s))
  | 1, [.string s] => some (.int .i64 (Int.ofNat (runF digB (tl s))))
  | 2, [.string s] => some (.int .i64 (Int.ofNat (runF wordB (tl s))))
  | 3, [.string s, .int _ c] => some (.int .i64 (idxB (tl s) c))
  | 4, [.string s] => some (.int .i64 (Int.ofNat (skipF false (tl s))))
  | 5, [.string s] => some (.int .u8 (Int.ofNat (escF (tl s)).1.toNat))
  | 6, [.string s] => some (.int .i64 (Int.ofNat (escF (tl s)).2))
  | 7, [.string s] => some (.string (tx (unqP (tl s)).1))
  | 8, [.string s] => some (.int .i64 (Int.ofNat (unqP (tl s)).2))
  | 9, [.string s] => some (.int .i64 (numF valF (tl s)).1.1)
  | 10, [.string s] => some (.string (tx (numF valF (tl s)).1.2.1))
  | 11, [.string s] => some (.int .i64 (numF valF (tl s)).1.2.2.1)
  | 12, [.string s] => some (.int .i64 (numF valF (tl s)).1.2.2.2)
  | 13, [.string s] => some (.int .i64 (Int.ofNat (numF valF (tl s)).2))
  | 14, [.agg ⟨c⟩] => some (.bool (negF conF (dTok c)))
  | 15, [.string s, .bool b] => some (.int .i64 (frsF (tl s) b).1.1)
  | 16, [.string s, .bool b] => some (.string (tx (frsF (tl s) b).1.2.1))
  | 17, [.string s, .bool b] => some (.int .i64 (frsF (tl s) b).1.2.2.1)
  | 18, [.string s, .bool b] => some (.int .i64 (frsF (tl s) b).1.2.2.2)
  | 19, [.string s, .bool b] => some (.int .i64 (Int.ofNat (frsF (tl s) b).2))
  | 20, [.string s] => some (.agg ⟨(allR (tl s)).1.flatMap eTok⟩)
  | 21, [.string s] => some (.int .i64 (Int.ofNat (allR (tl s)).1.length))
  | 22, [.string s] => some (.int .i64 (allR (tl s)).2.1)
  | 23, [.string s] => some (.int .i64 (Int.ofNat (allR (tl s)).2.2))
  | 24, [.agg ⟨c⟩, .agg ⟨d⟩, .bool b] => some (.bool (tksB b (dTok c) (dTok d)))
  | 26, [.string s] => some (.string s)
  | 27, [.string a, .string b] => some (.bool (decide (0 ≤ Lib.index (tl a) (tl b))))
  | _, _ => none
section
variable {cx : Cx} {R : Addr → Option Value} (hU : cx.U = lxU)
include hU
theorem lu0 (x : B8) : uRd cx R 16 [.string (tx x)] = some (.bool (namF x)) := by rw [n_U 0, hU]; rfl
theorem lu2 (x : B8) : uRd cx R 18 [.string (tx x)] = some (.int .i64 (Int.ofNat (runF wordB x))) := by rw [n_U 2, hU]; rfl
theorem lu3 (x : B8) (k : IntKind) (c : Int) : uRd cx R 19 [.string (tx x), .int k c] = some (.int .i64 (idxB x c)) := by rw [n_U 3, hU]; rfl
theorem lu4 (x : B8) : uRd cx R 20 [.string (tx x)] = some (.int .i64 (Int.ofNat (skipF false x))) := by rw [n_U 4, hU]; rfl
theorem lu5 (x : B8) : uRd cx R 21 [.string (tx x)] = some (.int .u8 (Int.ofNat (escF x).1.toNat)) := by rw [n_U 5, hU]; rfl
theorem lu6 (x : B8) : uRd cx R 22 [.string (tx x)] = some (.int .i64 (Int.ofNat (escF x).2)) := by rw [n_U 6, hU]; rfl
theorem lu7 (x : B8) : uRd cx R 23 [.string (tx x)] = some (.string (tx (unqP x).1)) := by rw [n_U 7, hU]; rfl
theorem lu8 (x : B8) : uRd cx R 24 [.string (tx x)] = some (.int .i64 (Int.ofNat (unqP x).2)) := by rw [n_U 8, hU]; rfl
theorem lu9 (x : B8) : uRd cx R 25 [.string (tx x)] = some (.int .i64 (numF valF x).1.1) := by rw [n_U 9, hU]; rfl
theorem lu10 (x : B8) : uRd cx R 26 [.string (tx x)] = some (.string (tx (numF valF x).1.2.1)) := by rw [n_U 10, hU]; rfl
theorem lu11 (x : B8) : uRd cx R 27 [.string (tx x)] = some (.int .i64 (numF valF x).1.2.2.1) := by rw [n_U 11, hU]; rfl
theorem lu12 (x : B8) : uRd cx R 28 [.string (tx x)] = some (.int .i64 (numF valF x).1.2.2.2) := by rw [n_U 12, hU]; rfl
theorem lu13 (x : B8) : uRd cx R 29 [.string (tx x)] = some (.int .i64 (Int.ofNat (numF valF x).2)) := by rw [n_U 13, hU]; rfl
theorem lu14 (l : List Tok) : uRd cx R 30 [.agg ⟨l.flatMap eTok⟩] = some (.bool (negF conF l)) := by rw [n_U 14, hU]; show some (Value.bool (negF conF (dTok _))) = _; rw [dTok_e]
theorem lu15 (x : B8) (b : Bool) : uRd cx R 31 [.string (tx x), .bool b] = some (.int .i64 (frsF x b).1.1) := by rw [n_U 15, hU]; rfl
theorem lu16 (x : B8) (b : Bool) : uRd cx R 32 [.string (tx x), .bool b] = some (.string (tx (frsF x b).1.2.1)) := by rw [n_U 16, hU]; rfl
theorem lu17 (x : B8) (b : Bool) : uRd cx R 33 [.string (tx x), .bool b] = some (.int .i64 (frsF x b).1.2.2.1) := by rw [n_U 17, hU]; rfl
theorem lu19 (x : B8) (b : Bool) : uRd cx R 35 [.string (tx x), .bool b] = some (.int .i64 (Int.ofNat (frsF x b).2)) := by rw [n_U 19, hU]; rfl
theorem lu20 (x : B8) : uRd cx R 36 [.string (tx x)] = some (.agg ⟨(allR x).1.flatMap eTok⟩) := by rw [n_U 20, hU]; rfl
theorem lu21 (x : B8) : uRd cx R 37 [.string (tx x)] = some (.int .i64 (Int.ofNat (allR x).1.length)) := by rw [n_U 21, hU]; rfl
theorem lu22 (x : B8) : uRd cx R 38 [.string (tx x)] = some (.int .i64 (allR x).2.1) := by rw [n_U 22, hU]; rfl
theorem lu23 (x : B8) : uRd cx R 39 [.string (tx x)] = some (.int .i64 (Int.ofNat (allR x).2.2)) := by rw [n_U 23, hU]; rfl
theorem lu24 (l m : List Tok) (b : Bool) : uRd cx R 40 [.agg ⟨l.flatMap eTok⟩, .agg ⟨m.flatMap eTok⟩, .bool b] = some (.bool (tksB b l m)) := by rw [n_U 24, hU]; show some (Value.bool (tksB b (dTok _) (dTok _))) = _; rw [dTok_e, dTok_e]
theorem lu26 (x : B8) : uRd cx R 42 [.string (tx x)] = some (.string (tx x)) := by rw [n_U 26, hU]; rfl
theorem lu27 (x y : B8) : uRd cx R 43 [.string (tx x), .string (tx y)] = some (.bool (decide (0 ≤ Lib.index x y))) := by rw [n_U 27, hU]; rfl
end
end Go.Proofs.YtmfkdhloofmhoaaDoor
