import Derived.Test.YtaepplhgeeaidaaDoorEvNv
import Derived.Lib.Bytealg
import Derived.Lib.Index
import Derived.Lib.ParseIntB
import Derived.Lib.ItoaNum
section
set_option linter.unusedVariables false
set_option linter.unusedSimpArgs false
set_option linter.unusedSectionVars false
namespace Go.Proofs.YtaepplhgeeaidaaDoor.Ev
open Go Go.RowKit
def eqT (a b : ByteArray) : Bool := a.toList == b.toList
section
variable {cx : Cx} {R : Addr → Option Value}
theorem n_slen (s : ByteArray) : uRd cx R 4 [.string s] = some (.int .i64 (Int.ofNat s.size)) := by rw [uRd_rd _ _ _ _ (by omega)]; rfl
theorem n_seq (t : Nat) (c : Bool) (a b : ByteArray) : uRd cx R 0 [num 11, num t, .bool c, .string a, .string b] = some (.bool (eqT a b)) := by
  rw [uRd_op]
  rfl
theorem n_byte {s : ByteArray} {i : Nat} (h : i < s.size) (k : IntKind) : uRd cx R 10 [num 5, .string s, .int k (.ofNat i)] = some (.int .u8 (Int.ofNat (s[i]!).toNat)) := by
  rw [uRd_rd _ _ _ _ (by omega)]
  show (match s.data.toList[i]? with | some b => some (Value.int .u8 b.toNat) | none => none) = _
  have hl : i < s.data.toList.length := by rw [Array.length_toList]; exact h
  rw [List.getElem?_eq_getElem hl]
  have he : s.data.toList[i] = s[i]! := by
    rw [getElem!_pos s i h]
    rfl
  rw [he]
  rfl
theorem n_t10 (s : ByteArray) (k : IntKind) (i : Nat) : uRd cx R 8 [num 10, .string s, .int k (.ofNat i)] = some (.bool (Nat.blt i s.size)) := by rw [n_tr]; rfl
theorem n_t11 (k : IntKind) (n i : Nat) : uRd cx R 8 [num 11, .int k (.ofNat n), num i] = some (.bool (Nat.ble n i)) := by rw [n_tr]; rfl
theorem n_leq (t : Nat) (c : Bool) (k : IntKind) (a b : Int) : uRd cx R 0 [num 14, num t, .bool c, .int k a, .int k b] = some (.bool (decide (a ≤ b))) := by
  rw [uRd_op]; simp only [opSem, num, binOf]; rw [binA_int (by simp) (by simp)]; rfl
theorem n_lit (l : List Value) : uRd cx R 10 (num 3 :: l) = some (.agg ⟨l⟩) := by rw [uRd_rd _ _ _ _ (by omega)]; rfl
theorem n_cat (a b : List Value) : uRd cx R 10 [num 2, .agg ⟨a⟩, .agg ⟨b⟩] = some (.agg ⟨a ++ b⟩) := by rw [uRd_rd _ _ _ _ (by omega)]; rfl
end
section
variable {α : Type} {enc : α → List Value} {z : Nat}
theorem flat_len (hz : ∀ a, (enc a).length = z) : ∀ l : List α, (l.flatMap enc).length = l.length * z
  | [] => by simp
  | a :: l => by rw [List.flatMap_cons, List.length_append, hz, flat_len hz l, List.length_cons, Nat.succ_mul, Nat.add_comm]
theorem flat_get (hz : ∀ a, (enc a).length = z) : ∀ (l : List α) (i : Nat) (a : α), l[i]? = some a → ∀ o, o < z → (l.flatMap enc)[i * z + o]? = (enc a)[o]?
  | [], i, a, h, o, ho => by cases h
  | b :: l, 0, a, h, o, ho => by
    injection h with h
    subst h
    rw [List.flatMap_cons, Nat.zero_mul, Nat.zero_add, List.getElem?_append_left (by rw [hz]; exact ho)]
  | b :: l, i + 1, a, h, o, ho => by
    have h : l[i]? = some a := h
    rw [List.flatMap_cons, List.getElem?_append_right (by rw [hz, Nat.succ_mul]; omega), hz, ← flat_get hz l i a h o ho]
    congr 1
    rw [Nat.succ_mul]
    omega
theorem flat_rep {v : α} : ∀ n, timesL (enc v) n = (List.replicate n v).flatMap enc
  | 0 => rfl
  | n + 1 => by
    rw [List.replicate_succ, List.flatMap_cons, ← flat_rep n]
    rfl
structure DatG (enc : α → List Value) (z B : Nat) (Q : α → Prop) (R : Addr → Option Value) (x : Addr) (l : List α) : Prop where
  rd : ∀ i a, l[i]? = some a → ∀ o v, (enc a)[o]? = some v → R ((x.add (i * z)).add o) = some v
  all : readN R x (l.length * z) = some (l.flatMap enc)
  few : l.length < 9223372036854775808
  bnd : l.length * B ≤ 140737488351232
  ok : ∀ a, a ∈ l → Q a
def LstG (enc : α → List Value) (z B : Nat) (Q : α → Prop) (R : Addr → Option Value) (ad : Option Addr) (l : List α) : Prop := match ad with
  | none => l = []
  | some x => DatG enc z B Q R x l
variable {P : Program} {R : Addr → Option Value} {B : Nat} {Q : α → Prop} {t e : TypeId}
theorem lstG_of (hu : P.underlying t = some (.slice e)) (hs : P.cellsOf e = z) (hb : P.bytesOf e = B) (hz0 : 0 < z) (hz : ∀ a, (enc a).length = z)
    (he : ∀ f cs, Rds P R f e cs → ∃ a, cs = enc a ∧ Q a) {f : Nat} {v : Value} (h : Rds P R f t [v]) : ∃ ad l c, v = .slice ad (List.length l) c ∧ LstG enc z B Q R ad l ∧ readSl R z v = some (l.flatMap enc) ∧ l.length ≤ c := by
  cases f with
  | zero => exact h.elim
  | succ f =>
    unfold Rds at h
    rw [hu] at h
    cases v with
    | slice ad n c =>
     cases ad with
     | none =>
      have h : n = 0 := h
      subst h
      exact ⟨none, [], c, rfl, rfl, rfl, Nat.zero_le _⟩
     | some x =>
      obtain ⟨h1, h2, h3⟩ := h
      obtain ⟨l, hl, hr⟩ := pick_list (p := fun i (a : α) => (∀ o v, (enc a)[o]? = some v → R ((x.add (i * z)).add o) = some v) ∧ Q a) n (fun i hi => by
        obtain ⟨l', k1, k2, k3⟩ := h3 i hi
        obtain ⟨a, rfl, qa⟩ := he _ _ k3
        rw [hs] at k2
        exact ⟨a, fun o v hv => by rw [Deep.add_add]; exact k2 o v hv, qa⟩)
      subst hl
      have D : readN R x (l.length * z) = some (l.flatMap enc) := readN_of _ _ (flat_len hz l) fun j v hj => by
        have hlt : j < l.length * z := by
          have := (List.getElem?_eq_some_iff.1 hj).1
          rw [flat_len hz] at this
          exact this
        have hd : j / z < l.length := Nat.div_lt_of_lt_mul (by rw [Nat.mul_comm]; exact hlt)
        have hm : j % z < z := Nat.mod_lt _ hz0
        have ej : j / z * z + j % z = j := by rw [Nat.mul_comm]; exact Nat.div_add_mod j z
        have g := flat_get hz l (j / z) l[j / z] (List.getElem?_eq_getElem hd) (j % z) hm
        rw [ej, hj] at g
        have := (hr (j / z) l[j / z] (List.getElem?_eq_getElem hd)).1 (j % z) v g.symm
        rw [Deep.add_add, ej] at this
        exact this
      exact ⟨some x, l, c, rfl, ⟨fun i a hv => (hr _ _ hv).1, D, h2.1, by rw [← hb]; exact h2.2, fun a ha => by
        obtain ⟨i, hi⟩ := List.getElem?_of_mem ha
        exact (hr _ _ hi).2⟩, D, h1⟩
    | _ => exact h.elim
theorem inG (hu : P.underlying t = some (.slice e)) (hs : P.cellsOf e = z) (hb : P.bytesOf e = B) (hz0 : 0 < z) (hz : ∀ a, (enc a).length = z)
    (he : ∀ f cs, Rds P R f e cs → ∃ a, cs = enc a ∧ Q a) {v : Value} {vals : List Value} (h : InOk P R (t, none) v vals) : ∃ ad l c, v = .slice ad (List.length l) c ∧ LstG enc z B Q R ad l ∧ vals = [.agg ⟨l.flatMap enc⟩] ∧ l.length ≤ c := by
  obtain ⟨⟨f, h1⟩, h2⟩ := h
  rw [show P.underlying _ = _ from hu] at h2
  obtain ⟨cs, h3, rfl⟩ := h2
  have hv : vcells v = [v] := by cases v <;> first | rfl | (cases h3)
  rw [hv] at h1
  obtain ⟨ad, l, c, rfl, L, h4, h5⟩ := lstG_of hu hs hb hz0 hz he h1
  rw [hs, h4] at h3
  injection h3 with h3
  subst h3
  exact ⟨ad, l, c, rfl, L, rfl, h5⟩
theorem lstG_few {ad : Option Addr} {l : List α} (L : LstG enc z B Q R ad l) : l.length < 9223372036854775808 ∧ l.length * B ≤ 140737488351232 ∧ ∀ a, a ∈ l → Q a := by
  cases ad with
  | none => have : l = [] := L; subst this; exact ⟨by simp, by simp, fun a h => by cases h⟩
  | some x => have D : DatG enc z B Q R x l := L; exact ⟨D.few, D.bnd, D.ok⟩
theorem lstG_at {ad : Option Addr} {l : List α} (L : LstG enc z B Q R ad l) {i : Nat} (hi : i < l.length) : ∃ x a, ad = some x ∧ l[i]? = some a ∧ Q a ∧ (∀ o v, (enc a)[o]? = some v → R ((x.add (i * z)).add o) = some v) ∧ l.drop i = a :: l.drop (i + 1) := by
  cases ad with
  | none => have : l = [] := L; rw [this] at hi; cases hi
  | some x =>
    have D : DatG enc z B Q R x l := L
    refine ⟨x, l[i], rfl, List.getElem?_eq_getElem hi, D.ok _ (List.getElem_mem hi), D.rd i _ (List.getElem?_eq_getElem hi), List.drop_eq_getElem_cons hi⟩
end
def idxF {α : Type} (p : α → Bool) : Nat → List α → Int
  | _, [] => .negSucc 0
  | i, v :: l => if p v then .ofNat i else idxF p (i + 1) l
end Go.Proofs.YtaepplhgeeaidaaDoor.Ev
end
section
set_option linter.unusedVariables false
namespace Go.Proofs.YtaepplhgeeaidaaDoor
open Go Ev
abbrev T := ByteArray
abbrev Lab := T × T
abbrev Mat := Int × T × T
def cmpT (a b : T) : Int := Extern.BytealgCompare.cmp a b
def digB (c : Nat) : Bool := !(decide (c < 48)) && !(decide (57 < c))
def lowB (c : Nat) : Bool := !(decide (c < 97)) && !(decide (122 < c))
def inB (c : Nat) : Bool := (lowB c || digB c) || c == 95
theorem inB_eq {c : Nat} {b1 b2 b3 b4 b5 : Bool} (h1 : decide (c < 97) = b1) (h2 : decide (122 < c) = b2) (h3 : decide (c < 48) = b3) (h4 : decide (57 < c) = b4) (h5 : (c == 95) = b5) : inB c = (((!b1 && !b2) || (!b3 && !b4)) || b5) := by
  subst h1 h2 h3 h4 h5
  rfl
def allN (t : T) : Nat → Nat → Bool
  | _, 0 => true
  | i, k + 1 => inB (t[i]!).toNat && allN t (i + 1) k
def namB (s : T) : Bool := !(decide (s.size < 1)) && (!(decide (24 < s.size)) && (!(digB (s[0]!).toNat) && allN s 0 s.size))
def wrL (x : Lab) : Bool := !(namB x.1) || (eqT x.2 ⟨⟨[]⟩⟩ || decide (64 < x.2.size))
def wrM (x : Mat) : Bool := !(x.1 == 1 || x.1 == 2) || (!(namB x.2.1) || decide (64 < x.2.2.size))
def ascF : List Lab → Bool
  | x :: y :: l => decide (cmpT x.1 y.1 < 0) && ascF (y :: l)
  | _ => true
def chkL (l : List Lab) : Int := if 8 < l.length then 3 else if !(l.any wrL) && ascF l then 0 else 2
def chkM (m : List Mat) : Int := if 8 < m.length then 3 else if m.any wrM then 2 else 0
def fstT (l : List Lab) (n : T) : Lab := (l.find? fun x => cmpT x.1 n == 0).getD (⟨⟨[]⟩⟩, ⟨⟨[]⟩⟩)
def askB (l : List Lab) (x : Mat) : Bool := eqT (fstT l x.2.1).2 x.2.2 == (x.1 == 1)
def takB (m : List Mat) (l : List Lab) : Bool := chkM m == 0 && (chkL l == 0 && m.all (askB l))
def pickL (l : List Lab) (ns : List T) (b : Bool) : List Lab := if chkL l = 0 then l.filter (fun x => ns.any (fun s => eqT s x.1) == b) else []
def eL (x : Lab) : List Value := [.string x.1, .string x.2]
def eM (x : Mat) : List Value := [.int .i64 x.1, .string x.2.1, .string x.2.2]
def dT : List Value → List T
  | .string s :: l => s :: dT l
  | _ => []
def dL : List Value → List Lab
  | .string a :: .string b :: l => (a, b) :: dL l
  | _ => []
def dM : List Value → List Mat
  | .int _ k :: .string a :: .string b :: l => (k, a, b) :: dM l
  | _ => []
theorem dL_e : ∀ l : List Lab, dL (l.flatMap eL) = l
  | [] => rfl
  | x :: l => by show (x.1, x.2) :: dL (l.flatMap eL) = x :: l; rw [dL_e l]
theorem dM_e : ∀ l : List Mat, dM (l.flatMap eM) = l
  | [] => rfl
  | x :: l => by show (x.1, x.2.1, x.2.2) :: dM (l.flatMap eM) = x :: l; rw [dM_e l]
def litF (k : Int) : Nat → List T → Bool
  | i, s :: l => if k < i then false else if 300 < s.size then false else litF k (i + 1) l
  | i, [] => decide ((i : Int) ≤ k)
def labF : List Lab → List Lab → Bool
  | x :: l, y :: m => eqT x.1 y.1 && (eqT x.2 y.2 && labF l m)
  | _, _ => true
def labB (l m : List Lab) : Bool := decide (l.length = m.length) && labF l m
def ltU : Nat → List Value → Option Value
  | 0, [.string s] => some (.bool (namB s))
  | 1, [.string a, .string b] => some (.int .i64 (cmpT a b))
  | 2, [.agg ⟨c⟩] => some (.int .i64 (idxF wrL 0 (dL c)))
  | 3, [.agg ⟨c⟩] => some (.int .i64 (idxF wrM 0 (dM c)))
  | 4, [.agg ⟨c⟩] => some (.agg ⟨(dL c).flatMap eL⟩)
  | 5, [.agg ⟨c⟩] => some (.int .i64 (.ofNat (dL c).length))
  | 6, [.agg ⟨c⟩] => some (.bool (ascF (dL c)))
  | 7, [.agg ⟨c⟩, .string n] => some (.string (fstT (dL c) n).1)
  | 8, [.agg ⟨c⟩, .string n] => some (.string (fstT (dL c) n).2)
  | 9, [.agg ⟨c⟩, .string n] => some (.int .i64 (idxF (fun s => eqT s n) 0 (dT c)))
  | 10, [.agg ⟨c⟩, .int _ k] => some (.bool (litF k 0 (dT c)))
  | 11, [.agg ⟨c⟩, .agg ⟨d⟩] => some (.bool (labB (dL c) (dL d)))
  | 12, [.agg ⟨c⟩] => some (.int .i64 (chkL (dL c)))
  | 13, [.agg ⟨c⟩] => some (.int .i64 (chkM (dM c)))
  | 14, [.agg ⟨c⟩, .agg ⟨d⟩, .bool b] => some (.agg ⟨(pickL (dL c) (dT d) b).flatMap eL⟩)
  | 15, [.agg ⟨c⟩, .agg ⟨d⟩, .bool b] => some (.int .i64 (.ofNat (pickL (dL c) (dT d) b).length))
  | 16, [.agg ⟨c⟩, .agg ⟨d⟩] => some (.bool (takB (dM c) (dL d)))
  | _, _ => none
section
variable {cx : Cx} {R : Addr → Option Value} (hU : cx.U = ltU)
include hU
theorem u0 (s : T) : uRd cx R 16 [.string s] = some (.bool (namB s)) := by rw [n_U 0, hU]; rfl
theorem u1 (a b : T) : uRd cx R 17 [.string a, .string b] = some (.int .i64 (cmpT a b)) := by rw [n_U 1, hU]; rfl
theorem u2 (l : List Lab) : uRd cx R 18 [.agg ⟨l.flatMap eL⟩] = some (.int .i64 (idxF wrL 0 l)) := by rw [n_U 2, hU]; show some (Value.int .i64 (idxF wrL 0 (dL _))) = _; rw [dL_e]
theorem u3 (l : List Mat) : uRd cx R 19 [.agg ⟨l.flatMap eM⟩] = some (.int .i64 (idxF wrM 0 l)) := by rw [n_U 3, hU]; show some (Value.int .i64 (idxF wrM 0 (dM _))) = _; rw [dM_e]
theorem u8 (l : List Lab) (n : T) : uRd cx R 24 [.agg ⟨l.flatMap eL⟩, .string n] = some (.string (fstT l n).2) := by rw [n_U 8, hU]; show some (Value.string (fstT (dL _) n).2) = _; rw [dL_e]
theorem u16 (m : List Mat) (l : List Lab) : uRd cx R 32 [.agg ⟨m.flatMap eM⟩, .agg ⟨l.flatMap eL⟩] = some (.bool (takB m l)) := by rw [n_U 16, hU]; show some (Value.bool (takB (dM _) (dL _))) = _; rw [dM_e, dL_e]
end
end Go.Proofs.YtaepplhgeeaidaaDoor
end
section
set_option linter.unusedVariables false
namespace Go.Proofs.YtaepplhgeeaidaaDoor
open Go Ev
abbrev B8 := List UInt8
abbrev Tok := Int × B8 × Int × Int
def tx (l : B8) : ByteArray := ⟨⟨l⟩⟩
def tok0 : Tok := (0, [], 0, 0)
def wordB (c : Nat) : Bool := (lowB c || c == 95) || digB c
def letB (c : Nat) : Bool := lowB c || c == 95
def blB (c : Nat) : Bool := c == 32 || (c == 9 || (c == 10 || c == 13))
def runF (p : Nat → Bool) : B8 → Nat
  | [] => 0
  | c :: l => if p c.toNat then runF p l + 1 else 0
def skipF : Bool → B8 → Nat
  | _, [] => 0
  | true, c :: l => if c.toNat = 10 then skipF false l + 1 else skipF true l + 1
  | false, c :: l => if c.toNat = 35 then skipF true l + 1 else if blB c.toNat then skipF false l + 1 else 0
theorem run_le (p : Nat → Bool) : ∀ l, runF p l ≤ l.length
  | [] => Nat.le_refl _
  | c :: l => by
    unfold runF
    split
    · have := run_le p l
      simp only [List.length_cons]; omega
    · exact Nat.zero_le _
theorem skip_le : ∀ (l : B8) (b : Bool), skipF b l ≤ l.length
  | [], b => by cases b <;> exact Nat.le_refl _
  | c :: l, b => by
    have h1 := skip_le l true
    have h2 := skip_le l false
    cases b <;> unfold skipF <;> simp only [List.length_cons] <;> split <;> try omega
    split <;> omega
def hexB (c : UInt8) : Int := Lib.indexByte [48, 49, 50, 51, 52, 53, 54, 55, 56, 57, 97, 98, 99, 100, 101, 102] c
def hexV (a b : Int) : UInt8 := UInt8.ofNat (wrapA .u8 (wrapA .i64 (wrapA .i64 (16 * a) + b))).toNat
def escF : B8 → UInt8 × Nat
  | _ :: c :: r => if c.toNat = 92 ∨ c.toNat = 34 then (c, 2) else match r with
    | h :: l :: _ => if c.toNat = 120 ∧ 0 ≤ hexB h ∧ 0 ≤ hexB l then (hexV (hexB h) (hexB l), 4) else (0, 0)
    | _ => (0, 0)
  | _ => (0, 0)
def plB (c : Nat) : Bool := !(decide (c < 32)) && (!(decide (126 < c)) && (!(c == 92) && !(c == 34)))
def unqL : Nat → B8 → B8 → Option (B8 × Nat)
  | 0, _, _ => none
  | _ + 1, [], _ => none
  | k + 1, c :: r, b => if 64 < b.length then none else
    if c.toNat = 34 then some (b, 1) else
    if c.toNat = 92 then (if (escF (c :: r)).2 = 0 then none else (unqL k ((c :: r).drop (escF (c :: r)).2) (b ++ [(escF (c :: r)).1])).map fun p => (p.1, p.2 + (escF (c :: r)).2)) else
    if plB c.toNat = true then (unqL k r (b ++ [c])).map fun p => (p.1, p.2 + 1) else none
def unqF : B8 → Option (B8 × Nat)
  | [] => none
  | c :: r => if c.toNat = 34 then (unqL (r.length + 1) r []).map fun p => (p.1, p.2 + 1) else none
theorem esc_le (l : B8) : (escF l).2 ≤ l.length := by
  unfold escF
  split
  · rename_i c r
    split
    · simp only [List.length_cons]; omega
    · split
      · split
        · simp only [List.length_cons]; omega
        · exact Nat.zero_le _
      · exact Nat.zero_le _
  · exact Nat.zero_le _
theorem esc_app (t : B8) (l : B8) (h : (escF l).2 ≠ 0) : escF (l ++ t) = escF l := by
  revert h
  rcases l with _ | ⟨a, _ | ⟨c, _ | ⟨x, _ | ⟨y, l⟩⟩⟩⟩
  · intro h; exact absurd rfl h
  · intro h; exact absurd rfl h
  · intro h
    have e : escF [a, c] = if c.toNat = 92 ∨ c.toNat = 34 then (c, 2) else (0, 0) := rfl
    by_cases k : c.toNat = 92 ∨ c.toNat = 34
    · rw [e, if_pos k]
      show (if c.toNat = 92 ∨ c.toNat = 34 then _ else _) = _
      rw [if_pos k]
    · rw [e, if_neg k] at h; exact absurd rfl h
  · intro h
    have e : escF [a, c, x] = if c.toNat = 92 ∨ c.toNat = 34 then (c, 2) else (0, 0) := rfl
    by_cases k : c.toNat = 92 ∨ c.toNat = 34
    · rw [e, if_pos k]
      show (if c.toNat = 92 ∨ c.toNat = 34 then _ else _) = _
      rw [if_pos k]
    · rw [e, if_neg k] at h; exact absurd rfl h
  · intro _; rfl
theorem unq_mono : ∀ (k m : Nat) (r b : B8) (p : B8 × Nat), unqL k r b = some p → k ≤ m → unqL m r b = some p
  | 0, _, _, _, _, h, _ => by cases h
  | k + 1, 0, _, _, _, _, hm => absurd hm (by omega)
  | k + 1, m + 1, [], b, p, h, hm => by cases h
  | k + 1, m + 1, c :: r, b, p, h, hm => by
    have ih := unq_mono k m
    revert h
    show (if 64 < b.length then none else if c.toNat = 34 then some (b, 1) else if c.toNat = 92 then (if (escF (c :: r)).2 = 0 then none else (unqL k ((c :: r).drop (escF (c :: r)).2) (b ++ [(escF (c :: r)).1])).map _) else if plB c.toNat = true then (unqL k r (b ++ [c])).map _ else none) = some p → (if 64 < b.length then none else if c.toNat = 34 then some (b, 1) else if c.toNat = 92 then (if (escF (c :: r)).2 = 0 then none else (unqL m ((c :: r).drop (escF (c :: r)).2) (b ++ [(escF (c :: r)).1])).map _) else if plB c.toNat = true then (unqL m r (b ++ [c])).map _ else none) = some p
    split
    · exact fun h => h
    · split
      · exact fun h => h
      · split
        · split
          · exact fun h => h
          · intro h
            obtain ⟨q, hq, rfl⟩ := Option.map_eq_some_iff.1 h
            rw [ih _ _ q hq (by omega)]
            rfl
        · split
          · intro h
            obtain ⟨q, hq, rfl⟩ := Option.map_eq_some_iff.1 h
            rw [ih _ _ q hq (by omega)]
            rfl
          · exact fun h => h
theorem unq_app (t : B8) : ∀ (k : Nat) (r b : B8) (p : B8 × Nat), unqL k r b = some p → unqL k (r ++ t) b = some p ∧ p.2 ≤ r.length
  | 0, _, _, _, h => by cases h
  | k + 1, [], b, p, h => by cases h
  | k + 1, c :: r, b, p, h => by
    have ih := unq_app t k
    revert h
    show (if 64 < b.length then none else if c.toNat = 34 then some (b, 1) else if c.toNat = 92 then (if (escF (c :: r)).2 = 0 then none else (unqL k ((c :: r).drop (escF (c :: r)).2) (b ++ [(escF (c :: r)).1])).map _) else if plB c.toNat = true then (unqL k r (b ++ [c])).map _ else none) = some p → (if 64 < b.length then none else if c.toNat = 34 then some (b, 1) else if c.toNat = 92 then (if (escF ((c :: r) ++ t)).2 = 0 then none else (unqL k (((c :: r) ++ t).drop (escF ((c :: r) ++ t)).2) (b ++ [(escF ((c :: r) ++ t)).1])).map _) else if plB c.toNat = true then (unqL k (r ++ t) (b ++ [c])).map _ else none) = some p ∧ _
    split
    · intro h; cases h
    · split
      · intro h
        injection h with h
        subst h
        exact ⟨rfl, by simp only [List.length_cons]; omega⟩
      · split
        · split
          · intro h; cases h
          · rename_i hz
            intro h
            rw [esc_app t _ hz, if_neg hz]
            obtain ⟨q, hq, rfl⟩ := Option.map_eq_some_iff.1 h
            have hl := esc_le (c :: r)
            obtain ⟨k1, k2⟩ := ih _ _ q hq
            rw [List.drop_append_of_le_length hl, k1]
            refine ⟨congrArg some (Prod.ext rfl (congrArg (q.2 + ·) (congrArg Prod.snd (esc_app t (c :: r) hz)))), ?_⟩
            rw [List.length_drop] at k2
            show q.2 + _ ≤ _
            omega
        · split
          · intro h
            obtain ⟨q, hq, rfl⟩ := Option.map_eq_some_iff.1 h
            obtain ⟨k1, k2⟩ := ih _ _ q hq
            rw [k1]
            refine ⟨rfl, ?_⟩
            show q.2 + 1 ≤ _
            simp only [List.length_cons]; omega
          · intro h; cases h
theorem unqF_app (t x : B8) {p : B8 × Nat} (h : unqF x = some p) : unqF (x ++ t) = some p ∧ p.2 ≤ x.length := by
  cases x with
  | nil => cases h
  | cons c r =>
    revert h
    show (if c.toNat = 34 then (unqL (r.length + 1) r []).map _ else none) = _ → (if c.toNat = 34 then (unqL ((r ++ t).length + 1) (r ++ t) []).map _ else none) = _ ∧ _
    split
    · intro h
      obtain ⟨q, hq, rfl⟩ := Option.map_eq_some_iff.1 h
      obtain ⟨k1, k2⟩ := unq_app t _ _ _ q hq
      rw [unq_mono _ ((r ++ t).length + 1) _ _ _ k1 (by rw [List.length_append]; omega)]
      refine ⟨rfl, ?_⟩
      show q.2 + 1 ≤ _
      simp only [List.length_cons]; omega
    · intro h; cases h
section
variable (nam : B8 → Bool) (val : B8 → Option Int)
def wordF (x : B8) : Tok × Nat := if nam (x.take (runF wordB x)) = true then ((1, x.take (runF wordB x), 0, 0), runF wordB x) else (tok0, 0)
def textF (x : B8) : Tok × Nat := match unqF x with
  | some p => if p.2 = 0 then (tok0, 0) else ((3, p.1, 0, 0), p.2)
  | none => (tok0, 0)
def digN (x : B8) : Nat := 1 + runF digB (x.drop 1)
def numF (x : B8) : Tok × Nat := if digN x < x.length ∧ letB ((x.getD (digN x) 0).toNat) = true then (tok0, 0) else match val (x.take (digN x)) with
  | some n => ((2, x.take (digN x), n, 0), digN x)
  | none => (tok0, 0)
def signF (x : B8) (n : Nat) : Tok × Nat := ((4, x.take n, 0, 0), n)
def signs : List Nat := [43, 42, 40, 41, 123, 125, 91, 93, 44, 58]
def firstF (x : B8) (neg : Bool) : Tok × Nat := match x with
  | [] => (tok0, 0)
  | c :: r =>
    if letB c.toNat = true then wordF nam x else
    if c.toNat = 34 then textF x else
    if c.toNat = 45 then (if neg = true ∧ digB (r.headD 0).toNat = true then numF val x else signF x 1) else
    if digB c.toNat = true then numF val x else
    if c.toNat = 33 then (if (r.headD 0).toNat = 61 then signF x 2 else (tok0, 0)) else
    if c.toNat = 61 ∨ c.toNat = 60 ∨ c.toNat = 62 then (if (r.headD 0).toNat = 61 then signF x 2 else signF x 1) else
    if c.toNat ∈ signs then signF x 1 else (tok0, 0)
variable {nam val}
theorem digN_le {x : B8} (hx : x ≠ []) : digN x ≤ x.length := by
  cases x with
  | nil => exact absurd rfl hx
  | cons c r =>
    show 1 + runF digB r ≤ _
    have := run_le digB r
    simp only [List.length_cons]; omega
theorem firstF_le (x : B8) (neg : Bool) : (firstF nam val x neg).2 ≤ x.length := by
  cases x with
  | nil => exact Nat.le_refl _
  | cons c r =>
    have two : (r.headD 0).toNat = 61 → 2 ≤ (c :: r).length := by
      cases r with
      | nil => intro h; exact absurd h (by decide)
      | cons a r => intro _; simp only [List.length_cons]; omega
    have one : 1 ≤ (c :: r).length := by simp only [List.length_cons]; omega
    have w : (wordF nam (c :: r)).2 ≤ (c :: r).length := by
      unfold wordF
      split
      · exact run_le _ _
      · exact Nat.zero_le _
    have n : (numF val (c :: r)).2 ≤ (c :: r).length := by
      unfold numF
      split
      · exact Nat.zero_le _
      · split
        · exact digN_le (by simp)
        · exact Nat.zero_le _
    have q : (textF (c :: r)).2 ≤ (c :: r).length := by
      unfold textF
      split
      · rename_i p hp
        split
        · exact Nat.zero_le _
        · exact (unqF_app [] _ hp).2
      · exact Nat.zero_le _
    unfold firstF
    simp only
    repeat' split
    all_goals first
      | exact w
      | exact n
      | exact q
      | exact one
      | exact two (by assumption)
      | exact Nat.zero_le _
end
def endT (n : Nat) : Tok := (5, [], 0, Int.ofNat n)
def putAt (x : Tok) (n : Nat) : Tok := (x.1, x.2.1, x.2.2.1, Int.ofNat n)
section
variable (F : B8 → Bool → Tok × Nat) (con : B8 → Bool)
def negF (l : List Tok) : Bool := match l.getLast? with
  | none => true
  | some x => x.1 == 4 && !con x.2.1
def nxF (s : B8) (i n : Nat) : Nat := i + n + skipF false (s.drop (i + n))
def allL (s : B8) : Nat → Nat → List Tok → Except Nat (List Tok)
  | 0, i, _ => .error i
  | k + 1, i, l => if i < s.length then if (F (s.drop i) (negF con l)).2 = 0 then .error i else allL s k (nxF s i (F (s.drop i) (negF con l)).2) (l ++ [putAt (F (s.drop i) (negF con l)).1 i]) else .ok (l ++ [endT s.length])
def allF (s : B8) : Except Nat (List Tok) := allL F con s (s.length + 1) (skipF false s) []
inductive Lexes (s : B8) : Nat → List Tok → List Tok → Prop
  | done {i : Nat} {l : List Tok} (h : s.length ≤ i) : Lexes s i l (l ++ [endT s.length])
  | step {i : Nat} {l a : List Tok} (h : i < s.length) (hn : (F (s.drop i) (negF con l)).2 ≠ 0) (g : Lexes s (nxF s i (F (s.drop i) (negF con l)).2) (l ++ [putAt (F (s.drop i) (negF con l)).1 i]) a) : Lexes s i l a
variable {F con}
theorem lexes_of {s : B8} : ∀ (k i : Nat) (l a : List Tok), allL F con s k i l = .ok a → Lexes F con s i l a
  | 0, _, _, _, h => by cases h
  | k + 1, i, l, a, h => by
    unfold allL at h
    split at h
    · rename_i hi
      split at h
      · cases h
      · rename_i hn
        exact .step hi hn (lexes_of k _ _ _ h)
    · injection h with h
      subst h
      exact .done (by omega)
theorem of_lexes {s : B8} {i : Nat} {l a : List Tok} (h : Lexes F con s i l a) : ∀ k, 0 < k → s.length < i + k → allL F con s k i l = .ok a := by
  induction h with
  | done h =>
    rename_i i l
    intro k h0 hk
    cases k with
    | zero => omega
    | succ k =>
      unfold allL
      rw [if_neg (by omega)]
  | step h hn g ih =>
    rename_i i l a
    intro k h0 hk
    cases k with
    | zero => omega
    | succ k =>
      unfold allL
      rw [if_pos h, if_neg hn]
      refine ih k (by omega) ?_
      unfold nxF
      omega
theorem nx_le {s : B8} {i n : Nat} (h : i + n ≤ s.length) : nxF s i n ≤ s.length := by
  unfold nxF
  have := skip_le (s.drop (i + n)) false
  rw [List.length_drop] at this
  omega
end
end Go.Proofs.YtaepplhgeeaidaaDoor
end
section
set_option linter.unusedVariables false
set_option linter.unusedSimpArgs false
set_option linter.unusedSectionVars false
namespace Go.Proofs.YtaepplhgeeaidaaDoor
open Go Go.RowKit Ev
def tl (s : ByteArray) : B8 := s.data.toList
theorem tl_tx (l : B8) : tl (tx l) = l := rfl
theorem tx_tl (s : ByteArray) : tx (tl s) = s := rfl
theorem loop_eq (bs : ByteArray) : ∀ (k i : Nat) (r : List UInt8), bs.size - i = k → ByteArray.toList.loop bs i r = r.reverse ++ (tl bs).drop i := by
  intro k
  induction k with
  | zero =>
    intro i r h
    unfold ByteArray.toList.loop
    rw [if_neg (by omega), List.drop_of_length_le (show (tl bs).length ≤ i from by show bs.size ≤ i; omega), List.append_nil]
  | succ k ih =>
    intro i r h
    unfold ByteArray.toList.loop
    rw [if_pos (by omega), ih (i + 1) _ (by omega)]
    have hl : i < (tl bs).length := by show i < bs.size; omega
    rw [List.drop_eq_getElem_cons hl, List.reverse_cons, List.append_assoc]
    have h1 : bs.get! i = (tl bs)[i] := by
      have : bs.get! i = bs.data[i]! := rfl
      rw [this, getElem!_pos bs.data i hl]
      rfl
    rw [h1]
    rfl
theorem eqT_tx (a b : ByteArray) : eqT a b = (tl a == tl b) := by
  unfold eqT ByteArray.toList
  rw [loop_eq a _ 0 [] rfl, loop_eq b _ 0 [] rfl]
  rfl
theorem ext_tx (l : B8) (i j : Nat) : (tx l).extract i j = tx ((l.drop i).take (j - i)) := by
  have h : ((tx l).extract i j).data = (tx l).data.extract i j := ByteArray.data_extract
  have h2 : ((tx l).data.extract i j).toList = (l.drop i).take (j - i) := by
    rw [Array.toList_extract]
    rfl
  rw [← tx_tl ((tx l).extract i j)]
  unfold tl
  rw [h, h2]
section
variable {cx : Cx} {R : Addr → Option Value}
theorem x_len (l : B8) : uRd cx R 4 [.string (tx l)] = some (.int .i64 (Int.ofNat l.length)) := n_slen (tx l)
theorem x_byte {l : B8} {i : Nat} (h : i < l.length) (k : IntKind) : uRd cx R 10 [num 5, .string (tx l), .int k (.ofNat i)] = some (.int .u8 (Int.ofNat (l.getD i 0).toNat)) := by
  rw [uRd_rd _ _ _ _ (by omega)]
  show (match l[i]? with | some b => some (Value.int .u8 b.toNat) | none => none) = _
  rw [List.getD_eq_getElem?_getD, List.getElem?_eq_getElem h]
  rfl
theorem x_cut (l : B8) (k k' : IntKind) (i j : Nat) : uRd cx R 10 [num 6, .string (tx l), .int k (.ofNat i), .int k' (.ofNat j)] = some (.string (tx ((l.drop i).take (j - i)))) := by
  rw [uRd_rd _ _ _ _ (by omega)]
  show some (Value.string ((tx l).extract i j)) = _
  rw [ext_tx]
theorem x_t12 (l : B8) (k k' : IntKind) (i j : Nat) : uRd cx R 8 [num 12, .string (tx l), .int k (.ofNat i), .int k' (.ofNat j)] = some (.bool (Nat.ble i j && Nat.ble j l.length)) := by rw [n_tr]; rfl
theorem x_t10 (l : B8) (k : IntKind) (i : Nat) : uRd cx R 8 [num 10, .string (tx l), .int k (.ofNat i)] = some (.bool (Nat.blt i l.length)) := by rw [n_tr]; rfl
theorem x_seq (t : Nat) (c : Bool) (a b : B8) : uRd cx R 0 [num 11, num t, .bool c, .string (tx a), .string (tx b)] = some (.bool (a == b)) := by
  rw [n_seq, eqT_tx]
  rfl
def eB (c : UInt8) : List Value := [.int .u8 (Int.ofNat c.toNat)]
theorem bytes_eB : ∀ l : B8, bytesA (l.flatMap eB) = some l
  | [] => rfl
  | c :: l => by
    show (match bytesA (l.flatMap eB) with | some bs => some (UInt8.ofNat (Int.ofNat c.toNat).toNat :: bs) | none => none) = _
    rw [bytes_eB l]
    show some (UInt8.ofNat c.toNat :: l) = _
    rw [UInt8.ofNat_toNat]
theorem x_text (l : B8) : uRd cx R 10 [num 8, .agg ⟨l.flatMap eB⟩] = some (.string (tx l)) := by
  rw [uRd_rd _ _ _ _ (by omega)]
  show (match bytesA (l.flatMap eB) with | some bs => some (Value.string ⟨⟨bs⟩⟩) | none => none) = _
  rw [bytes_eB]
  rfl
end
def eTok (x : Tok) : List Value := [.int .i64 x.1, .string (tx x.2.1), .int .i64 x.2.2.1, .int .i64 x.2.2.2]
def dTok : List Value → List Tok
  | .int _ a :: .string s :: .int _ b :: .int _ c :: l => (a, tl s, b, c) :: dTok l
  | _ => []
theorem eTok_len (x : Tok) : (eTok x).length = 4 := rfl
theorem dTok_e : ∀ l : List Tok, dTok (l.flatMap eTok) = l
  | [] => rfl
  | x :: l => by
    show (x.1, tl (tx x.2.1), x.2.2.1, x.2.2.2) :: dTok (l.flatMap eTok) = x :: l
    rw [dTok_e l]
    rfl
def valF (x : B8) : Option Int := match Lib.parseIntB 64 x with
  | .ok v => if Lib.itoa v = x then some v else none
  | _ => none
def namF (x : B8) : Bool := namB (tx x)
def conF (x : B8) : Bool := decide (0 ≤ Lib.index [41, 93, 125] x)
def frsF (x : B8) (neg : Bool) : Tok × Nat := firstF namF valF x neg
def unqP (x : B8) : B8 × Nat := (unqF x).getD ([], 0)
def idxB (a : B8) (c : Int) : Int := Lib.indexByte a c.toNat.toUInt8
def tksB (w : Bool) : List Tok → List Tok → Bool
  | x :: l, y :: m => x.1 == y.1 && (x.2.1 == y.2.1 && (x.2.2.1 == y.2.2.1 && ((!w || x.2.2.2 == y.2.2.2) && tksB w l m)))
  | [], [] => true
  | _, _ => false
def allR (s : B8) : List Tok × Int × Nat := if 16384 < s.length then ([], 3, 0) else match allF frsF conF s with
  | .ok l => (l, 0, 0)
  | .error i => ([], 13, i)
def lxU : Nat → List Value → Option Value
  | 0, [.string s] => some (.bool (namB s))
  | 1, [.string s] => some (.int .i64 (Int.ofNat (runF digB (tl s))))
  | 2, [.string s] => some (.int .i64 (Int.ofNat (runF wordB (tl s))))
  | 3, [.string s, .int _ c] => some (.int .i64 (idxB (tl s) c))
  | 4, [.string s] => some (.int .i64 (Int.ofNat (skipF false (tl s))))
  | 5, [.string s] => some (.int .u8 (Int.ofNat (escF (tl s)).1.toNat))
  | 6, [.string s] => some (.int .i64 (Int.ofNat (escF (tl s)).2))
  | 7, [.string s] => some (.string (tx (unqP (tl s)).1))
  | 8, [.string s] => some (.int .i64 (Int.ofNat (unqP (tl s)).2))
  | 9, [.string s] => some (.int .i64 (numF valF (tl s)).1.1)
  | 10, [.string s] => some (.string (tx (numF valF (tl s)).1.2.1))
  | 11, [.string s] => some (.int .i64 (numF valF (tl s)).1.2.2.1)
  | 12, [.string s] => some (.int .i64 (numF valF (tl s)).1.2.2.2)
  | 13, [.string s] => some (.int .i64 (Int.ofNat (numF valF (tl s)).2))
  | 14, [.agg ⟨c⟩] => some (.bool (negF conF (dTok c)))
  | 15, [.string s, .bool b] => some (.int .i64 (frsF (tl s) b).1.1)
  | 16, [.string s, .bool b] => some (.string (tx (frsF (tl s) b).1.2.1))
  | 17, [.string s, .bool b] => some (.int .i64 (frsF (tl s) b).1.2.2.1)
  | 18, [.string s, .bool b] => some (.int .i64 (frsF (tl s) b).1.2.2.2)
  | 19, [.string s, .bool b] => some (.int .i64 (Int.ofNat (frsF (tl s) b).2))
  | 20, [.string s] => some (.agg ⟨(allR (tl s)).1.flatMap eTok⟩)
  | 21, [.string s] => some (.int .i64 (Int.ofNat (allR (tl s)).1.length))
  | 22, [.string s] => some (.int .i64 (allR (tl s)).2.1)
  | 23, [.string s] => some (.int .i64 (Int.ofNat (allR (tl s)).2.2))
  | 24, [.agg ⟨c⟩, .agg ⟨d⟩, .bool b] => some (.bool (tksB b (dTok c) (dTok d)))
  | 26, [.string s] => some (.string s)
  | 27, [.string a, .string b] => some (.bool (decide (0 ≤ Lib.index (tl a) (tl b))))
  | _, _ => none
section
variable {cx : Cx} {R : Addr → Option Value} (hU : cx.U = lxU)
include hU
theorem lu0 (x : B8) : uRd cx R 16 [.string (tx x)] = some (.bool (namF x)) := by rw [n_U 0, hU]; rfl
theorem lu2 (x : B8) : uRd cx R 18 [.string (tx x)] = some (.int .i64 (Int.ofNat (runF wordB x))) := by rw [n_U 2, hU]; rfl
theorem lu3 (x : B8) (k : IntKind) (c : Int) : uRd cx R 19 [.string (tx x), .int k c] = some (.int .i64 (idxB x c)) := by rw [n_U 3, hU]; rfl
theorem lu4 (x : B8) : uRd cx R 20 [.string (tx x)] = some (.int .i64 (Int.ofNat (skipF false x))) := by rw [n_U 4, hU]; rfl
theorem lu5 (x : B8) : uRd cx R 21 [.string (tx x)] = some (.int .u8 (Int.ofNat (escF x).1.toNat)) := by rw [n_U 5, hU]; rfl
theorem lu6 (x : B8) : uRd cx R 22 [.string (tx x)] = some (.int .i64 (Int.ofNat (escF x).2)) := by rw [n_U 6, hU]; rfl
theorem lu7 (x : B8) : uRd cx R 23 [.string (tx x)] = some (.string (tx (unqP x).1)) := by rw [n_U 7, hU]; rfl
theorem lu8 (x : B8) : uRd cx R 24 [.string (tx x)] = some (.int .i64 (Int.ofNat (unqP x).2)) := by rw [n_U 8, hU]; rfl
theorem lu9 (x : B8) : uRd cx R 25 [.string (tx x)] = some (.int .i64 (numF valF x).1.1) := by rw [n_U 9, hU]; rfl
theorem lu10 (x : B8) : uRd cx R 26 [.string (tx x)] = some (.string (tx (numF valF x).1.2.1)) := by rw [n_U 10, hU]; rfl
theorem lu11 (x : B8) : uRd cx R 27 [.string (tx x)] = some (.int .i64 (numF valF x).1.2.2.1) := by rw [n_U 11, hU]; rfl
theorem lu12 (x : B8) : uRd cx R 28 [.string (tx x)] = some (.int .i64 (numF valF x).1.2.2.2) := by rw [n_U 12, hU]; rfl
theorem lu13 (x : B8) : uRd cx R 29 [.string (tx x)] = some (.int .i64 (Int.ofNat (numF valF x).2)) := by rw [n_U 13, hU]; rfl
theorem lu14 (l : List Tok) : uRd cx R 30 [.agg ⟨l.flatMap eTok⟩] = some (.bool (negF conF l)) := by rw [n_U 14, hU]; show some (Value.bool (negF conF (dTok _))) = _; rw [dTok_e]
theorem lu15 (x : B8) (b : Bool) : uRd cx R 31 [.string (tx x), .bool b] = some (.int .i64 (frsF x b).1.1) := by rw [n_U 15, hU]; rfl
theorem lu16 (x : B8) (b : Bool) : uRd cx R 32 [.string (tx x), .bool b] = some (.string (tx (frsF x b).1.2.1)) := by rw [n_U 16, hU]; rfl
theorem lu17 (x : B8) (b : Bool) : uRd cx R 33 [.string (tx x), .bool b] = some (.int .i64 (frsF x b).1.2.2.1) := by rw [n_U 17, hU]; rfl
theorem lu19 (x : B8) (b : Bool) : uRd cx R 35 [.string (tx x), .bool b] = some (.int .i64 (Int.ofNat (frsF x b).2)) := by rw [n_U 19, hU]; rfl
theorem lu26 (x : B8) : uRd cx R 42 [.string (tx x)] = some (.string (tx x)) := by rw [n_U 26, hU]; rfl
theorem lu27 (x y : B8) : uRd cx R 43 [.string (tx x), .string (tx y)] = some (.bool (decide (0 ≤ Lib.index x y))) := by rw [n_U 27, hU]; rfl
end
end Go.Proofs.YtaepplhgeeaidaaDoor
end
