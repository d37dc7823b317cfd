import Derived.Test.YtkgflcpgjdbcdaaGreatDoorEvNv
import Derived.Test.YtkgflcpgjdbcdaaGreatDoorGrD
set_option linter.unusedVariables false
set_option linter.unusedSimpArgs false
namespace Go.Proofs.YtkgflcpgjdbcdaaGreatDoor
section
open Go Go.RowKit Ev
def vN (v : Int × Bool) : Int := if v.2 then 0 else v.1
def gH (S : Int) : Int := wrap64 (S / 18446744073709551616)
def gL (S : Int) : Int := S % 18446744073709551616
theorem oh_ol {n : Int} (b : Bool) : oh n b * 18446744073709551616 + ol n b = vN (n, b) ∨ ¬ SW n := by
  unfold oh ol vN SW
  cases b <;> simp <;> omega
theorem put_h (S n : Int) (b : Bool) (h : SW n) : hiP (gH S) (gL S) (oh n b) (ol n b) = gH (S + vN (n, b)) := by
  have e := (oh_ol (n := n) b).resolve_right (fun x => x h)
  rw [← e]
  generalize oh n b = x
  generalize ol n b = y
  unfold hiP gH gL wrap64
  omega
theorem put_l (S n : Int) (b : Bool) (h : SW n) : loP (gL S) (ol n b) = gL (S + vN (n, b)) := by
  have e := (oh_ol (n := n) b).resolve_right (fun x => x h)
  rw [← e]
  unfold loP gL
  omega
theorem put_o (O : Int) (b : Bool) : loP (gL O) (oo b) = gL (O + oo b) := by unfold loP gL; omega
theorem take_h (S n : Int) (b : Bool) (h : SW n) : hiM (gH S) (gL S) (oh n b) (ol n b) = gH (S - vN (n, b)) := by
  have e := (oh_ol (n := n) b).resolve_right (fun x => x h)
  rw [← e]
  generalize oh n b = x
  generalize ol n b = y
  unfold hiM gH gL wrap64
  omega
theorem take_l (S n : Int) (b : Bool) (h : SW n) : loM (gL S) (ol n b) = gL (S - vN (n, b)) := by
  have e := (oh_ol (n := n) b).resolve_right (fun x => x h)
  rw [← e]
  unfold loM gL
  omega
theorem take_o (O : Int) (b : Bool) : loM (gL O) (oo b) = gL (O - oo b) := by unfold loM gL; omega
abbrev Vs := List (Int × Bool)
def sumV : Vs → Int
  | [] => 0
  | v :: l => sumV l + vN v
def cntV : Vs → Int
  | [] => 0
  | v :: l => cntV l + oo v.2
theorem cnt_len : ∀ l : Vs, 0 ≤ cntV l ∧ cntV l ≤ l.length
  | [] => ⟨Int.le_refl _, Int.le_refl _⟩
  | v :: l => by
    have := cnt_len l
    have h : 0 ≤ oo v.2 ∧ oo v.2 ≤ 1 := by unfold oo; split <;> omega
    show 0 ≤ cntV l + _ ∧ cntV l + _ ≤ ((l.length + 1 : Nat) : Int)
    omega
theorem cnt_mem : ∀ {l : Vs} {v : Int × Bool}, v ∈ l → v.2 = true → 0 < cntV l
  | w :: l, v, h, hv => by
    have h0 := (cnt_len l).1
    show 0 < cntV l + oo w.2
    rcases List.mem_cons.1 h with rfl | h
    · unfold oo; rw [hv]; simp; omega
    · have := cnt_mem h hv
      have : 0 ≤ oo w.2 := by unfold oo; split <;> omega
      omega
theorem sum_perm {l m : Vs} (h : l.Perm m) : sumV l = sumV m := by
  induction h with
  | nil => rfl
  | cons x _ ih => show sumV _ + _ = sumV _ + _; rw [ih]
  | swap x y l => show sumV l + _ + _ = sumV l + _ + _; omega
  | trans _ _ h1 h2 => exact h1.trans h2
theorem cnt_perm {l m : Vs} (h : l.Perm m) : cntV l = cntV m := by
  induction h with
  | nil => rfl
  | cons x _ ih => show cntV _ + _ = cntV _ + _; rw [ih]
  | swap x y l => show cntV l + _ + _ = cntV l + _ + _; omega
  | trans _ _ h1 h2 => exact h1.trans h2
theorem sum_app : ∀ l m : Vs, sumV (l ++ m) = sumV l + sumV m
  | [], m => by show sumV m = 0 + _; omega
  | v :: l, m => by show sumV (l ++ m) + _ = sumV l + _ + _; rw [sum_app l m]; omega
theorem cnt_app : ∀ l m : Vs, cntV (l ++ m) = cntV l + cntV m
  | [], m => by show cntV m = 0 + _; omega
  | v :: l, m => by show cntV (l ++ m) + _ = cntV l + _ + _; rw [cnt_app l m]; omega
theorem sum_take {l : Vs} {i : Nat} {v : Int × Bool} (h : l[i]? = some v) : sumV (l.take (i + 1)) = sumV (l.take i) + vN v ∧ cntV (l.take (i + 1)) = cntV (l.take i) + oo v.2 := by
  rw [List.take_add_one, h, sum_app, cnt_app]
  refine ⟨?_, ?_⟩
  · show _ + (0 + _) = _; omega
  · show _ + (0 + _) = _; omega
def cv : Vs → List Value
  | [] => []
  | v :: l => .int .i64 v.1 :: .bool v.2 :: cv l
theorem cv_len : ∀ l : Vs, (cv l).length = l.length * 2
  | [] => rfl
  | v :: l => by show (cv l).length + 1 + 1 = (l.length + 1) * 2; rw [cv_len l]; omega
theorem cv_get : ∀ {l : Vs} {i : Nat} {v : Int × Bool}, l[i]? = some v → (cv l)[i * 2 + 0]? = some (.int .i64 v.1) ∧ (cv l)[i * 2 + 1]? = some (.bool v.2)
  | w :: l, 0, v, h => by
    injection h with h
    subst h
    exact ⟨rfl, rfl⟩
  | w :: l, i + 1, v, h => by
    have := cv_get (l := l) (i := i) h
    rw [show (i + 1) * 2 + 0 = i * 2 + 0 + 1 + 1 by omega, show (i + 1) * 2 + 1 = i * 2 + 1 + 1 + 1 by omega]
    exact this
theorem cv_set : ∀ {l : Vs} {i : Nat} {v : Int × Bool}, i < l.length → overL (cv l) (i * 2 + 0) [.int .i64 v.1, .bool v.2] = cv (l.set i v)
  | w :: l, 0, v, h => by
    show overL (.int .i64 w.1 :: .bool w.2 :: cv l) 0 _ = .int .i64 v.1 :: .bool v.2 :: cv l
    simp [overL]
  | w :: l, i + 1, v, h => by
    have := cv_set (l := l) (i := i) (v := v) (by simpa using h)
    rw [show (i + 1) * 2 + 0 = i * 2 + 0 + 1 + 1 by omega]
    show overL (.int .i64 w.1 :: .bool w.2 :: cv l) _ _ = .int .i64 w.1 :: .bool w.2 :: cv (l.set i v)
    rw [← this]
    simp [overL]
def swap (m : Vs) (i j : Nat) (x y : Int × Bool) : Vs := (m.set i y).set j x
theorem swap_perm {m : Vs} {i j : Nat} {x y : Int × Bool} (hi : m[i]? = some x) (hj : m[j]? = some y) : (swap m i j x y).Perm m := by
  obtain ⟨h1, rfl⟩ := List.getElem?_eq_some_iff.1 hi
  obtain ⟨h2, rfl⟩ := List.getElem?_eq_some_iff.1 hj
  exact List.set_set_perm h1 h2
theorem swap_len {m : Vs} {i j : Nat} {x y : Int × Bool} : (swap m i j x y).length = m.length := by simp [swap]
end
section
open Go Go.RowKit Ev
def dec : List Value → List (Int × Bool)
  | .int _ n :: .bool b :: l => (n, b) :: dec l
  | _ => []
def dec3 : List Value → List (Int × Bool)
  | .int _ _ :: .int _ n :: .bool b :: l => (n, b) :: dec3 l
  | _ => []
def minV : List (Int × Bool) → Int × Bool
  | [] => (0, false)
  | v :: l => l.foldl (fun m x => if x.1 < m.1 then x else m) v
def maxV : List (Int × Bool) → Int × Bool
  | [] => (0, false)
  | v :: l => l.foldl (fun m x => if m.1 < x.1 then x else m) v
def incV : List (Int × Bool) → Int
  | v :: w :: l => (if v.1 ≤ w.1 then w.1 - v.1 else w.1) + incV (w :: l)
  | _ => 0
def anyOver (l : List (Int × Bool)) : Bool := l.any fun v => v.2
def anyBad (l : List (Int × Bool)) : Bool := l.any fun v => v.2 && v.1 != 0
def lastV (l : List (Int × Bool)) : Int × Bool := l.getLastD (0, false)
def overs (l : List (Int × Bool)) (v : Int × Bool) : Int × Bool := if anyOver l then (0, true) else v
def totV (l : List (Int × Bool)) : Int × Bool := (outN (gH (sumV l) * 18446744073709551616 + gL (sumV l)) (gL (cntV l)), outB (gH (sumV l) * 18446744073709551616 + gL (sumV l)) (gL (cntV l)))
def dS (v w : Int × Bool) : Int := vN w - (if v.1 ≤ w.1 then vN v else 0)
def dO (v w : Int × Bool) : Int := oo w.2 - (if v.1 ≤ w.1 then oo v.2 else 0)
def incS (l : List (Int × Bool)) : Nat → Int
  | 0 => 0
  | 1 => 0
  | i + 2 => incS l (i + 1) + dS (l.getD i (0, false)) (l.getD (i + 1) (0, false))
def incO (l : List (Int × Bool)) : Nat → Int
  | 0 => 0
  | 1 => 0
  | i + 2 => incO l (i + 1) + dO (l.getD i (0, false)) (l.getD (i + 1) (0, false))
def icV (l : List (Int × Bool)) : Int × Bool := if anyOver l then (0, true) else (outN (gH (incS l l.length) * 18446744073709551616 + gL (incS l l.length)) (gL (incO l l.length)), outB (gH (incS l l.length) * 18446744073709551616 + gL (incS l l.length)) (gL (incO l l.length)))
def winV (fn : Int) (l : List (Int × Bool)) : (Int × Bool) × Bool :=
  if l = [] ∨ anyBad l = true then ((0, false), false)
  else if fn = 1 then (totV l, true)
  else if fn = 2 then ((l.length, false), true)
  else if fn = 3 then (overs l (minV l), true)
  else if fn = 4 then (overs l (maxV l), true)
  else if fn = 5 then (lastV l, true)
  else if fn = 6 then (icV l, true)
  else ((0, false), false)
def adF (w : Int × Bool) : Int → List (Int × Bool) → Bool
  | S, [] => w.1 == S && w.2 == false
  | S, v :: l => if v.2 = true then true else if 0 < v.1 ∧ 9223372036854775807 - v.1 < S then true else if v.1 < 0 ∧ S < -9223372036854775808 - v.1 then true else adF w (S + v.1) l
def idxF (p : Int × Bool → Bool) : Nat → List (Int × Bool) → Int
  | _, [] => .negSucc 0
  | i, v :: l => if p v then .ofNat i else idxF p (i + 1) l
def idxV (p : Int × Bool → Bool) (l : List (Int × Bool)) : Int := idxF p 0 l
def bwU : Nat → List Value → Option Value
  | 0, [.agg ⟨l⟩] => some (.agg ⟨cv (dec3 l)⟩)
  | 1, [.agg ⟨l⟩] => some (.int .i64 (.ofNat (dec3 l).length))
  | 2, [.agg ⟨l⟩] => some (.bool (anyBad (dec l)))
  | 3, [.agg ⟨l⟩] => some (.bool (anyOver (dec l)))
  | 4, [.agg ⟨l⟩] => some (.int .i64 (minV (dec l)).1)
  | 5, [.agg ⟨l⟩] => some (.bool (minV (dec l)).2)
  | 6, [.agg ⟨l⟩] => some (.int .i64 (maxV (dec l)).1)
  | 7, [.agg ⟨l⟩] => some (.bool (maxV (dec l)).2)
  | 8, [.int _ h, .int _ l, .int _ o, .int _ n, .bool b] => some (.int .i64 (hiP h l (oh n b) (ol n b)))
  | 9, [.int _ h, .int _ l, .int _ o, .int _ n, .bool b] => some (.int .u64 (loP l (ol n b)))
  | 10, [.int _ h, .int _ l, .int _ o, .int _ n, .bool b] => some (.int .u64 (loP o (oo b)))
  | 11, [.int _ h, .int _ l, .int _ o, .int _ n, .bool b] => some (.int .i64 (hiM h l (oh n b) (ol n b)))
  | 12, [.int _ h, .int _ l, .int _ o, .int _ n, .bool b] => some (.int .u64 (loM l (ol n b)))
  | 13, [.int _ h, .int _ l, .int _ o, .int _ n, .bool b] => some (.int .u64 (loM o (oo b)))
  | 14, [.int _ h, .int _ l, .int _ o] => some (.int .i64 (outN (h * 18446744073709551616 + l) o))
  | 15, [.int _ h, .int _ l, .int _ o] => some (.bool (outB (h * 18446744073709551616 + l) o))
  | 16, [.agg ⟨l⟩] => some (.int .i64 (totV (dec l)).1)
  | 17, [.agg ⟨l⟩] => some (.bool (totV (dec l)).2)
  | 18, [.agg ⟨l⟩] => some (.int .i64 (icV (dec l)).1)
  | 19, [.agg ⟨l⟩] => some (.bool (icV (dec l)).2)
  | 20, [.int _ fn, .agg ⟨l⟩] => some (.int .i64 (winV fn (dec3 l)).1.1)
  | 21, [.int _ fn, .agg ⟨l⟩] => some (.bool (winV fn (dec3 l)).1.2)
  | 22, [.int _ fn, .agg ⟨l⟩] => some (.bool (winV fn (dec3 l)).2)
  | 23, [.agg ⟨l⟩] => some (.int .i64 0)
  | 24, [.agg ⟨l⟩] => some (.bool false)
  | 25, [.agg ⟨l⟩] => some (.int .i64 (winV 1 (dec3 l)).1.1)
  | 26, [.agg ⟨l⟩] => some (.bool (winV 1 (dec3 l)).1.2)
  | 27, [.agg ⟨l⟩] => some (.int .i64 (winV 2 (dec3 l)).1.1)
  | 28, [.agg ⟨l⟩] => some (.bool (winV 2 (dec3 l)).1.2)
  | 29, [.agg ⟨l⟩] => some (.int .i64 (winV 3 (dec3 l)).1.1)
  | 30, [.agg ⟨l⟩] => some (.bool (winV 3 (dec3 l)).1.2)
  | 31, [.agg ⟨l⟩] => some (.int .i64 (winV 4 (dec3 l)).1.1)
  | 32, [.agg ⟨l⟩] => some (.bool (winV 4 (dec3 l)).1.2)
  | 33, [.agg ⟨l⟩] => some (.int .i64 (winV 5 (dec3 l)).1.1)
  | 34, [.agg ⟨l⟩] => some (.bool (winV 5 (dec3 l)).1.2)
  | 35, [.agg ⟨l⟩] => some (.int .i64 (winV 6 (dec3 l)).1.1)
  | 36, [.agg ⟨l⟩] => some (.bool (winV 6 (dec3 l)).1.2)
  | 37, [.int _ n, .bool b, .agg ⟨l⟩] => some (.bool (adF (n, b) 0 (dec l)))
  | 38, [.agg ⟨l⟩] => some (.int .i64 (idxV (fun v => v.2 && v.1 != 0) (dec l)))
  | 39, [.agg ⟨l⟩] => some (.int .i64 (idxV (fun v => v.2) (dec l)))
  | _, _ => none
noncomputable def vaOrc (q : List (Value × Bool)) : List (FuncId × OrcF) := []
def vaargs : List ArgT := [(22, none)]
noncomputable def vapls : List Asrt := [{ G := ⟨Tr.putList (symIns Tryz.prog vaargs 0) .nil 0, []⟩, Gh := ⟨.nil, 100, 100⟩, fs := factsIn Tryz.prog vaargs 0, B := 1 }
  , { G := ⟨(Tr.putSome [(0, (unk 0 0))]), []⟩, Gh := ⟨obsTr [], 100, 100⟩, fs := factsIn Tryz.prog vaargs 0, B := 1 }
  , { G := ⟨(Tr.putSome [(0, (unk 0 0)), (3, (.func (.yield 100) ⟨[(unk 6 1)]⟩ ⟨[]⟩))]), []⟩, Gh := ⟨obsTr [(100, (.seq (unk 20 2) (unk 6 1) [6, 1] 25))], 101, 101⟩, fs := factsIn Tryz.prog vaargs 0, B := 1 }
  , { G := ⟨(Tr.putSome [(3, (.func (.yield 100) ⟨[(unk 6 1)]⟩ ⟨[]⟩)), (9, (unk 0 0)), (10, (sy 6 5 [(unk 0 0)])), (11, (unk 6 2))]), []⟩, Gh := ⟨obsTr [(100, (.seq (unk 20 3) (unk 6 1) [6, 1] 25))], 101, 101⟩, fs := factsIn Tryz.prog vaargs 0, B := 1 }
  , { G := ⟨(Tr.putSome [(3, (.func (.yield 100) ⟨[(unk 6 1)]⟩ ⟨[]⟩))]), []⟩, Gh := ⟨obsTr [(100, (.seq (unk 20 2) (unk 6 1) [6, 1] 25))], 101, 101⟩, fs := factsIn Tryz.prog vaargs 0, B := 1 }
  ]
def vavt0 : VT := (.go 1 [] [])
def vavt1 : VT := (.node (sy 1 9 [(num 11), (sy 6 5 [(unk 0 0)]), (num 8796093021952)]) (.go 2 [(100, 100)] [(1, 6, (sy 6 5 [(unk 0 0)])), (2, 20, (sy 0 11 [(num 4), (sy 6 5 [(unk 0 0)]), (.int .i64 (.ofNat 0)), (.bool false)])), (1, 6, (sy 6 5 [(unk 0 0)]))]) .dead)
def vavt2 : VT := (.go 3 [(100, 100)] [(1, 6, (unk 6 1)), (2, 6, (.int .i64 (.ofNat 0))), (3, 20, (unk 20 2)), (1, 6, (unk 6 1))])
def vavt3 : VT := (.node (sy 1 1 [(num 13), (num 3), (.bool false), (unk 6 2), (sy 6 5 [(unk 0 0)])]) (.node (sy 1 9 [(num 1), (unk 0 0), (unk 6 2)]) (.node (sy 1 9 [(num 9), (unk 6 1), (unk 6 2)]) (.go 3 [(100, 100)] [(1, 6, (unk 6 1)), (2, 6, (sy 6 1 [(num 0), (num 3), (.bool true), (unk 6 2), (.int .i64 (.ofNat 1))])), (3, 20, (sy 0 11 [(num 1), (unk 20 3), (unk 6 2), (num 2), (num 0), (sy 6 6 [(sy 0 8 [(sy 0 7 [(num 3), (unk 0 0), (unk 6 2)]), (num 1)])]), (sy 1 6 [(sy 0 8 [(sy 0 7 [(num 3), (unk 0 0), (unk 6 2)]), (num 2)])])])), (1, 6, (unk 6 1))]) .dead) .dead) (.go 4 [(100, 100)] [(1, 6, (unk 6 1)), (2, 20, (unk 20 3)), (1, 6, (unk 6 1))]))
def vavt4 : VT := (.ret [(.func (.yield 100) ⟨[(unk 6 1)]⟩ ⟨[]⟩)] [(100, (.seq (unk 20 2) (unk 6 1) [6, 1] 25))])
def vatab : List VT := [vavt0, vavt1, vavt2, vavt3, vavt4]
def vaplan : TP := (.seq .run [1] (.seq .run [2] (.seq (.seq .run [3] (.block (.loop [3] .run))) [4] .run)))
theorem va_checked : chkF Tryz.prog [] [] [] vaOrc bwU 100000 60 11 vaargs vapls vatab vaplan = true := by decide +kernel
theorem va_flat : aggFlat Tryz.prog vaargs = true := by decide +kernel
noncomputable def xiOrc (q : List (Value × Bool)) : List (FuncId × OrcF) := []
def xiargs : List ArgT := [(45, none), (48, some (.func (.func 13) ⟨[]⟩ ⟨[]⟩))]
noncomputable def xipls : List Asrt := [{ G := ⟨Tr.putList (symIns Tryz.prog xiargs 0) .nil 0, []⟩, Gh := ⟨.nil, 100, 100⟩, fs := factsIn Tryz.prog xiargs 0, B := 1 }
  , { G := ⟨(Tr.putSome [(0, (unk 0 0)), (1, (.func (.func 13) ⟨[]⟩ ⟨[]⟩))]), []⟩, Gh := ⟨obsTr [], 100, 100⟩, fs := factsIn Tryz.prog xiargs 0, B := 1 }
  , { G := ⟨(Tr.putSome [(0, (unk 0 0)), (1, (.func (.func 13) ⟨[]⟩ ⟨[]⟩)), (7, (sy 6 5 [(unk 0 0)])), (8, (unk 6 1))]), []⟩, Gh := ⟨obsTr [], 100, 100⟩, fs := factsIn Tryz.prog xiargs 0, B := 1 }
  , { G := ⟨(Tr.putSome []), []⟩, Gh := ⟨obsTr [], 100, 100⟩, fs := factsIn Tryz.prog xiargs 0, B := 1 }
  ]
def xivt0 : VT := (.go 1 [] [])
def xivt1 : VT := (.go 2 [] [(1, 6, (.int .i64 (.ofNat 0)))])
def xivt2 : VT := (.node (sy 1 1 [(num 13), (num 3), (.bool false), (unk 6 1), (sy 6 5 [(unk 0 0)])]) (.node (sy 1 9 [(num 1), (unk 0 0), (unk 6 1)]) (.node (sy 1 6 [(sy 0 8 [(sy 0 7 [(num 2), (unk 0 0), (unk 6 1)]), (num 1)])]) (.node (sy 1 1 [(num 11), (num 2), (.bool true), (sy 6 6 [(sy 0 8 [(sy 0 7 [(num 2), (unk 0 0), (unk 6 1)]), (num 0)])]), (.int .i64 (.ofNat 0))]) (.go 2 [] [(1, 6, (sy 6 1 [(num 0), (num 3), (.bool true), (unk 6 1), (.int .i64 (.ofNat 1))]))]) (.ret [(unk 6 1)] [])) (.go 2 [] [(1, 6, (sy 6 1 [(num 0), (num 3), (.bool true), (unk 6 1), (.int .i64 (.ofNat 1))]))])) .dead) (.go 3 [] []))
def xivt3 : VT := (.ret [(.int .i64 (.negSucc 0))] [])
def xitab : List VT := [xivt0, xivt1, xivt2, xivt3]
def xiplan : TP := (.seq .run [1] (.seq (.seq .run [2] (.block (.loop [2] .run))) [3] .run))
theorem xi_checked : chkF Tryz.prog [] [] [] xiOrc bwU 100000 60 23 xiargs xipls xitab xiplan = true := by decide +kernel
theorem xi_flat : aggFlat Tryz.prog xiargs = true := by decide +kernel
noncomputable def xoOrc (q : List (Value × Bool)) : List (FuncId × OrcF) := []
def xoargs : List ArgT := [(45, none), (48, some (.func (.func 42) ⟨[]⟩ ⟨[]⟩))]
noncomputable def xopls : List Asrt := [{ G := ⟨Tr.putList (symIns Tryz.prog xoargs 0) .nil 0, []⟩, Gh := ⟨.nil, 100, 100⟩, fs := factsIn Tryz.prog xoargs 0, B := 1 }
  , { G := ⟨(Tr.putSome [(0, (unk 0 0)), (1, (.func (.func 42) ⟨[]⟩ ⟨[]⟩))]), []⟩, Gh := ⟨obsTr [], 100, 100⟩, fs := factsIn Tryz.prog xoargs 0, B := 1 }
  , { G := ⟨(Tr.putSome [(0, (unk 0 0)), (1, (.func (.func 42) ⟨[]⟩ ⟨[]⟩)), (7, (sy 6 5 [(unk 0 0)])), (8, (unk 6 1))]), []⟩, Gh := ⟨obsTr [], 100, 100⟩, fs := factsIn Tryz.prog xoargs 0, B := 1 }
  , { G := ⟨(Tr.putSome []), []⟩, Gh := ⟨obsTr [], 100, 100⟩, fs := factsIn Tryz.prog xoargs 0, B := 1 }
  ]
def xovt0 : VT := (.go 1 [] [])
def xovt1 : VT := (.go 2 [] [(1, 6, (.int .i64 (.ofNat 0)))])
def xovt2 : VT := (.node (sy 1 1 [(num 13), (num 3), (.bool false), (unk 6 1), (sy 6 5 [(unk 0 0)])]) (.node (sy 1 9 [(num 1), (unk 0 0), (unk 6 1)]) (.node (sy 1 6 [(sy 0 8 [(sy 0 7 [(num 2), (unk 0 0), (unk 6 1)]), (num 1)])]) (.ret [(unk 6 1)] []) (.go 2 [] [(1, 6, (sy 6 1 [(num 0), (num 3), (.bool true), (unk 6 1), (.int .i64 (.ofNat 1))]))])) .dead) (.go 3 [] []))
def xovt3 : VT := (.ret [(.int .i64 (.negSucc 0))] [])
def xotab : List VT := [xovt0, xovt1, xovt2, xovt3]
def xoplan : TP := (.seq .run [1] (.seq (.seq .run [2] (.block (.loop [2] .run))) [3] .run))
theorem xo_checked : chkF Tryz.prog [] [] [] xoOrc bwU 100000 60 23 xoargs xopls xotab xoplan = true := by decide +kernel
theorem xo_flat : aggFlat Tryz.prog xoargs = true := by decide +kernel
noncomputable def ciOrc (q : List (Value × Bool)) : List (FuncId × OrcF) := [(23, (fnO Tryz.prog [(45, none), (48, some (.func (.func 13) ⟨[]⟩ ⟨[]⟩))] [([6], false)] 38 q))]
def ciargs : List ArgT := [(45, none), (48, some (.func (.func 13) ⟨[]⟩ ⟨[]⟩))]
noncomputable def cipls : List Asrt := [{ G := ⟨Tr.putList (symIns Tryz.prog ciargs 0) .nil 0, []⟩, Gh := ⟨.nil, 100, 100⟩, fs := factsIn Tryz.prog ciargs 0, B := 1 }
  ]
def civt0 : VT := (.ret [(sy 1 1 [(num 16), (num 3), (.bool true), (sy 6 55 [(sy 0 10 [(num 2), (unk 0 0)])]), (.int .i64 (.ofNat 0))])] [])
def citab : List VT := [civt0]
def ciplan : TP := .run
theorem ci_checked : chkF Tryz.prog [] [] [] ciOrc bwU 100000 60 12 ciargs cipls citab ciplan = true := by decide +kernel
theorem ci_flat : aggFlat Tryz.prog ciargs = true := by decide +kernel
noncomputable def coOrc (q : List (Value × Bool)) : List (FuncId × OrcF) := [(23, (fnO Tryz.prog [(45, none), (48, some (.func (.func 42) ⟨[]⟩ ⟨[]⟩))] [([6], false)] 39 q))]
def coargs : List ArgT := [(45, none), (48, some (.func (.func 42) ⟨[]⟩ ⟨[]⟩))]
noncomputable def copls : List Asrt := [{ G := ⟨Tr.putList (symIns Tryz.prog coargs 0) .nil 0, []⟩, Gh := ⟨.nil, 100, 100⟩, fs := factsIn Tryz.prog coargs 0, B := 1 }
  ]
def covt0 : VT := (.ret [(sy 1 1 [(num 16), (num 3), (.bool true), (sy 6 56 [(sy 0 10 [(num 2), (unk 0 0)])]), (.int .i64 (.ofNat 0))])] [])
def cotab : List VT := [covt0]
def coplan : TP := .run
theorem co_checked : chkF Tryz.prog [] [] [] coOrc bwU 100000 60 12 coargs copls cotab coplan = true := by decide +kernel
theorem co_flat : aggFlat Tryz.prog coargs = true := by decide +kernel
noncomputable def miOrc (q : List (Value × Bool)) : List (FuncId × OrcF) := []
def miargs : List ArgT := [(45, none), (68, some (.func (.func 30) ⟨[]⟩ ⟨[]⟩))]
noncomputable def mipls : List Asrt := [{ G := ⟨Tr.putList (symIns Tryz.prog miargs 0) .nil 0, []⟩, Gh := ⟨.nil, 100, 100⟩, fs := factsIn Tryz.prog miargs 0, B := 1 }
  , { G := ⟨(Tr.putSome [(0, (unk 0 0)), (1, (.func (.func 30) ⟨[]⟩ ⟨[]⟩)), (4, (.pointer (some ⟨100, 0, none⟩)))]), []⟩, Gh := ⟨obsTr [(100, (.cells (Tr.putSome [(0, (.int .i64 (.ofNat 0))), (1, (.bool false))]) 2 25 none false))], 101, 101⟩, fs := factsIn Tryz.prog miargs 0, B := 1 }
  , { G := ⟨(Tr.putSome [(0, (unk 0 0)), (1, (.func (.func 30) ⟨[]⟩ ⟨[]⟩)), (4, (.pointer (some ⟨100, 0, none⟩)))]), []⟩, Gh := ⟨obsTr [(100, (.cells (Tr.putSome [(0, (.int .i64 (.ofNat 0))), (1, (.bool false))]) 2 25 none false))], 101, 101⟩, fs := factsIn Tryz.prog miargs 0, B := 1 }
  , { G := ⟨(Tr.putSome [(0, (unk 0 0)), (1, (.func (.func 30) ⟨[]⟩ ⟨[]⟩)), (4, (.pointer (some ⟨100, 0, none⟩))), (5, (.pointer (some ⟨101, 0, none⟩)))]), []⟩, Gh := ⟨obsTr [(100, (.cells (Tr.putSome [(0, (.int .i64 (.ofNat 0))), (1, (.bool false))]) 2 25 none false)), (101, (.cells (Tr.putSome [(0, (sy 6 6 [(sy 0 8 [(sy 0 7 [(num 2), (unk 0 0), (.int .i64 (.ofNat 0))]), (num 0)])])), (1, (sy 1 6 [(sy 0 8 [(sy 0 7 [(num 2), (unk 0 0), (.int .i64 (.ofNat 0))]), (num 1)])]))]) 2 25 none false))], 102, 102⟩, fs := factsIn Tryz.prog miargs 0, B := 1 }
  , { G := ⟨(Tr.putSome [(0, (unk 0 0)), (1, (.func (.func 30) ⟨[]⟩ ⟨[]⟩)), (4, (.pointer (some ⟨100, 0, none⟩))), (5, (.pointer (some ⟨101, 0, none⟩))), (6, (unk 6 1))]), []⟩, Gh := ⟨obsTr [(100, (.cells (Tr.putSome [(0, (unk 6 2)), (1, (unk 1 3))]) 2 25 none false)), (101, (.cells (Tr.putSome [(0, (unk 6 4)), (1, (unk 1 5))]) 2 25 none false))], 102, 102⟩, fs := factsIn Tryz.prog miargs 0, B := 1 }
  , { G := ⟨(Tr.putSome [(4, (.pointer (some ⟨100, 0, none⟩))), (5, (.pointer (some ⟨101, 0, none⟩)))]), []⟩, Gh := ⟨obsTr [(100, (.cells (Tr.putSome [(0, (unk 6 1)), (1, (unk 1 2))]) 2 25 none false)), (101, (.cells (Tr.putSome [(0, (unk 6 3)), (1, (unk 1 4))]) 2 25 none false))], 102, 102⟩, fs := factsIn Tryz.prog miargs 0, B := 1 }
  ]
def mivt0 : VT := (.go 1 [(100, 100)] [])
def mivt1 : VT := (.node (sy 1 1 [(num 13), (num 3), (.bool true), (sy 6 5 [(unk 0 0)]), (.int .i64 (.ofNat 1))]) .dead (.go 2 [(100, 100)] []))
def mivt2 : VT := (.node (sy 1 9 [(num 1), (unk 0 0), (.int .i64 (.ofNat 0))]) (.go 3 [(100, 100), (101, 101)] []) .dead)
def mivt3 : VT := (.go 4 [(100, 100), (101, 101)] [(1, 6, (.int .i64 (.ofNat 1))), (3, 1, (.bool false)), (2, 6, (.int .i64 (.ofNat 0))), (5, 1, (sy 1 6 [(sy 0 8 [(sy 0 7 [(num 2), (unk 0 0), (.int .i64 (.ofNat 0))]), (num 1)])])), (4, 6, (sy 6 6 [(sy 0 8 [(sy 0 7 [(num 2), (unk 0 0), (.int .i64 (.ofNat 0))]), (num 0)])]))])
def mivt4 : VT := (.node (sy 1 1 [(num 13), (num 3), (.bool false), (unk 6 1), (sy 6 5 [(unk 0 0)])]) (.node (sy 1 9 [(num 1), (unk 0 0), (unk 6 1)]) (.node (sy 1 1 [(num 11), (num 2), (.bool false), (sy 6 6 [(sy 0 8 [(sy 0 7 [(num 2), (unk 0 0), (unk 6 1)]), (num 0)])]), (sy 6 6 [(sy 0 8 [(sy 0 7 [(num 2), (unk 0 0), (unk 6 1)]), (num 0)])])]) (.node (sy 1 1 [(num 11), (num 2), (.bool false), (unk 6 4), (unk 6 4)]) (.node (sy 1 1 [(num 13), (num 2), (.bool false), (sy 6 6 [(sy 0 8 [(sy 0 7 [(num 2), (unk 0 0), (unk 6 1)]), (num 0)])]), (unk 6 4)]) (.go 4 [(100, 100), (101, 101)] [(1, 6, (sy 6 1 [(num 0), (num 3), (.bool true), (unk 6 1), (.int .i64 (.ofNat 1))])), (3, 1, (unk 1 3)), (2, 6, (unk 6 2)), (5, 1, (sy 1 6 [(sy 0 8 [(sy 0 7 [(num 2), (unk 0 0), (unk 6 1)]), (num 1)])])), (4, 6, (sy 6 6 [(sy 0 8 [(sy 0 7 [(num 2), (unk 0 0), (unk 6 1)]), (num 0)])]))]) (.node (sy 1 1 [(num 13), (num 2), (.bool false), (unk 6 4), (sy 6 6 [(sy 0 8 [(sy 0 7 [(num 2), (unk 0 0), (unk 6 1)]), (num 0)])])]) (.go 4 [(100, 100), (101, 101)] [(1, 6, (sy 6 1 [(num 0), (num 3), (.bool true), (unk 6 1), (.int .i64 (.ofNat 1))])), (3, 1, (unk 1 3)), (2, 6, (unk 6 2)), (5, 1, (unk 1 5)), (4, 6, (unk 6 4))]) (.go 4 [(100, 100), (101, 101)] [(1, 6, (sy 6 1 [(num 0), (num 3), (.bool true), (unk 6 1), (.int .i64 (.ofNat 1))])), (3, 1, (unk 1 3)), (2, 6, (unk 6 2)), (5, 1, (unk 1 5)), (4, 6, (unk 6 4))]))) (.go 4 [(100, 100), (101, 101)] [(1, 6, (sy 6 1 [(num 0), (num 3), (.bool true), (unk 6 1), (.int .i64 (.ofNat 1))])), (3, 1, (unk 1 3)), (2, 6, (unk 6 2)), (5, 1, (unk 1 5)), (4, 6, (unk 6 4))])) (.node (sy 1 1 [(num 11), (num 2), (.bool false), (unk 6 4), (unk 6 4)]) (.go 4 [(100, 100), (101, 101)] [(1, 6, (sy 6 1 [(num 0), (num 3), (.bool true), (unk 6 1), (.int .i64 (.ofNat 1))])), (3, 1, (unk 1 3)), (2, 6, (unk 6 2)), (5, 1, (sy 1 6 [(sy 0 8 [(sy 0 7 [(num 2), (unk 0 0), (unk 6 1)]), (num 1)])])), (4, 6, (sy 6 6 [(sy 0 8 [(sy 0 7 [(num 2), (unk 0 0), (unk 6 1)]), (num 0)])]))]) (.go 4 [(100, 100), (101, 101)] [(1, 6, (sy 6 1 [(num 0), (num 3), (.bool true), (unk 6 1), (.int .i64 (.ofNat 1))])), (3, 1, (unk 1 3)), (2, 6, (unk 6 2)), (5, 1, (unk 1 5)), (4, 6, (unk 6 4))]))) .dead) (.go 5 [(100, 100), (101, 101)] [(2, 1, (unk 1 3)), (1, 6, (unk 6 2)), (4, 1, (unk 1 5)), (3, 6, (unk 6 4))]))
def mivt5 : VT := (.ret [(.agg ⟨[(unk 6 3), (unk 1 4)]⟩)] [])
def mitab : List VT := [mivt0, mivt1, mivt2, mivt3, mivt4, mivt5]
def miplan : TP := (.seq .run [1] (.seq .run [2] (.seq .run [3] (.seq (.seq .run [4] (.block (.loop [4] .run))) [5] .run))))
theorem mi_checked : chkF Tryz.prog [] [] [] miOrc bwU 100000 60 29 miargs mipls mitab miplan = true := by decide +kernel
theorem mi_flat : aggFlat Tryz.prog miargs = true := by decide +kernel
noncomputable def maOrc (q : List (Value × Bool)) : List (FuncId × OrcF) := []
def maargs : List ArgT := [(45, none), (68, some (.func (.func 30) ⟨[]⟩ ⟨[]⟩))]
noncomputable def mapls : List Asrt := [{ G := ⟨Tr.putList (symIns Tryz.prog maargs 0) .nil 0, []⟩, Gh := ⟨.nil, 100, 100⟩, fs := factsIn Tryz.prog maargs 0, B := 1 }
  , { G := ⟨(Tr.putSome [(0, (unk 0 0)), (1, (.func (.func 30) ⟨[]⟩ ⟨[]⟩)), (4, (.pointer (some ⟨100, 0, none⟩)))]), []⟩, Gh := ⟨obsTr [(100, (.cells (Tr.putSome [(0, (.int .i64 (.ofNat 0))), (1, (.bool false))]) 2 25 none false))], 101, 101⟩, fs := factsIn Tryz.prog maargs 0, B := 1 }
  , { G := ⟨(Tr.putSome [(0, (unk 0 0)), (1, (.func (.func 30) ⟨[]⟩ ⟨[]⟩)), (4, (.pointer (some ⟨100, 0, none⟩)))]), []⟩, Gh := ⟨obsTr [(100, (.cells (Tr.putSome [(0, (.int .i64 (.ofNat 0))), (1, (.bool false))]) 2 25 none false))], 101, 101⟩, fs := factsIn Tryz.prog maargs 0, B := 1 }
  , { G := ⟨(Tr.putSome [(0, (unk 0 0)), (1, (.func (.func 30) ⟨[]⟩ ⟨[]⟩)), (4, (.pointer (some ⟨100, 0, none⟩))), (5, (.pointer (some ⟨101, 0, none⟩)))]), []⟩, Gh := ⟨obsTr [(100, (.cells (Tr.putSome [(0, (.int .i64 (.ofNat 0))), (1, (.bool false))]) 2 25 none false)), (101, (.cells (Tr.putSome [(0, (sy 6 6 [(sy 0 8 [(sy 0 7 [(num 2), (unk 0 0), (.int .i64 (.ofNat 0))]), (num 0)])])), (1, (sy 1 6 [(sy 0 8 [(sy 0 7 [(num 2), (unk 0 0), (.int .i64 (.ofNat 0))]), (num 1)])]))]) 2 25 none false))], 102, 102⟩, fs := factsIn Tryz.prog maargs 0, B := 1 }
  , { G := ⟨(Tr.putSome [(0, (unk 0 0)), (1, (.func (.func 30) ⟨[]⟩ ⟨[]⟩)), (4, (.pointer (some ⟨100, 0, none⟩))), (5, (.pointer (some ⟨101, 0, none⟩))), (6, (unk 6 1))]), []⟩, Gh := ⟨obsTr [(100, (.cells (Tr.putSome [(0, (unk 6 2)), (1, (unk 1 3))]) 2 25 none false)), (101, (.cells (Tr.putSome [(0, (unk 6 4)), (1, (unk 1 5))]) 2 25 none false))], 102, 102⟩, fs := factsIn Tryz.prog maargs 0, B := 1 }
  , { G := ⟨(Tr.putSome [(4, (.pointer (some ⟨100, 0, none⟩))), (5, (.pointer (some ⟨101, 0, none⟩)))]), []⟩, Gh := ⟨obsTr [(100, (.cells (Tr.putSome [(0, (unk 6 1)), (1, (unk 1 2))]) 2 25 none false)), (101, (.cells (Tr.putSome [(0, (unk 6 3)), (1, (unk 1 4))]) 2 25 none false))], 102, 102⟩, fs := factsIn Tryz.prog maargs 0, B := 1 }
  ]
def mavt0 : VT := (.go 1 [(100, 100)] [])
def mavt1 : VT := (.node (sy 1 1 [(num 13), (num 3), (.bool true), (sy 6 5 [(unk 0 0)]), (.int .i64 (.ofNat 1))]) .dead (.go 2 [(100, 100)] []))
def mavt2 : VT := (.node (sy 1 9 [(num 1), (unk 0 0), (.int .i64 (.ofNat 0))]) (.go 3 [(100, 100), (101, 101)] []) .dead)
def mavt3 : VT := (.go 4 [(100, 100), (101, 101)] [(1, 6, (.int .i64 (.ofNat 1))), (3, 1, (.bool false)), (2, 6, (.int .i64 (.ofNat 0))), (5, 1, (sy 1 6 [(sy 0 8 [(sy 0 7 [(num 2), (unk 0 0), (.int .i64 (.ofNat 0))]), (num 1)])])), (4, 6, (sy 6 6 [(sy 0 8 [(sy 0 7 [(num 2), (unk 0 0), (.int .i64 (.ofNat 0))]), (num 0)])]))])
def mavt4 : VT := (.node (sy 1 1 [(num 13), (num 3), (.bool false), (unk 6 1), (sy 6 5 [(unk 0 0)])]) (.node (sy 1 9 [(num 1), (unk 0 0), (unk 6 1)]) (.node (sy 1 1 [(num 11), (num 2), (.bool false), (sy 6 6 [(sy 0 8 [(sy 0 7 [(num 2), (unk 0 0), (unk 6 1)]), (num 0)])]), (sy 6 6 [(sy 0 8 [(sy 0 7 [(num 2), (unk 0 0), (unk 6 1)]), (num 0)])])]) (.node (sy 1 1 [(num 11), (num 2), (.bool false), (unk 6 4), (unk 6 4)]) (.node (sy 1 1 [(num 13), (num 2), (.bool false), (sy 6 6 [(sy 0 8 [(sy 0 7 [(num 2), (unk 0 0), (unk 6 1)]), (num 0)])]), (unk 6 4)]) (.go 4 [(100, 100), (101, 101)] [(1, 6, (sy 6 1 [(num 0), (num 3), (.bool true), (unk 6 1), (.int .i64 (.ofNat 1))])), (3, 1, (unk 1 3)), (2, 6, (unk 6 2)), (5, 1, (unk 1 5)), (4, 6, (unk 6 4))]) (.node (sy 1 1 [(num 13), (num 2), (.bool false), (unk 6 4), (sy 6 6 [(sy 0 8 [(sy 0 7 [(num 2), (unk 0 0), (unk 6 1)]), (num 0)])])]) (.go 4 [(100, 100), (101, 101)] [(1, 6, (sy 6 1 [(num 0), (num 3), (.bool true), (unk 6 1), (.int .i64 (.ofNat 1))])), (3, 1, (unk 1 3)), (2, 6, (unk 6 2)), (5, 1, (sy 1 6 [(sy 0 8 [(sy 0 7 [(num 2), (unk 0 0), (unk 6 1)]), (num 1)])])), (4, 6, (sy 6 6 [(sy 0 8 [(sy 0 7 [(num 2), (unk 0 0), (unk 6 1)]), (num 0)])]))]) (.go 4 [(100, 100), (101, 101)] [(1, 6, (sy 6 1 [(num 0), (num 3), (.bool true), (unk 6 1), (.int .i64 (.ofNat 1))])), (3, 1, (unk 1 3)), (2, 6, (unk 6 2)), (5, 1, (unk 1 5)), (4, 6, (unk 6 4))]))) (.go 4 [(100, 100), (101, 101)] [(1, 6, (sy 6 1 [(num 0), (num 3), (.bool true), (unk 6 1), (.int .i64 (.ofNat 1))])), (3, 1, (unk 1 3)), (2, 6, (unk 6 2)), (5, 1, (sy 1 6 [(sy 0 8 [(sy 0 7 [(num 2), (unk 0 0), (unk 6 1)]), (num 1)])])), (4, 6, (sy 6 6 [(sy 0 8 [(sy 0 7 [(num 2), (unk 0 0), (unk 6 1)]), (num 0)])]))])) (.node (sy 1 1 [(num 11), (num 2), (.bool false), (unk 6 4), (unk 6 4)]) (.go 4 [(100, 100), (101, 101)] [(1, 6, (sy 6 1 [(num 0), (num 3), (.bool true), (unk 6 1), (.int .i64 (.ofNat 1))])), (3, 1, (unk 1 3)), (2, 6, (unk 6 2)), (5, 1, (unk 1 5)), (4, 6, (unk 6 4))]) (.go 4 [(100, 100), (101, 101)] [(1, 6, (sy 6 1 [(num 0), (num 3), (.bool true), (unk 6 1), (.int .i64 (.ofNat 1))])), (3, 1, (unk 1 3)), (2, 6, (unk 6 2)), (5, 1, (unk 1 5)), (4, 6, (unk 6 4))]))) .dead) (.go 5 [(100, 100), (101, 101)] [(2, 1, (unk 1 3)), (1, 6, (unk 6 2)), (4, 1, (unk 1 5)), (3, 6, (unk 6 4))]))
def mavt5 : VT := (.ret [(.agg ⟨[(unk 6 3), (unk 1 4)]⟩)] [])
def matab : List VT := [mavt0, mavt1, mavt2, mavt3, mavt4, mavt5]
def maplan : TP := (.seq .run [1] (.seq .run [2] (.seq .run [3] (.seq (.seq .run [4] (.block (.loop [4] .run))) [5] .run))))
theorem ma_checked : chkF Tryz.prog [] [] [] maOrc bwU 100000 60 31 maargs mapls matab maplan = true := by decide +kernel
theorem ma_flat : aggFlat Tryz.prog maargs = true := by decide +kernel
noncomputable def toOrc (q : List (Value × Bool)) : List (FuncId × OrcF) := [(25, (fnO Tryz.prog [(62, none), (25, none)] [([6, 10, 10], true)] 8 q)), (26, (fnO Tryz.prog [(62, none)] [([6, 1], true)] 14 q))]
def toargs : List ArgT := [(45, none)]
noncomputable def topls : List Asrt := [{ G := ⟨Tr.putList (symIns Tryz.prog toargs 0) .nil 0, []⟩, Gh := ⟨.nil, 100, 100⟩, fs := factsIn Tryz.prog toargs 0, B := 1 }
  , { G := ⟨(Tr.putSome [(0, (unk 0 0)), (2, (.pointer (some ⟨100, 0, none⟩)))]), []⟩, Gh := ⟨obsTr [(100, (.cells (Tr.putSome [(0, (.int .i64 (.ofNat 0))), (1, (.bool false))]) 2 25 none false))], 101, 101⟩, fs := factsIn Tryz.prog toargs 0, B := 1 }
  , { G := ⟨(Tr.putSome [(0, (unk 0 0)), (2, (.pointer (some ⟨100, 0, none⟩))), (3, (.pointer (some ⟨101, 0, none⟩)))]), []⟩, Gh := ⟨obsTr [(100, (.cells (Tr.putSome [(0, (.int .i64 (.ofNat 0))), (1, (.bool false))]) 2 25 none false)), (101, (.cells (Tr.putSome [(0, (.int .i64 (.ofNat 0))), (1, (num 0)), (2, (num 0))]) 3 62 none false))], 102, 102⟩, fs := factsIn Tryz.prog toargs 0, B := 1 }
  , { G := ⟨(Tr.putSome [(2, (.pointer (some ⟨100, 0, none⟩))), (3, (.pointer (some ⟨101, 0, none⟩))), (6, (unk 0 0)), (7, (sy 6 5 [(unk 0 0)])), (8, (unk 6 1))]), []⟩, Gh := ⟨obsTr [(100, (.cells (Tr.putSome [(0, (unk 6 2)), (1, (unk 1 3))]) 2 25 none false)), (101, (.cells (Tr.putSome [(0, (unk 6 4)), (1, (unk 10 5)), (2, (unk 10 6))]) 3 62 none false))], 102, 102⟩, fs := factsIn Tryz.prog toargs 0, B := 1 }
  , { G := ⟨(Tr.putSome [(2, (.pointer (some ⟨100, 0, none⟩))), (3, (.pointer (some ⟨101, 0, none⟩)))]), []⟩, Gh := ⟨obsTr [(100, (.cells (Tr.putSome [(0, (unk 6 1)), (1, (unk 1 2))]) 2 25 none false)), (101, (.cells (Tr.putSome [(0, (unk 6 3)), (1, (unk 10 4)), (2, (unk 10 5))]) 3 62 none false))], 102, 102⟩, fs := factsIn Tryz.prog toargs 0, B := 1 }
  ]
def tovt0 : VT := (.go 1 [(100, 100)] [])
def tovt1 : VT := (.go 2 [(100, 100), (101, 101)] [])
def tovt2 : VT := (.go 3 [(100, 100), (101, 101)] [(1, 6, (.int .i64 (.ofNat 0))), (3, 1, (.bool false)), (2, 6, (.int .i64 (.ofNat 0))), (6, 10, (num 0)), (5, 10, (num 0)), (4, 6, (.int .i64 (.ofNat 0)))])
def tovt3 : VT := (.node (sy 1 1 [(num 13), (num 3), (.bool false), (unk 6 1), (sy 6 5 [(unk 0 0)])]) (.node (sy 1 9 [(num 1), (unk 0 0), (unk 6 1)]) (.go 3 [(100, 100), (101, 101)] [(1, 6, (sy 6 1 [(num 0), (num 3), (.bool true), (unk 6 1), (.int .i64 (.ofNat 1))])), (3, 1, (unk 1 3)), (2, 6, (unk 6 2)), (6, 10, (sy 10 27 [(unk 6 4), (unk 10 5), (unk 10 6), (sy 6 6 [(sy 0 8 [(sy 0 7 [(num 2), (unk 0 0), (unk 6 1)]), (num 0)])]), (sy 1 6 [(sy 0 8 [(sy 0 7 [(num 2), (unk 0 0), (unk 6 1)]), (num 1)])])])), (5, 10, (sy 10 26 [(unk 6 4), (unk 10 5), (unk 10 6), (sy 6 6 [(sy 0 8 [(sy 0 7 [(num 2), (unk 0 0), (unk 6 1)]), (num 0)])]), (sy 1 6 [(sy 0 8 [(sy 0 7 [(num 2), (unk 0 0), (unk 6 1)]), (num 1)])])])), (4, 6, (sy 6 25 [(unk 6 4), (unk 10 5), (unk 10 6), (sy 6 6 [(sy 0 8 [(sy 0 7 [(num 2), (unk 0 0), (unk 6 1)]), (num 0)])]), (sy 1 6 [(sy 0 8 [(sy 0 7 [(num 2), (unk 0 0), (unk 6 1)]), (num 1)])])]))]) .dead) (.go 4 [(100, 100), (101, 101)] [(2, 1, (unk 1 3)), (1, 6, (unk 6 2)), (5, 10, (unk 10 6)), (4, 10, (unk 10 5)), (3, 6, (unk 6 4))]))
def tovt4 : VT := (.ret [(.agg ⟨[(sy 6 31 [(unk 6 3), (unk 10 4), (unk 10 5)]), (sy 1 32 [(unk 6 3), (unk 10 4), (unk 10 5)])]⟩)] [])
def totab : List VT := [tovt0, tovt1, tovt2, tovt3, tovt4]
def toplan : TP := (.seq .run [1] (.seq .run [2] (.seq (.seq .run [3] (.block (.loop [3] .run))) [4] .run)))
theorem to_checked : chkF Tryz.prog [] [] [] toOrc bwU 100000 60 14 toargs topls totab toplan = true := by decide +kernel
theorem to_flat : aggFlat Tryz.prog toargs = true := by decide +kernel
noncomputable def icOrc (q : List (Value × Bool)) : List (FuncId × OrcF) := [(12, (fnO Tryz.prog [(45, none), (48, some (.func (.func 42) ⟨[]⟩ ⟨[]⟩))] [([1], false)] 3 q)), (25, (fnO Tryz.prog [(62, none), (25, none)] [([6, 10, 10], true)] 8 q)), (32, (fnO Tryz.prog [(62, none), (25, none)] [([6, 10, 10], true)] 11 q)), (26, (fnO Tryz.prog [(62, none)] [([6, 1], true)] 14 q))]
def icargs : List ArgT := [(45, none)]
noncomputable def icpls : List Asrt := [{ G := ⟨Tr.putList (symIns Tryz.prog icargs 0) .nil 0, []⟩, Gh := ⟨.nil, 100, 100⟩, fs := factsIn Tryz.prog icargs 0, B := 1 }
  , { G := ⟨(Tr.putSome [(0, (unk 0 0)), (2, (.pointer (some ⟨100, 0, none⟩)))]), []⟩, Gh := ⟨obsTr [(100, (.cells (Tr.putSome [(0, (.int .i64 (.ofNat 0))), (1, (.bool false))]) 2 25 none false))], 101, 101⟩, fs := factsIn Tryz.prog icargs 0, B := 1 }
  , { G := ⟨(Tr.putSome [(0, (unk 0 0)), (2, (.pointer (some ⟨100, 0, none⟩))), (3, (.pointer (some ⟨101, 0, none⟩)))]), []⟩, Gh := ⟨obsTr [(100, (.cells (Tr.putSome [(0, (.int .i64 (.ofNat 0))), (1, (.bool false))]) 2 25 none false)), (101, (.cells (Tr.putSome [(0, (.int .i64 (.ofNat 0))), (1, (num 0)), (2, (num 0))]) 3 62 none false))], 102, 102⟩, fs := factsIn Tryz.prog icargs 0, B := 1 }
  , { G := ⟨(Tr.putSome [(0, (unk 0 0)), (2, (.pointer (some ⟨100, 0, none⟩))), (3, (.pointer (some ⟨101, 0, none⟩))), (4, (unk 6 1))]), []⟩, Gh := ⟨obsTr [(100, (.cells (Tr.putSome [(0, (unk 6 2)), (1, (unk 1 3))]) 2 25 none false)), (101, (.cells (Tr.putSome [(0, (unk 6 4)), (1, (unk 10 5)), (2, (unk 10 6))]) 3 62 none false))], 102, 102⟩, fs := factsIn Tryz.prog icargs 0, B := 1 }
  , { G := ⟨(Tr.putSome [(0, (unk 0 0)), (2, (.pointer (some ⟨100, 0, none⟩))), (3, (.pointer (some ⟨101, 0, none⟩)))]), []⟩, Gh := ⟨obsTr [(100, (.cells (Tr.putSome [(0, (unk 6 1)), (1, (unk 1 2))]) 2 25 none false)), (101, (.cells (Tr.putSome [(0, (unk 6 3)), (1, (unk 10 4)), (2, (unk 10 5))]) 3 62 none false))], 102, 102⟩, fs := factsIn Tryz.prog icargs 0, B := 1 }
  ]
def icvt0 : VT := (.go 1 [(100, 100)] [])
def icvt1 : VT := (.go 2 [(100, 100), (101, 101)] [])
def icvt2 : VT := (.go 3 [(100, 100), (101, 101)] [(1, 6, (.int .i64 (.ofNat 1))), (3, 1, (.bool false)), (2, 6, (.int .i64 (.ofNat 0))), (6, 10, (num 0)), (5, 10, (num 0)), (4, 6, (.int .i64 (.ofNat 0)))])
def icvt3 : VT := (.node (sy 1 1 [(num 13), (num 3), (.bool false), (unk 6 1), (sy 6 5 [(unk 0 0)])]) (.node (sy 1 9 [(num 1), (unk 0 0), (unk 6 1)]) (.node (sy 1 9 [(num 1), (unk 0 0), (sy 6 1 [(num 1), (num 3), (.bool true), (unk 6 1), (.int .i64 (.ofNat 1))])]) (.node (sy 1 1 [(num 13), (num 2), (.bool false), (sy 6 6 [(sy 0 8 [(sy 0 8 [(sy 0 7 [(num 2), (unk 0 0), (unk 6 1)]), (num 0)]), (num 0)])]), (sy 6 6 [(sy 0 8 [(sy 0 8 [(sy 0 7 [(num 2), (unk 0 0), (sy 6 1 [(num 1), (num 3), (.bool true), (unk 6 1), (.int .i64 (.ofNat 1))])]), (num 0)]), (num 0)])])]) (.go 3 [(100, 100), (101, 101)] [(1, 6, (sy 6 1 [(num 0), (num 3), (.bool true), (unk 6 1), (.int .i64 (.ofNat 1))])), (3, 1, (unk 1 3)), (2, 6, (unk 6 2)), (6, 10, (sy 10 27 [(unk 6 4), (unk 10 5), (unk 10 6), (sy 6 6 [(sy 0 8 [(sy 0 7 [(num 2), (unk 0 0), (unk 6 1)]), (num 0)])]), (sy 1 6 [(sy 0 8 [(sy 0 7 [(num 2), (unk 0 0), (unk 6 1)]), (num 1)])])])), (5, 10, (sy 10 26 [(unk 6 4), (unk 10 5), (unk 10 6), (sy 6 6 [(sy 0 8 [(sy 0 7 [(num 2), (unk 0 0), (unk 6 1)]), (num 0)])]), (sy 1 6 [(sy 0 8 [(sy 0 7 [(num 2), (unk 0 0), (unk 6 1)]), (num 1)])])])), (4, 6, (sy 6 25 [(unk 6 4), (unk 10 5), (unk 10 6), (sy 6 6 [(sy 0 8 [(sy 0 7 [(num 2), (unk 0 0), (unk 6 1)]), (num 0)])]), (sy 1 6 [(sy 0 8 [(sy 0 7 [(num 2), (unk 0 0), (unk 6 1)]), (num 1)])])]))]) (.go 3 [(100, 100), (101, 101)] [(1, 6, (sy 6 1 [(num 0), (num 3), (.bool true), (unk 6 1), (.int .i64 (.ofNat 1))])), (3, 1, (unk 1 3)), (2, 6, (unk 6 2)), (6, 10, (sy 10 30 [(sy 6 25 [(unk 6 4), (unk 10 5), (unk 10 6), (sy 6 6 [(sy 0 8 [(sy 0 7 [(num 2), (unk 0 0), (unk 6 1)]), (num 0)])]), (sy 1 6 [(sy 0 8 [(sy 0 7 [(num 2), (unk 0 0), (unk 6 1)]), (num 1)])])]), (sy 10 26 [(unk 6 4), (unk 10 5), (unk 10 6), (sy 6 6 [(sy 0 8 [(sy 0 7 [(num 2), (unk 0 0), (unk 6 1)]), (num 0)])]), (sy 1 6 [(sy 0 8 [(sy 0 7 [(num 2), (unk 0 0), (unk 6 1)]), (num 1)])])]), (sy 10 27 [(unk 6 4), (unk 10 5), (unk 10 6), (sy 6 6 [(sy 0 8 [(sy 0 7 [(num 2), (unk 0 0), (unk 6 1)]), (num 0)])]), (sy 1 6 [(sy 0 8 [(sy 0 7 [(num 2), (unk 0 0), (unk 6 1)]), (num 1)])])]), (sy 6 6 [(sy 0 8 [(sy 0 7 [(num 2), (unk 0 0), (sy 6 1 [(num 1), (num 3), (.bool true), (unk 6 1), (.int .i64 (.ofNat 1))])]), (num 0)])]), (sy 1 6 [(sy 0 8 [(sy 0 7 [(num 2), (unk 0 0), (sy 6 1 [(num 1), (num 3), (.bool true), (unk 6 1), (.int .i64 (.ofNat 1))])]), (num 1)])])])), (5, 10, (sy 10 29 [(sy 6 25 [(unk 6 4), (unk 10 5), (unk 10 6), (sy 6 6 [(sy 0 8 [(sy 0 7 [(num 2), (unk 0 0), (unk 6 1)]), (num 0)])]), (sy 1 6 [(sy 0 8 [(sy 0 7 [(num 2), (unk 0 0), (unk 6 1)]), (num 1)])])]), (sy 10 26 [(unk 6 4), (unk 10 5), (unk 10 6), (sy 6 6 [(sy 0 8 [(sy 0 7 [(num 2), (unk 0 0), (unk 6 1)]), (num 0)])]), (sy 1 6 [(sy 0 8 [(sy 0 7 [(num 2), (unk 0 0), (unk 6 1)]), (num 1)])])]), (sy 10 27 [(unk 6 4), (unk 10 5), (unk 10 6), (sy 6 6 [(sy 0 8 [(sy 0 7 [(num 2), (unk 0 0), (unk 6 1)]), (num 0)])]), (sy 1 6 [(sy 0 8 [(sy 0 7 [(num 2), (unk 0 0), (unk 6 1)]), (num 1)])])]), (sy 6 6 [(sy 0 8 [(sy 0 7 [(num 2), (unk 0 0), (sy 6 1 [(num 1), (num 3), (.bool true), (unk 6 1), (.int .i64 (.ofNat 1))])]), (num 0)])]), (sy 1 6 [(sy 0 8 [(sy 0 7 [(num 2), (unk 0 0), (sy 6 1 [(num 1), (num 3), (.bool true), (unk 6 1), (.int .i64 (.ofNat 1))])]), (num 1)])])])), (4, 6, (sy 6 28 [(sy 6 25 [(unk 6 4), (unk 10 5), (unk 10 6), (sy 6 6 [(sy 0 8 [(sy 0 7 [(num 2), (unk 0 0), (unk 6 1)]), (num 0)])]), (sy 1 6 [(sy 0 8 [(sy 0 7 [(num 2), (unk 0 0), (unk 6 1)]), (num 1)])])]), (sy 10 26 [(unk 6 4), (unk 10 5), (unk 10 6), (sy 6 6 [(sy 0 8 [(sy 0 7 [(num 2), (unk 0 0), (unk 6 1)]), (num 0)])]), (sy 1 6 [(sy 0 8 [(sy 0 7 [(num 2), (unk 0 0), (unk 6 1)]), (num 1)])])]), (sy 10 27 [(unk 6 4), (unk 10 5), (unk 10 6), (sy 6 6 [(sy 0 8 [(sy 0 7 [(num 2), (unk 0 0), (unk 6 1)]), (num 0)])]), (sy 1 6 [(sy 0 8 [(sy 0 7 [(num 2), (unk 0 0), (unk 6 1)]), (num 1)])])]), (sy 6 6 [(sy 0 8 [(sy 0 7 [(num 2), (unk 0 0), (sy 6 1 [(num 1), (num 3), (.bool true), (unk 6 1), (.int .i64 (.ofNat 1))])]), (num 0)])]), (sy 1 6 [(sy 0 8 [(sy 0 7 [(num 2), (unk 0 0), (sy 6 1 [(num 1), (num 3), (.bool true), (unk 6 1), (.int .i64 (.ofNat 1))])]), (num 1)])])]))])) .dead) .dead) (.go 4 [(100, 100), (101, 101)] [(2, 1, (unk 1 3)), (1, 6, (unk 6 2)), (5, 10, (unk 10 6)), (4, 10, (unk 10 5)), (3, 6, (unk 6 4))]))
def icvt4 : VT := (.node (sy 1 20 [(sy 0 10 [(num 2), (unk 0 0)])]) (.ret [(.agg ⟨[(.int .i64 (.ofNat 0)), (.bool true)]⟩)] []) (.ret [(.agg ⟨[(sy 6 31 [(unk 6 3), (unk 10 4), (unk 10 5)]), (sy 1 32 [(unk 6 3), (unk 10 4), (unk 10 5)])]⟩)] []))
def ictab : List VT := [icvt0, icvt1, icvt2, icvt3, icvt4]
def icplan : TP := (.seq .run [1] (.seq .run [2] (.seq (.seq .run [3] (.block (.loop [3] .run))) [4] .run)))
theorem ic_checked : chkF Tryz.prog [] [] [] icOrc bwU 100000 60 18 icargs icpls ictab icplan = true := by decide +kernel
theorem ic_flat : aggFlat Tryz.prog icargs = true := by decide +kernel
noncomputable def wiOrc (q : List (Value × Bool)) : List (FuncId × OrcF) := [(11, (rowO Tryz.prog [(22, none)] [6, 1] 25 false 0 q)), (12, (altO (fnO Tryz.prog [(45, none), (48, some (.func (.func 13) ⟨[]⟩ ⟨[]⟩))] [([1], false)] 2 q) (fnO Tryz.prog [(45, none), (48, some (.func (.func 42) ⟨[]⟩ ⟨[]⟩))] [([1], false)] 3 q))), (14, (fnO Tryz.prog [(45, none)] [([6, 1], true)] 16 q)), (29, (fnON Tryz.prog [(45, none), (68, some (.func (.func 30) ⟨[]⟩ ⟨[]⟩))] [0] [([6, 1], true)] 4 q)), (31, (fnON Tryz.prog [(45, none), (68, some (.func (.func 30) ⟨[]⟩ ⟨[]⟩))] [0] [([6, 1], true)] 6 q)), (18, (fnO Tryz.prog [(45, none)] [([6, 1], true)] 18 q))]
def wiargs : List ArgT := [(3, none), (22, none)]
noncomputable def wipls : List Asrt := [{ G := ⟨Tr.putList (symIns Tryz.prog wiargs 0) .nil 0, []⟩, Gh := ⟨.nil, 100, 100⟩, fs := factsIn Tryz.prog wiargs 0, B := 2 }
  ]
def wivt0 : VT := (.node (sy 1 1 [(num 11), (num 3), (.bool true), (sy 6 18 [(sy 0 10 [(num 3), (unk 0 1)])]), (.int .i64 (.ofNat 0))]) (.ret [(.agg ⟨[(.int .i64 (.ofNat 0)), (.bool false)]⟩), (.bool false)] []) (.node (sy 1 9 [(num 11), (sy 6 18 [(sy 0 10 [(num 3), (unk 0 1)])]), (num 8796093021952)]) (.node (sy 1 19 [(sy 0 17 [(sy 0 10 [(num 3), (unk 0 1)])])]) (.ret [(.agg ⟨[(.int .i64 (.ofNat 0)), (.bool false)]⟩), (.bool false)] []) (.node (sy 1 1 [(num 11), (num 3), (.bool true), (unk 6 0), (.int .i64 (.ofNat 1))]) (.ret [(.agg ⟨[(sy 6 33 [(sy 0 17 [(sy 0 10 [(num 3), (unk 0 1)])])]), (sy 1 34 [(sy 0 17 [(sy 0 10 [(num 3), (unk 0 1)])])])]⟩), (.bool true)] []) (.node (sy 1 1 [(num 11), (num 3), (.bool true), (unk 6 0), (.int .i64 (.ofNat 2))]) (.ret [(.agg ⟨[(sy 6 18 [(sy 0 10 [(num 3), (unk 0 1)])]), (.bool false)]⟩), (.bool true)] []) (.node (sy 1 1 [(num 11), (num 3), (.bool true), (unk 6 0), (.int .i64 (.ofNat 3))]) (.node (sy 1 9 [(num 9), (sy 6 18 [(sy 0 10 [(num 3), (unk 0 1)])]), (.int .i64 (.ofNat 0))]) (.node (sy 1 20 [(sy 0 17 [(sy 0 10 [(num 3), (unk 0 1)])])]) (.ret [(.agg ⟨[(.int .i64 (.ofNat 0)), (.bool true)]⟩), (.bool true)] []) (.ret [(.agg ⟨[(sy 6 21 [(sy 0 17 [(sy 0 10 [(num 3), (unk 0 1)])])]), (sy 1 22 [(sy 0 17 [(sy 0 10 [(num 3), (unk 0 1)])])])]⟩), (.bool true)] [])) (.node (sy 1 1 [(num 13), (num 3), (.bool true), (sy 6 18 [(sy 0 10 [(num 3), (unk 0 1)])]), (.int .i64 (.ofNat 1))]) .dead .dead)) (.node (sy 1 1 [(num 11), (num 3), (.bool true), (unk 6 0), (.int .i64 (.ofNat 4))]) (.node (sy 1 9 [(num 9), (sy 6 18 [(sy 0 10 [(num 3), (unk 0 1)])]), (.int .i64 (.ofNat 0))]) (.node (sy 1 20 [(sy 0 17 [(sy 0 10 [(num 3), (unk 0 1)])])]) (.ret [(.agg ⟨[(.int .i64 (.ofNat 0)), (.bool true)]⟩), (.bool true)] []) (.ret [(.agg ⟨[(sy 6 23 [(sy 0 17 [(sy 0 10 [(num 3), (unk 0 1)])])]), (sy 1 24 [(sy 0 17 [(sy 0 10 [(num 3), (unk 0 1)])])])]⟩), (.bool true)] [])) (.node (sy 1 1 [(num 13), (num 3), (.bool true), (sy 6 18 [(sy 0 10 [(num 3), (unk 0 1)])]), (.int .i64 (.ofNat 1))]) .dead .dead)) (.node (sy 1 1 [(num 11), (num 3), (.bool true), (unk 6 0), (.int .i64 (.ofNat 5))]) (.node (sy 1 9 [(num 9), (sy 6 18 [(sy 0 10 [(num 3), (unk 0 1)])]), (sy 6 1 [(num 1), (num 3), (.bool true), (sy 6 18 [(sy 0 10 [(num 3), (unk 0 1)])]), (.int .i64 (.ofNat 1))])]) (.ret [(.agg ⟨[(sy 6 11 [(num 0), (sy 0 17 [(sy 0 10 [(num 3), (unk 0 1)])]), (sy 6 1 [(num 1), (num 3), (.bool true), (sy 6 18 [(sy 0 10 [(num 3), (unk 0 1)])]), (.int .i64 (.ofNat 1))]), (num 2), (num 0)]), (sy 1 11 [(num 0), (sy 0 17 [(sy 0 10 [(num 3), (unk 0 1)])]), (sy 6 1 [(num 1), (num 3), (.bool true), (sy 6 18 [(sy 0 10 [(num 3), (unk 0 1)])]), (.int .i64 (.ofNat 1))]), (num 2), (num 1)])]⟩), (.bool true)] []) .dead) (.node (sy 1 1 [(num 11), (num 3), (.bool true), (unk 6 0), (.int .i64 (.ofNat 6))]) (.ret [(.agg ⟨[(sy 6 35 [(sy 0 17 [(sy 0 10 [(num 3), (unk 0 1)])])]), (sy 1 36 [(sy 0 17 [(sy 0 10 [(num 3), (unk 0 1)])])])]⟩), (.bool true)] []) (.ret [(.agg ⟨[(.int .i64 (.ofNat 0)), (.bool false)]⟩), (.bool false)] [])))))))) .dead))
def witab : List VT := [wivt0]
def wiplan : TP := .run
theorem wi_checked : chkF Tryz.prog [] [] [] wiOrc bwU 100000 60 6 wiargs wipls witab wiplan = true := by decide +kernel
theorem wi_flat : aggFlat Tryz.prog wiargs = true := by decide +kernel
noncomputable def mkOrc (q : List (Value × Bool)) : List (FuncId × OrcF) := [(6, (fnO Tryz.prog [(3, none), (22, none)] [([6, 1], true), ([1], false)] 20 q))]
def mkargs : List ArgT := [(22, none)]
noncomputable def mkpls : List Asrt := [{ G := ⟨Tr.putList (symIns Tryz.prog mkargs 0) .nil 0, []⟩, Gh := ⟨.nil, 100, 100⟩, fs := factsIn Tryz.prog mkargs 0, B := 1 }
  , { G := ⟨(Tr.putSome [(0, (unk 0 0)), (2, (.pointer (some ⟨100, 0, none⟩)))]), []⟩, Gh := ⟨obsTr [(100, (.cells (Tr.putSome [(0, (.int .i64 (.ofNat 0))), (1, (.bool false)), (2, (.int .i64 (.ofNat 0))), (3, (.bool false)), (4, (.int .i64 (.ofNat 0))), (5, (.bool false)), (6, (.int .i64 (.ofNat 0))), (7, (.bool false)), (8, (.int .i64 (.ofNat 0))), (9, (.bool false)), (10, (.int .i64 (.ofNat 0))), (11, (.bool false)), (12, (.int .i64 (.ofNat 0))), (13, (.bool false))]) 14 28 none false))], 101, 101⟩, fs := factsIn Tryz.prog mkargs 0, B := 1 }
  , { G := ⟨(Tr.putSome [(0, (unk 0 0)), (2, (.pointer (some ⟨100, 0, none⟩))), (3, (.pointer (some ⟨101, 0, none⟩)))]), []⟩, Gh := ⟨obsTr [(100, (.cells (Tr.putSome [(0, (.int .i64 (.ofNat 0))), (1, (.bool false)), (2, (.int .i64 (.ofNat 0))), (3, (.bool false)), (4, (.int .i64 (.ofNat 0))), (5, (.bool false)), (6, (.int .i64 (.ofNat 0))), (7, (.bool false)), (8, (.int .i64 (.ofNat 0))), (9, (.bool false)), (10, (.int .i64 (.ofNat 0))), (11, (.bool false)), (12, (.int .i64 (.ofNat 0))), (13, (.bool false))]) 14 28 none false)), (101, (.cells (Tr.putSome [(0, (.int .i64 (.ofNat 0))), (1, (.bool false)), (2, (.int .i64 (.ofNat 0))), (3, (.bool false)), (4, (.int .i64 (.ofNat 0))), (5, (.bool false)), (6, (.int .i64 (.ofNat 0))), (7, (.bool false)), (8, (.int .i64 (.ofNat 0))), (9, (.bool false)), (10, (.int .i64 (.ofNat 0))), (11, (.bool false)), (12, (.int .i64 (.ofNat 0))), (13, (.bool false))]) 14 28 none false))], 102, 102⟩, fs := factsIn Tryz.prog mkargs 0, B := 1 }
  , { G := ⟨(Tr.putSome [(0, (unk 0 0)), (2, (.pointer (some ⟨100, 0, none⟩))), (3, (.pointer (some ⟨101, 0, none⟩))), (4, (.int .i64 (.ofNat 1)))]), []⟩, Gh := ⟨obsTr [(100, (.cells (Tr.putSome [(0, (.int .i64 (.ofNat 0))), (1, (.bool false)), (2, (.int .i64 (.ofNat 0))), (3, (.bool false)), (4, (.int .i64 (.ofNat 0))), (5, (.bool false)), (6, (.int .i64 (.ofNat 0))), (7, (.bool false)), (8, (.int .i64 (.ofNat 0))), (9, (.bool false)), (10, (.int .i64 (.ofNat 0))), (11, (.bool false)), (12, (.int .i64 (.ofNat 0))), (13, (.bool false))]) 14 28 none false)), (101, (.cells (Tr.putSome [(0, (.int .i64 (.ofNat 0))), (1, (.bool false)), (2, (.int .i64 (.ofNat 0))), (3, (.bool false)), (4, (.int .i64 (.ofNat 0))), (5, (.bool false)), (6, (.int .i64 (.ofNat 0))), (7, (.bool false)), (8, (.int .i64 (.ofNat 0))), (9, (.bool false)), (10, (.int .i64 (.ofNat 0))), (11, (.bool false)), (12, (.int .i64 (.ofNat 0))), (13, (.bool false))]) 14 28 none false))], 102, 102⟩, fs := factsIn Tryz.prog mkargs 0, B := 1 }
  , { G := ⟨(Tr.putSome [(0, (unk 0 0)), (2, (.pointer (some ⟨100, 0, none⟩))), (3, (.pointer (some ⟨101, 0, none⟩))), (4, (.int .i64 (.ofNat 2)))]), []⟩, Gh := ⟨obsTr [(100, (.cells (Tr.putSome [(0, (.int .i64 (.ofNat 0))), (1, (.bool false)), (2, (.int .i64 (.ofNat 0))), (3, (.bool false)), (4, (.int .i64 (.ofNat 0))), (5, (.bool false)), (6, (.int .i64 (.ofNat 0))), (7, (.bool false)), (8, (.int .i64 (.ofNat 0))), (9, (.bool false)), (10, (.int .i64 (.ofNat 0))), (11, (.bool false)), (12, (.int .i64 (.ofNat 0))), (13, (.bool false))]) 14 28 none false)), (101, (.cells (Tr.putSome [(0, (.int .i64 (.ofNat 0))), (1, (.bool false)), (2, (sy 6 37 [(.int .i64 (.ofNat 1)), (sy 0 10 [(num 3), (unk 0 0)])])), (3, (sy 1 38 [(.int .i64 (.ofNat 1)), (sy 0 10 [(num 3), (unk 0 0)])])), (4, (.int .i64 (.ofNat 0))), (5, (.bool false)), (6, (.int .i64 (.ofNat 0))), (7, (.bool false)), (8, (.int .i64 (.ofNat 0))), (9, (.bool false)), (10, (.int .i64 (.ofNat 0))), (11, (.bool false)), (12, (.int .i64 (.ofNat 0))), (13, (.bool false))]) 14 28 none false))], 102, 102⟩, fs := factsIn Tryz.prog mkargs 0, B := 1 }
  , { G := ⟨(Tr.putSome [(0, (unk 0 0)), (2, (.pointer (some ⟨100, 0, none⟩))), (3, (.pointer (some ⟨101, 0, none⟩))), (4, (.int .i64 (.ofNat 3)))]), []⟩, Gh := ⟨obsTr [(100, (.cells (Tr.putSome [(0, (.int .i64 (.ofNat 0))), (1, (.bool false)), (2, (.int .i64 (.ofNat 0))), (3, (.bool false)), (4, (.int .i64 (.ofNat 0))), (5, (.bool false)), (6, (.int .i64 (.ofNat 0))), (7, (.bool false)), (8, (.int .i64 (.ofNat 0))), (9, (.bool false)), (10, (.int .i64 (.ofNat 0))), (11, (.bool false)), (12, (.int .i64 (.ofNat 0))), (13, (.bool false))]) 14 28 none false)), (101, (.cells (Tr.putSome [(0, (.int .i64 (.ofNat 0))), (1, (.bool false)), (2, (sy 6 37 [(.int .i64 (.ofNat 1)), (sy 0 10 [(num 3), (unk 0 0)])])), (3, (sy 1 38 [(.int .i64 (.ofNat 1)), (sy 0 10 [(num 3), (unk 0 0)])])), (4, (sy 6 37 [(.int .i64 (.ofNat 2)), (sy 0 10 [(num 3), (unk 0 0)])])), (5, (sy 1 38 [(.int .i64 (.ofNat 2)), (sy 0 10 [(num 3), (unk 0 0)])])), (6, (.int .i64 (.ofNat 0))), (7, (.bool false)), (8, (.int .i64 (.ofNat 0))), (9, (.bool false)), (10, (.int .i64 (.ofNat 0))), (11, (.bool false)), (12, (.int .i64 (.ofNat 0))), (13, (.bool false))]) 14 28 none false))], 102, 102⟩, fs := factsIn Tryz.prog mkargs 0, B := 1 }
  , { G := ⟨(Tr.putSome [(0, (unk 0 0)), (2, (.pointer (some ⟨100, 0, none⟩))), (3, (.pointer (some ⟨101, 0, none⟩))), (4, (.int .i64 (.ofNat 4)))]), []⟩, Gh := ⟨obsTr [(100, (.cells (Tr.putSome [(0, (.int .i64 (.ofNat 0))), (1, (.bool false)), (2, (.int .i64 (.ofNat 0))), (3, (.bool false)), (4, (.int .i64 (.ofNat 0))), (5, (.bool false)), (6, (.int .i64 (.ofNat 0))), (7, (.bool false)), (8, (.int .i64 (.ofNat 0))), (9, (.bool false)), (10, (.int .i64 (.ofNat 0))), (11, (.bool false)), (12, (.int .i64 (.ofNat 0))), (13, (.bool false))]) 14 28 none false)), (101, (.cells (Tr.putSome [(0, (.int .i64 (.ofNat 0))), (1, (.bool false)), (2, (sy 6 37 [(.int .i64 (.ofNat 1)), (sy 0 10 [(num 3), (unk 0 0)])])), (3, (sy 1 38 [(.int .i64 (.ofNat 1)), (sy 0 10 [(num 3), (unk 0 0)])])), (4, (sy 6 37 [(.int .i64 (.ofNat 2)), (sy 0 10 [(num 3), (unk 0 0)])])), (5, (sy 1 38 [(.int .i64 (.ofNat 2)), (sy 0 10 [(num 3), (unk 0 0)])])), (6, (sy 6 37 [(.int .i64 (.ofNat 3)), (sy 0 10 [(num 3), (unk 0 0)])])), (7, (sy 1 38 [(.int .i64 (.ofNat 3)), (sy 0 10 [(num 3), (unk 0 0)])])), (8, (.int .i64 (.ofNat 0))), (9, (.bool false)), (10, (.int .i64 (.ofNat 0))), (11, (.bool false)), (12, (.int .i64 (.ofNat 0))), (13, (.bool false))]) 14 28 none false))], 102, 102⟩, fs := factsIn Tryz.prog mkargs 0, B := 1 }
  , { G := ⟨(Tr.putSome [(0, (unk 0 0)), (2, (.pointer (some ⟨100, 0, none⟩))), (3, (.pointer (some ⟨101, 0, none⟩))), (4, (.int .i64 (.ofNat 5)))]), []⟩, Gh := ⟨obsTr [(100, (.cells (Tr.putSome [(0, (.int .i64 (.ofNat 0))), (1, (.bool false)), (2, (.int .i64 (.ofNat 0))), (3, (.bool false)), (4, (.int .i64 (.ofNat 0))), (5, (.bool false)), (6, (.int .i64 (.ofNat 0))), (7, (.bool false)), (8, (.int .i64 (.ofNat 0))), (9, (.bool false)), (10, (.int .i64 (.ofNat 0))), (11, (.bool false)), (12, (.int .i64 (.ofNat 0))), (13, (.bool false))]) 14 28 none false)), (101, (.cells (Tr.putSome [(0, (.int .i64 (.ofNat 0))), (1, (.bool false)), (2, (sy 6 37 [(.int .i64 (.ofNat 1)), (sy 0 10 [(num 3), (unk 0 0)])])), (3, (sy 1 38 [(.int .i64 (.ofNat 1)), (sy 0 10 [(num 3), (unk 0 0)])])), (4, (sy 6 37 [(.int .i64 (.ofNat 2)), (sy 0 10 [(num 3), (unk 0 0)])])), (5, (sy 1 38 [(.int .i64 (.ofNat 2)), (sy 0 10 [(num 3), (unk 0 0)])])), (6, (sy 6 37 [(.int .i64 (.ofNat 3)), (sy 0 10 [(num 3), (unk 0 0)])])), (7, (sy 1 38 [(.int .i64 (.ofNat 3)), (sy 0 10 [(num 3), (unk 0 0)])])), (8, (sy 6 37 [(.int .i64 (.ofNat 4)), (sy 0 10 [(num 3), (unk 0 0)])])), (9, (sy 1 38 [(.int .i64 (.ofNat 4)), (sy 0 10 [(num 3), (unk 0 0)])])), (10, (.int .i64 (.ofNat 0))), (11, (.bool false)), (12, (.int .i64 (.ofNat 0))), (13, (.bool false))]) 14 28 none false))], 102, 102⟩, fs := factsIn Tryz.prog mkargs 0, B := 1 }
  , { G := ⟨(Tr.putSome [(0, (unk 0 0)), (2, (.pointer (some ⟨100, 0, none⟩))), (3, (.pointer (some ⟨101, 0, none⟩))), (4, (.int .i64 (.ofNat 6)))]), []⟩, Gh := ⟨obsTr [(100, (.cells (Tr.putSome [(0, (.int .i64 (.ofNat 0))), (1, (.bool false)), (2, (.int .i64 (.ofNat 0))), (3, (.bool false)), (4, (.int .i64 (.ofNat 0))), (5, (.bool false)), (6, (.int .i64 (.ofNat 0))), (7, (.bool false)), (8, (.int .i64 (.ofNat 0))), (9, (.bool false)), (10, (.int .i64 (.ofNat 0))), (11, (.bool false)), (12, (.int .i64 (.ofNat 0))), (13, (.bool false))]) 14 28 none false)), (101, (.cells (Tr.putSome [(0, (.int .i64 (.ofNat 0))), (1, (.bool false)), (2, (sy 6 37 [(.int .i64 (.ofNat 1)), (sy 0 10 [(num 3), (unk 0 0)])])), (3, (sy 1 38 [(.int .i64 (.ofNat 1)), (sy 0 10 [(num 3), (unk 0 0)])])), (4, (sy 6 37 [(.int .i64 (.ofNat 2)), (sy 0 10 [(num 3), (unk 0 0)])])), (5, (sy 1 38 [(.int .i64 (.ofNat 2)), (sy 0 10 [(num 3), (unk 0 0)])])), (6, (sy 6 37 [(.int .i64 (.ofNat 3)), (sy 0 10 [(num 3), (unk 0 0)])])), (7, (sy 1 38 [(.int .i64 (.ofNat 3)), (sy 0 10 [(num 3), (unk 0 0)])])), (8, (sy 6 37 [(.int .i64 (.ofNat 4)), (sy 0 10 [(num 3), (unk 0 0)])])), (9, (sy 1 38 [(.int .i64 (.ofNat 4)), (sy 0 10 [(num 3), (unk 0 0)])])), (10, (sy 6 37 [(.int .i64 (.ofNat 5)), (sy 0 10 [(num 3), (unk 0 0)])])), (11, (sy 1 38 [(.int .i64 (.ofNat 5)), (sy 0 10 [(num 3), (unk 0 0)])])), (12, (.int .i64 (.ofNat 0))), (13, (.bool false))]) 14 28 none false))], 102, 102⟩, fs := factsIn Tryz.prog mkargs 0, B := 1 }
  , { G := ⟨(Tr.putSome [(0, (unk 0 0)), (2, (.pointer (some ⟨100, 0, none⟩))), (3, (.pointer (some ⟨101, 0, none⟩))), (4, (.int .i64 (.ofNat 7)))]), []⟩, Gh := ⟨obsTr [(100, (.cells (Tr.putSome [(0, (.int .i64 (.ofNat 0))), (1, (.bool false)), (2, (.int .i64 (.ofNat 0))), (3, (.bool false)), (4, (.int .i64 (.ofNat 0))), (5, (.bool false)), (6, (.int .i64 (.ofNat 0))), (7, (.bool false)), (8, (.int .i64 (.ofNat 0))), (9, (.bool false)), (10, (.int .i64 (.ofNat 0))), (11, (.bool false)), (12, (.int .i64 (.ofNat 0))), (13, (.bool false))]) 14 28 none false)), (101, (.cells (Tr.putSome [(0, (.int .i64 (.ofNat 0))), (1, (.bool false)), (2, (sy 6 37 [(.int .i64 (.ofNat 1)), (sy 0 10 [(num 3), (unk 0 0)])])), (3, (sy 1 38 [(.int .i64 (.ofNat 1)), (sy 0 10 [(num 3), (unk 0 0)])])), (4, (sy 6 37 [(.int .i64 (.ofNat 2)), (sy 0 10 [(num 3), (unk 0 0)])])), (5, (sy 1 38 [(.int .i64 (.ofNat 2)), (sy 0 10 [(num 3), (unk 0 0)])])), (6, (sy 6 37 [(.int .i64 (.ofNat 3)), (sy 0 10 [(num 3), (unk 0 0)])])), (7, (sy 1 38 [(.int .i64 (.ofNat 3)), (sy 0 10 [(num 3), (unk 0 0)])])), (8, (sy 6 37 [(.int .i64 (.ofNat 4)), (sy 0 10 [(num 3), (unk 0 0)])])), (9, (sy 1 38 [(.int .i64 (.ofNat 4)), (sy 0 10 [(num 3), (unk 0 0)])])), (10, (sy 6 37 [(.int .i64 (.ofNat 5)), (sy 0 10 [(num 3), (unk 0 0)])])), (11, (sy 1 38 [(.int .i64 (.ofNat 5)), (sy 0 10 [(num 3), (unk 0 0)])])), (12, (sy 6 37 [(.int .i64 (.ofNat 6)), (sy 0 10 [(num 3), (unk 0 0)])])), (13, (sy 1 38 [(.int .i64 (.ofNat 6)), (sy 0 10 [(num 3), (unk 0 0)])]))]) 14 28 none false))], 102, 102⟩, fs := factsIn Tryz.prog mkargs 0, B := 1 }
  , { G := ⟨(Tr.putSome [(2, (.pointer (some ⟨100, 0, none⟩))), (3, (.pointer (some ⟨101, 0, none⟩)))]), []⟩, Gh := ⟨obsTr [(100, (.cells (Tr.putSome [(0, (.int .i64 (.ofNat 0))), (1, (.bool false)), (2, (.int .i64 (.ofNat 0))), (3, (.bool false)), (4, (.int .i64 (.ofNat 0))), (5, (.bool false)), (6, (.int .i64 (.ofNat 0))), (7, (.bool false)), (8, (.int .i64 (.ofNat 0))), (9, (.bool false)), (10, (.int .i64 (.ofNat 0))), (11, (.bool false)), (12, (.int .i64 (.ofNat 0))), (13, (.bool false))]) 14 28 none false)), (101, (.cells (Tr.putSome [(0, (.int .i64 (.ofNat 0))), (1, (.bool false)), (2, (sy 6 37 [(.int .i64 (.ofNat 1)), (sy 0 10 [(num 3), (unk 0 0)])])), (3, (sy 1 38 [(.int .i64 (.ofNat 1)), (sy 0 10 [(num 3), (unk 0 0)])])), (4, (sy 6 37 [(.int .i64 (.ofNat 2)), (sy 0 10 [(num 3), (unk 0 0)])])), (5, (sy 1 38 [(.int .i64 (.ofNat 2)), (sy 0 10 [(num 3), (unk 0 0)])])), (6, (sy 6 37 [(.int .i64 (.ofNat 3)), (sy 0 10 [(num 3), (unk 0 0)])])), (7, (sy 1 38 [(.int .i64 (.ofNat 3)), (sy 0 10 [(num 3), (unk 0 0)])])), (8, (sy 6 37 [(.int .i64 (.ofNat 4)), (sy 0 10 [(num 3), (unk 0 0)])])), (9, (sy 1 38 [(.int .i64 (.ofNat 4)), (sy 0 10 [(num 3), (unk 0 0)])])), (10, (sy 6 37 [(.int .i64 (.ofNat 5)), (sy 0 10 [(num 3), (unk 0 0)])])), (11, (sy 1 38 [(.int .i64 (.ofNat 5)), (sy 0 10 [(num 3), (unk 0 0)])])), (12, (sy 6 37 [(.int .i64 (.ofNat 6)), (sy 0 10 [(num 3), (unk 0 0)])])), (13, (sy 1 38 [(.int .i64 (.ofNat 6)), (sy 0 10 [(num 3), (unk 0 0)])]))]) 14 28 none false))], 102, 102⟩, fs := factsIn Tryz.prog mkargs 0, B := 1 }
  ]
def mkvt0 : VT := (.go 1 [(100, 100)] [])
def mkvt1 : VT := (.go 2 [(100, 100), (101, 101)] [])
def mkvt2 : VT := (.go 3 [(100, 100), (101, 101)] [])
def mkvt3 : VT := (.node (sy 1 9 [(num 7), (unk 0 0)]) (.node (sy 1 9 [(num 11), (sy 6 5 [(unk 0 0)]), (num 5864062014634)]) (.go 4 [(100, 100), (101, 101)] []) .dead) .dead)
def mkvt4 : VT := (.node (sy 1 9 [(num 7), (unk 0 0)]) (.node (sy 1 9 [(num 11), (sy 6 5 [(unk 0 0)]), (num 5864062014634)]) (.go 5 [(100, 100), (101, 101)] []) .dead) .dead)
def mkvt5 : VT := (.node (sy 1 9 [(num 7), (unk 0 0)]) (.node (sy 1 9 [(num 11), (sy 6 5 [(unk 0 0)]), (num 5864062014634)]) (.go 6 [(100, 100), (101, 101)] []) .dead) .dead)
def mkvt6 : VT := (.node (sy 1 9 [(num 7), (unk 0 0)]) (.node (sy 1 9 [(num 11), (sy 6 5 [(unk 0 0)]), (num 5864062014634)]) (.go 7 [(100, 100), (101, 101)] []) .dead) .dead)
def mkvt7 : VT := (.node (sy 1 9 [(num 7), (unk 0 0)]) (.node (sy 1 9 [(num 11), (sy 6 5 [(unk 0 0)]), (num 5864062014634)]) (.go 8 [(100, 100), (101, 101)] []) .dead) .dead)
def mkvt8 : VT := (.node (sy 1 9 [(num 7), (unk 0 0)]) (.node (sy 1 9 [(num 11), (sy 6 5 [(unk 0 0)]), (num 5864062014634)]) (.go 9 [(100, 100), (101, 101)] []) .dead) .dead)
def mkvt9 : VT := (.go 10 [(100, 100), (101, 101)] [])
def mkvt10 : VT := (.ret [(.agg ⟨[(.int .i64 (.ofNat 0)), (.bool false), (sy 6 37 [(.int .i64 (.ofNat 1)), (sy 0 10 [(num 3), (unk 0 0)])]), (sy 1 38 [(.int .i64 (.ofNat 1)), (sy 0 10 [(num 3), (unk 0 0)])]), (sy 6 37 [(.int .i64 (.ofNat 2)), (sy 0 10 [(num 3), (unk 0 0)])]), (sy 1 38 [(.int .i64 (.ofNat 2)), (sy 0 10 [(num 3), (unk 0 0)])]), (sy 6 37 [(.int .i64 (.ofNat 3)), (sy 0 10 [(num 3), (unk 0 0)])]), (sy 1 38 [(.int .i64 (.ofNat 3)), (sy 0 10 [(num 3), (unk 0 0)])]), (sy 6 37 [(.int .i64 (.ofNat 4)), (sy 0 10 [(num 3), (unk 0 0)])]), (sy 1 38 [(.int .i64 (.ofNat 4)), (sy 0 10 [(num 3), (unk 0 0)])]), (sy 6 37 [(.int .i64 (.ofNat 5)), (sy 0 10 [(num 3), (unk 0 0)])]), (sy 1 38 [(.int .i64 (.ofNat 5)), (sy 0 10 [(num 3), (unk 0 0)])]), (sy 6 37 [(.int .i64 (.ofNat 6)), (sy 0 10 [(num 3), (unk 0 0)])]), (sy 1 38 [(.int .i64 (.ofNat 6)), (sy 0 10 [(num 3), (unk 0 0)])])]⟩)] [])
def mktab : List VT := [mkvt0, mkvt1, mkvt2, mkvt3, mkvt4, mkvt5, mkvt6, mkvt7, mkvt8, mkvt9, mkvt10]
def mkplan : TP := (.seq .run [1] (.seq .run [2] (.seq (.seq .run [3, 4, 5, 6, 7, 8, 9] (.block (.loop [3, 4, 5, 6, 7, 8, 9] .run))) [10] .run)))
theorem mk_checked : chkF Tryz.prog [] [] [] mkOrc bwU 100000 60 5 mkargs mkpls mktab mkplan = true := by decide +kernel
theorem mk_flat : aggFlat Tryz.prog mkargs = true := by decide +kernel
noncomputable def adOrc (q : List (Value × Bool)) : List (FuncId × OrcF) := []
def adargs : List ArgT := [(25, none), (45, none)]
noncomputable def adpls : List Asrt := [{ G := ⟨Tr.putList (symIns Tryz.prog adargs 0) .nil 0, []⟩, Gh := ⟨.nil, 100, 100⟩, fs := factsIn Tryz.prog adargs 0, B := 3 }
  , { G := ⟨(Tr.putSome [(1, (unk 0 2)), (2, (.pointer (some ⟨100, 0, none⟩)))]), []⟩, Gh := ⟨obsTr [(100, (.cells (Tr.putSome [(0, (unk 6 0)), (1, (unk 1 1))]) 2 25 none false))], 101, 101⟩, fs := factsIn Tryz.prog adargs 0, B := 3 }
  , { G := ⟨(Tr.putSome [(1, (unk 0 2)), (2, (.pointer (some ⟨100, 0, none⟩))), (5, (.int .i64 (.ofNat 0)))]), []⟩, Gh := ⟨obsTr [(100, (.cells (Tr.putSome [(0, (unk 6 0)), (1, (unk 1 1))]) 2 25 none false))], 101, 101⟩, fs := factsIn Tryz.prog adargs 0, B := 3 }
  , { G := ⟨(Tr.putSome [(1, (unk 0 2)), (2, (.pointer (some ⟨100, 0, none⟩))), (5, (unk 6 3)), (6, (unk 6 4))]), []⟩, Gh := ⟨obsTr [(100, (.cells (Tr.putSome [(0, (unk 6 5)), (1, (unk 1 6))]) 2 25 none false))], 101, 101⟩, fs := factsIn Tryz.prog adargs 0, B := 3 }
  , { G := ⟨(Tr.putSome [(2, (.pointer (some ⟨100, 0, none⟩))), (5, (unk 6 3))]), []⟩, Gh := ⟨obsTr [(100, (.cells (Tr.putSome [(0, (unk 6 4)), (1, (unk 1 5))]) 2 25 none false))], 101, 101⟩, fs := factsIn Tryz.prog adargs 0, B := 3 }
  ]
def advt0 : VT := (.go 1 [(100, 100)] [])
def advt1 : VT := (.go 2 [(100, 100)] [])
def advt2 : VT := (.go 3 [(100, 100)] [(3, 6, (.int .i64 (.ofNat 0))), (4, 6, (.int .i64 (.ofNat 0))), (6, 1, (unk 1 1)), (5, 6, (unk 6 0))])
def advt3 : VT := (.node (sy 1 1 [(num 13), (num 3), (.bool false), (unk 6 4), (sy 6 5 [(unk 0 2)])]) (.node (sy 1 9 [(num 1), (unk 0 2), (unk 6 4)]) (.node (sy 1 6 [(sy 0 8 [(sy 0 8 [(sy 0 7 [(num 2), (unk 0 2), (unk 6 4)]), (num 1)]), (num 0)])]) (.ret [(.bool true)] []) (.node (sy 1 1 [(num 13), (num 2), (.bool true), (.int .i64 (.ofNat 0)), (sy 6 6 [(sy 0 8 [(sy 0 8 [(sy 0 7 [(num 2), (unk 0 2), (unk 6 4)]), (num 0)]), (num 0)])])]) (.node (sy 1 1 [(num 13), (num 2), (.bool false), (sy 6 1 [(num 1), (num 2), (.bool true), (.int .i64 (.ofNat 9223372036854775807)), (sy 6 6 [(sy 0 8 [(sy 0 8 [(sy 0 7 [(num 2), (unk 0 2), (unk 6 4)]), (num 0)]), (num 0)])])]), (unk 6 3)]) (.ret [(.bool true)] []) (.node (sy 1 1 [(num 13), (num 2), (.bool true), (sy 6 6 [(sy 0 8 [(sy 0 8 [(sy 0 7 [(num 2), (unk 0 2), (unk 6 4)]), (num 0)]), (num 0)])]), (.int .i64 (.ofNat 0))]) (.node (sy 1 1 [(num 13), (num 2), (.bool false), (unk 6 3), (sy 6 1 [(num 1), (num 2), (.bool true), (.int .i64 (.negSucc 9223372036854775807)), (sy 6 6 [(sy 0 8 [(sy 0 8 [(sy 0 7 [(num 2), (unk 0 2), (unk 6 4)]), (num 0)]), (num 0)])])])]) (.ret [(.bool true)] []) (.go 3 [(100, 100)] [(3, 6, (sy 6 1 [(num 0), (num 2), (.bool false), (unk 6 3), (sy 6 6 [(sy 0 8 [(sy 0 8 [(sy 0 7 [(num 2), (unk 0 2), (unk 6 4)]), (num 0)]), (num 0)])])])), (4, 6, (sy 6 1 [(num 0), (num 3), (.bool true), (unk 6 4), (.int .i64 (.ofNat 1))])), (6, 1, (unk 1 6)), (5, 6, (unk 6 5))])) (.go 3 [(100, 100)] [(3, 6, (sy 6 1 [(num 0), (num 2), (.bool false), (unk 6 3), (sy 6 6 [(sy 0 8 [(sy 0 8 [(sy 0 7 [(num 2), (unk 0 2), (unk 6 4)]), (num 0)]), (num 0)])])])), (4, 6, (sy 6 1 [(num 0), (num 3), (.bool true), (unk 6 4), (.int .i64 (.ofNat 1))])), (6, 1, (unk 1 6)), (5, 6, (unk 6 5))]))) (.node (sy 1 1 [(num 13), (num 2), (.bool true), (sy 6 6 [(sy 0 8 [(sy 0 8 [(sy 0 7 [(num 2), (unk 0 2), (unk 6 4)]), (num 0)]), (num 0)])]), (.int .i64 (.ofNat 0))]) (.node (sy 1 1 [(num 13), (num 2), (.bool false), (unk 6 3), (sy 6 1 [(num 1), (num 2), (.bool true), (.int .i64 (.negSucc 9223372036854775807)), (sy 6 6 [(sy 0 8 [(sy 0 8 [(sy 0 7 [(num 2), (unk 0 2), (unk 6 4)]), (num 0)]), (num 0)])])])]) (.ret [(.bool true)] []) (.go 3 [(100, 100)] [(3, 6, (sy 6 1 [(num 0), (num 2), (.bool false), (unk 6 3), (sy 6 6 [(sy 0 8 [(sy 0 8 [(sy 0 7 [(num 2), (unk 0 2), (unk 6 4)]), (num 0)]), (num 0)])])])), (4, 6, (sy 6 1 [(num 0), (num 3), (.bool true), (unk 6 4), (.int .i64 (.ofNat 1))])), (6, 1, (unk 1 6)), (5, 6, (unk 6 5))])) (.go 3 [(100, 100)] [(3, 6, (sy 6 1 [(num 0), (num 2), (.bool false), (unk 6 3), (sy 6 6 [(sy 0 8 [(sy 0 8 [(sy 0 7 [(num 2), (unk 0 2), (unk 6 4)]), (num 0)]), (num 0)])])])), (4, 6, (sy 6 1 [(num 0), (num 3), (.bool true), (unk 6 4), (.int .i64 (.ofNat 1))])), (6, 1, (unk 1 6)), (5, 6, (unk 6 5))])))) .dead) (.go 4 [(100, 100)] [(3, 6, (unk 6 3)), (5, 1, (unk 1 6)), (4, 6, (unk 6 5))]))
def advt4 : VT := (.node (sy 1 1 [(num 11), (num 2), (.bool false), (unk 6 4), (unk 6 3)]) (.node (sy 1 1 [(num 11), (num 4), (.bool false), (unk 1 5), (.bool false)]) (.ret [(.bool true)] []) (.ret [(.bool false)] [])) (.ret [(.bool false)] []))
def adtab : List VT := [advt0, advt1, advt2, advt3, advt4]
def adplan : TP := (.seq .run [1] (.seq .run [2] (.seq (.seq .run [3] (.block (.loop [3] .run))) [4] .run)))
theorem ad_checked : chkF Tryz.prog [] [] [] adOrc bwU 100000 60 7 adargs adpls adtab adplan = true := by decide +kernel
theorem ad_flat : aggFlat Tryz.prog adargs = true := by decide +kernel
end
end Go.Proofs.YtkgflcpgjdbcdaaGreatDoor
