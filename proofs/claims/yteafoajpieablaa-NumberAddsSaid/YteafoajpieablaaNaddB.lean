/- What expressions come to in NumberAdds' steps; sums of values. -/
import Derived.Test.YteafoajpieablaaNaddA
set_option linter.unusedVariables false
set_option linter.unusedSimpArgs false
namespace Go.Proofs.Yteafoajpieablaa
open Go Go.RowKit Ev
/-! Great sums by their numbers. -/
def vN (v : Int × Bool) : Int := if v.2 then 0 else v.1
def gH (S : Int) : Int := wrap64 (S / 18446744073709551616)
def gL (S : Int) : Int := S % 18446744073709551616
theorem oh_ol {n : Int} (b : Bool) : oh n b * 18446744073709551616 + ol n b = vN (n, b) ∨ ¬ SW n := by
  unfold oh ol vN SW
  cases b <;> simp <;> omega
theorem put_h (S n : Int) (b : Bool) (h : SW n) : hiP (gH S) (gL S) (oh n b) (ol n b) = gH (S + vN (n, b)) := by
  have e := (oh_ol (n := n) b).resolve_right (fun x => x h)
  rw [← e]
  generalize oh n b = x
  generalize ol n b = y
  unfold hiP gH gL wrap64
  omega
theorem put_l (S n : Int) (b : Bool) (h : SW n) : loP (gL S) (ol n b) = gL (S + vN (n, b)) := by
  have e := (oh_ol (n := n) b).resolve_right (fun x => x h)
  rw [← e]
  unfold loP gL
  omega
theorem put_o (O : Int) (b : Bool) : loP (gL O) (oo b) = gL (O + oo b) := by unfold loP gL; omega
theorem take_h (S n : Int) (b : Bool) (h : SW n) : hiM (gH S) (gL S) (oh n b) (ol n b) = gH (S - vN (n, b)) := by
  have e := (oh_ol (n := n) b).resolve_right (fun x => x h)
  rw [← e]
  generalize oh n b = x
  generalize ol n b = y
  unfold hiM gH gL wrap64
  omega
theorem take_l (S n : Int) (b : Bool) (h : SW n) : loM (gL S) (ol n b) = gL (S - vN (n, b)) := by
  have e := (oh_ol (n := n) b).resolve_right (fun x => x h)
  rw [← e]
  unfold loM gL
  omega
theorem take_o (O : Int) (b : Bool) : loM (gL O) (oo b) = gL (O - oo b) := by unfold loM gL; omega
abbrev Vs := List (Int × Bool)
def sumV : Vs → Int
  | [] => 0
  | v :: l => sumV l + vN v
def cntV : Vs → Int
  | [] => 0
  | v :: l => cntV l + oo v.2
theorem cnt_len : ∀ l : Vs, 0 ≤ cntV l ∧ cntV l ≤ l.length
  | [] => ⟨Int.le_refl _, Int.le_refl _⟩
  | v :: l => by
    have := cnt_len l
    have h : 0 ≤ oo v.2 ∧ oo v.2 ≤ 1 := by unfold oo; split <;> omega
    show 0 ≤ cntV l + _ ∧ cntV l + _ ≤ ((l.length + 1 : Nat) : Int)
    omega
theorem cnt_mem : ∀ {l : Vs} {v : Int × Bool}, v ∈ l → v.2 = true → 0 < cntV l
  | w :: l, v, h, hv => by
    have h0 := (cnt_len l).1
    show 0 < cntV l + oo w.2
    rcases List.mem_cons.1 h with rfl | h
    · unfold oo; rw [hv]; simp; omega
    · have := cnt_mem h hv
      have : 0 ≤ oo w.2 := by unfold oo; split <;> omega
      omega
theorem sum_perm {l m : Vs} (h : l.Perm m) : sumV l = sumV m := by
  induction h with
  | nil => rfl
  | cons x _ ih => show sumV _ + _ = sumV _ + _; rw [ih]
  | swap x y l => show sumV l + _ + _ = sumV l + _ + _; omega
  | trans _ _ h1 h2 => exact h1.trans h2
theorem cnt_perm {l m : Vs} (h : l.Perm m) : cntV l = cntV m := by
  induction h with
  | nil => rfl
  | cons x _ ih => show cntV _ + _ = cntV _ + _; rw [ih]
  | swap x y l => show cntV l + _ + _ = cntV l + _ + _; omega
  | trans _ _ h1 h2 => exact h1.trans h2
theorem sum_app : ∀ l m : Vs, sumV (l ++ m) = sumV l + sumV m
  | [], m => by show sumV m = 0 + _; omega
  | v :: l, m => by show sumV (l ++ m) + _ = sumV l + _ + _; rw [sum_app l m]; omega
theorem cnt_app : ∀ l m : Vs, cntV (l ++ m) = cntV l + cntV m
  | [], m => by show cntV m = 0 + _; omega
  | v :: l, m => by show cntV (l ++ m) + _ = cntV l + _ + _; rw [cnt_app l m]; omega
theorem sum_take {l : Vs} {i : Nat} {v : Int × Bool} (h : l[i]? = some v) : sumV (l.take (i + 1)) = sumV (l.take i) + vN v ∧ cntV (l.take (i + 1)) = cntV (l.take i) + oo v.2 := by
  rw [List.take_add_one, h, sum_app, cnt_app]
  refine ⟨?_, ?_⟩
  · show _ + (0 + _) = _; omega
  · show _ + (0 + _) = _; omega
/-! Values as cells. -/
def cv : Vs → List Value
  | [] => []
  | v :: l => .int .i64 v.1 :: .bool v.2 :: cv l
theorem cv_len : ∀ l : Vs, (cv l).length = l.length * 2
  | [] => rfl
  | v :: l => by show (cv l).length + 1 + 1 = (l.length + 1) * 2; rw [cv_len l]; omega
theorem cv_get : ∀ {l : Vs} {i : Nat} {v : Int × Bool}, l[i]? = some v → (cv l)[i * 2 + 0]? = some (.int .i64 v.1) ∧ (cv l)[i * 2 + 1]? = some (.bool v.2)
  | w :: l, 0, v, h => by
    injection h with h
    subst h
    exact ⟨rfl, rfl⟩
  | w :: l, i + 1, v, h => by
    have := cv_get (l := l) (i := i) h
    rw [show (i + 1) * 2 + 0 = i * 2 + 0 + 1 + 1 by omega, show (i + 1) * 2 + 1 = i * 2 + 1 + 1 + 1 by omega]
    exact this
theorem cv_set : ∀ {l : Vs} {i : Nat} {v : Int × Bool}, i < l.length → overL (cv l) (i * 2 + 0) [.int .i64 v.1, .bool v.2] = cv (l.set i v)
  | w :: l, 0, v, h => by
    show overL (.int .i64 w.1 :: .bool w.2 :: cv l) 0 _ = .int .i64 v.1 :: .bool v.2 :: cv l
    simp [overL]
  | w :: l, i + 1, v, h => by
    have := cv_set (l := l) (i := i) (v := v) (by simpa using h)
    rw [show (i + 1) * 2 + 0 = i * 2 + 0 + 1 + 1 by omega]
    show overL (.int .i64 w.1 :: .bool w.2 :: cv l) _ _ = .int .i64 w.1 :: .bool w.2 :: cv (l.set i v)
    rw [← this]
    simp [overL]
def swap (m : Vs) (i j : Nat) (x y : Int × Bool) : Vs := (m.set i y).set j x
theorem swap_perm {m : Vs} {i j : Nat} {x y : Int × Bool} (hi : m[i]? = some x) (hj : m[j]? = some y) : (swap m i j x y).Perm m := by
  obtain ⟨h1, rfl⟩ := List.getElem?_eq_some_iff.1 hi
  obtain ⟨h2, rfl⟩ := List.getElem?_eq_some_iff.1 hj
  exact List.set_set_perm h1 h2
theorem swap_len {m : Vs} {i j : Nat} {x y : Int × Bool} : (swap m i j x y).length = m.length := by simp [swap]
/-! Expressions. -/
noncomputable abbrev nu (R : Addr → Option Value) : Nat → List Value → Option Value := uRd (cxOf Try.prog naEx [] [] (naOrc []) [] naU) R
theorem nu_op (R : Addr → Option Value) (vs : List Value) : nu R 0 vs = opSem (cxOf Try.prog naEx [] [] (naOrc []) [] naU) 0 vs := uRd_op _ _ _
theorem nu_rd (R : Addr → Option Value) (k : Nat) (vs : List Value) (hk : 4 ≤ k ∧ k < 16 ∧ k ≠ 5) : nu R k vs = opRd Try.prog R k vs := uRd_rd _ _ _ _ hk
section
variable {R : Addr → Option Value} {s : Nat → Value}
theorem n_lss (t : Nat) (c : Bool) (k : IntKind) (a b : Int) : nu R 0 [num 13, num t, .bool c, .int k a, .int k b] = some (.bool (decide (a < b))) := by
  rw [nu_op]; simp only [opSem, num, binOf]; rw [binA_int (by simp) (by simp)]; rfl
theorem n_eql (t : Nat) (c : Bool) (k : IntKind) (a b : Int) : nu R 0 [num 11, num t, .bool c, .int k a, .int k b] = some (.bool (a == b)) := by
  rw [nu_op]; simp only [opSem, num, binOf]; rw [binA_int (by simp) (by simp)]; rfl
theorem n_add (t : Nat) (c : Bool) (k : IntKind) (a b : Int) : nu R 0 [num 0, num t, .bool c, .int k a, .int k b] = some (.int k (wrapA k (a + b))) := by
  rw [nu_op]; simp only [opSem, num, binOf]; rw [binA_int (by simp) (by simp)]; rfl
theorem n_sub (t : Nat) (c : Bool) (k : IntKind) (a b : Int) : nu R 0 [num 1, num t, .bool c, .int k a, .int k b] = some (.int k (wrapA k (a - b))) := by
  rw [nu_op]; simp only [opSem, num, binOf]; rw [binA_int (by simp) (by simp)]; rfl
theorem n_rem (t : Nat) (c : Bool) (k : IntKind) (a b : Int) (h : b ≠ 0) : nu R 0 [num 4, num t, .bool c, .int k a, .int k b] = some (.int k (a.tmod b)) := by
  rw [nu_op]; simp only [opSem, num, binOf]; rw [binA_int (by simp) (by simp)]; simp [intA, h]
theorem bool_t : (match (bare (cxOf Try.prog naEx [] [] (naOrc []) [] naU)).t 4 with | some ti => isBoolD ti.desc | none => false) = true := by decide +kernel
theorem n_beq (c a b : Bool) : nu R 0 [num 11, num 4, .bool c, .bool a, .bool b] = some (.bool (a == b)) := by
  have h := bool_t
  split at h
  · rename_i ti ht
    rw [nu_op]
    exact (binA_bool ht h c a b).1
  · cases h
theorem n_len (a : Option Addr) (n c : Nat) : nu R 4 [.slice a n c] = some (.int .i64 n) := by rw [nu_rd _ _ _ (by omega)]; rfl
theorem n_rd (a : Addr) : nu R 5 [.pointer (some a)] = R a := rfl
theorem n_ix (z : Nat) (a : Addr) (n c : Nat) (k : IntKind) (i : Nat) : nu R 6 [num z, .slice (some a) n c, .int k (.ofNat i)] = some (.pointer (some (a.add (i * z)))) := by rw [nu_rd _ _ _ (by omega)]; rfl
theorem n_fd (a : Addr) (o : Nat) : nu R 7 [.pointer (some a), num o] = some (.pointer (some (a.add o))) := by rw [nu_rd _ _ _ (by omega)]; rfl
theorem n_tr (k : Nat) (vs : List Value) : nu R 8 (num k :: vs) = opRd Try.prog R 8 (num k :: vs) := by rw [nu_rd _ _ _ (by omega)]
theorem n_cs (z : Nat) (a : Addr) (n c : Nat) (l : List Value) (h : readN R a (n * z) = some l) : nu R 9 [num z, .slice (some a) n c] = some (.agg ⟨l⟩) := by
  rw [nu_rd _ _ _ (by omega)]
  show (match readN R a (n * z) with | some l => some (Value.agg ⟨l⟩) | none => none) = _
  rw [h]
theorem n_cell (xs : List Value) (k : IntKind) (i z o : Nat) : nu R 10 [num 0, .agg ⟨xs⟩, .int k (.ofNat i), num z, num o] = xs[i * z + o]? := by rw [nu_rd _ _ _ (by omega)]; rfl
theorem n_over (xs : List Value) (k : IntKind) (i z o : Nat) (x y : Value) : nu R 10 [num 1, .agg ⟨xs⟩, .int k (.ofNat i), num z, num o, x, y] = some (.agg ⟨overL xs (i * z + o) [x, y]⟩) := by rw [nu_rd _ _ _ (by omega)]; rfl
theorem n_U (j : Nat) (vs : List Value) : nu R (j + 16) vs = naU j vs := by
  unfold nu uRd
  rw [if_neg (by omega), if_neg (by omega), if_neg (by omega), Nat.add_sub_cancel]
  rfl
end
/-! A test, both ways. -/
section
variable {u : Nat → List Value → Option Value} {X : Nat → (Nat → Value) → Prop} {Q : (Nat → Value) → List Value → List (Nat × AObj) → Prop} {s : Nat → Value}
theorem at_node {e : Value} {b : Bool} {t f : VT} (h : denS s u e = some (.bool b)) (h1 : b = true → At u X Q s t) (h2 : b = false → At u X Q s f) : At u X Q s (.node e t f) := by
  unfold At
  rw [h]
  cases b with
  | true => exact h1 rfl
  | false => exact h2 rfl
theorem at_t {e : Value} {t f : VT} (h : denS s u e = some (.bool true)) (h1 : At u X Q s t) : At u X Q s (.node e t f) := at_node h (fun _ => h1) (fun h => by cases h)
theorem at_f {e : Value} {t f : VT} (h : denS s u e = some (.bool false)) (h1 : At u X Q s f) : At u X Q s (.node e t f) := at_node h (fun h => by cases h) (fun _ => h1)
theorem upd_s {L : Ms} {i : Nat} (h : getL i L = none) : upd s u L i = s i := by unfold upd; rw [h]
theorem upd_e {L : Ms} {i : Nat} {e v : Value} (h : getL i L = some e) (hv : denS s u e = some v) : upd s u L i = v := by unfold upd; rw [h]; simp only [hv]
/-- A state holds these values from a place on. -/
def Sh (s : Nat → Value) : Nat → List Value → Prop
  | _, [] => True
  | i, v :: l => s i = v ∧ Sh s (i + 1) l
end
end Go.Proofs.Yteafoajpieablaa
