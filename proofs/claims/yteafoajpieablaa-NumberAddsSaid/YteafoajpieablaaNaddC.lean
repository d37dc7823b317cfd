/- Every way through NumberAdds ends with true: the places one by one, from the last. -/
import Derived.Test.YteafoajpieablaaNaddB
set_option linter.unusedVariables false
set_option linter.unusedSimpArgs false
namespace Go.Proofs.Yteafoajpieablaa
open Go Go.RowKit Ev
section
variable {R : Addr → Option Value} {s : Nat → Value} {u : Nat → List Value → Option Value}
theorem nA (ty k : Nat) (xs : List Value) : denS s u (sy ty (k + 1) xs) = (mapO (denS s u) xs).bind (u k) := denS_app ty k xs
theorem f_num (k : Nat) : denS s u (num k) = some (num k) := denS_flat rfl
theorem f_int (k : IntKind) (n : Int) : denS s u (.int k n) = some (.int k n) := denS_flat rfl
theorem f_bool (b : Bool) : denS s u (.bool b) = some (.bool b) := denS_flat rfl
theorem n_eql0 (t : Nat) (c : Bool) (a : Int) : nu R 0 [num 11, num t, .bool c, .int .u64 a, num 0] = some (.bool (a == 0)) := n_eql t c .u64 a 0
theorem n_t9 (k k' : IntKind) (n i : Nat) : nu R 8 [num 9, .int k (.ofNat n), .int k' (.ofNat i)] = some (.bool (Nat.blt i n)) := by rw [n_tr]; rfl
theorem n_t1 (a : Addr) (n c : Nat) (k : IntKind) (i : Nat) : nu R 8 [num 1, .slice (some a) n c, .int k (.ofNat i)] = some (.bool (Nat.blt i n)) := by rw [n_tr]; rfl
theorem n_t7 (a : Option Addr) (n c : Nat) : nu R 8 [num 7, .slice a n c] = some (.bool (Nat.blt 0 n)) := by rw [n_tr]; rfl
theorem n_t13 (a b : Int) (ha : SW a) (hb : b ≠ 0) : nu R 8 [num 13, .int .i64 a, .int .i64 b] = some (.bool true) := by
  rw [n_tr]
  show some (Value.bool (tDiv (.int .i64 a) (.int .i64 b))) = _
  have h1 : tyOk 6 (.int .i64 a) = true := by
    unfold SW at ha
    simp only [tyOk, kindCode, IntKind.min, IntKind.max]
    simp
    constructor <;> first | (simp [IntKind.bits, IntKind.signed]; omega) | omega
  simp only [tDiv, kindCode, h1]
  simp [hb]
theorem wA {a : Nat} (h : a < 9223372036854775808) : wrapA .i64 (.ofNat a) = .ofNat a := by
  unfold wrapA
  simp only [show Nat.blt a 9223372036854775808 = true from Nat.blt_eq.mpr h]
theorem w_sub {n i : Nat} (h : i ≤ n) (hn : n < 9223372036854775808) : wrapA .i64 (Int.ofNat n - Int.ofNat i) = Int.ofNat (n - i) := by
  rw [show Int.ofNat n - Int.ofNat i = Int.ofNat (n - i) from by show (n : Int) - (i : Int) = ((n - i : Nat) : Int); omega]
  exact wA (by omega)
theorem w_add {n i : Nat} (h : n + i < 9223372036854775808) : wrapA .i64 (Int.ofNat n + Int.ofNat i) = Int.ofNat (n + i) := wA h
theorem n_len' (a : Option Addr) (n c : Nat) : nu R 4 [.slice a n c] = some (.int .i64 (Int.ofNat n)) := n_len a n c
theorem gH0 : gH 0 = Int.ofNat 0 := by decide +kernel
theorem gL0 : gL 0 = Int.ofNat 0 := by decide +kernel
/-! Contracts. -/
theorem n_put0 (S O n : Int) (b : Bool) (h : SW n) : nu R 16 [.int .i64 (gH S), .int .u64 (gL S), .int .u64 (gL O), .int .i64 n, .bool b] = some (.int .i64 (gH (S + vN (n, b)))) := by rw [n_U 0, ← put_h S n b h]; rfl
theorem n_put1 (S O n : Int) (b : Bool) (h : SW n) : nu R 17 [.int .i64 (gH S), .int .u64 (gL S), .int .u64 (gL O), .int .i64 n, .bool b] = some (.int .u64 (gL (S + vN (n, b)))) := by rw [n_U 1, ← put_l S n b h]; rfl
theorem n_put2 (S O n : Int) (b : Bool) : nu R 18 [.int .i64 (gH S), .int .u64 (gL S), .int .u64 (gL O), .int .i64 n, .bool b] = some (.int .u64 (gL (O + oo b))) := by rw [n_U 2, ← put_o O b]; rfl
theorem n_tak0 (S O n : Int) (b : Bool) (h : SW n) : nu R 19 [.int .i64 (gH S), .int .u64 (gL S), .int .u64 (gL O), .int .i64 n, .bool b] = some (.int .i64 (gH (S - vN (n, b)))) := by rw [n_U 3, ← take_h S n b h]; rfl
theorem n_tak1 (S O n : Int) (b : Bool) (h : SW n) : nu R 20 [.int .i64 (gH S), .int .u64 (gL S), .int .u64 (gL O), .int .i64 n, .bool b] = some (.int .u64 (gL (S - vN (n, b)))) := by rw [n_U 4, ← take_l S n b h]; rfl
theorem n_tak2 (S O n : Int) (b : Bool) : nu R 21 [.int .i64 (gH S), .int .u64 (gL S), .int .u64 (gL O), .int .i64 n, .bool b] = some (.int .u64 (gL (O - oo b))) := by rw [n_U 5, ← take_o O b]; rfl
theorem n_z0 (n : Int) (b : Bool) (h : SW n) : nu R 16 [.int .i64 (.ofNat 0), num 0, num 0, .int .i64 n, .bool b] = some (.int .i64 (gH (0 + vN (n, b)))) := by
  have e := n_put0 (R := R) 0 0 n b h
  rw [gH0, gL0] at e
  exact e
theorem n_z1 (n : Int) (b : Bool) (h : SW n) : nu R 17 [.int .i64 (.ofNat 0), num 0, num 0, .int .i64 n, .bool b] = some (.int .u64 (gL (0 + vN (n, b)))) := by
  have e := n_put1 (R := R) 0 0 n b h
  rw [gH0, gL0] at e
  exact e
theorem n_z2 (n : Int) (b : Bool) : nu R 18 [.int .i64 (.ofNat 0), num 0, num 0, .int .i64 n, .bool b] = some (.int .u64 (gL (0 + oo b))) := by
  have e := n_put2 (R := R) 0 0 n b
  rw [gH0, gL0] at e
  exact e
theorem n_val0 (h l o : Int) : nu R 22 [.int .i64 h, .int .u64 l, .int .u64 o] = some (.int .i64 (outN (h * 18446744073709551616 + l) o)) := by rw [n_U 6]; rfl
theorem n_val1 (h l o : Int) : nu R 23 [.int .i64 h, .int .u64 l, .int .u64 o] = some (.bool (outB (h * 18446744073709551616 + l) o)) := by rw [n_U 7]; rfl
theorem n_do0 (op a b : Int) (ao bo : Bool) : nu R 24 [.int .i64 op, .int .i64 a, .bool ao, .int .i64 b, .bool bo] = some (.int .i64 (doN op a ao b bo)) := by rw [n_U 8]; rfl
theorem n_do1 (op a b : Int) (ao bo : Bool) : nu R 25 [.int .i64 op, .int .i64 a, .bool ao, .int .i64 b, .bool bo] = some (.bool (doB op a ao b bo)) := by rw [n_U 9]; rfl
theorem n_do2 (op a b : Int) (ao bo : Bool) : nu R 26 [.int .i64 op, .int .i64 a, .bool ao, .int .i64 b, .bool bo] = some (.int .i64 (doE op a ao b bo)) := by rw [n_U 10]; rfl
end
def naR : ResT := [([1], false)]
noncomputable def naQ (R : Addr → Option Value) : (Nat → Value) → List Value → List (Nat × AObj) → Prop := fun s vs _ => denV s (nu R) 9 (oneA vs) = some (oneA (outV naR [.bool true]))
abbrev NE (R : Addr → Option Value) (p : Nat) (s : Nat → Value) : Prop := Ev.Ends (nu R) natab (naQ R) p s
theorem q_true {R : Addr → Option Value} {s : Nat → Value} : naQ R s [.bool true] [] := by
  show denV s (nu R) 9 (.bool true) = some (.bool true)
  unfold denV
  exact denS_flat rfl
/-- Values that may be. -/
def Ok (n : Int) (b : Bool) : Prop := SW n ∧ (b = true → n = 0)
theorem e_op {op : Int} (h : 1 ≤ op ∧ op ≤ 3) {a b : Int} {ao bo : Bool} (ha : Ok a ao) (hb : Ok b bo) : doE op a ao b bo = 0 := by
  have h1 : chkZ a ao = 0 := by unfold chkZ; rw [if_neg]; exact fun ⟨x, y⟩ => y (ha.2 x)
  have h2 : chkZ b bo = 0 := by unfold chkZ; rw [if_neg]; exact fun ⟨x, y⟩ => y (hb.2 x)
  unfold doE
  rw [h1, h2, if_neg]
  omega
theorem d_comm {op : Int} (h : op = 1 ∨ op = 3) {a b : Int} {ao bo : Bool} (ha : Ok a ao) (hb : Ok b bo) : doN op a ao b bo = doN op b bo a ao ∧ doB op a ao b bo = doB op b bo a ao := by
  have h1 := e_op (op := op) (by omega) ha hb
  have h2 := e_op (op := op) (by omega) hb ha
  have hx : doX op a b = doX op b a := by
    unfold doX
    rcases h with rfl | rfl
    · simp; omega
    · simp [Int.mul_comm]
  unfold doN doB
  rw [h1, h2, hx]
  cases ao <;> cases bo <;> simp
theorem g_back {S : Int} (h : -170141183460469231731687303715884105728 ≤ S ∧ S < 170141183460469231731687303715884105728) : gH S * 18446744073709551616 + gL S = S := by
  unfold gH gL wrap64
  omega
theorem last_ok {a b : Int} {ao bo : Bool} (ha : Ok a ao) (hb : Ok b bo) :
    doN 1 a ao b bo = outN (gH (0 + vN (a, ao) + vN (b, bo)) * 18446744073709551616 + gL (0 + vN (a, ao) + vN (b, bo))) (gL (0 + oo ao + oo bo)) ∧
    doB 1 a ao b bo = outB (gH (0 + vN (a, ao) + vN (b, bo)) * 18446744073709551616 + gL (0 + vN (a, ao) + vN (b, bo))) (gL (0 + oo ao + oo bo)) ∧
    (doB 1 a ao b bo = false → doN 2 (doN 1 a ao b bo) (doB 1 a ao b bo) b bo = a ∧ doB 2 (doN 1 a ao b bo) (doB 1 a ao b bo) b bo = ao) := by
  obtain ⟨ha1, ha2⟩ := ha
  obtain ⟨hb1, hb2⟩ := hb
  have hE := e_op (op := 1) (by omega) ⟨ha1, ha2⟩ ⟨hb1, hb2⟩
  unfold SW at ha1 hb1
  cases ao with
  | true =>
    have := ha2 rfl
    subst this
    have hc : chkZ 0 true = 0 := rfl
    have o1 : gL (0 + oo true + oo bo) ≠ 0 := by cases bo <;> decide
    have b1 : ∀ S, outB S (gL (0 + oo true + oo bo)) = true := fun S => by unfold outB; exact decide_eq_true (.inl o1)
    refine ⟨?_, ?_, ?_⟩
    · unfold doN outN; rw [hE, b1]; simp
    · rw [b1]; unfold doB; rw [hE]; simp
    · unfold doB; rw [hE]; simp
  | false =>
    cases bo with
    | true =>
      have := hb2 rfl
      subst this
      have o1 : gL (0 + oo false + oo true) ≠ 0 := by decide
      have b1 : ∀ S, outB S (gL (0 + oo false + oo true)) = true := fun S => by unfold outB; exact decide_eq_true (.inl o1)
      refine ⟨?_, ?_, ?_⟩
      · unfold doN outN; rw [hE, b1]; simp
      · rw [b1]; unfold doB; rw [hE]; simp
      · unfold doB; rw [hE]; simp
    | false =>
      have hv : 0 + vN (a, false) + vN (b, false) = a + b := by simp [vN]
      have ho : gL (0 + oo false + oo false) = 0 := by decide
      rw [hv, ho, g_back (by omega)]
      have e1 : doB 1 a false b false = outB (a + b) 0 := by unfold doB; rw [hE]; simp [doX]
      have e2 : doN 1 a false b false = outN (a + b) 0 := by unfold doN; rw [hE]; simp [doX]
      refine ⟨e2, e1, fun hf => ?_⟩
      rw [e2, hf]
      rw [e1] at hf
      have hS : outN (a + b) 0 = a + b := by unfold outN; rw [hf]; rfl
      rw [hS]
      have hr : -9223372036854775808 ≤ a + b ∧ a + b ≤ 9223372036854775807 := by
        unfold outB at hf
        have := of_decide_eq_false hf
        omega
      have hE2 := e_op (op := 2) (a := a + b) (b := b) (ao := false) (bo := false) (by omega) ⟨hr, fun h => by cases h⟩ ⟨hb1, fun h => by cases h⟩
      have x1 : doX 2 (a + b) b = a := by unfold doX; simp
      have x2 : outB a 0 = false := by unfold outB; exact decide_eq_false (by omega)
      refine ⟨?_, ?_⟩
      · unfold doN; rw [hE2]; simp [x1, outN, x2]
      · unfold doB; rw [hE2]; simp [x1, x2]
section
variable {R : Addr → Option Value} {s : Nat → Value} {a b : Int} {ao bo : Bool} (ha : Ok a ao) (hb : Ok b bo)
include ha hb
theorem e23 (h : Sh s 6 [.int .i64 a, .bool ao, .int .i64 b, .bool bo]) : NE R 23 s := by
  obtain ⟨h6, h7, h8, h9, -⟩ := h
  have sa := ha.1
  have sb := hb.1
  obtain ⟨l1, l2, l3⟩ := last_ok ha hb
  refine Ends_mk ?_
  show At _ _ _ _ navt23
  unfold navt23
  have end1 : ∀ {e1 e2 : Value}, denS s (nu R) e1 = some (.bool true) → denS s (nu R) e2 = some (.bool true) → At (nu R) (Ev.Ends (nu R) natab (naQ R)) (naQ R) s (.node e1 (.node e2 (.ret [.bool true] []) (.ret [.bool false] [])) (.ret [.bool false] [])) := fun h1 h2 => at_t h1 (at_t h2 q_true)
  have x0 : denS s (nu R) (Ev.sy 6 25 [(.int .i64 (.ofNat 1)), (Ev.unk 6 6), (Ev.unk 1 7), (Ev.unk 6 8), (Ev.unk 1 9)]) = some (.int .i64 (doN (.ofNat 1) a ao b bo)) := by simp only [nA, denS_unk, f_num, f_int, f_bool, mapO, Option.bind_some, n_lss, n_eql, n_eql0, n_add, n_sub, n_beq, n_len', n_rd, n_ix, n_fd, n_cell, n_over, n_t9, n_do0, h6, h7, h8, h9]
  have x1 : denS s (nu R) (Ev.sy 1 26 [(.int .i64 (.ofNat 1)), (Ev.unk 6 6), (Ev.unk 1 7), (Ev.unk 6 8), (Ev.unk 1 9)]) = some (.bool (doB (.ofNat 1) a ao b bo)) := by simp only [nA, denS_unk, f_num, f_int, f_bool, mapO, Option.bind_some, n_lss, n_eql, n_eql0, n_add, n_sub, n_beq, n_len', n_rd, n_ix, n_fd, n_cell, n_over, n_t9, n_do1, h6, h7, h8, h9]
  refine at_node x1 (fun hx => ?_) (fun hx => ?_)
  · refine end1 ?_ ?_
    · simp only [nA, denS_unk, f_num, f_int, f_bool, mapO, Option.bind_some, n_lss, n_eql, n_eql0, n_add, n_sub, n_beq, n_len', n_rd, n_ix, n_fd, n_cell, n_over, n_t9, n_do0, n_z0, n_z1, n_z2, n_put0, n_put1, n_put2, n_val0, h6, h7, h8, h9, sa, sb]
      exact congrArg (fun z => some (Value.bool z)) (beq_iff_eq.2 l1)
    · simp only [nA, denS_unk, f_num, f_int, f_bool, mapO, Option.bind_some, n_lss, n_eql, n_eql0, n_add, n_sub, n_beq, n_len', n_rd, n_ix, n_fd, n_cell, n_over, n_t9, n_do1, n_z0, n_z1, n_z2, n_put0, n_put1, n_put2, n_val1, h6, h7, h8, h9, sa, sb]
      exact congrArg (fun z => some (Value.bool z)) (beq_iff_eq.2 l2)
  · obtain ⟨l4, l5⟩ := l3 hx
    refine at_t ?_ (at_t ?_ (end1 ?_ ?_))
    · simp only [nA, denS_unk, f_num, f_int, f_bool, mapO, Option.bind_some, n_lss, n_eql, n_eql0, n_add, n_sub, n_beq, n_len', n_rd, n_ix, n_fd, n_cell, n_over, n_t9, n_do0, n_do1, h6, h7, h8, h9]
      exact congrArg (fun z => some (Value.bool z)) (beq_iff_eq.2 l4)
    · simp only [nA, denS_unk, f_num, f_int, f_bool, mapO, Option.bind_some, n_lss, n_eql, n_eql0, n_add, n_sub, n_beq, n_len', n_rd, n_ix, n_fd, n_cell, n_over, n_t9, n_do0, n_do1, h6, h7, h8, h9]
      exact congrArg (fun z => some (Value.bool z)) (beq_iff_eq.2 l5)
    · simp only [nA, denS_unk, f_num, f_int, f_bool, mapO, Option.bind_some, n_lss, n_eql, n_eql0, n_add, n_sub, n_beq, n_len', n_rd, n_ix, n_fd, n_cell, n_over, n_t9, n_do0, n_z0, n_z1, n_z2, n_put0, n_put1, n_put2, n_val0, h6, h7, h8, h9, sa, sb]
      exact congrArg (fun z => some (Value.bool z)) (beq_iff_eq.2 l1)
    · simp only [nA, denS_unk, f_num, f_int, f_bool, mapO, Option.bind_some, n_lss, n_eql, n_eql0, n_add, n_sub, n_beq, n_len', n_rd, n_ix, n_fd, n_cell, n_over, n_t9, n_do1, n_z0, n_z1, n_z2, n_put0, n_put1, n_put2, n_val1, h6, h7, h8, h9, sa, sb]
      exact congrArg (fun z => some (Value.bool z)) (beq_iff_eq.2 l2)
theorem e22 : ∀ (k op : Nat) (s : Nat → Value), op = 5 ∧ k = 0 ∨ op = 3 ∧ k = 1 ∨ op = 1 ∧ k = 2 → Sh s 6 [.int .i64 (.ofNat op), .int .i64 a, .bool ao, .int .i64 b, .bool bo] → NE R 22 s := by
  intro k
  induction k with
  | zero =>
    intro op s hk h
    obtain ⟨h6, h7, h8, h9, h10, -⟩ := h
    obtain rfl : op = 5 := by omega
    refine Ends_mk ?_
    show At _ _ _ _ navt22
    unfold navt22
    refine at_t ?_ ?_
    · simp only [nA, denS_unk, f_num, f_int, f_bool, mapO, Option.bind_some, n_lss, n_eql, n_eql0, n_add, n_sub, n_beq, n_len', n_rd, n_ix, n_fd, n_cell, n_over, n_t9, h6]
      rfl
    · refine e23 ha hb ⟨upd_e rfl ?_, upd_e rfl ?_, upd_e rfl ?_, upd_e rfl ?_, trivial⟩ <;> simp only [nA, denS_unk, f_num, f_int, f_bool, mapO, Option.bind_some, n_lss, n_eql, n_eql0, n_add, n_sub, n_beq, n_len', n_rd, n_ix, n_fd, n_cell, n_over, n_t9, h7, h8, h9, h10]
  | succ k ih =>
    intro op s hk h
    obtain ⟨h6, h7, h8, h9, h10, -⟩ := h
    obtain ⟨c1, c2⟩ := d_comm (op := (op : Int)) (by omega) ha hb
    have c3 := e_op (op := (op : Int)) (by omega) ha hb
    have c4 := e_op (op := (op : Int)) (by omega) hb ha
    refine Ends_mk ?_
    show At _ _ _ _ navt22
    unfold navt22
    refine at_f ?_ (at_t ?_ (at_t ?_ (at_t ?_ (at_t ?_ ?_))))
    · simp only [nA, denS_unk, f_num, f_int, f_bool, mapO, Option.bind_some, n_lss, n_eql, n_eql0, n_add, n_sub, n_beq, n_len', n_rd, n_ix, n_fd, n_cell, n_over, n_t9, h6]
      exact congrArg (fun z => some (Value.bool z)) (decide_eq_false (by show ¬ (3 : Int) < (op : Int); omega))
    · simp only [nA, denS_unk, f_num, f_int, f_bool, mapO, Option.bind_some, n_lss, n_eql, n_eql0, n_add, n_sub, n_beq, n_len', n_rd, n_ix, n_fd, n_cell, n_over, n_t9, n_do0, h6, h7, h8, h9, h10]
      exact congrArg (fun z => some (Value.bool z)) (beq_iff_eq.2 c1)
    · simp only [nA, denS_unk, f_num, f_int, f_bool, mapO, Option.bind_some, n_lss, n_eql, n_eql0, n_add, n_sub, n_beq, n_len', n_rd, n_ix, n_fd, n_cell, n_over, n_t9, n_do1, h6, h7, h8, h9, h10]
      exact congrArg (fun z => some (Value.bool z)) (beq_iff_eq.2 c2)
    · simp only [nA, denS_unk, f_num, f_int, f_bool, mapO, Option.bind_some, n_lss, n_eql, n_eql0, n_add, n_sub, n_beq, n_len', n_rd, n_ix, n_fd, n_cell, n_over, n_t9, n_do2, h6, h7, h8, h9, h10]
      exact congrArg (fun z => some (Value.bool z)) (beq_iff_eq.2 c3)
    · simp only [nA, denS_unk, f_num, f_int, f_bool, mapO, Option.bind_some, n_lss, n_eql, n_eql0, n_add, n_sub, n_beq, n_len', n_rd, n_ix, n_fd, n_cell, n_over, n_t9, n_do2, h6, h7, h8, h9, h10]
      exact congrArg (fun z => some (Value.bool z)) (beq_iff_eq.2 c4)
    · have w := w_add (n := op) (i := 2) (by omega)
      refine ih (op + 2) _ (by omega) ⟨upd_e rfl ?_, upd_e rfl ?_, upd_e rfl ?_, upd_e rfl ?_, upd_e rfl ?_, trivial⟩ <;> simp only [nA, denS_unk, f_num, f_int, f_bool, mapO, Option.bind_some, n_lss, n_eql, n_eql0, n_add, n_sub, n_beq, n_len', n_rd, n_ix, n_fd, n_cell, n_over, n_t9, h6, h7, h8, h9, h10, w]
theorem e21 (h : Sh s 6 [.int .i64 a, .bool ao, .int .i64 b, .bool bo]) : NE R 21 s := by
  obtain ⟨h6, h7, h8, h9, -⟩ := h
  refine Ends_mk ?_
  show NE R 22 _
  refine e22 ha hb 2 1 _ (by omega) ⟨upd_e rfl ?_, upd_e rfl ?_, upd_e rfl ?_, upd_e rfl ?_, upd_e rfl ?_, trivial⟩ <;> simp only [nA, denS_unk, f_num, f_int, f_bool, mapO, Option.bind_some, n_lss, n_eql, n_eql0, n_add, n_sub, n_beq, n_len', n_rd, n_ix, n_fd, n_cell, n_over, n_t9, h6, h7, h8, h9]
theorem e20 (h : Sh s 6 [.int .i64 a, .bool ao, .int .i64 b, .bool bo, .int .i64 (gH 0), .int .u64 (gL 0), .int .u64 (gL 0)]) : NE R 20 s := by
  obtain ⟨h6, h7, h8, h9, h10, h11, h12, -⟩ := h
  refine Ends_mk ?_
  show At _ _ _ _ navt20
  unfold navt20
  refine at_t ?_ (at_t ?_ (at_t ?_ ?_))
  · simp only [nA, denS_unk, f_num, f_int, f_bool, mapO, Option.bind_some, n_lss, n_eql, n_eql0, n_add, n_sub, n_beq, n_len', n_rd, n_ix, n_fd, n_cell, n_over, n_t9, h10]
    rw [gH0]; rfl
  · simp only [nA, denS_unk, f_num, f_int, f_bool, mapO, Option.bind_some, n_lss, n_eql, n_eql0, n_add, n_sub, n_beq, n_len', n_rd, n_ix, n_fd, n_cell, n_over, n_t9, h11]
    rw [gL0]; rfl
  · simp only [nA, denS_unk, f_num, f_int, f_bool, mapO, Option.bind_some, n_lss, n_eql, n_eql0, n_add, n_sub, n_beq, n_len', n_rd, n_ix, n_fd, n_cell, n_over, n_t9, h12]
    rw [gL0]; rfl
  · refine e21 ha hb ⟨upd_e rfl ?_, upd_e rfl ?_, upd_e rfl ?_, upd_e rfl ?_, trivial⟩ <;> simp only [nA, denS_unk, f_num, f_int, f_bool, mapO, Option.bind_some, n_lss, n_eql, n_eql0, n_add, n_sub, n_beq, n_len', n_rd, n_ix, n_fd, n_cell, n_over, n_t9, h6, h7, h8, h9]
end
end Go.Proofs.Yteafoajpieablaa
