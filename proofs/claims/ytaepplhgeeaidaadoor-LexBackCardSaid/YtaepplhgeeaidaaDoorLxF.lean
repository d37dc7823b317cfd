import Derived.Test.YtaepplhgeeaidaaDoorLxS
set_option linter.unusedVariables false
set_option linter.unusedSimpArgs false
set_option linter.unusedSectionVars false
set_option maxRecDepth 100000
set_option maxHeartbeats 4000000
namespace Go.Proofs.YtaepplhgeeaidaaDoor
open Go Go.RowKit Ev
theorem textF_yes {x : B8} (h0 : ¬ (unqP x).2 = 0) : textF x = ((3, (unqP x).1, 0, 0), (unqP x).2) := by
  unfold textF
  cases hq : unqF x with
  | none => exact absurd (by unfold unqP; rw [hq]; rfl) h0
  | some p =>
    have e : unqP x = p := by unfold unqP; rw [hq]; rfl
    rw [e] at h0 ⊢
    exact if_neg h0
theorem textF_no {x : B8} (h0 : (unqP x).2 = 0) : textF x = (tok0, 0) := by
  unfold textF
  cases hq : unqF x with
  | none => rfl
  | some p =>
    have e : unqP x = p := by unfold unqP; rw [hq]; rfl
    rw [e] at h0
    exact if_pos h0
section
variable {cx : Cx} (hU : cx.U = lxU) {R : Addr → Option Value}
include hU
theorem ft_ways {c : UInt8} {r : B8} {neg : Bool} (hx : (c :: r).length ≤ 1048576) {s : Nat → Value} (q0 : s 0 = .string (tx (c :: r))) (q1 : s 1 = .bool neg) : Ev.Ends (uRd cx R) fttab (QV cx R (tkR (frsF (c :: r) neg))) 0 s := by
  have b0 := x_byte (cx := cx) (R := R) (l := c :: r) (i := 0) (by simp) .i64
  have e0 := firstF_eq namF valF c r neg
  have hsig : (.string ⟨⟨[43, 42, 40, 41, 123, 125, 91, 93, 44, 58]⟩⟩ : Value) = .string (tx [43, 42, 40, 41, 123, 125, 91, 93, 44, 58]) := rfl
  have hsg : decide (idxB [43, 42, 40, 41, 123, 125, 91, 93, 44, 58] (Int.ofNat c.toNat) < Int.ofNat 0) = decide (¬ (c.toNat = 43 ∨ c.toNat = 42 ∨ c.toNat = 40 ∨ c.toNat = 41 ∨ c.toNat = 123 ∨ c.toNat = 125 ∨ c.toNat = 91 ∨ c.toNat = 93 ∨ c.toNat = 44 ∨ c.toNat = 58)) := decide_eq_decide.2 (sgn_neg c)
  have hlen : (c :: r).length = r.length + 1 := rfl
  have u0 := unqP_len (c :: r)
  have hrw := run_le wordB (c :: r)
  have g0 : (c :: r).getD 0 0 = c := rfl
  rw [g0] at b0
  have t1 : (List.take 1 (c :: r)).length = 1 := rfl
  have fin0 : frsF (c :: r) neg = (tok0, 0) → QV cx R (tkR (frsF (c :: r) neg)) s [(.agg ⟨[(.int .i64 (.ofNat 0)), (.string ⟨⟨[]⟩⟩), (.int .i64 (.ofNat 0)), (.int .i64 (.ofNat 0))]⟩), (.int .i64 (.ofNat 0))] [] := fun h => by
    rw [h]
    exact ret_tok (dv_int ..) (dv_str ..) (dv_int ..) (dv_int ..) (dv_int ..)
  have fin1 : frsF (c :: r) neg = signF (c :: r) 1 → QV cx R (tkR (frsF (c :: r) neg)) s [(.agg ⟨[(.int .i64 (.ofNat 4)), fte14, (.int .i64 (.ofNat 0)), (.int .i64 (.ofNat 0))]⟩), (.int .i64 (.ofNat 1))] [] := fun h => by
    rw [h]
    refine ret_tok (dv_int ..) ?_ (dv_int ..) (dv_int ..) (dv_int ..)
    show denV s (uRd cx R) 7 (sy 2 43 [sy 2 11 _]) = _
    rw [dv_sy]
    simp only [nA, denS_unk, f_num, f_int, f_bool, f_str, mapO, Option.bind_some, n_lss, n_eql, n_add, n_sub, n_t9, n_leq, n_t11, x_len, x_cut, x_t12, x_t10, x_seq, dl, n_beq2, q0, lu26 hU, List.drop_zero, Nat.sub_zero]
    rfl
  have fin2 : frsF (c :: r) neg = signF (c :: r) 2 → QV cx R (tkR (frsF (c :: r) neg)) s [(.agg ⟨[(.int .i64 (.ofNat 4)), (sy 2 43 [fte3]), (.int .i64 (.ofNat 0)), (.int .i64 (.ofNat 0))]⟩), (.int .i64 (.ofNat 2))] [] := fun h => by
    rw [h]
    refine ret_tok (dv_int ..) ?_ (dv_int ..) (dv_int ..) (dv_int ..)
    show denV s (uRd cx R) 7 (sy 2 43 [sy 2 11 _]) = _
    rw [dv_sy]
    simp only [nA, denS_unk, f_num, f_int, f_bool, f_str, mapO, Option.bind_some, n_lss, n_eql, n_add, n_sub, n_t9, n_leq, n_t11, x_len, x_cut, x_t12, x_t10, x_seq, dl, n_beq2, q0, lu26 hU, List.drop_zero, Nat.sub_zero]
    rfl
  have finN : frsF (c :: r) neg = numF valF (c :: r) → QV cx R (tkR (frsF (c :: r) neg)) s [(.agg ⟨[(sy 6 26 [(unk 2 0)]), (sy 2 27 [(unk 2 0)]), (sy 6 28 [(unk 2 0)]), (sy 6 29 [(unk 2 0)])]⟩), (sy 6 30 [(unk 2 0)])] [] := fun h => by
    rw [h]
    refine ret_tok ?_ ?_ ?_ ?_ ?_
    all_goals
      rw [dv_sy]
      simp only [nA, denS_unk, f_num, f_int, f_bool, f_str, mapO, Option.bind_some, n_lss, n_eql, n_add, n_sub, n_t9, n_leq, n_t11, x_len, x_cut, x_t12, x_t10, x_seq, dl, n_beq2, q0, lu9 hU, lu10 hU, lu11 hU, lu12 hU, lu13 hU]
  have finT : ¬ (unqP (c :: r)).2 = 0 → frsF (c :: r) neg = textF (c :: r) → QV cx R (tkR (frsF (c :: r) neg)) s [(.agg ⟨[(.int .i64 (.ofNat 3)), (sy 2 43 [(sy 2 24 [(unk 2 0)])]), (.int .i64 (.ofNat 0)), (.int .i64 (.ofNat 0))]⟩), (sy 6 25 [(unk 2 0)])] [] := fun h0 h => by
    have e2 := textF_yes h0
    rw [h, e2]
    refine ret_tok (dv_int ..) ?_ (dv_int ..) (dv_int ..) ?_
    all_goals
      rw [dv_sy]
      simp only [nA, denS_unk, f_num, f_int, f_bool, f_str, mapO, Option.bind_some, n_lss, n_eql, n_add, n_sub, n_t9, n_leq, n_t11, x_len, x_cut, x_t12, x_t10, x_seq, dl, n_beq2, q0, lu26 hU, lu7 hU, lu8 hU]
  have finW : namF ((c :: r).take (runF wordB (c :: r))) = true → frsF (c :: r) neg = wordF namF (c :: r) → QV cx R (tkR (frsF (c :: r) neg)) s [(.agg ⟨[(.int .i64 (.ofNat 1)), (sy 2 43 [fte6]), (.int .i64 (.ofNat 0)), (.int .i64 (.ofNat 0))]⟩), (sy 6 19 [(unk 2 0)])] [] := fun h0 h => by
    have e2 : wordF namF (c :: r) = ((1, (c :: r).take (runF wordB (c :: r)), 0, 0), runF wordB (c :: r)) := if_pos h0
    rw [h, e2]
    refine ret_tok (dv_int ..) ?_ (dv_int ..) (dv_int ..) ?_
    · show denV s (uRd cx R) 7 (sy 2 43 [sy 2 11 _]) = _
      rw [dv_sy]
      simp only [nA, denS_unk, f_num, f_int, f_bool, f_str, mapO, Option.bind_some, n_lss, n_eql, n_add, n_sub, n_t9, n_leq, n_t11, x_len, x_cut, x_t12, x_t10, x_seq, dl, n_beq2, q0, lu26 hU, lu2 hU, List.drop_zero, Nat.sub_zero]
    · rw [dv_sy]
      simp only [nA, denS_unk, f_num, f_int, f_bool, f_str, mapO, Option.bind_some, n_lss, n_eql, n_add, n_sub, n_t9, n_leq, n_t11, x_len, x_cut, x_t12, x_t10, x_seq, dl, n_beq2, q0, lu2 hU]
  have e : frsF (c :: r) neg = _ := e0
  clear e0
  have w0 : namF ((c :: r).take (runF wordB (c :: r))) = false → wordF namF (c :: r) = (tok0, 0) := fun h => if_neg (by rw [h]; decide)
  have x0 : (unqP (c :: r)).2 = 0 → textF (c :: r) = (tok0, 0) := textF_no
  have lt : (List.take (runF wordB (c :: r)) (c :: r)).length ≤ r.length + 1 := by rw [List.length_take]; exact Nat.le_trans (Nat.min_le_right _ _) (Nat.le_refl _)
  have lt2 : (List.take 2 (c :: r)).length ≤ 2 := by rw [List.length_take]; exact Nat.min_le_left _ _
  cases r with
  | nil =>
    have e1 : ([] : B8).headD 0 = 0 := rfl
    rw [e1, show (0 : UInt8).toNat = 0 from rfl] at e
    cases neg
    all_goals
      simp only [Bool.false_eq_true, false_and, true_and, if_false] at e
      refine Ends_mk ?_
      show At _ _ _ _ ftvt0
      unfold ftvt0
      repeat' (refine at_node (by simp only [nA, denS_unk, f_num, f_int, f_bool, f_str, mapO, Option.bind_some, n_lss, n_eql, n_add, n_sub, n_t9, n_leq, n_t11, x_len, x_cut, x_t12, x_t10, x_seq, dl, n_beq2, q0, q1, b0, fte0, fte1, fte2, fte3, fte4, fte5, fte6, fte7, fte8, fte9, fte10, fte11, fte12, fte13, fte14, hsig, lu0 hU, lu2 hU, lu3 hU, lu7 hU, lu8 hU, ble_dec, blt_dec, List.drop_zero, Nat.sub_zero, hsg] <;> exact rfl) (fun h => ?_) (fun h => ?_))
      all_goals simp only [decide_eq_true_eq, decide_eq_false_iff_not, Bool.and_eq_true, Bool.and_eq_false_iff, Nat.not_lt, Nat.not_le, Classical.not_not, beq_iff_eq, beq_eq_false_iff_ne, ne_eq, List.length_cons, List.length_nil, Nat.zero_add, Nat.lt_irrefl, Nat.not_lt_zero, or_false, false_or, not_false_eq_true, Bool.false_eq_true, reduceCtorEq] at *
      all_goals first
        | (exfalso; omega)
        | contradiction
        | (refine fin0 ?_; rw [e]; simp (disch := omega) only [if_pos, if_neg, if_true, if_false]; done)
        | (refine fin1 ?_; rw [e]; simp (disch := omega) only [if_pos, if_neg, if_true, if_false]; done)
        | (refine fin2 ?_; rw [e]; simp (disch := omega) only [if_pos, if_neg, if_true, if_false]; done)
        | (refine finN ?_; rw [e]; simp (disch := omega) only [if_pos, if_neg, if_true, if_false]; done)
        | (refine finT (by omega) ?_; rw [e]; simp (disch := omega) only [if_pos, if_neg, if_true, if_false]; done)
        | (refine finW (by assumption) ?_; rw [e]; simp (disch := omega) only [if_pos, if_neg, if_true, if_false]; done)
        | (refine fin0 ?_; rw [e]; simp (disch := omega) only [if_pos, if_neg, if_true, if_false]; exact w0 (by assumption))
        | (refine fin0 ?_; rw [e]; simp (disch := omega) only [if_pos, if_neg, if_true, if_false]; exact x0 (by assumption))
  | cons d r' =>
    have b1 := x_byte (cx := cx) (R := R) (l := c :: d :: r') (i := 1) (by simp) .i64
    have g1 : (c :: d :: r').getD 1 0 = d := rfl
    rw [g1] at b1
    have e1 : (d :: r').headD 0 = d := rfl
    rw [e1] at e
    cases neg
    all_goals
      simp only [Bool.false_eq_true, false_and, true_and, if_false] at e
      refine Ends_mk ?_
      show At _ _ _ _ ftvt0
      unfold ftvt0
      repeat' (refine at_node (by simp only [nA, denS_unk, f_num, f_int, f_bool, f_str, mapO, Option.bind_some, n_lss, n_eql, n_add, n_sub, n_t9, n_leq, n_t11, x_len, x_cut, x_t12, x_t10, x_seq, dl, n_beq2, q0, q1, b0, b1, fte0, fte1, fte2, fte3, fte4, fte5, fte6, fte7, fte8, fte9, fte10, fte11, fte12, fte13, fte14, hsig, lu0 hU, lu2 hU, lu3 hU, lu7 hU, lu8 hU, ble_dec, blt_dec, List.drop_zero, Nat.sub_zero, hsg] <;> exact rfl) (fun h => ?_) (fun h => ?_))
      all_goals simp only [decide_eq_true_eq, decide_eq_false_iff_not, Bool.and_eq_true, Bool.and_eq_false_iff, Nat.not_lt, Nat.not_le, Classical.not_not, beq_iff_eq, beq_eq_false_iff_ne, ne_eq, List.length_cons, List.length_nil, Nat.zero_add, Nat.lt_irrefl, Nat.not_lt_zero, or_false, false_or, not_false_eq_true, Bool.false_eq_true, reduceCtorEq] at *
      all_goals first
        | (exfalso; omega)
        | contradiction
        | (refine fin0 ?_; rw [e]; simp (disch := omega) only [if_pos, if_neg, if_true, if_false]; done)
        | (refine fin1 ?_; rw [e]; simp (disch := omega) only [if_pos, if_neg, if_true, if_false]; done)
        | (refine fin2 ?_; rw [e]; simp (disch := omega) only [if_pos, if_neg, if_true, if_false]; done)
        | (refine finN ?_; rw [e]; simp (disch := omega) only [if_pos, if_neg, if_true, if_false]; done)
        | (refine finT (by omega) ?_; rw [e]; simp (disch := omega) only [if_pos, if_neg, if_true, if_false]; done)
        | (refine finW (by assumption) ?_; rw [e]; simp (disch := omega) only [if_pos, if_neg, if_true, if_false]; done)
        | (refine fin0 ?_; rw [e]; simp (disch := omega) only [if_pos, if_neg, if_true, if_false]; exact w0 (by assumption))
        | (refine fin0 ?_; rw [e]; simp (disch := omega) only [if_pos, if_neg, if_true, if_false]; exact x0 (by assumption))
end
end Go.Proofs.YtaepplhgeeaidaaDoor
