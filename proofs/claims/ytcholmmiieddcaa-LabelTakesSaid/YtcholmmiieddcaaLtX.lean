/- LabelTakes: from place to place: the law, from its beginning. -/
import Derived.Test.YtcholmmiieddcaaLtW
set_option linter.unusedVariables false
set_option linter.unusedSimpArgs false
set_option linter.unusedSectionVars false
set_option maxRecDepth 100000
namespace Go.Proofs.Ytcholmmiieddcaa
open Go Go.RowKit Ev
section
variable {cx : Cx} (hU : cx.U = ltU) {R : Addr → Option Value} {l : List Lab} {m n : List Mat} {as bs : List T} {al am an aa ab : Option Addr} {cl cm cn ca cb : Nat} {s : Nat → Value}
  (nb : ∀ c a b, uRd cx R 0 [num 11, num 4, .bool c, .bool a, .bool b] = some (.bool (a == b)))
  (L : LstG eL 2 32 QL R al l) (M : LstG eM 3 40 QM R am m) (N : LstG eM 3 40 QM R an n) (A : LstG eT 1 16 QT R aa as) (B : LstG eT 1 16 QT R ab bs)
include hU nb L M A B
theorem lt5 (hl : chkL l = 0) (hm : chkM m = 0) (hcm : m.length ≤ cm) : ∀ (k i : Nat) (s : Nat → Value), i + k = m.length → s 0 = .slice al l.length cl → s 1 = .slice am m.length cm → s 3 = .slice aa as.length ca → s 4 = .slice ab bs.length cb → s 5 = .int .i64 (.ofNat i) → Ev.Ends (uRd cx R) lttab (QV cx R (.bool true)) 5 s := by
  intro k
  induction k with
  | zero =>
    intro i s hk q0 q1 q3 q4 q5
    refine Ends_mk ?_
    show At _ _ _ _ ltvt5
    unfold ltvt5
    refine at_f ?_ ?_
    · simp only [nA, denS_unk, f_num, f_int, f_bool, f_str, mapO, Option.bind_some, n_lss, n_eql, n_seq, n_add, n_sub, n_len, n_slen, n_rd, n_ix, n_fd, n_t9, n_t10, n_t11, n_t7, n_t1, n_t14, n_leq, n_geq, q1, q5]
      rw [dl]
      exact congrArg (fun z => some (Value.bool z)) (decide_eq_false (by omega))
    · exact lt6 hU L A B ((upd_s rfl).trans q0) ((upd_s rfl).trans q3) ((upd_s rfl).trans q4) hl
  | succ k ih =>
    intro i s hk q0 q1 q3 q4 q5
    have M0 := M
    obtain ⟨x, a, rfl, hv, qa, g, hdrop⟩ := lstG_at M (i := i) (by omega)
    have few := (lstG_few M).1
    have hmem : a ∈ m := List.mem_of_getElem? hv
    have w := w_add (n := i) (i := 1) (by omega)
    have g0 := g 0 _ rfl
    have g1 := g 1 _ rfl
    have g2 := g 2 _ rfl
    have hc := n_contG (cx := cx) (c := cl) L
    obtain ⟨v, v1, v2⟩ := n_cutG (cx := cx) eM_len M (i := i) (j := i + 1) (by omega) (by omega) hcm .i64 .i64
    rw [flip_one hdrop] at v2
    have hk3 : a.1 = 1 ∨ a.1 = 2 := by
      have hw := (chkM_mem hm).2 a hmem
      unfold wrM at hw
      rw [Bool.or_eq_false_iff, Bool.not_eq_false', Bool.or_eq_true] at hw
      rcases hw.1 with h | h
      · exact .inl (by simpa using h)
      · exact .inr (by simpa using h)
    have hw3 : wrapA .i64 (Int.ofNat 3 - a.1) = 3 - a.1 := by rcases hk3 with h | h <;> rw [h] <;> decide +kernel
    have h16 : uRd cx R 32 [.agg ⟨[.int .i64 (3 - a.1), .string a.2.1, .string a.2.2]⟩, .agg ⟨l.flatMap eL⟩] = some (.bool (takB [flipM a] l)) := u16 hU [flipM a] l
    refine Ends_mk ?_
    show At _ _ _ _ ltvt5
    unfold ltvt5
    refine at_t ?_ (at_t ?_ (at_t ?_ (at_f ?_ (ih (i + 1) _ (by omega) ((upd_s rfl).trans q0) ((upd_s rfl).trans q1) ((upd_s rfl).trans q3) ((upd_s rfl).trans q4) (upd_e rfl ?_)))))
    · simp only [nA, denS_unk, f_num, f_int, f_bool, f_str, mapO, Option.bind_some, n_lss, n_eql, n_seq, n_add, n_sub, n_len, n_slen, n_rd, n_ix, n_fd, n_t9, n_t10, n_t11, n_t7, n_t1, n_t14, n_leq, n_geq, q1, q5]
      rw [dl]
      exact congrArg (fun z => some (Value.bool z)) (decide_eq_true (by omega))
    · simp only [nA, denS_unk, f_num, f_int, f_bool, f_str, mapO, Option.bind_some, n_lss, n_eql, n_seq, n_add, n_sub, n_len, n_slen, n_rd, n_ix, n_fd, n_t9, n_t10, n_t11, n_t7, n_t1, n_t14, n_leq, n_geq, q1, q5]
      rw [bl (by omega)]
    · simp only [nA, denS_unk, f_num, f_int, f_bool, f_str, mapO, Option.bind_some, n_lss, n_eql, n_seq, n_add, n_sub, n_len, n_slen, n_rd, n_ix, n_fd, n_t9, n_t10, n_t11, n_t7, n_t1, n_t14, n_leq, n_geq, q1, q5, w]
      rw [Nat.ble_eq.mpr (by omega), Nat.ble_eq.mpr (by omega)]
      rfl
    · simp only [nA, denS_unk, f_num, f_int, f_bool, f_str, mapO, Option.bind_some, n_lss, n_eql, n_seq, n_add, n_sub, n_len, n_slen, n_rd, n_ix, n_fd, n_t9, n_t10, n_t11, n_t7, n_t1, n_t14, n_leq, n_geq, lte22, q0, q1, q5, w, g0, g1, g2, v1, v2, hc, n_lit, hw3, h16, u16 hU]
      rw [nb, tak_flip hm hl hmem]
    · simp only [nA, denS_unk, f_num, f_int, f_bool, f_str, mapO, Option.bind_some, n_lss, n_eql, n_seq, n_add, n_sub, n_len, n_slen, n_rd, n_ix, n_fd, n_t9, n_t10, n_t11, n_t7, n_t1, n_t14, n_leq, n_geq, q5, w]
theorem lt4 (hl : chkL l = 0) (hm : chkM m = 0) (hcm : m.length ≤ cm) (q0 : s 0 = .slice al l.length cl) (q1 : s 1 = .slice am m.length cm) (q3 : s 3 = .slice aa as.length ca) (q4 : s 4 = .slice ab bs.length cb) : Ev.Ends (uRd cx R) lttab (QV cx R (.bool true)) 4 s := by
  refine Ends_mk ?_
  show Ev.Ends (uRd cx R) lttab _ 5 _
  exact lt5 hU nb L M A B hl hm hcm m.length 0 _ (by omega) ((upd_s rfl).trans q0) ((upd_s rfl).trans q1) ((upd_s rfl).trans q3) ((upd_s rfl).trans q4) (upd_e rfl (denS_flat rfl))
include N
theorem lt3 (hl : chkL l = 0) (hm : chkM m = 0) (hn : chkM n = 0) (hcm : m.length ≤ cm) (q0 : s 0 = .slice al l.length cl) (q1 : s 1 = .slice am m.length cm) (q2 : s 2 = .slice an n.length cn) (q3 : s 3 = .slice aa as.length ca) (q4 : s 4 = .slice ab bs.length cb) : Ev.Ends (uRd cx R) lttab (QV cx R (.bool true)) 3 s := by
  have m8 := (chkM_mem hm).1
  have n8 := (chkM_mem hn).1
  have w := w_add (n := m.length) (i := n.length) (by omega)
  have hc := n_contG (cx := cx) (c := cl) L
  have hcm' := n_contG (cx := cx) (c := cm) M
  have hcn := n_contG (cx := cx) (c := cn) N
  have next : Ev.Ends (uRd cx R) lttab (QV cx R (.bool true)) 4 (upd s (uRd cx R) []) := lt4 hU nb L M A B hl hm hcm ((upd_s rfl).trans q0) ((upd_s rfl).trans q1) ((upd_s rfl).trans q3) ((upd_s rfl).trans q4)
  have h16 : uRd cx R 32 [.agg ⟨m.flatMap eM ++ n.flatMap eM⟩, .agg ⟨l.flatMap eL⟩] = some (.bool (takB (m ++ n) l)) := by rw [← List.flatMap_append]; exact u16 hU (m ++ n) l
  refine Ends_mk ?_
  show At _ _ _ _ ltvt3
  unfold ltvt3
  refine at_node (b := decide (8 < m.length + n.length)) ?_ (fun _ => next) (fun h1 => ?_)
  · simp only [nA, denS_unk, f_num, f_int, f_bool, f_str, mapO, Option.bind_some, n_lss, n_eql, n_seq, n_add, n_sub, n_len, n_slen, n_rd, n_ix, n_fd, n_t9, n_t10, n_t11, n_t7, n_t1, n_t14, n_leq, n_geq, q1, q2, w]
    rw [dl]
  have h1 := of_decide_eq_false h1
  have happ := tak_app hm hn hl (by omega)
  refine at_node (b := Nat.blt 0 m.length) ?_ (fun h2 => at_t ?_ (at_t ?_ (at_t ?_ (at_node (b := takB m l) ?_ (fun h3 => at_t ?_ next) (fun h3 => at_t ?_ next))))) (fun h2 => ?_)
  · simp only [nA, denS_unk, f_num, f_int, f_bool, f_str, mapO, Option.bind_some, n_lss, n_eql, n_seq, n_add, n_sub, n_len, n_slen, n_rd, n_ix, n_fd, n_t9, n_t10, n_t11, n_t7, n_t1, n_t14, n_leq, n_geq, q1]
  · simp only [nA, denS_unk, f_num, f_int, f_bool, f_str, mapO, Option.bind_some, n_lss, n_eql, n_seq, n_add, n_sub, n_len, n_slen, n_rd, n_ix, n_fd, n_t9, n_t10, n_t11, n_t7, n_t1, n_t14, n_leq, n_geq, q1]
    rw [Nat.ble_eq.mpr (by omega)]
  · simp only [nA, denS_unk, f_num, f_int, f_bool, f_str, mapO, Option.bind_some, n_lss, n_eql, n_seq, n_add, n_sub, n_len, n_slen, n_rd, n_ix, n_fd, n_t9, n_t10, n_t11, n_t7, n_t1, n_t14, n_leq, n_geq, q2]
    rw [Nat.ble_eq.mpr (by omega)]
  · simp only [nA, denS_unk, f_num, f_int, f_bool, f_str, mapO, Option.bind_some, n_lss, n_eql, n_seq, n_add, n_sub, n_len, n_slen, n_rd, n_ix, n_fd, n_t9, n_t10, n_t11, n_t7, n_t1, n_t14, n_leq, n_geq, q1, q2, w]
    rw [Nat.ble_eq.mpr (by omega)]
  · simp only [nA, denS_unk, f_num, f_int, f_bool, f_str, mapO, Option.bind_some, n_lss, n_eql, n_seq, n_add, n_sub, n_len, n_slen, n_rd, n_ix, n_fd, n_t9, n_t10, n_t11, n_t7, n_t1, n_t14, n_leq, n_geq, lte22, q0, q1, hc, hcm', u16 hU]
  · simp only [nA, denS_unk, f_num, f_int, f_bool, f_str, mapO, Option.bind_some, n_lss, n_eql, n_seq, n_add, n_sub, n_len, n_slen, n_rd, n_ix, n_fd, n_t9, n_t10, n_t11, n_t7, n_t1, n_t14, n_leq, n_geq, lte22, q0, q1, q2, hc, hcm', hcn, n_cat, h16, u16 hU]
    rw [nb, happ, h3, Bool.true_and, beq_self_eq_true]
  · simp only [nA, denS_unk, f_num, f_int, f_bool, f_str, mapO, Option.bind_some, n_lss, n_eql, n_seq, n_add, n_sub, n_len, n_slen, n_rd, n_ix, n_fd, n_t9, n_t10, n_t11, n_t7, n_t1, n_t14, n_leq, n_geq, lte22, q0, q1, q2, hc, hcm', hcn, n_cat, h16]
    rw [nb, happ, h3, Bool.false_and]
    rfl
  have hm0 : m = [] := by
    cases m with
    | nil => rfl
    | cons a m => rw [show Nat.blt 0 (a :: m).length = true from Nat.blt_eq.mpr (by simp)] at h2; cases h2
  have t1 : takB m l = true := by rw [hm0]; exact tak_nil hl
  refine at_node (b := Nat.blt 0 n.length) ?_ (fun h2 => at_t ?_ (at_t ?_ (at_t ?_ next))) (fun h4 => at_t ?_ (at_t ?_ next))
  · simp only [nA, denS_unk, f_num, f_int, f_bool, f_str, mapO, Option.bind_some, n_lss, n_eql, n_seq, n_add, n_sub, n_len, n_slen, n_rd, n_ix, n_fd, n_t9, n_t10, n_t11, n_t7, n_t1, n_t14, n_leq, n_geq, q2]
  · simp only [nA, denS_unk, f_num, f_int, f_bool, f_str, mapO, Option.bind_some, n_lss, n_eql, n_seq, n_add, n_sub, n_len, n_slen, n_rd, n_ix, n_fd, n_t9, n_t10, n_t11, n_t7, n_t1, n_t14, n_leq, n_geq, q2]
    rw [Nat.ble_eq.mpr (by omega)]
  · simp only [nA, denS_unk, f_num, f_int, f_bool, f_str, mapO, Option.bind_some, n_lss, n_eql, n_seq, n_add, n_sub, n_len, n_slen, n_rd, n_ix, n_fd, n_t9, n_t10, n_t11, n_t7, n_t1, n_t14, n_leq, n_geq, lte22, q0, q1, hc, hcm', u16 hU]
    rw [t1]
  · simp only [nA, denS_unk, f_num, f_int, f_bool, f_str, mapO, Option.bind_some, n_lss, n_eql, n_seq, n_add, n_sub, n_len, n_slen, n_rd, n_ix, n_fd, n_t9, n_t10, n_t11, n_t7, n_t1, n_t14, n_leq, n_geq, lte22, q0, q2, hc, hcn, u16 hU]
    rw [nb, beq_self_eq_true]
  · simp only [nA, denS_unk, f_num, f_int, f_bool, f_str, mapO, Option.bind_some, n_lss, n_eql, n_seq, n_add, n_sub, n_len, n_slen, n_rd, n_ix, n_fd, n_t9, n_t10, n_t11, n_t7, n_t1, n_t14, n_leq, n_geq, lte22, q0, q1, hc, hcm', u16 hU]
    rw [t1]
  · have hn0 : n = [] := by
      cases n with
      | nil => rfl
      | cons a n => rw [show Nat.blt 0 (a :: n).length = true from Nat.blt_eq.mpr (by simp)] at h4; cases h4
    have t2 : takB n l = true := by rw [hn0]; exact tak_nil hl
    simp only [nA, denS_unk, f_num, f_int, f_bool, f_str, mapO, Option.bind_some, n_lss, n_eql, n_seq, n_add, n_sub, n_len, n_slen, n_rd, n_ix, n_fd, n_t9, n_t10, n_t11, n_t7, n_t1, n_t14, n_leq, n_geq, lte22, lte13, q0, q2, hc, hcn, n_lit0 eM, u16 hU]
    rw [nb, t2, tak_nil hl]
    rfl
theorem lt0 (hcm : m.length ≤ cm) (q0 : s 0 = .slice al l.length cl) (q1 : s 1 = .slice am m.length cm) (q2 : s 2 = .slice an n.length cn) (q3 : s 3 = .slice aa as.length ca) (q4 : s 4 = .slice ab bs.length cb) : Ev.Ends (uRd cx R) lttab (QV cx R (.bool true)) 0 s := by
  have hc := n_contG (cx := cx) (c := cl) L
  have hcm' := n_contG (cx := cx) (c := cm) M
  have hcn := n_contG (cx := cx) (c := cn) N
  have ha := n_contG (cx := cx) (c := ca) A
  have hb := n_contG (cx := cx) (c := cb) B
  refine Ends_mk ?_
  show Ev.Ends (uRd cx R) lttab _ 1 s
  refine Ends_mk ?_
  show Ev.Ends (uRd cx R) lttab _ 2 s
  refine Ends_mk ?_
  show At _ _ _ _ ltvt2
  unfold ltvt2
  refine at_node (b := chkL l == Int.ofNat 0) ?_ (fun h1 => at_node (b := chkM m == Int.ofNat 0) ?_ (fun h2 => at_node (b := chkM n == Int.ofNat 0) ?_ (fun h3 => at_node (b := litF (Int.ofNat 30) 0 as) ?_ (fun _ => at_node (b := litF (Int.ofNat 30) 0 bs) ?_ (fun _ => ?_) (fun _ => ret_b true)) (fun _ => ret_b true)) (fun _ => ret_b true)) (fun _ => ret_b true)) (fun _ => ret_b true)
  · simp only [nA, denS_unk, f_num, f_int, f_bool, f_str, mapO, Option.bind_some, n_lss, n_eql, n_seq, n_add, n_sub, n_len, n_slen, n_rd, n_ix, n_fd, n_t9, n_t10, n_t11, n_t7, n_t1, n_t14, n_leq, n_geq, lte22, q0, hc, u12 hU]
  · simp only [nA, denS_unk, f_num, f_int, f_bool, f_str, mapO, Option.bind_some, n_lss, n_eql, n_seq, n_add, n_sub, n_len, n_slen, n_rd, n_ix, n_fd, n_t9, n_t10, n_t11, n_t7, n_t1, n_t14, n_leq, n_geq, q1, hcm', u13 hU]
  · simp only [nA, denS_unk, f_num, f_int, f_bool, f_str, mapO, Option.bind_some, n_lss, n_eql, n_seq, n_add, n_sub, n_len, n_slen, n_rd, n_ix, n_fd, n_t9, n_t10, n_t11, n_t7, n_t1, n_t14, n_leq, n_geq, q2, hcn, u13 hU]
  · simp only [nA, denS_unk, f_num, f_int, f_bool, f_str, mapO, Option.bind_some, n_lss, n_eql, n_seq, n_add, n_sub, n_len, n_slen, n_rd, n_ix, n_fd, n_t9, n_t10, n_t11, n_t7, n_t1, n_t14, n_leq, n_geq, q3, ha, u10 hU]
  · simp only [nA, denS_unk, f_num, f_int, f_bool, f_str, mapO, Option.bind_some, n_lss, n_eql, n_seq, n_add, n_sub, n_len, n_slen, n_rd, n_ix, n_fd, n_t9, n_t10, n_t11, n_t7, n_t1, n_t14, n_leq, n_geq, lte5, q4, hb, u10 hU]
  · exact lt3 hU nb L M N A B (eq_of_beq h1) (eq_of_beq h2) (eq_of_beq h3) hcm ((upd_s rfl).trans q0) ((upd_s rfl).trans q1) ((upd_s rfl).trans q2) ((upd_s rfl).trans q3) ((upd_s rfl).trans q4)
end
end Go.Proofs.Ytcholmmiieddcaa
