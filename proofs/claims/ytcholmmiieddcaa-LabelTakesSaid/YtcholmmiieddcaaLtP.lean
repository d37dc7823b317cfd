/- LabelTakes: from place to place: names, searches, comparisons. -/
import Derived.Test.YtcholmmiieddcaaLtT
set_option linter.unusedVariables false
set_option linter.unusedSimpArgs false
set_option linter.unusedSectionVars false
set_option maxRecDepth 100000
namespace Go.Proofs.Ytcholmmiieddcaa
open Go Go.RowKit Ev
theorem f_str {s : Nat → Value} {u : Nat → List Value → Option Value} (b : ByteArray) : denS s u (.string b) = some (.string b) := denS_flat rfl
noncomputable def QV (cx : Cx) (R : Addr → Option Value) (r : Value) : (Nat → Value) → List Value → List (Nat × AObj) → Prop := fun s vs _ => denV s (uRd cx R) 9 (oneA vs) = some r
def QT (t : T) : Prop := t.size < 9223372036854775808
def QL (x : Lab) : Prop := QT x.1 ∧ QT x.2
def QM (x : Mat) : Prop := (-9223372036854775808 ≤ x.1 ∧ x.1 ≤ 9223372036854775807) ∧ QT x.2.1 ∧ QT x.2.2
theorem n_beq2 (a b : Nat) : (Int.ofNat a == Int.ofNat b) = (a == b) := by
  rw [Bool.eq_iff_iff, beq_iff_eq, beq_iff_eq]
  exact ⟨fun h => Int.ofNat.inj h, fun h => by rw [h]⟩
section
variable {cx : Cx} {R : Addr → Option Value} {s : Nat → Value}
theorem ret_b (b : Bool) : QV cx R (.bool b) s [.bool b] [] := by show denV s _ 9 (.bool b) = some (.bool b); unfold denV; exact denS_flat rfl
theorem ret_n (n : Int) : QV cx R (.int .i64 n) s [.int .i64 n] [] := by show denV s _ 9 (.int .i64 n) = some (.int .i64 n); unfold denV; exact denS_flat rfl
theorem ret_u {i : Nat} {v : Value} (h : s i = v) : QV cx R v s [unk 6 i] [] := by show denS s _ (unk 6 i) = some v; rw [denS_unk, h]
end
section
variable {cx : Cx} (hU : cx.U = ltU) {R : Addr → Option Value}
include hU
/-! Name. -/
theorem na3 {t : T} (ht : QT t) {r : Bool} : ∀ (k i : Nat) (s : Nat → Value), i + k = t.size → r = allN t i k → s 0 = .string t → s 1 = .int .i64 (.ofNat i) → Ev.Ends (uRd cx R) natab (QV cx R (.bool r)) 3 s := by
  intro k
  induction k with
  | zero =>
    intro i s hk hi q0 q1
    refine Ends_mk ?_
    show At _ _ _ _ navt3
    unfold navt3
    refine at_f ?_ ?_
    · simp only [nA, denS_unk, f_num, f_int, f_bool, f_str, mapO, Option.bind_some, n_lss, n_eql, n_seq, n_add, n_sub, n_len, n_slen, n_rd, n_ix, n_fd, n_t9, n_t10, n_t1, n_leq, q0, q1]
      rw [dl]
      exact congrArg (fun z => some (Value.bool z)) (decide_eq_false (by omega))
    · refine Ends_mk ?_
      rw [hi]
      exact ret_b true
  | succ k ih =>
    intro i s hk hi q0 q1
    have w := w_add (n := i) (i := 1) (by unfold QT at ht; omega)
    have hb := n_byte (cx := cx) (R := R) (s := t) (i := i) (by omega) .i64
    have hi : r = (inB (t[i]!).toNat && allN t (i + 1) k) := hi
    generalize (t[i]!).toNat = c at hb hi
    have next : inB c = true → ∀ L', L' = [(1, 6, (sy 6 1 [(num 0), (num 3), (.bool true), (unk 6 1), (.int .i64 (.ofNat 1))]))] → Ev.Ends (uRd cx R) natab (QV cx R (.bool r)) 3 (upd s (uRd cx R) L') := by
      rintro hp L' rfl
      refine ih (i + 1) _ (by omega) ?_ ((upd_s rfl).trans q0) (upd_e rfl ?_)
      · rw [hi, hp, Bool.true_and]
      · simp only [nA, denS_unk, f_num, f_int, f_bool, f_str, mapO, Option.bind_some, n_lss, n_eql, n_seq, n_add, n_sub, n_len, n_slen, n_rd, n_ix, n_fd, n_t9, n_t10, n_t1, n_leq, q1, w]
    have stop : inB c = false → QV cx R (.bool r) s [.bool false] [] := by
      intro hp
      rw [hi, hp]
      exact ret_b false
    refine Ends_mk ?_
    show At _ _ _ _ navt3
    unfold navt3
    refine at_t ?_ (at_t ?_ (at_node (b := decide (c < 97)) ?_ (fun h1 => (at_node (b := decide (c < 48)) ?_ (fun h3 => (at_node (b := c == 95) ?_ (fun h5 => next ((inB_eq h1 rfl h3 rfl h5).trans (by simp)) _ rfl) (fun h5 => stop ((inB_eq h1 rfl h3 rfl h5).trans (by simp))))) (fun h3 => at_node (b := decide (57 < c)) ?_ (fun h4 => (at_node (b := c == 95) ?_ (fun h5 => next ((inB_eq h1 rfl h3 h4 h5).trans (by simp)) _ rfl) (fun h5 => stop ((inB_eq h1 rfl h3 h4 h5).trans (by simp))))) (fun h4 => next ((inB_eq h1 rfl h3 h4 rfl).trans (by simp)) _ rfl)))) (fun h1 => at_node (b := decide (122 < c)) ?_ (fun h2 => (at_node (b := decide (c < 48)) ?_ (fun h3 => (at_node (b := c == 95) ?_ (fun h5 => next ((inB_eq h1 h2 h3 rfl h5).trans (by simp)) _ rfl) (fun h5 => stop ((inB_eq h1 h2 h3 rfl h5).trans (by simp))))) (fun h3 => at_node (b := decide (57 < c)) ?_ (fun h4 => (at_node (b := c == 95) ?_ (fun h5 => next ((inB_eq h1 h2 h3 h4 h5).trans (by simp)) _ rfl) (fun h5 => stop ((inB_eq h1 h2 h3 h4 h5).trans (by simp))))) (fun h4 => next ((inB_eq h1 h2 h3 h4 rfl).trans (by simp)) _ rfl)))) (fun h2 => next ((inB_eq h1 h2 rfl rfl rfl).trans (by simp)) _ rfl))))
    · simp only [nA, denS_unk, f_num, f_int, f_bool, f_str, mapO, Option.bind_some, n_lss, n_eql, n_seq, n_add, n_sub, n_len, n_slen, n_rd, n_ix, n_fd, n_t9, n_t10, n_t1, n_leq, q0, q1]
      rw [dl]
      exact congrArg (fun z => some (Value.bool z)) (decide_eq_true (by omega))
    · simp only [nA, denS_unk, f_num, f_int, f_bool, f_str, mapO, Option.bind_some, n_lss, n_eql, n_seq, n_add, n_sub, n_len, n_slen, n_rd, n_ix, n_fd, n_t9, n_t10, n_t1, n_leq, q0, q1]
      rw [bl (by omega)]
    all_goals
      simp only [nA, denS_unk, f_num, f_int, f_bool, f_str, mapO, Option.bind_some, n_lss, n_eql, n_seq, n_add, n_sub, n_len, n_slen, n_rd, n_ix, n_fd, n_t9, n_t10, n_t1, n_leq, q0, q1, hb]
      first | rw [dl] | rw [n_beq2]
theorem na0 {t : T} (ht : QT t) {s : Nat → Value} (h0 : s 0 = .string t) : Ev.Ends (uRd cx R) natab (QV cx R (.bool (namB t))) 0 s := by
  refine Ends_mk ?_
  show Ev.Ends (uRd cx R) natab _ 1 s
  refine Ends_mk ?_
  show At _ _ _ _ navt1
  unfold navt1
  refine at_node (b := decide (t.size < 1)) ?_ (fun h1 => ?_) (fun h1 => at_node (b := decide (24 < t.size)) ?_ (fun h2 => ?_) (fun h2 => ?_))
  · simp only [nA, denS_unk, f_num, f_int, f_bool, f_str, mapO, Option.bind_some, n_lss, n_eql, n_seq, n_add, n_sub, n_len, n_slen, n_rd, n_ix, n_fd, n_t9, n_t10, n_t1, n_leq, h0]
    rw [dl]
  · unfold namB
    rw [h1]
    exact ret_b false
  · simp only [nA, denS_unk, f_num, f_int, f_bool, f_str, mapO, Option.bind_some, n_lss, n_eql, n_seq, n_add, n_sub, n_len, n_slen, n_rd, n_ix, n_fd, n_t9, n_t10, n_t1, n_leq, h0]
    rw [dl]
  · unfold namB
    rw [h1, h2]
    exact ret_b false
  · have h1' := of_decide_eq_false h1
    have hb := n_byte (cx := cx) (R := R) (s := t) (i := 0) (by omega) .i64
    have hn : namB t = (!(digB (t[0]!).toNat) && allN t 0 t.size) := by unfold namB; rw [h1, h2]; rfl
    rw [hn]
    generalize (t[0]!).toNat = c at hb
    have next : digB c = false → Ev.Ends (uRd cx R) natab (QV cx R (.bool (!(digB c) && allN t 0 t.size))) 2 s := by
      intro hp
      rw [hp]
      refine Ends_mk ?_
      show Ev.Ends (uRd cx R) natab _ 3 _
      exact na3 hU ht t.size 0 _ (by omega) rfl ((upd_s rfl).trans h0) (upd_e rfl (denS_flat rfl))
    refine at_t ?_ (at_node (b := decide (c < 48)) ?_ (fun h3 => next (by unfold digB; rw [h3]; rfl)) (fun h3 => at_node (b := decide (57 < c)) ?_ (fun h4 => next (by unfold digB; rw [h3, h4]; rfl)) (fun h4 => ?_)))
    · simp only [nA, denS_unk, f_num, f_int, f_bool, f_str, mapO, Option.bind_some, n_lss, n_eql, n_seq, n_add, n_sub, n_len, n_slen, n_rd, n_ix, n_fd, n_t9, n_t10, n_t1, n_leq, h0]
      rw [bl (by omega)]
    · simp only [nA, denS_unk, f_num, f_int, f_bool, f_str, mapO, Option.bind_some, n_lss, n_eql, n_seq, n_add, n_sub, n_len, n_slen, n_rd, n_ix, n_fd, n_t9, n_t10, n_t1, n_leq, h0, hb]
      rw [dl]
    · simp only [nA, denS_unk, f_num, f_int, f_bool, f_str, mapO, Option.bind_some, n_lss, n_eql, n_seq, n_add, n_sub, n_len, n_slen, n_rd, n_ix, n_fd, n_t9, n_t10, n_t1, n_leq, h0, hb]
      rw [dl]
    · rw [show digB c = true from by unfold digB; rw [h3, h4]; rfl]
      exact ret_b false
/-! xw -/
theorem xw2 {l : List Lab} {ad : Option Addr} {c : Nat} (L : LstG eL 2 32 QL R ad l) : ∀ (k i : Nat) (s : Nat → Value), i + k = l.length → idxF wrL 0 l = idxF wrL i (l.drop i) → s 0 = .slice ad l.length c → s 1 = .int .i64 (.ofNat i) → Ev.Ends (uRd cx R) xwtab (QV cx R (.int .i64 (idxF wrL 0 l))) 2 s := by
  intro k
  induction k with
  | zero =>
    intro i s hk hi h0 h1
    refine Ends_mk ?_
    show At _ _ _ _ xwvt2
    unfold xwvt2
    refine at_f ?_ ?_
    · simp only [nA, denS_unk, f_num, f_int, f_bool, f_str, mapO, Option.bind_some, n_lss, n_eql, n_seq, n_add, n_sub, n_len, n_slen, n_rd, n_ix, n_fd, n_t9, n_t10, n_t1, n_leq, h0, h1]
      rw [dl]
      exact congrArg (fun z => some (Value.bool z)) (decide_eq_false (by omega))
    · refine Ends_mk ?_
      rw [hi, List.drop_of_length_le (by omega)]
      exact ret_n _
  | succ k ih =>
    intro i s hk hi h0 h1
    obtain ⟨x, a, rfl, hv, qa, g, hdrop⟩ := lstG_at L (i := i) (by omega)
    have few := (lstG_few L).1
    have w := w_add (n := i) (i := 1) (by omega)
    rw [hdrop] at hi
    have g0 := g 0 _ rfl
    have g1 := g 1 _ rfl
    have next : wrL a = false → ∀ L', L' = [(1, 6, (sy 6 1 [(num 0), (num 3), (.bool true), (unk 6 1), (.int .i64 (.ofNat 1))]))] → Ev.Ends (uRd cx R) xwtab (QV cx R (.int .i64 (idxF wrL 0 l))) 2 (upd s (uRd cx R) L') := by
      rintro hp L' rfl
      refine ih (i + 1) _ (by omega) ?_ ((upd_s rfl).trans h0) (upd_e rfl ?_)
      · rw [hi]
        show (if wrL a = true then _ else _) = _
        rw [hp]
        rfl
      · simp only [nA, denS_unk, f_num, f_int, f_bool, f_str, mapO, Option.bind_some, n_lss, n_eql, n_seq, n_add, n_sub, n_len, n_slen, n_rd, n_ix, n_fd, n_t9, n_t10, n_t1, n_leq, h1, w]
    have stop : wrL a = true → QV cx R (.int .i64 (idxF wrL 0 l)) s [unk 6 1] [] := by
      intro hp
      rw [hi]
      unfold idxF
      rw [if_pos hp]
      exact ret_u h1
    refine Ends_mk ?_
    show At _ _ _ _ xwvt2
    unfold xwvt2
    refine at_t ?_ (at_t ?_ (at_node (b := namB a.1) ?_ (fun h2 => at_node (b := eqT a.2 ⟨⟨[]⟩⟩) ?_ (fun h3 => stop (by unfold wrL; rw [h2, h3]; rfl)) (fun h3 => at_node (b := decide (64 < a.2.size)) ?_ (fun h4 => stop (by unfold wrL; rw [h2, h3, h4]; rfl)) (fun h4 => next (by unfold wrL; rw [h2, h3, h4]; rfl) _ rfl))) (fun h2 => stop (by unfold wrL; rw [h2]; rfl))))
    · simp only [nA, denS_unk, f_num, f_int, f_bool, f_str, mapO, Option.bind_some, n_lss, n_eql, n_seq, n_add, n_sub, n_len, n_slen, n_rd, n_ix, n_fd, n_t9, n_t10, n_t1, n_leq, h0, h1]
      rw [dl]
      exact congrArg (fun z => some (Value.bool z)) (decide_eq_true (by omega))
    · simp only [nA, denS_unk, f_num, f_int, f_bool, f_str, mapO, Option.bind_some, n_lss, n_eql, n_seq, n_add, n_sub, n_len, n_slen, n_rd, n_ix, n_fd, n_t9, n_t10, n_t1, n_leq, h0, h1]
      rw [bl (by omega)]
    · simp only [nA, denS_unk, f_num, f_int, f_bool, f_str, mapO, Option.bind_some, n_lss, n_eql, n_seq, n_add, n_sub, n_len, n_slen, n_rd, n_ix, n_fd, n_t9, n_t10, n_t1, n_leq, h0, h1, g0, u0 hU]
    · simp only [nA, denS_unk, f_num, f_int, f_bool, f_str, mapO, Option.bind_some, n_lss, n_eql, n_seq, n_add, n_sub, n_len, n_slen, n_rd, n_ix, n_fd, n_t9, n_t10, n_t1, n_leq, h0, h1, g1]
    · simp only [nA, denS_unk, f_num, f_int, f_bool, f_str, mapO, Option.bind_some, n_lss, n_eql, n_seq, n_add, n_sub, n_len, n_slen, n_rd, n_ix, n_fd, n_t9, n_t10, n_t1, n_leq, h0, h1, g1]
      rw [dl]
theorem xw0 {l : List Lab} {ad : Option Addr} {c : Nat} (L : LstG eL 2 32 QL R ad l) {s : Nat → Value} (h0 : s 0 = .slice ad l.length c) : Ev.Ends (uRd cx R) xwtab (QV cx R (.int .i64 (idxF wrL 0 l))) 0 s := by
  refine Ends_mk ?_
  show Ev.Ends (uRd cx R) xwtab _ 1 s
  refine Ends_mk ?_
  show Ev.Ends (uRd cx R) xwtab _ 2 _
  exact xw2 hU L l.length 0 _ (by omega) rfl ((upd_s rfl).trans h0) (upd_e rfl (denS_flat rfl))
/-! si -/
theorem si2 {l : List T} {ad : Option Addr} {c : Nat} (L : LstG eT 1 16 QT R ad l) {n : T} : ∀ (k i : Nat) (s : Nat → Value), i + k = l.length → idxF (fun s => eqT s n) 0 l = idxF (fun s => eqT s n) i (l.drop i) → s 0 = .slice ad l.length c → s 1 = .string n → s 2 = .int .i64 (.ofNat i) → Ev.Ends (uRd cx R) sitab (QV cx R (.int .i64 (idxF (fun s => eqT s n) 0 l))) 2 s := by
  intro k
  induction k with
  | zero =>
    intro i s hk hi h0 hn h1
    refine Ends_mk ?_
    show At _ _ _ _ sivt2
    unfold sivt2
    refine at_f ?_ ?_
    · simp only [nA, denS_unk, f_num, f_int, f_bool, f_str, mapO, Option.bind_some, n_lss, n_eql, n_seq, n_add, n_sub, n_len, n_slen, n_rd, n_ix, n_fd, n_t9, n_t10, n_t1, n_leq, h0, h1]
      rw [dl]
      exact congrArg (fun z => some (Value.bool z)) (decide_eq_false (by omega))
    · refine Ends_mk ?_
      rw [hi, List.drop_of_length_le (by omega)]
      exact ret_n _
  | succ k ih =>
    intro i s hk hi h0 hn h1
    obtain ⟨x, a, rfl, hv, qa, g, hdrop⟩ := lstG_at L (i := i) (by omega)
    have few := (lstG_few L).1
    have w := w_add (n := i) (i := 1) (by omega)
    rw [hdrop] at hi
    have g0 := g 0 _ rfl
    have next : (fun s => eqT s n) a = false → ∀ L', L' = [(2, 6, (sy 6 1 [(num 0), (num 3), (.bool true), (unk 6 2), (.int .i64 (.ofNat 1))]))] → Ev.Ends (uRd cx R) sitab (QV cx R (.int .i64 (idxF (fun s => eqT s n) 0 l))) 2 (upd s (uRd cx R) L') := by
      rintro hp L' rfl
      refine ih (i + 1) _ (by omega) ?_ ((upd_s rfl).trans h0) ((upd_s rfl).trans hn) (upd_e rfl ?_)
      · rw [hi]
        show (if (fun s => eqT s n) a = true then _ else _) = _
        rw [hp]
        rfl
      · simp only [nA, denS_unk, f_num, f_int, f_bool, f_str, mapO, Option.bind_some, n_lss, n_eql, n_seq, n_add, n_sub, n_len, n_slen, n_rd, n_ix, n_fd, n_t9, n_t10, n_t1, n_leq, h1, w]
    have stop : (fun s => eqT s n) a = true → QV cx R (.int .i64 (idxF (fun s => eqT s n) 0 l)) s [unk 6 2] [] := by
      intro hp
      rw [hi]
      unfold idxF
      rw [if_pos hp]
      exact ret_u h1
    refine Ends_mk ?_
    show At _ _ _ _ sivt2
    unfold sivt2
    refine at_t ?_ (at_t ?_ (at_node (b := eqT n a) ?_ (fun h3 => stop ((eqT_turn a n).trans h3)) (fun h3 => next ((eqT_turn a n).trans h3) _ rfl)))
    · simp only [nA, denS_unk, f_num, f_int, f_bool, f_str, mapO, Option.bind_some, n_lss, n_eql, n_seq, n_add, n_sub, n_len, n_slen, n_rd, n_ix, n_fd, n_t9, n_t10, n_t1, n_leq, h0, h1]
      rw [dl]
      exact congrArg (fun z => some (Value.bool z)) (decide_eq_true (by omega))
    · simp only [nA, denS_unk, f_num, f_int, f_bool, f_str, mapO, Option.bind_some, n_lss, n_eql, n_seq, n_add, n_sub, n_len, n_slen, n_rd, n_ix, n_fd, n_t9, n_t10, n_t1, n_leq, h0, h1]
      rw [bl (by omega)]
    · simp only [nA, denS_unk, f_num, f_int, f_bool, f_str, mapO, Option.bind_some, n_lss, n_eql, n_seq, n_add, n_sub, n_len, n_slen, n_rd, n_ix, n_fd, n_t9, n_t10, n_t1, n_leq, h0, h1, hn, g0]
theorem si0 {l : List T} {ad : Option Addr} {c : Nat} (L : LstG eT 1 16 QT R ad l) {n : T} {s : Nat → Value} (h0 : s 0 = .slice ad l.length c) (hn : s 1 = .string n) : Ev.Ends (uRd cx R) sitab (QV cx R (.int .i64 (idxF (fun s => eqT s n) 0 l))) 0 s := by
  refine Ends_mk ?_
  show Ev.Ends (uRd cx R) sitab _ 1 s
  refine Ends_mk ?_
  show Ev.Ends (uRd cx R) sitab _ 2 _
  exact si2 hU L l.length 0 _ (by omega) rfl ((upd_s rfl).trans h0) ((upd_s rfl).trans hn) (upd_e rfl (denS_flat rfl))
end
end Go.Proofs.Ytcholmmiieddcaa
