/- LabelTakes: from place to place: more of it. -/
import Derived.Test.YtcholmmiieddcaaLtP
set_option linter.unusedVariables false
set_option linter.unusedSimpArgs false
set_option linter.unusedSectionVars false
set_option maxRecDepth 100000
namespace Go.Proofs.Ytcholmmiieddcaa
open Go Go.RowKit Ev
theorem asc_short : ∀ {l : List Lab}, l.length ≤ 1 → ascF l = true
  | [], _ => rfl
  | [x], _ => rfl
  | x :: y :: l, h => by simp at h
section
variable {cx : Cx} (hU : cx.U = ltU) {R : Addr → Option Value}
include hU
omit hU in
theorem wm_of {a : Mat} {b1 b2 b3 b4 r : Bool} (h1 : (a.1 == Int.ofNat 1) = b1) (h2 : (a.1 == Int.ofNat 2) = b2) (h3 : namB a.2.1 = b3) (h4 : decide (64 < a.2.2.size) = b4) (h : (!(b1 || b2) || (!b3 || b4)) = r) : wrM a = r := by
  subst h1 h2 h3 h4
  exact h
/-! xm -/
theorem xm2 {l : List Mat} {ad : Option Addr} {c : Nat} (L : LstG eM 3 40 QM R ad l) : ∀ (k i : Nat) (s : Nat → Value), i + k = l.length → idxF wrM 0 l = idxF wrM i (l.drop i) → s 0 = .slice ad l.length c → s 1 = .int .i64 (.ofNat i) → Ev.Ends (uRd cx R) xmtab (QV cx R (.int .i64 (idxF wrM 0 l))) 2 s := by
  intro k
  induction k with
  | zero =>
    intro i s hk hi h0 h1
    refine Ends_mk ?_
    show At _ _ _ _ xmvt2
    unfold xmvt2
    refine at_f ?_ ?_
    · simp only [nA, denS_unk, f_num, f_int, f_bool, f_str, mapO, Option.bind_some, n_lss, n_eql, n_seq, n_add, n_sub, n_len, n_slen, n_rd, n_ix, n_fd, n_t9, n_t10, n_t11, n_t1, n_leq, n_geq, h0, h1]
      rw [dl]
      exact congrArg (fun z => some (Value.bool z)) (decide_eq_false (by omega))
    · refine Ends_mk ?_
      rw [hi, List.drop_of_length_le (by omega)]
      exact ret_n _
  | succ k ih =>
    intro i s hk hi h0 h1
    obtain ⟨x, a, rfl, hv, qa, g, hdrop⟩ := lstG_at L (i := i) (by omega)
    have few := (lstG_few L).1
    have w := w_add (n := i) (i := 1) (by omega)
    rw [hdrop] at hi
    have g0 := g 0 _ rfl
    have g1 := g 1 _ rfl
    have g2 := g 2 _ rfl
    have next : wrM a = false → ∀ L', L' = [(1, 6, (sy 6 1 [(num 0), (num 3), (.bool true), (unk 6 1), (.int .i64 (.ofNat 1))]))] → Ev.Ends (uRd cx R) xmtab (QV cx R (.int .i64 (idxF wrM 0 l))) 2 (upd s (uRd cx R) L') := by
      rintro hp L' rfl
      refine ih (i + 1) _ (by omega) ?_ ((upd_s rfl).trans h0) (upd_e rfl ?_)
      · rw [hi]
        show (if wrM a = true then _ else _) = _
        rw [hp]
        rfl
      · simp only [nA, denS_unk, f_num, f_int, f_bool, f_str, mapO, Option.bind_some, n_lss, n_eql, n_seq, n_add, n_sub, n_len, n_slen, n_rd, n_ix, n_fd, n_t9, n_t10, n_t11, n_t1, n_leq, n_geq, h1, w]
    have stop : wrM a = true → QV cx R (.int .i64 (idxF wrM 0 l)) s [unk 6 1] [] := by
      intro hp
      rw [hi]
      unfold idxF
      rw [if_pos hp]
      exact ret_u h1
    refine Ends_mk ?_
    show At _ _ _ _ xmvt2
    unfold xmvt2
    refine at_t ?_ (at_t ?_ (at_node (b := a.1 == Int.ofNat 1) ?_ (fun h2 => at_node (b := namB a.2.1) ?_ (fun h4 => at_node (b := decide (64 < a.2.2.size)) ?_ (fun h5 => stop (wm_of h2 rfl h4 h5 (by simp))) (fun h5 => next (wm_of h2 rfl h4 h5 (by simp)) _ rfl)) (fun h4 => stop (wm_of h2 rfl h4 rfl (by simp)))) (fun h2 => at_node (b := a.1 == Int.ofNat 2) ?_ (fun h3 => at_node (b := namB a.2.1) ?_ (fun h4 => at_node (b := decide (64 < a.2.2.size)) ?_ (fun h5 => stop (wm_of h2 h3 h4 h5 (by simp))) (fun h5 => next (wm_of h2 h3 h4 h5 (by simp)) _ rfl)) (fun h4 => stop (wm_of h2 h3 h4 rfl (by simp)))) (fun h3 => stop (wm_of h2 h3 rfl rfl (by simp))))))
    · simp only [nA, denS_unk, f_num, f_int, f_bool, f_str, mapO, Option.bind_some, n_lss, n_eql, n_seq, n_add, n_sub, n_len, n_slen, n_rd, n_ix, n_fd, n_t9, n_t10, n_t11, n_t1, n_leq, n_geq, h0, h1]
      rw [dl]
      exact congrArg (fun z => some (Value.bool z)) (decide_eq_true (by omega))
    · simp only [nA, denS_unk, f_num, f_int, f_bool, f_str, mapO, Option.bind_some, n_lss, n_eql, n_seq, n_add, n_sub, n_len, n_slen, n_rd, n_ix, n_fd, n_t9, n_t10, n_t11, n_t1, n_leq, n_geq, h0, h1]
      rw [bl (by omega)]
    all_goals
      simp only [nA, denS_unk, f_num, f_int, f_bool, f_str, mapO, Option.bind_some, n_lss, n_eql, n_seq, n_add, n_sub, n_len, n_slen, n_rd, n_ix, n_fd, n_t9, n_t10, n_t11, n_t1, n_leq, n_geq, h0, h1, g0, g1, g2, u0 hU]
      try rw [dl]
theorem xm0 {l : List Mat} {ad : Option Addr} {c : Nat} (L : LstG eM 3 40 QM R ad l) {s : Nat → Value} (h0 : s 0 = .slice ad l.length c) : Ev.Ends (uRd cx R) xmtab (QV cx R (.int .i64 (idxF wrM 0 l))) 0 s := by
  refine Ends_mk ?_
  show Ev.Ends (uRd cx R) xmtab _ 1 s
  refine Ends_mk ?_
  show Ev.Ends (uRd cx R) xmtab _ 2 _
  exact xm2 hU L l.length 0 _ (by omega) rfl ((upd_s rfl).trans h0) (upd_e rfl (denS_flat rfl))
/-! li -/
theorem li3 {l : List T} {ad : Option Addr} {c : Nat} {K : Int} {r : Bool} {s : Nat → Value} (h0 : s 0 = .slice ad l.length c) (h1 : s 1 = .int .i64 K) (hr : r = decide ((l.length : Int) ≤ K)) : Ev.Ends (uRd cx R) litab (QV cx R (.bool r)) 3 s := by
  refine Ends_mk ?_
  show denS s _ (sy 1 1 [(num 14), (num 3), (.bool false), (sy 6 5 [(unk 0 0)]), (unk 6 1)]) = _
  simp only [nA, denS_unk, f_num, f_int, f_bool, f_str, mapO, Option.bind_some, n_lss, n_eql, n_seq, n_add, n_sub, n_len, n_slen, n_rd, n_ix, n_fd, n_t9, n_t10, n_t11, n_t1, n_leq, n_geq, h0, h1]
  rw [hr]
  rfl
theorem li2 {l : List T} {ad : Option Addr} {c : Nat} (L : LstG eT 1 16 QT R ad l) {K : Int} {r : Bool} : ∀ (k i : Nat) (s : Nat → Value), i + k = l.length → r = litF K i (l.drop i) → s 0 = .slice ad l.length c → s 1 = .int .i64 K → s 2 = .int .i64 (.ofNat i) → Ev.Ends (uRd cx R) litab (QV cx R (.bool r)) 2 s := by
  intro k
  induction k with
  | zero =>
    intro i s hk hi h0 h1 h2
    refine Ends_mk ?_
    show At _ _ _ _ livt2
    unfold livt2
    refine at_f ?_ ?_
    · simp only [nA, denS_unk, f_num, f_int, f_bool, f_str, mapO, Option.bind_some, n_lss, n_eql, n_seq, n_add, n_sub, n_len, n_slen, n_rd, n_ix, n_fd, n_t9, n_t10, n_t11, n_t1, n_leq, n_geq, h0, h2]
      rw [dl]
      exact congrArg (fun z => some (Value.bool z)) (decide_eq_false (by omega))
    · refine li3 hU ((upd_s rfl).trans h0) ((upd_s rfl).trans h1) ?_
      rw [hi, List.drop_of_length_le (by omega), show l.length = i by omega]
      rfl
  | succ k ih =>
    intro i s hk hi h0 h1 h2
    obtain ⟨x, a, rfl, hv, qa, g, hdrop⟩ := lstG_at L (i := i) (by omega)
    have few := (lstG_few L).1
    have w := w_add (n := i) (i := 1) (by omega)
    rw [hdrop] at hi
    have hi : r = if K < Int.ofNat i then false else if 300 < a.size then false else litF K (i + 1) (l.drop (i + 1)) := hi
    have g0 := g 0 _ rfl
    refine Ends_mk ?_
    show At _ _ _ _ livt2
    unfold livt2
    refine at_t ?_ (at_node (b := decide (K < Int.ofNat i)) ?_ (fun h3 => ?_) (fun h3 => at_t ?_ (at_node (b := decide (300 < a.size)) ?_ (fun h4 => ?_) (fun h4 => ?_))))
    · simp only [nA, denS_unk, f_num, f_int, f_bool, f_str, mapO, Option.bind_some, n_lss, n_eql, n_seq, n_add, n_sub, n_len, n_slen, n_rd, n_ix, n_fd, n_t9, n_t10, n_t11, n_t1, n_leq, n_geq, h0, h2]
      rw [dl]
      exact congrArg (fun z => some (Value.bool z)) (decide_eq_true (by omega))
    · simp only [nA, denS_unk, f_num, f_int, f_bool, f_str, mapO, Option.bind_some, n_lss, n_eql, n_seq, n_add, n_sub, n_len, n_slen, n_rd, n_ix, n_fd, n_t9, n_t10, n_t11, n_t1, n_leq, n_geq, h1, h2]
    · have h3 := of_decide_eq_true h3
      refine li3 hU ((upd_s rfl).trans h0) ((upd_s rfl).trans h1) ?_
      rw [hi, if_pos h3]
      refine (decide_eq_false ?_).symm
      have h3 : K < (i : Int) := h3
      omega
    · simp only [nA, denS_unk, f_num, f_int, f_bool, f_str, mapO, Option.bind_some, n_lss, n_eql, n_seq, n_add, n_sub, n_len, n_slen, n_rd, n_ix, n_fd, n_t9, n_t10, n_t11, n_t1, n_leq, n_geq, h0, h2]
      rw [bl (by omega)]
    · simp only [nA, denS_unk, f_num, f_int, f_bool, f_str, mapO, Option.bind_some, n_lss, n_eql, n_seq, n_add, n_sub, n_len, n_slen, n_rd, n_ix, n_fd, n_t9, n_t10, n_t11, n_t1, n_leq, n_geq, h0, h2, g0]
      rw [dl]
    · rw [hi, if_neg (of_decide_eq_false h3), if_pos (of_decide_eq_true h4)]
      exact ret_b false
    · refine ih (i + 1) _ (by omega) ?_ ((upd_s rfl).trans h0) ((upd_s rfl).trans h1) (upd_e rfl ?_)
      · rw [hi, if_neg (of_decide_eq_false h3), if_neg (of_decide_eq_false h4)]
      · simp only [nA, denS_unk, f_num, f_int, f_bool, f_str, mapO, Option.bind_some, n_lss, n_eql, n_seq, n_add, n_sub, n_len, n_slen, n_rd, n_ix, n_fd, n_t9, n_t10, n_t11, n_t1, n_leq, n_geq, h2, w]
theorem li0 {l : List T} {ad : Option Addr} {c : Nat} (L : LstG eT 1 16 QT R ad l) {K : Int} {s : Nat → Value} (h0 : s 0 = .slice ad l.length c) (h1 : s 1 = .int .i64 K) : Ev.Ends (uRd cx R) litab (QV cx R (.bool (litF K 0 l))) 0 s := by
  refine Ends_mk ?_
  show Ev.Ends (uRd cx R) litab _ 1 s
  refine Ends_mk ?_
  show Ev.Ends (uRd cx R) litab _ 2 _
  exact li2 hU L l.length 0 _ (by omega) rfl ((upd_s rfl).trans h0) ((upd_s rfl).trans h1) (upd_e rfl (denS_flat rfl))
/-! la -/
theorem la3 {l m : List Lab} {ad ad2 : Option Addr} {c c2 : Nat} (L : LstG eL 2 32 QL R ad l) (M : LstG eL 2 32 QL R ad2 m) (hlm : l.length = m.length) {r : Bool} : ∀ (k i : Nat) (s : Nat → Value), i + k = l.length → r = labF (l.drop i) (m.drop i) → s 0 = .slice ad l.length c → s 1 = .slice ad2 m.length c2 → s 2 = .int .i64 (.ofNat i) → Ev.Ends (uRd cx R) latab (QV cx R (.bool r)) 3 s := by
  intro k
  induction k with
  | zero =>
    intro i s hk hi h0 h1 h2
    refine Ends_mk ?_
    show At _ _ _ _ lavt3
    unfold lavt3
    refine at_f ?_ ?_
    · simp only [nA, denS_unk, f_num, f_int, f_bool, f_str, mapO, Option.bind_some, n_lss, n_eql, n_seq, n_add, n_sub, n_len, n_slen, n_rd, n_ix, n_fd, n_t9, n_t10, n_t11, n_t1, n_leq, n_geq, h0, h2]
      rw [dl]
      exact congrArg (fun z => some (Value.bool z)) (decide_eq_false (by omega))
    · refine Ends_mk ?_
      rw [hi, List.drop_of_length_le (by omega)]
      exact ret_b true
  | succ k ih =>
    intro i s hk hi h0 h1 h2
    obtain ⟨x, a, rfl, hv, qa, g, hdrop⟩ := lstG_at L (i := i) (by omega)
    obtain ⟨y, b, rfl, hw, qb, f, hdrop2⟩ := lstG_at M (i := i) (by omega)
    have few := (lstG_few L).1
    have w := w_add (n := i) (i := 1) (by omega)
    rw [hdrop, hdrop2] at hi
    have hi : r = (eqT a.1 b.1 && (eqT a.2 b.2 && labF (l.drop (i + 1)) (m.drop (i + 1)))) := hi
    have g0 := g 0 _ rfl
    have g1 := g 1 _ rfl
    have f0 := f 0 _ rfl
    have f1 := f 1 _ rfl
    refine Ends_mk ?_
    show At _ _ _ _ lavt3
    unfold lavt3
    refine at_t ?_ (at_t ?_ (at_t ?_ (at_node (b := eqT a.1 b.1) ?_ (fun h3 => at_node (b := eqT a.2 b.2) ?_ (fun h4 => ih (i + 1) _ (by omega) (by rw [hi, h3, h4]; rfl) ((upd_s rfl).trans h0) ((upd_s rfl).trans h1) (upd_e rfl ?_)) (fun h4 => by rw [hi, h3, h4]; exact ret_b false)) (fun h3 => by rw [hi, h3]; exact ret_b false))))
    · simp only [nA, denS_unk, f_num, f_int, f_bool, f_str, mapO, Option.bind_some, n_lss, n_eql, n_seq, n_add, n_sub, n_len, n_slen, n_rd, n_ix, n_fd, n_t9, n_t10, n_t11, n_t1, n_leq, n_geq, h0, h2]
      rw [dl]
      exact congrArg (fun z => some (Value.bool z)) (decide_eq_true (by omega))
    · simp only [nA, denS_unk, f_num, f_int, f_bool, f_str, mapO, Option.bind_some, n_lss, n_eql, n_seq, n_add, n_sub, n_len, n_slen, n_rd, n_ix, n_fd, n_t9, n_t10, n_t11, n_t1, n_leq, n_geq, h0, h2]
      rw [bl (by omega)]
    · simp only [nA, denS_unk, f_num, f_int, f_bool, f_str, mapO, Option.bind_some, n_lss, n_eql, n_seq, n_add, n_sub, n_len, n_slen, n_rd, n_ix, n_fd, n_t9, n_t10, n_t11, n_t1, n_leq, n_geq, h1, h2]
      rw [bl (by omega)]
    · simp only [nA, denS_unk, f_num, f_int, f_bool, f_str, mapO, Option.bind_some, n_lss, n_eql, n_seq, n_add, n_sub, n_len, n_slen, n_rd, n_ix, n_fd, n_t9, n_t10, n_t11, n_t1, n_leq, n_geq, h0, h1, h2, g0, f0]
    · simp only [nA, denS_unk, f_num, f_int, f_bool, f_str, mapO, Option.bind_some, n_lss, n_eql, n_seq, n_add, n_sub, n_len, n_slen, n_rd, n_ix, n_fd, n_t9, n_t10, n_t11, n_t1, n_leq, n_geq, h0, h1, h2, g1, f1]
    · simp only [nA, denS_unk, f_num, f_int, f_bool, f_str, mapO, Option.bind_some, n_lss, n_eql, n_seq, n_add, n_sub, n_len, n_slen, n_rd, n_ix, n_fd, n_t9, n_t10, n_t11, n_t1, n_leq, n_geq, h2, w]
theorem la0 {l m : List Lab} {ad ad2 : Option Addr} {c c2 : Nat} (L : LstG eL 2 32 QL R ad l) (M : LstG eL 2 32 QL R ad2 m) {s : Nat → Value} (h0 : s 0 = .slice ad l.length c) (h1 : s 1 = .slice ad2 m.length c2) : Ev.Ends (uRd cx R) latab (QV cx R (.bool (labB l m))) 0 s := by
  refine Ends_mk ?_
  show Ev.Ends (uRd cx R) latab _ 1 s
  refine Ends_mk ?_
  show At _ _ _ _ lavt1
  unfold lavt1
  refine at_node (b := l.length == m.length) ?_ (fun h => ?_) (fun h => ?_)
  · simp only [nA, denS_unk, f_num, f_int, f_bool, f_str, mapO, Option.bind_some, n_lss, n_eql, n_seq, n_add, n_sub, n_len, n_slen, n_rd, n_ix, n_fd, n_t9, n_t10, n_t11, n_t1, n_leq, n_geq, h0, h1]
    rw [n_beq2]
  · have h := eq_of_beq h
    refine Ends_mk ?_
    show Ev.Ends (uRd cx R) latab _ 3 _
    refine la3 hU L M h l.length 0 _ (by omega) ?_ ((upd_s rfl).trans ((upd_s rfl).trans h0)) ((upd_s rfl).trans ((upd_s rfl).trans h1)) (upd_e rfl (denS_flat rfl))
    unfold labB
    rw [decide_eq_true h]
    rfl
  · unfold labB
    rw [decide_eq_false (by simpa using h)]
    exact ret_b false
/-! as -/
theorem as2 {l : List Lab} {ad : Option Addr} {c : Nat} (L : LstG eL 2 32 QL R ad l) {r : Bool} : ∀ (k i : Nat) (s : Nat → Value), l.length - (i + 1) = k → r = ascF (l.drop i) → s 0 = .slice ad l.length c → s 1 = .int .i64 (.ofNat (i + 1)) → Ev.Ends (uRd cx R) astab (QV cx R (.bool r)) 2 s := by
  intro k
  induction k with
  | zero =>
    intro i s hk hi h0 h1
    refine Ends_mk ?_
    show At _ _ _ _ asvt2
    unfold asvt2
    refine at_f ?_ ?_
    · simp only [nA, denS_unk, f_num, f_int, f_bool, f_str, mapO, Option.bind_some, n_lss, n_eql, n_seq, n_add, n_sub, n_len, n_slen, n_rd, n_ix, n_fd, n_t9, n_t10, n_t11, n_t1, n_leq, n_geq, h0, h1]
      rw [dl]
      exact congrArg (fun z => some (Value.bool z)) (decide_eq_false (by omega))
    · refine Ends_mk ?_
      rw [hi, asc_short (by rw [List.length_drop]; omega)]
      exact ret_b true
  | succ k ih =>
    intro i s hk hi h0 h1
    obtain ⟨x, a, rfl, hv, qa, g, hdrop⟩ := lstG_at L (i := i) (by omega)
    obtain ⟨y, b, hy, hw, qb, f, hdrop2⟩ := lstG_at L (i := i + 1) (by omega)
    injection hy with hy
    subst hy
    have few := (lstG_few L).1
    have w := w_add (n := i + 1) (i := 1) (by omega)
    have w2 : wrapA .i64 (Int.ofNat (i + 1) - Int.ofNat 1) = Int.ofNat i := w_sub (n := i + 1) (i := 1) (by omega) (by omega)
    rw [hdrop, hdrop2] at hi
    have hi : r = (decide (cmpT a.1 b.1 < 0) && ascF (b :: l.drop (i + 1 + 1))) := hi
    rw [← hdrop2] at hi
    have g0 := g 0 _ rfl
    have f0 := f 0 _ rfl
    refine Ends_mk ?_
    show At _ _ _ _ asvt2
    unfold asvt2
    refine at_t ?_ (at_t ?_ (at_t ?_ (at_node (b := decide (cmpT a.1 b.1 < Int.ofNat 0)) ?_ (fun h3 => ih (i + 1) _ (by omega) ?_ ((upd_s rfl).trans h0) (upd_e rfl ?_)) (fun h3 => ?_))))
    · simp only [nA, denS_unk, f_num, f_int, f_bool, f_str, mapO, Option.bind_some, n_lss, n_eql, n_seq, n_add, n_sub, n_len, n_slen, n_rd, n_ix, n_fd, n_t9, n_t10, n_t11, n_t1, n_leq, n_geq, h0, h1]
      rw [dl]
      exact congrArg (fun z => some (Value.bool z)) (decide_eq_true (by omega))
    · simp only [nA, denS_unk, f_num, f_int, f_bool, f_str, mapO, Option.bind_some, n_lss, n_eql, n_seq, n_add, n_sub, n_len, n_slen, n_rd, n_ix, n_fd, n_t9, n_t10, n_t11, n_t1, n_leq, n_geq, h0, h1, w2]
      rw [bl (by omega)]
    · simp only [nA, denS_unk, f_num, f_int, f_bool, f_str, mapO, Option.bind_some, n_lss, n_eql, n_seq, n_add, n_sub, n_len, n_slen, n_rd, n_ix, n_fd, n_t9, n_t10, n_t11, n_t1, n_leq, n_geq, h0, h1]
      rw [bl (by omega)]
    · simp only [nA, denS_unk, f_num, f_int, f_bool, f_str, mapO, Option.bind_some, n_lss, n_eql, n_seq, n_add, n_sub, n_len, n_slen, n_rd, n_ix, n_fd, n_t9, n_t10, n_t11, n_t1, n_leq, n_geq, h0, h1, w2, g0, f0, u1 hU]
    · have h3 : decide (cmpT a.1 b.1 < 0) = true := h3
      rw [hi, h3]
      rfl
    · simp only [nA, denS_unk, f_num, f_int, f_bool, f_str, mapO, Option.bind_some, n_lss, n_eql, n_seq, n_add, n_sub, n_len, n_slen, n_rd, n_ix, n_fd, n_t9, n_t10, n_t11, n_t1, n_leq, n_geq, h1, w]
    · have h3 : decide (cmpT a.1 b.1 < 0) = false := h3
      rw [hi, h3]
      exact ret_b false
theorem as0 {l : List Lab} {ad : Option Addr} {c : Nat} (L : LstG eL 2 32 QL R ad l) {s : Nat → Value} (h0 : s 0 = .slice ad l.length c) : Ev.Ends (uRd cx R) astab (QV cx R (.bool (ascF l))) 0 s := by
  refine Ends_mk ?_
  show Ev.Ends (uRd cx R) astab _ 1 s
  refine Ends_mk ?_
  show Ev.Ends (uRd cx R) astab _ 2 _
  exact as2 hU L _ 0 _ rfl rfl ((upd_s rfl).trans h0) (upd_e rfl (denS_flat rfl))
/-! fi -/
theorem ret_2 {s : Nat → Value} {x y : Value} {a b : T} (hx : denS s (uRd cx R) x = some (.string a)) (hy : denS s (uRd cx R) y = some (.string b)) (h1 : isSym x = true) (h2 : isSym y = true) : QV cx R (.agg ⟨[.string a, .string b]⟩) s [.agg ⟨[x, y]⟩] [] := by
  show denV s (uRd cx R) 9 (.agg ⟨[x, y]⟩) = _
  have d : ∀ {z : Value} {v : Value}, denS s (uRd cx R) z = some v → isSym z = true → denV s (uRd cx R) 8 z = some v := fun {z v} h hz => by
    unfold isSym at hz
    split at hz
    · exact h
    · cases hz
  unfold denV
  simp only [mapO, d hx h1, d hy h2]
theorem fi2 {l : List Lab} {ad : Option Addr} {c : Nat} (L : LstG eL 2 32 QL R ad l) {n : T} {r : Lab} : ∀ (k i : Nat) (s : Nat → Value), i + k = l.length → r = fstT (l.drop i) n → s 0 = .slice ad l.length c → Sh s 1 [.string n, .int .i64 (.ofNat i), .string ⟨⟨[]⟩⟩, .string ⟨⟨[]⟩⟩] → Ev.Ends (uRd cx R) fitab (QV cx R (.agg ⟨[.string r.1, .string r.2]⟩)) 2 s := by
  intro k
  induction k with
  | zero =>
    intro i s hk hi h0 ⟨h1, h2, h3, h4, _⟩
    refine Ends_mk ?_
    show At _ _ _ _ fivt2
    unfold fivt2
    refine at_f ?_ ?_
    · simp only [nA, denS_unk, f_num, f_int, f_bool, f_str, mapO, Option.bind_some, n_lss, n_eql, n_seq, n_add, n_sub, n_len, n_slen, n_rd, n_ix, n_fd, n_t9, n_t10, n_t11, n_t1, n_leq, n_geq, h0, h2]
      rw [dl]
      exact congrArg (fun z => some (Value.bool z)) (decide_eq_false (by omega))
    · refine Ends_mk ?_
      rw [hi, List.drop_of_length_le (by omega)]
      refine ret_2 hU ?_ ?_ rfl rfl
      · rw [denS_unk]
        exact congrArg some (upd_e rfl (by rw [denS_unk, h3]; rfl))
      · rw [denS_unk]
        exact congrArg some (upd_e rfl (by rw [denS_unk, h4]; rfl))
  | succ k ih =>
    intro i s hk hi h0 ⟨h1, h2, h3, h4, _⟩
    obtain ⟨x, a, rfl, hv, qa, g, hdrop⟩ := lstG_at L (i := i) (by omega)
    have few := (lstG_few L).1
    have w := w_add (n := i) (i := 1) (by omega)
    rw [hdrop] at hi
    unfold fstT at hi
    rw [List.find?_cons] at hi
    have g0 := g 0 _ rfl
    have g1 := g 1 _ rfl
    refine Ends_mk ?_
    show At _ _ _ _ fivt2
    unfold fivt2
    refine at_t ?_ (at_t ?_ (at_node (b := cmpT a.1 n == Int.ofNat 0) ?_ (fun h5 => ?_) (fun h5 => ih (i + 1) _ (by omega) ?_ ((upd_s rfl).trans h0) ⟨(upd_s rfl).trans h1, upd_e rfl ?_, upd_e rfl ?_, upd_e rfl ?_, trivial⟩)))
    · simp only [nA, denS_unk, f_num, f_int, f_bool, f_str, mapO, Option.bind_some, n_lss, n_eql, n_seq, n_add, n_sub, n_len, n_slen, n_rd, n_ix, n_fd, n_t9, n_t10, n_t11, n_t1, n_leq, n_geq, h0, h2]
      rw [dl]
      exact congrArg (fun z => some (Value.bool z)) (decide_eq_true (by omega))
    · simp only [nA, denS_unk, f_num, f_int, f_bool, f_str, mapO, Option.bind_some, n_lss, n_eql, n_seq, n_add, n_sub, n_len, n_slen, n_rd, n_ix, n_fd, n_t9, n_t10, n_t11, n_t1, n_leq, n_geq, h0, h2]
      rw [bl (by omega)]
    · simp only [nA, denS_unk, f_num, f_int, f_bool, f_str, mapO, Option.bind_some, n_lss, n_eql, n_seq, n_add, n_sub, n_len, n_slen, n_rd, n_ix, n_fd, n_t9, n_t10, n_t11, n_t1, n_leq, n_geq, h0, h1, h2, g0, u1 hU]
    · have h5 : (cmpT a.1 n == 0) = true := h5
      rw [h5] at hi
      have hi : r = a := hi
      subst hi
      refine ret_2 hU ?_ ?_ rfl rfl
      · simp only [nA, denS_unk, f_num, f_int, f_bool, f_str, mapO, Option.bind_some, n_lss, n_eql, n_seq, n_add, n_sub, n_len, n_slen, n_rd, n_ix, n_fd, n_t9, n_t10, n_t11, n_t1, n_leq, n_geq, h0, h2, g0]
      · simp only [nA, denS_unk, f_num, f_int, f_bool, f_str, mapO, Option.bind_some, n_lss, n_eql, n_seq, n_add, n_sub, n_len, n_slen, n_rd, n_ix, n_fd, n_t9, n_t10, n_t11, n_t1, n_leq, n_geq, h0, h2, g1]
    · have h5 : (cmpT a.1 n == 0) = false := h5
      rw [h5] at hi
      exact hi
    · simp only [nA, denS_unk, f_num, f_int, f_bool, f_str, mapO, Option.bind_some, n_lss, n_eql, n_seq, n_add, n_sub, n_len, n_slen, n_rd, n_ix, n_fd, n_t9, n_t10, n_t11, n_t1, n_leq, n_geq, h2, w]
    · rw [denS_unk, h3]
    · rw [denS_unk, h4]
theorem fi0 {l : List Lab} {ad : Option Addr} {c : Nat} (L : LstG eL 2 32 QL R ad l) {n : T} {s : Nat → Value} (h0 : s 0 = .slice ad l.length c) (h1 : s 1 = .string n) : Ev.Ends (uRd cx R) fitab (QV cx R (.agg ⟨[.string (fstT l n).1, .string (fstT l n).2]⟩)) 0 s := by
  refine Ends_mk ?_
  show Ev.Ends (uRd cx R) fitab _ 1 s
  refine Ends_mk ?_
  show Ev.Ends (uRd cx R) fitab _ 2 _
  exact fi2 hU L l.length 0 _ (by omega) rfl ((upd_s rfl).trans h0) ⟨(upd_s rfl).trans h1, upd_e rfl (denS_flat rfl), upd_e rfl (denS_flat rfl), upd_e rfl (denS_flat rfl), trivial⟩
end
end Go.Proofs.Ytcholmmiieddcaa
