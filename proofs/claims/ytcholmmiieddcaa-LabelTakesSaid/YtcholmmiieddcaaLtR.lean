/- LabelTakes: from place to place: rows of their own; checks. -/
import Derived.Test.YtcholmmiieddcaaLtQ
set_option linter.unusedVariables false
set_option linter.unusedSimpArgs false
set_option linter.unusedSectionVars false
set_option maxRecDepth 100000
namespace Go.Proofs.Ytcholmmiieddcaa
open Go Go.RowKit Ev
theorem eL_len : ∀ x : Lab, (eL x).length = 2 := fun _ => rfl
theorem eM_len : ∀ x : Mat, (eM x).length = 3 := fun _ => rfl
theorem eT_len : ∀ x : T, (eT x).length = 1 := fun _ => rfl
section
variable {cx : Cx} (hU : cx.U = ltU) {R : Addr → Option Value} {E : TypeId}
/-! en -/
theorem en3 {l : List Lab} {ad : Option Addr} {c : Nat} (L : LstG eL 2 32 QL R ad l) : ∀ (k i : Nat) (m : List Lab) (s : Nat → Value), i + k = l.length → m.length = l.length → (∀ j, j < i → m[j]? = l[j]?) → s 0 = .slice ad l.length c → Sh s 1 [.int .i64 (.ofNat l.length), .int .i64 (.ofNat i), .agg ⟨m.flatMap eL⟩] → Ev.Ends (uRd cx R) entab (rowQ (uRd cx R) [2, 2] 44 false (l.flatMap eL) l.length) 3 s := by
  intro k
  induction k with
  | zero =>
    intro i m s hk hm hj h0 ⟨h1, h2, h3, _⟩
    have hml : m = l := by
      apply List.ext_getElem?
      intro j
      by_cases hjl : j < i
      · exact hj j hjl
      · rw [List.getElem?_eq_none (by omega), List.getElem?_eq_none (by omega)]
    subst hml
    refine Ends_mk ?_
    show At _ _ _ _ envt3
    unfold envt3
    refine at_f ?_ ?_
    · simp only [nA, denS_unk, f_num, f_int, f_bool, f_str, mapO, Option.bind_some, n_lss, n_eql, n_seq, n_add, n_sub, n_len, n_slen, n_rd, n_ix, n_fd, n_t9, n_t10, n_t11, n_t1, n_leq, n_geq, h0, h2]
      rw [dl]
      exact congrArg (fun z => some (Value.bool z)) (decide_eq_false (by omega))
    · refine Ends_mk ?_
      refine .inr ⟨fun h => (by cases h.1), 100, unk 6 1, unk 20 2, unk 6 1, rfl, List.mem_singleton.2 rfl, ?_, ?_⟩
      · rw [denS_unk]
        exact congrArg some (upd_e rfl (by rw [denS_unk, h3]))
      · show denS _ _ (unk 6 1) = _
        rw [denS_unk]
        exact congrArg some (upd_e rfl (by rw [denS_unk, h1]))
  | succ k ih =>
    intro i m s hk hm hj h0 ⟨h1, h2, h3, _⟩
    obtain ⟨x, a, rfl, hv, qa, g, hdrop⟩ := lstG_at L (i := i) (by omega)
    have few := (lstG_few L).1
    have w := w_add (n := i) (i := 1) (by omega)
    have g0 := g 0 _ rfl
    have g1 := g 1 _ rfl
    have hset : overL (m.flatMap eL) (i * 2 + 0) [.string a.1, .string a.2] = (m.set i a).flatMap eL := flat_set eL_len (l := m) (i := i) (v := a) (by omega)
    refine Ends_mk ?_
    show At _ _ _ _ envt3
    unfold envt3
    refine at_t ?_ (at_t ?_ (at_t ?_ (ih (i + 1) (m.set i a) _ (by omega) (by rw [List.length_set]; exact hm) ?_ ((upd_s rfl).trans h0) ⟨upd_e rfl ?_, upd_e rfl ?_, upd_e rfl ?_, trivial⟩)))
    · simp only [nA, denS_unk, f_num, f_int, f_bool, f_str, mapO, Option.bind_some, n_lss, n_eql, n_seq, n_add, n_sub, n_len, n_slen, n_rd, n_ix, n_fd, n_t9, n_t10, n_t11, n_t1, n_leq, n_geq, h0, h2]
      rw [dl]
      exact congrArg (fun z => some (Value.bool z)) (decide_eq_true (by omega))
    · simp only [nA, denS_unk, f_num, f_int, f_bool, f_str, mapO, Option.bind_some, n_lss, n_eql, n_seq, n_add, n_sub, n_len, n_slen, n_rd, n_ix, n_fd, n_t9, n_t10, n_t11, n_t1, n_leq, n_geq, h0, h2]
      rw [bl (by omega)]
    · simp only [nA, denS_unk, f_num, f_int, f_bool, f_str, mapO, Option.bind_some, n_lss, n_eql, n_seq, n_add, n_sub, n_len, n_slen, n_rd, n_ix, n_fd, n_t9, n_t10, n_t11, n_t1, n_leq, n_geq, h1, h2]
      rw [bl (by omega)]
    · intro j hjl
      by_cases hji : j = i
      · subst hji
        rw [List.getElem?_set_self (by omega), hv]
      · rw [List.getElem?_set_ne (fun h => hji h.symm)]
        exact hj j (by omega)
    · simp only [nA, denS_unk, f_num, f_int, f_bool, f_str, mapO, Option.bind_some, n_lss, n_eql, n_seq, n_add, n_sub, n_len, n_slen, n_rd, n_ix, n_fd, n_t9, n_t10, n_t11, n_t1, n_leq, n_geq, h1]
    · simp only [nA, denS_unk, f_num, f_int, f_bool, f_str, mapO, Option.bind_some, n_lss, n_eql, n_seq, n_add, n_sub, n_len, n_slen, n_rd, n_ix, n_fd, n_t9, n_t10, n_t11, n_t1, n_leq, n_geq, h2, w]
    · simp only [nA, denS_unk, f_num, f_int, f_bool, f_str, mapO, Option.bind_some, n_lss, n_eql, n_seq, n_add, n_sub, n_len, n_slen, n_rd, n_ix, n_fd, n_t9, n_t10, n_t11, n_t1, n_leq, n_geq, h0, h2, h3, g0, g1, n_over, hset]
theorem en0 {l : List Lab} {ad : Option Addr} {c : Nat} (L : LstG eL 2 32 QL R ad l) {s : Nat → Value} (h0 : s 0 = .slice ad l.length c) : Ev.Ends (uRd cx R) entab (rowQ (uRd cx R) [2, 2] 44 false (l.flatMap eL) l.length) 0 s := by
  have bnd := (lstG_few L).2.1
  refine Ends_mk ?_
  show Ev.Ends (uRd cx R) entab _ 1 s
  refine Ends_mk ?_
  show At _ _ _ _ envt1
  unfold envt1
  refine at_t ?_ ?_
  · simp only [nA, denS_unk, f_num, f_int, f_bool, f_str, mapO, Option.bind_some, n_lss, n_eql, n_seq, n_add, n_sub, n_len, n_slen, n_rd, n_ix, n_fd, n_t9, n_t10, n_t11, n_t1, n_leq, n_geq, h0]
    rw [show Nat.ble l.length 4398046510976 = true from Nat.ble_eq.mpr (by omega)]
  · refine Ends_mk ?_
    show Ev.Ends (uRd cx R) entab _ 3 _
    refine en3 L l.length 0 (List.replicate l.length (⟨⟨[]⟩⟩, ⟨⟨[]⟩⟩)) _ (by omega) (by simp) (fun j hj => by omega) ((upd_s rfl).trans ((upd_s rfl).trans h0)) ⟨upd_e rfl ?_, upd_e rfl ?_, upd_e rfl ?_, trivial⟩
    · rw [denS_unk]
      exact congrArg some (upd_e rfl (by simp only [nA, denS_unk, f_num, f_int, f_bool, f_str, mapO, Option.bind_some, n_lss, n_eql, n_seq, n_add, n_sub, n_len, n_slen, n_rd, n_ix, n_fd, n_t9, n_t10, n_t11, n_t1, n_leq, n_geq, h0]))
    · exact denS_flat rfl
    · rw [denS_unk]
      refine congrArg some (upd_e rfl ?_)
      simp only [nA, denS_unk, f_num, f_int, f_bool, f_str, mapO, Option.bind_some, n_lss, n_eql, n_seq, n_add, n_sub, n_len, n_slen, n_rd, n_ix, n_fd, n_t9, n_t10, n_t11, n_t1, n_leq, n_geq, h0, n_rep]
      exact congrArg (fun z => some (Value.agg ⟨z⟩)) (flat_rep (enc := eL) (v := (⟨⟨[]⟩⟩, ⟨⟨[]⟩⟩)) l.length)
include hU
/-! ck, cm -/
theorem ck0 {l : List Lab} {ad : Option Addr} {c : Nat} (L : LstG eL 2 32 QL R ad l) {s : Nat → Value} (h0 : s 0 = .slice ad l.length c) : Ev.Ends (uRd cx R) cktab (QV cx R (.int .i64 (chkL l))) 0 s := by
  have hc := n_contG (cx := cx) (c := c) L
  refine Ends_mk ?_
  show At _ _ _ _ ckvt0
  unfold ckvt0
  refine at_node (b := decide (8 < l.length)) ?_ (fun h1 => ?_) (fun h1 => at_t ?_ (at_node (b := !(l.any wrL)) ?_ (fun h2 => at_node (b := ascF l) ?_ (fun h3 => ?_) (fun h3 => ?_)) (fun h2 => ?_)))
  · simp only [nA, denS_unk, f_num, f_int, f_bool, f_str, mapO, Option.bind_some, n_lss, n_eql, n_seq, n_add, n_sub, n_len, n_slen, n_rd, n_ix, n_fd, n_t9, n_t10, n_t11, n_t1, n_leq, n_geq, h0]
    rw [dl]
  · unfold chkL
    rw [if_pos (of_decide_eq_true h1)]
    exact ret_n 3
  · simp only [nA, denS_unk, f_num, f_int, f_bool, f_str, mapO, Option.bind_some, n_lss, n_eql, n_seq, n_add, n_sub, n_len, n_slen, n_rd, n_ix, n_fd, n_t9, n_t10, n_t11, n_t1, n_leq, n_geq, h0, hc, u5 hU]
    rw [show Nat.ble l.length 4398046510976 = true from Nat.ble_eq.mpr (by have := of_decide_eq_false h1; omega)]
  · simp only [nA, denS_unk, f_num, f_int, f_bool, f_str, mapO, Option.bind_some, n_lss, n_eql, n_seq, n_add, n_sub, n_len, n_slen, n_rd, n_ix, n_fd, n_t9, n_t10, n_t11, n_t1, n_leq, n_geq, h0, hc, u4 hU, u2 hU]
    rw [idx_none]
  · simp only [nA, denS_unk, f_num, f_int, f_bool, f_str, mapO, Option.bind_some, n_lss, n_eql, n_seq, n_add, n_sub, n_len, n_slen, n_rd, n_ix, n_fd, n_t9, n_t10, n_t11, n_t1, n_leq, n_geq, h0, hc, u4 hU, u6 hU]
  · unfold chkL
    rw [if_neg (of_decide_eq_false h1), h2, h3]
    exact ret_n 0
  · unfold chkL
    rw [if_neg (of_decide_eq_false h1), h2, h3]
    exact ret_n 2
  · unfold chkL
    rw [if_neg (of_decide_eq_false h1), h2]
    exact ret_n 2
theorem cm0 {l : List Mat} {ad : Option Addr} {c : Nat} (L : LstG eM 3 40 QM R ad l) {s : Nat → Value} (h0 : s 0 = .slice ad l.length c) : Ev.Ends (uRd cx R) cmtab (QV cx R (.int .i64 (chkM l))) 0 s := by
  have hc := n_contG (cx := cx) (c := c) L
  refine Ends_mk ?_
  show At _ _ _ _ cmvt0
  unfold cmvt0
  refine at_node (b := decide (8 < l.length)) ?_ (fun h1 => ?_) (fun h1 => at_node (b := !(l.any wrM)) ?_ (fun h2 => ?_) (fun h2 => ?_))
  · simp only [nA, denS_unk, f_num, f_int, f_bool, f_str, mapO, Option.bind_some, n_lss, n_eql, n_seq, n_add, n_sub, n_len, n_slen, n_rd, n_ix, n_fd, n_t9, n_t10, n_t11, n_t1, n_leq, n_geq, h0]
    rw [dl]
  · unfold chkM
    rw [if_pos (of_decide_eq_true h1)]
    exact ret_n 3
  · simp only [nA, denS_unk, f_num, f_int, f_bool, f_str, mapO, Option.bind_some, n_lss, n_eql, n_seq, n_add, n_sub, n_len, n_slen, n_rd, n_ix, n_fd, n_t9, n_t10, n_t11, n_t1, n_leq, n_geq, h0, hc, u3 hU]
    rw [idx_none]
  · have h2 : l.any wrM = false := by simpa using h2
    unfold chkM
    rw [if_neg (of_decide_eq_false h1), h2]
    exact ret_n 0
  · have h2 : l.any wrM = true := by simpa using h2
    unfold chkM
    rw [if_neg (of_decide_eq_false h1), h2]
    exact ret_n 2
/-! pk -/
def pkP (ns : List T) (b : Bool) (x : Lab) : Bool := ns.any (fun s => eqT s x.1) == b
variable (nb : ∀ c a b, uRd cx R 0 [num 11, num 4, .bool c, .bool a, .bool b] = some (.bool (a == b)))
include nb
theorem pk5 {l : List Lab} {ad ad2 : Option Addr} {c c2 : Nat} (L : LstG eL 2 32 QL R ad l) {ns : List T} (M : LstG eT 1 16 QT R ad2 ns) (hfew : l.length ≤ 8) {b : Bool} {r : List Lab} : ∀ (k i : Nat) (acc : List Lab) (s : Nat → Value), i + k = l.length → 0 < acc.length → acc.length ≤ i → r = acc ++ (l.drop i).filter (pkP ns b) → s 0 = .slice ad l.length c → s 1 = .slice ad2 ns.length c2 → Sh s 2 [.bool b, .int .i64 (.ofNat acc.length), .int .i64 (.ofNat i), .agg ⟨acc.flatMap eL⟩] → Ev.Ends (uRd cx R) pktab (rowQ (uRd cx R) [2, 2] 39 true (r.flatMap eL) r.length) 5 s := by
  intro k
  induction k with
  | zero =>
    intro i acc s hk ha hai hr h0 h1 ⟨h2, h3, h4, h5, _⟩
    rw [List.drop_of_length_le (by omega), List.filter_nil, List.append_nil] at hr
    subst hr
    refine Ends_mk ?_
    show At _ _ _ _ pkvt5
    unfold pkvt5
    refine at_f ?_ ?_
    · simp only [nA, denS_unk, f_num, f_int, f_bool, f_str, mapO, Option.bind_some, n_lss, n_eql, n_seq, n_add, n_sub, n_len, n_slen, n_rd, n_ix, n_fd, n_t9, n_t10, n_t11, n_t1, n_leq, n_geq, h0, h4]
      rw [dl]
      exact congrArg (fun z => some (Value.bool z)) (decide_eq_false (by omega))
    · refine Ends_mk ?_
      refine .inr ⟨fun h => (by omega), 100, unk 6 3, unk 20 4, unk 6 3, rfl, List.mem_singleton.2 rfl, ?_, ?_⟩
      · rw [denS_unk]
        exact congrArg some (upd_e rfl (by rw [denS_unk, h5]))
      · show denS _ _ (unk 6 3) = _
        rw [denS_unk]
        exact congrArg some (upd_e rfl (by rw [denS_unk, h3]))
  | succ k ih =>
    intro i acc s hk ha hai hr h0 h1 ⟨h2, h3, h4, h5, _⟩
    obtain ⟨x, a, rfl, hv, qa, g, hdrop⟩ := lstG_at L (i := i) (by omega)
    have w := w_add (n := i) (i := 1) (by omega)
    have w2 := w_add (n := acc.length) (i := 1) (by omega)
    have g0 := g 0 _ rfl
    have g1 := g 1 _ rfl
    have hc := n_contG (cx := cx) (c := c2) M
    rw [hdrop, List.filter_cons] at hr
    refine Ends_mk ?_
    show At _ _ _ _ pkvt5
    unfold pkvt5
    refine at_t ?_ (at_t ?_ (at_node (b := pkP ns b a) ?_ (fun h6 => at_t ?_ (ih (i + 1) (acc ++ [a]) _ (by omega) (by simp) (by rw [List.length_append, List.length_singleton]; omega) ?_ ((upd_s rfl).trans h0) ((upd_s rfl).trans h1) ⟨(upd_s rfl).trans h2, upd_e rfl ?_, upd_e rfl ?_, upd_e rfl ?_, trivial⟩)) (fun h6 => ih (i + 1) acc _ (by omega) ha (by omega) ?_ ((upd_s rfl).trans h0) ((upd_s rfl).trans h1) ⟨(upd_s rfl).trans h2, upd_e rfl ?_, upd_e rfl ?_, upd_e rfl ?_, trivial⟩)))
    · simp only [nA, denS_unk, f_num, f_int, f_bool, f_str, mapO, Option.bind_some, n_lss, n_eql, n_seq, n_add, n_sub, n_len, n_slen, n_rd, n_ix, n_fd, n_t9, n_t10, n_t11, n_t1, n_leq, n_geq, h0, h4]
      rw [dl]
      exact congrArg (fun z => some (Value.bool z)) (decide_eq_true (by omega))
    · simp only [nA, denS_unk, f_num, f_int, f_bool, f_str, mapO, Option.bind_some, n_lss, n_eql, n_seq, n_add, n_sub, n_len, n_slen, n_rd, n_ix, n_fd, n_t9, n_t10, n_t11, n_t1, n_leq, n_geq, h0, h4]
      rw [bl (by omega)]
    · simp only [nA, denS_unk, f_num, f_int, f_bool, f_str, mapO, Option.bind_some, n_lss, n_eql, n_seq, n_add, n_sub, n_len, n_slen, n_rd, n_ix, n_fd, n_t9, n_t10, n_t11, n_t1, n_leq, n_geq, h0, h1, h2, h4, g0, hc, u9 hU]
      rw [idx_any, nb]
      rfl
    · simp only [nA, denS_unk, f_num, f_int, f_bool, f_str, mapO, Option.bind_some, n_lss, n_eql, n_seq, n_add, n_sub, n_len, n_slen, n_rd, n_ix, n_fd, n_t9, n_t10, n_t11, n_t1, n_leq, n_geq, h3]
      rw [show Nat.ble acc.length 524288 = true from Nat.ble_eq.mpr (by omega)]
    · rw [hr, if_pos h6, List.append_assoc]
      rfl
    · simp only [nA, denS_unk, f_num, f_int, f_bool, f_str, mapO, Option.bind_some, n_lss, n_eql, n_seq, n_add, n_sub, n_len, n_slen, n_rd, n_ix, n_fd, n_t9, n_t10, n_t11, n_t1, n_leq, n_geq, h3, w2]
      rw [List.length_append, List.length_singleton]
    · simp only [nA, denS_unk, f_num, f_int, f_bool, f_str, mapO, Option.bind_some, n_lss, n_eql, n_seq, n_add, n_sub, n_len, n_slen, n_rd, n_ix, n_fd, n_t9, n_t10, n_t11, n_t1, n_leq, n_geq, h4, w]
    · simp only [nA, denS_unk, f_num, f_int, f_bool, f_str, mapO, Option.bind_some, n_lss, n_eql, n_seq, n_add, n_sub, n_len, n_slen, n_rd, n_ix, n_fd, n_t9, n_t10, n_t11, n_t1, n_leq, n_geq, h0, h4, h5, g0, g1, n_lit, n_cat]
      rw [List.flatMap_append]
      rfl
    · rw [hr, h6]
      rfl
    · simp only [nA, denS_unk, f_num, f_int, f_bool, f_str, mapO, Option.bind_some, n_lss, n_eql, n_seq, n_add, n_sub, n_len, n_slen, n_rd, n_ix, n_fd, n_t9, n_t10, n_t11, n_t1, n_leq, n_geq, h3]
    · simp only [nA, denS_unk, f_num, f_int, f_bool, f_str, mapO, Option.bind_some, n_lss, n_eql, n_seq, n_add, n_sub, n_len, n_slen, n_rd, n_ix, n_fd, n_t9, n_t10, n_t11, n_t1, n_leq, n_geq, h4, w]
    · simp only [nA, denS_unk, f_num, f_int, f_bool, f_str, mapO, Option.bind_some, n_lss, n_eql, n_seq, n_add, n_sub, n_len, n_slen, n_rd, n_ix, n_fd, n_t9, n_t10, n_t11, n_t1, n_leq, n_geq, h5]
theorem pk4 {l : List Lab} {ad ad2 : Option Addr} {c c2 : Nat} (L : LstG eL 2 32 QL R ad l) {ns : List T} (M : LstG eT 1 16 QT R ad2 ns) (hfew : l.length ≤ 8) {b : Bool} {r : List Lab} : ∀ (k i : Nat) (s : Nat → Value), i + k = l.length → r = (l.drop i).filter (pkP ns b) → s 0 = .slice ad l.length c → s 1 = .slice ad2 ns.length c2 → Sh s 2 [.bool b, .int .i64 (.ofNat i)] → Ev.Ends (uRd cx R) pktab (rowQ (uRd cx R) [2, 2] 39 true (r.flatMap eL) r.length) 4 s := by
  intro k
  induction k with
  | zero =>
    intro i s hk hr h0 h1 ⟨h2, h3, _⟩
    rw [List.drop_of_length_le (by omega)] at hr
    have hr : r = [] := hr
    subst hr
    refine Ends_mk ?_
    show At _ _ _ _ pkvt4
    unfold pkvt4
    refine at_f ?_ ?_
    · simp only [nA, denS_unk, f_num, f_int, f_bool, f_str, mapO, Option.bind_some, n_lss, n_eql, n_seq, n_add, n_sub, n_len, n_slen, n_rd, n_ix, n_fd, n_t9, n_t10, n_t11, n_t1, n_leq, n_geq, h0, h3]
      rw [dl]
      exact congrArg (fun z => some (Value.bool z)) (decide_eq_false (by omega))
    · refine Ends_mk ?_
      exact .inl ⟨rfl, rfl, rfl⟩
  | succ k ih =>
    intro i s hk hr h0 h1 ⟨h2, h3, _⟩
    have L0 := L
    obtain ⟨x, a, rfl, hv, qa, g, hdrop⟩ := lstG_at L (i := i) (by omega)
    have w := w_add (n := i) (i := 1) (by omega)
    have g0 := g 0 _ rfl
    have g1 := g 1 _ rfl
    have hc := n_contG (cx := cx) (c := c2) M
    rw [hdrop, List.filter_cons] at hr
    refine Ends_mk ?_
    show At _ _ _ _ pkvt4
    unfold pkvt4
    refine at_t ?_ (at_t ?_ (at_node (b := pkP ns b a) ?_ (fun h6 => pk5 hU nb L0 M hfew k (i + 1) [a] _ (by omega) (by simp) (by simp) ?_ ((upd_s rfl).trans h0) ((upd_s rfl).trans h1) ⟨(upd_s rfl).trans h2, upd_e rfl ?_, upd_e rfl ?_, upd_e rfl ?_, trivial⟩) (fun h6 => ih (i + 1) _ (by omega) ?_ ((upd_s rfl).trans h0) ((upd_s rfl).trans h1) ⟨(upd_s rfl).trans h2, upd_e rfl ?_, trivial⟩)))
    · simp only [nA, denS_unk, f_num, f_int, f_bool, f_str, mapO, Option.bind_some, n_lss, n_eql, n_seq, n_add, n_sub, n_len, n_slen, n_rd, n_ix, n_fd, n_t9, n_t10, n_t11, n_t1, n_leq, n_geq, h0, h3]
      rw [dl]
      exact congrArg (fun z => some (Value.bool z)) (decide_eq_true (by omega))
    · simp only [nA, denS_unk, f_num, f_int, f_bool, f_str, mapO, Option.bind_some, n_lss, n_eql, n_seq, n_add, n_sub, n_len, n_slen, n_rd, n_ix, n_fd, n_t9, n_t10, n_t11, n_t1, n_leq, n_geq, h0, h3]
      rw [bl (by omega)]
    · simp only [nA, denS_unk, f_num, f_int, f_bool, f_str, mapO, Option.bind_some, n_lss, n_eql, n_seq, n_add, n_sub, n_len, n_slen, n_rd, n_ix, n_fd, n_t9, n_t10, n_t11, n_t1, n_leq, n_geq, h0, h1, h2, h3, g0, hc, u9 hU]
      rw [idx_any, nb]
      rfl
    · rw [hr, if_pos h6]
      rfl
    · simp only [nA, denS_unk, f_num, f_int, f_bool, f_str, mapO, Option.bind_some, n_lss, n_eql, n_seq, n_add, n_sub, n_len, n_slen, n_rd, n_ix, n_fd, n_t9, n_t10, n_t11, n_t1, n_leq, n_geq, h3]
      rfl
    · simp only [nA, denS_unk, f_num, f_int, f_bool, f_str, mapO, Option.bind_some, n_lss, n_eql, n_seq, n_add, n_sub, n_len, n_slen, n_rd, n_ix, n_fd, n_t9, n_t10, n_t11, n_t1, n_leq, n_geq, h3, w]
    · simp only [nA, denS_unk, f_num, f_int, f_bool, f_str, mapO, Option.bind_some, n_lss, n_eql, n_seq, n_add, n_sub, n_len, n_slen, n_rd, n_ix, n_fd, n_t9, n_t10, n_t11, n_t1, n_leq, n_geq, h0, h3, g0, g1, n_lit]
      rfl
    · rw [hr, h6]
      rfl
    · simp only [nA, denS_unk, f_num, f_int, f_bool, f_str, mapO, Option.bind_some, n_lss, n_eql, n_seq, n_add, n_sub, n_len, n_slen, n_rd, n_ix, n_fd, n_t9, n_t10, n_t11, n_t1, n_leq, n_geq, h3, w]
theorem pk0 {l : List Lab} {ad ad2 : Option Addr} {c c2 : Nat} (L : LstG eL 2 32 QL R ad l) {ns : List T} (M : LstG eT 1 16 QT R ad2 ns) {b : Bool} {s : Nat → Value} (h0 : s 0 = .slice ad l.length c) (h1 : s 1 = .slice ad2 ns.length c2) (h2 : s 2 = .bool b) : Ev.Ends (uRd cx R) pktab (rowQ (uRd cx R) [2, 2] 39 true ((pickL l ns b).flatMap eL) (pickL l ns b).length) 0 s := by
  have hc := n_contG (cx := cx) (c := c) L
  refine Ends_mk ?_
  show Ev.Ends (uRd cx R) pktab _ 1 s
  refine Ends_mk ?_
  show At _ _ _ _ pkvt1
  unfold pkvt1
  refine at_node (b := chkL l == Int.ofNat 0) ?_ (fun h3 => ?_) (fun h3 => ?_)
  · simp only [nA, denS_unk, f_num, f_int, f_bool, f_str, mapO, Option.bind_some, n_lss, n_eql, n_seq, n_add, n_sub, n_len, n_slen, n_rd, n_ix, n_fd, n_t9, n_t10, n_t11, n_t1, n_leq, n_geq, h0, hc, u12 hU]
  · have h3 : chkL l = 0 := eq_of_beq h3
    refine Ends_mk ?_
    show Ev.Ends (uRd cx R) pktab _ 3 _
    refine Ends_mk ?_
    show Ev.Ends (uRd cx R) pktab _ 4 _
    refine pk4 hU nb L M (chk_few h3) l.length 0 _ (by omega) ?_ ((upd_s rfl).trans ((upd_s rfl).trans ((upd_s rfl).trans h0))) ((upd_s rfl).trans ((upd_s rfl).trans ((upd_s rfl).trans h1))) ⟨(upd_s rfl).trans ((upd_s rfl).trans ((upd_s rfl).trans h2)), upd_e rfl (denS_flat rfl), trivial⟩
    rw [pick_of h3]
    rfl
  · have h3 : ¬ chkL l = 0 := fun h => by rw [h] at h3; exact absurd h3 (by decide)
    unfold pickL
    rw [if_neg h3]
    exact .inl ⟨rfl, rfl, rfl⟩
end
end Go.Proofs.Ytcholmmiieddcaa
