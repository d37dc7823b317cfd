import Derived.Test.YtaepplhgeeaidaaDoorLxR
set_option linter.unusedVariables false
set_option linter.unusedSimpArgs false
set_option linter.unusedSectionVars false
set_option maxRecDepth 100000
namespace Go.Proofs.YtaepplhgeeaidaaDoor
open Go Go.RowKit Ev
def QT (t : T) : Prop := t.size < 9223372036854775808
theorem ble_dec (a b : Nat) : Nat.ble a b = decide (a ≤ b) := by
  by_cases h : a ≤ b
  · rw [Nat.ble_eq.mpr h, decide_eq_true h]
  · rw [decide_eq_false h]
    cases k : Nat.ble a b with
    | true => exact absurd (Nat.le_of_ble_eq_true k) h
    | false => rfl
theorem blt_dec (a b : Nat) : Nat.blt a b = decide (a < b) := ble_dec (a + 1) b
theorem let_iff {n : Nat} : letB n = true ↔ (97 ≤ n ∧ n ≤ 122) ∨ n = 95 := by
  unfold letB lowB
  simp only [Bool.or_eq_true, Bool.and_eq_true, Bool.not_eq_true', decide_eq_false_iff_not, beq_iff_eq]
  omega
theorem dig_iff {n : Nat} : digB n = true ↔ 48 ≤ n ∧ n ≤ 57 := by
  unfold digB
  simp only [Bool.and_eq_true, Bool.not_eq_true', decide_eq_false_iff_not]
  omega
theorem sig_iff {n : Nat} : n ∈ signs ↔ n = 43 ∨ n = 42 ∨ n = 40 ∨ n = 41 ∨ n = 123 ∨ n = 125 ∨ n = 91 ∨ n = 93 ∨ n = 44 ∨ n = 58 := by
  unfold signs
  simp
theorem idx_neg : ∀ (l : B8) (c : UInt8), Lib.indexByte l c < 0 ↔ c ∉ l
  | [], c => by unfold Lib.indexByte; simp
  | b :: l, c => by
    have ih := idx_neg l c
    have rg := idx_rng l c
    unfold Lib.indexByte
    rw [List.mem_cons, not_or]
    by_cases h : b = c
    · subst h
      simp
    · rw [if_neg (by simpa using h)]
      split
      · rename_i h1
        have h1 : Lib.indexByte l c = -1 := by simpa using h1
        exact ⟨fun _ => ⟨fun e => h e.symm, ih.1 (by omega)⟩, fun _ => by decide⟩
      · rename_i h1
        have h1 : ¬ Lib.indexByte l c = -1 := by simpa using h1
        constructor
        · intro h2; omega
        · intro h2
          have := ih.2 h2.2
          omega
theorem sgn_neg (c : UInt8) : idxB [43, 42, 40, 41, 123, 125, 91, 93, 44, 58] (Int.ofNat c.toNat) < 0 ↔ ¬ (c.toNat = 43 ∨ c.toNat = 42 ∨ c.toNat = 40 ∨ c.toNat = 41 ∨ c.toNat = 123 ∨ c.toNat = 125 ∨ c.toNat = 91 ∨ c.toNat = 93 ∨ c.toNat = 44 ∨ c.toNat = 58) := by
  rw [idxB_u8, idx_neg]
  simp only [List.mem_cons, List.not_mem_nil, or_false, ← UInt8.toNat_inj]
  rfl
theorem firstF_eq (nam : B8 → Bool) (val : B8 → Option Int) (c : UInt8) (r : B8) (neg : Bool) : firstF nam val (c :: r) neg =
    if (97 ≤ c.toNat ∧ c.toNat ≤ 122) ∨ c.toNat = 95 then wordF nam (c :: r) else if c.toNat = 34 then textF (c :: r) else
    if c.toNat = 45 then (if neg = true ∧ (48 ≤ (r.headD 0).toNat ∧ (r.headD 0).toNat ≤ 57) then numF val (c :: r) else signF (c :: r) 1) else
    if 48 ≤ c.toNat ∧ c.toNat ≤ 57 then numF val (c :: r) else
    if c.toNat = 33 then (if (r.headD 0).toNat = 61 then signF (c :: r) 2 else (tok0, 0)) else
    if c.toNat = 61 ∨ c.toNat = 60 ∨ c.toNat = 62 then (if (r.headD 0).toNat = 61 then signF (c :: r) 2 else signF (c :: r) 1) else
    if c.toNat = 43 ∨ c.toNat = 42 ∨ c.toNat = 40 ∨ c.toNat = 41 ∨ c.toNat = 123 ∨ c.toNat = 125 ∨ c.toNat = 91 ∨ c.toNat = 93 ∨ c.toNat = 44 ∨ c.toNat = 58 then signF (c :: r) 1 else (tok0, 0) := by
  unfold firstF
  simp only [let_iff, dig_iff, sig_iff]
theorem unqL_len : ∀ (k : Nat) (r b : B8) (p : B8 × Nat), unqL k r b = some p → p.1.length ≤ 64
  | 0, _, _, _, h => by cases h
  | k + 1, [], b, p, h => by cases h
  | k + 1, c :: r, b, p, h => by
    have ih := unqL_len k
    revert h
    show (if 64 < b.length then none else if c.toNat = 34 then some (b, 1) else if c.toNat = 92 then (if (escF (c :: r)).2 = 0 then none else (unqL k ((c :: r).drop (escF (c :: r)).2) (b ++ [(escF (c :: r)).1])).map _) else if plB c.toNat = true then (unqL k r (b ++ [c])).map _ else none) = some p → _
    split
    · intro h; cases h
    · split
      · intro h
        injection h with h
        subst h
        show b.length ≤ 64
        omega
      · split
        · split
          · intro h; cases h
          · intro h
            obtain ⟨q, hq, rfl⟩ := Option.map_eq_some_iff.1 h
            exact ih _ _ q hq
        · split
          · intro h
            obtain ⟨q, hq, rfl⟩ := Option.map_eq_some_iff.1 h
            exact ih _ _ q hq
          · intro h; cases h
theorem unqP_len (x : B8) : (unqP x).1.length ≤ 64 := by
  unfold unqP
  cases h : unqF x with
  | none => exact Nat.zero_le _
  | some p =>
    cases x with
    | nil => cases h
    | cons a r =>
      revert h
      show (if a.toNat = 34 then (unqL (r.length + 1) r []).map _ else none) = some p → _
      split
      · intro h
        obtain ⟨q, hq, rfl⟩ := Option.map_eq_some_iff.1 h
        exact unqL_len _ _ _ q hq
      · intro h; cases h
def tkR (p : Tok × Nat) : Value := .tuple ⟨[.agg ⟨eTok p.1⟩, .int .i64 (Int.ofNat p.2)]⟩
section
variable {cx : Cx} {R : Addr → Option Value} {s : Nat → Value}
theorem ret_tok {e0 e1 e2 e3 e4 : Value} {p : Tok × Nat} (h0 : denV s (uRd cx R) 7 e0 = some (.int .i64 p.1.1)) (h1 : denV s (uRd cx R) 7 e1 = some (.string (tx p.1.2.1))) (h2 : denV s (uRd cx R) 7 e2 = some (.int .i64 p.1.2.2.1)) (h3 : denV s (uRd cx R) 7 e3 = some (.int .i64 p.1.2.2.2)) (h4 : denV s (uRd cx R) 8 e4 = some (.int .i64 (Int.ofNat p.2))) :
    QV cx R (tkR p) s [.agg ⟨[e0, e1, e2, e3]⟩, e4] [] := by
  refine ret2 ?_ h4
  show denV s (uRd cx R) 8 (.agg ⟨[e0, e1, e2, e3]⟩) = _
  unfold denV
  simp only [mapO, h0, h1, h2, h3]
  rfl
end
section
variable {cx : Cx} (hU : cx.U = lxU) {R : Addr → Option Value}
include hU
theorem na3 {t : T} (ht : QT t) {r : Bool} : ∀ (k i : Nat) (s : Nat → Value), i + k = t.size → r = allN t i k → s 0 = .string t → s 1 = .int .i64 (.ofNat i) → Ev.Ends (uRd cx R) natab (QV cx R (.bool r)) 3 s := by
  intro k
  induction k with
  | zero =>
    intro i s hk hi q0 q1
    refine Ends_mk ?_
    show At _ _ _ _ navt3
    unfold navt3
    refine at_f ?_ ?_
    · simp only [nA, denS_unk, f_num, f_int, f_bool, f_str, mapO, Option.bind_some, n_lss, n_eql, n_seq, n_add, n_sub, n_len, n_slen, n_rd, n_ix, n_fd, n_t9, n_t10, n_t1, n_leq, q0, q1]
      rw [dl]
      exact congrArg (fun z => some (Value.bool z)) (decide_eq_false (by omega))
    · refine Ends_mk ?_
      rw [hi]
      exact ret_b true
  | succ k ih =>
    intro i s hk hi q0 q1
    have w := w_add (n := i) (i := 1) (by unfold QT at ht; omega)
    have hb := n_byte (cx := cx) (R := R) (s := t) (i := i) (by omega) .i64
    have hi : r = (inB (t[i]!).toNat && allN t (i + 1) k) := hi
    generalize (t[i]!).toNat = c at hb hi
    have next : inB c = true → ∀ L', L' = [(1, 6, (sy 6 1 [(num 0), (num 3), (.bool true), (unk 6 1), (.int .i64 (.ofNat 1))]))] → Ev.Ends (uRd cx R) natab (QV cx R (.bool r)) 3 (upd s (uRd cx R) L') := by
      rintro hp L' rfl
      refine ih (i + 1) _ (by omega) ?_ ((upd_s rfl).trans q0) (upd_e rfl ?_)
      · rw [hi, hp, Bool.true_and]
      · simp only [nA, denS_unk, f_num, f_int, f_bool, f_str, mapO, Option.bind_some, n_lss, n_eql, n_seq, n_add, n_sub, n_len, n_slen, n_rd, n_ix, n_fd, n_t9, n_t10, n_t1, n_leq, q1, w]
    have stop : inB c = false → QV cx R (.bool r) s [.bool false] [] := by
      intro hp
      rw [hi, hp]
      exact ret_b false
    refine Ends_mk ?_
    show At _ _ _ _ navt3
    unfold navt3
    refine at_t ?_ (at_t ?_ (at_node (b := decide (c < 97)) ?_ (fun h1 => (at_node (b := decide (c < 48)) ?_ (fun h3 => (at_node (b := c == 95) ?_ (fun h5 => next ((inB_eq h1 rfl h3 rfl h5).trans (by simp)) _ rfl) (fun h5 => stop ((inB_eq h1 rfl h3 rfl h5).trans (by simp))))) (fun h3 => at_node (b := decide (57 < c)) ?_ (fun h4 => (at_node (b := c == 95) ?_ (fun h5 => next ((inB_eq h1 rfl h3 h4 h5).trans (by simp)) _ rfl) (fun h5 => stop ((inB_eq h1 rfl h3 h4 h5).trans (by simp))))) (fun h4 => next ((inB_eq h1 rfl h3 h4 rfl).trans (by simp)) _ rfl)))) (fun h1 => at_node (b := decide (122 < c)) ?_ (fun h2 => (at_node (b := decide (c < 48)) ?_ (fun h3 => (at_node (b := c == 95) ?_ (fun h5 => next ((inB_eq h1 h2 h3 rfl h5).trans (by simp)) _ rfl) (fun h5 => stop ((inB_eq h1 h2 h3 rfl h5).trans (by simp))))) (fun h3 => at_node (b := decide (57 < c)) ?_ (fun h4 => (at_node (b := c == 95) ?_ (fun h5 => next ((inB_eq h1 h2 h3 h4 h5).trans (by simp)) _ rfl) (fun h5 => stop ((inB_eq h1 h2 h3 h4 h5).trans (by simp))))) (fun h4 => next ((inB_eq h1 h2 h3 h4 rfl).trans (by simp)) _ rfl)))) (fun h2 => next ((inB_eq h1 h2 rfl rfl rfl).trans (by simp)) _ rfl))))
    · simp only [nA, denS_unk, f_num, f_int, f_bool, f_str, mapO, Option.bind_some, n_lss, n_eql, n_seq, n_add, n_sub, n_len, n_slen, n_rd, n_ix, n_fd, n_t9, n_t10, n_t1, n_leq, q0, q1]
      rw [dl]
      exact congrArg (fun z => some (Value.bool z)) (decide_eq_true (by omega))
    · simp only [nA, denS_unk, f_num, f_int, f_bool, f_str, mapO, Option.bind_some, n_lss, n_eql, n_seq, n_add, n_sub, n_len, n_slen, n_rd, n_ix, n_fd, n_t9, n_t10, n_t1, n_leq, q0, q1]
      rw [bl (by omega)]
    all_goals
      simp only [nA, denS_unk, f_num, f_int, f_bool, f_str, mapO, Option.bind_some, n_lss, n_eql, n_seq, n_add, n_sub, n_len, n_slen, n_rd, n_ix, n_fd, n_t9, n_t10, n_t1, n_leq, q0, q1, hb]
      first | rw [dl] | rw [n_beq2]
theorem na0 {t : T} (ht : QT t) {s : Nat → Value} (h0 : s 0 = .string t) : Ev.Ends (uRd cx R) natab (QV cx R (.bool (namB t))) 0 s := by
  refine Ends_mk ?_
  show Ev.Ends (uRd cx R) natab _ 1 s
  refine Ends_mk ?_
  show At _ _ _ _ navt1
  unfold navt1
  refine at_node (b := decide (t.size < 1)) ?_ (fun h1 => ?_) (fun h1 => at_node (b := decide (24 < t.size)) ?_ (fun h2 => ?_) (fun h2 => ?_))
  · simp only [nA, denS_unk, f_num, f_int, f_bool, f_str, mapO, Option.bind_some, n_lss, n_eql, n_seq, n_add, n_sub, n_len, n_slen, n_rd, n_ix, n_fd, n_t9, n_t10, n_t1, n_leq, h0]
    rw [dl]
  · unfold namB
    rw [h1]
    exact ret_b false
  · simp only [nA, denS_unk, f_num, f_int, f_bool, f_str, mapO, Option.bind_some, n_lss, n_eql, n_seq, n_add, n_sub, n_len, n_slen, n_rd, n_ix, n_fd, n_t9, n_t10, n_t1, n_leq, h0]
    rw [dl]
  · unfold namB
    rw [h1, h2]
    exact ret_b false
  · have h1' := of_decide_eq_false h1
    have hb := n_byte (cx := cx) (R := R) (s := t) (i := 0) (by omega) .i64
    have hn : namB t = (!(digB (t[0]!).toNat) && allN t 0 t.size) := by unfold namB; rw [h1, h2]; rfl
    rw [hn]
    generalize (t[0]!).toNat = c at hb
    have next : digB c = false → Ev.Ends (uRd cx R) natab (QV cx R (.bool (!(digB c) && allN t 0 t.size))) 2 s := by
      intro hp
      rw [hp]
      refine Ends_mk ?_
      show Ev.Ends (uRd cx R) natab _ 3 _
      exact na3 hU ht t.size 0 _ (by omega) rfl ((upd_s rfl).trans h0) (upd_e rfl (denS_flat rfl))
    refine at_t ?_ (at_node (b := decide (c < 48)) ?_ (fun h3 => next (by unfold digB; rw [h3]; rfl)) (fun h3 => at_node (b := decide (57 < c)) ?_ (fun h4 => next (by unfold digB; rw [h3, h4]; rfl)) (fun h4 => ?_)))
    · simp only [nA, denS_unk, f_num, f_int, f_bool, f_str, mapO, Option.bind_some, n_lss, n_eql, n_seq, n_add, n_sub, n_len, n_slen, n_rd, n_ix, n_fd, n_t9, n_t10, n_t1, n_leq, h0]
      rw [bl (by omega)]
    · simp only [nA, denS_unk, f_num, f_int, f_bool, f_str, mapO, Option.bind_some, n_lss, n_eql, n_seq, n_add, n_sub, n_len, n_slen, n_rd, n_ix, n_fd, n_t9, n_t10, n_t1, n_leq, h0, hb]
      rw [dl]
    · simp only [nA, denS_unk, f_num, f_int, f_bool, f_str, mapO, Option.bind_some, n_lss, n_eql, n_seq, n_add, n_sub, n_len, n_slen, n_rd, n_ix, n_fd, n_t9, n_t10, n_t1, n_leq, h0, hb]
      rw [dl]
    · rw [show digB c = true from by unfold digB; rw [h3, h4]; rfl]
      exact ret_b false
end
end Go.Proofs.YtaepplhgeeaidaaDoor
