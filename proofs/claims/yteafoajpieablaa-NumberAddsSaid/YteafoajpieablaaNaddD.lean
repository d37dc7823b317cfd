/- The loops of NumberAdds. -/
import Derived.Test.YteafoajpieablaaNaddC
set_option linter.unusedVariables false
set_option linter.unusedSimpArgs false
namespace Go.Proofs.Yteafoajpieablaa
open Go Go.RowKit Ev
theorem dl {i n : Nat} : decide (Int.ofNat i < Int.ofNat n) = decide (i < n) := by
  by_cases h : i < n
  · rw [decide_eq_true h]; exact decide_eq_true (Int.ofNat_lt.2 h)
  · rw [decide_eq_false h]; exact decide_eq_false (fun x => h (Int.ofNat_lt.1 x))
theorem bl {i n : Nat} (h : i < n) : Nat.blt i n = true := Nat.blt_eq.mpr h
/-- What came in: its cells. -/
structure Dat (R : Addr → Option Value) (x : Addr) (l : Vs) : Prop where
  rd : ∀ i p q, l[i]? = some (p, q) → R ((x.add (i * 2)).add 0) = some (.int .i64 p) ∧ R ((x.add (i * 2)).add 1) = some (.bool q)
  all : readN R x (l.length * 2) = some (cv l)
  sw : ∀ v, v ∈ l → SW v.1
  few : l.length < 9223372036854775808
theorem at_of {m : Vs} {i : Nat} (h : i < m.length) : ∃ p q, m[i]? = some (p, q) := by
  cases hv : m[i]? with
  | none => rw [List.getElem?_eq_none_iff] at hv; omega
  | some v => exact ⟨v.1, v.2, rfl⟩
section
variable {R : Addr → Option Value} {x : Addr} {l : Vs} {c : Nat} (D : Dat R x l) {a b : Int} {ao bo : Bool} (ha : Ok a ao) (hb : Ok b bo)
include D ha hb
theorem e18 {m : Vs} (hm : m.length = l.length) (hs : sumV m = sumV l) (hc : cntV m = cntV l) (hw : ∀ v, v ∈ m → SW v.1) : ∀ (k i : Nat) (s : Nat → Value), i + k = l.length → s 0 = .slice (some x) l.length c →
    Sh s 6 [.int .i64 (.ofNat l.length), .int .i64 (.ofNat i), .int .i64 a, .bool ao, .int .i64 b, .bool bo, .int .i64 (gH (sumV l - sumV (m.take i))), .int .u64 (gL (sumV l - sumV (m.take i))), .int .u64 (gL (cntV l - cntV (m.take i))), .agg ⟨cv m⟩] → NE R 18 s := by
  intro k
  induction k with
  | zero =>
    intro i s hk h0 h
    obtain ⟨h6, h7, h8, h9, h10, h11, h12, h13, h14, h15, -⟩ := h
    refine Ends_mk ?_
    show At _ _ _ _ navt18
    unfold navt18
    refine at_f ?_ ?_
    · simp only [nA, denS_unk, f_num, f_int, f_bool, mapO, Option.bind_some, n_lss, n_eql, n_eql0, n_add, n_sub, n_beq, n_len', n_rd, n_ix, n_fd, n_cell, n_over, n_t9, h0, h7]
      rw [dl]
      exact congrArg (fun z => some (Value.bool z)) (decide_eq_false (by omega))
    · have e1 : m.take i = m := List.take_of_length_le (by omega)
      rw [e1] at h12 h13 h14
      refine e20 ha hb ⟨upd_e rfl ?_, upd_e rfl ?_, upd_e rfl ?_, upd_e rfl ?_, upd_e rfl ?_, upd_e rfl ?_, upd_e rfl ?_, trivial⟩
      · simp only [nA, denS_unk, f_num, f_int, f_bool, mapO, Option.bind_some, n_lss, n_eql, n_eql0, n_add, n_sub, n_beq, n_len', n_rd, n_ix, n_fd, n_cell, n_over, n_t9, h8]
      · simp only [nA, denS_unk, f_num, f_int, f_bool, mapO, Option.bind_some, n_lss, n_eql, n_eql0, n_add, n_sub, n_beq, n_len', n_rd, n_ix, n_fd, n_cell, n_over, n_t9, h9]
      · simp only [nA, denS_unk, f_num, f_int, f_bool, mapO, Option.bind_some, n_lss, n_eql, n_eql0, n_add, n_sub, n_beq, n_len', n_rd, n_ix, n_fd, n_cell, n_over, n_t9, h10]
      · simp only [nA, denS_unk, f_num, f_int, f_bool, mapO, Option.bind_some, n_lss, n_eql, n_eql0, n_add, n_sub, n_beq, n_len', n_rd, n_ix, n_fd, n_cell, n_over, n_t9, h11]
      · simp only [nA, denS_unk, f_num, f_int, f_bool, mapO, Option.bind_some, n_lss, n_eql, n_eql0, n_add, n_sub, n_beq, n_len', n_rd, n_ix, n_fd, n_cell, n_over, n_t9, h12]
        rw [hs, Int.sub_self]
      · simp only [nA, denS_unk, f_num, f_int, f_bool, mapO, Option.bind_some, n_lss, n_eql, n_eql0, n_add, n_sub, n_beq, n_len', n_rd, n_ix, n_fd, n_cell, n_over, n_t9, h13]
        rw [hs, Int.sub_self]
      · simp only [nA, denS_unk, f_num, f_int, f_bool, mapO, Option.bind_some, n_lss, n_eql, n_eql0, n_add, n_sub, n_beq, n_len', n_rd, n_ix, n_fd, n_cell, n_over, n_t9, h14]
        rw [hc, Int.sub_self]
  | succ k ih =>
    intro i s hk h0 h
    obtain ⟨h6, h7, h8, h9, h10, h11, h12, h13, h14, h15, -⟩ := h
    have few := D.few
    obtain ⟨p, q, hv⟩ := at_of (m := m) (i := i) (by omega)
    obtain ⟨g1, g2⟩ := cv_get hv
    obtain ⟨t1, t2⟩ := sum_take hv
    have sp := hw _ (List.mem_of_getElem? hv)
    have w := w_add (n := i) (i := 1) (by omega)
    refine Ends_mk ?_
    show At _ _ _ _ navt18
    unfold navt18
    refine at_t ?_ (at_t ?_ ?_)
    · simp only [nA, denS_unk, f_num, f_int, f_bool, mapO, Option.bind_some, n_lss, n_eql, n_eql0, n_add, n_sub, n_beq, n_len', n_rd, n_ix, n_fd, n_cell, n_over, n_t9, h0, h7]
      rw [dl]
      exact congrArg (fun z => some (Value.bool z)) (decide_eq_true (by omega))
    · simp only [nA, denS_unk, f_num, f_int, f_bool, mapO, Option.bind_some, n_lss, n_eql, n_eql0, n_add, n_sub, n_beq, n_len', n_rd, n_ix, n_fd, n_cell, n_over, n_t9, h6, h7]
      rw [bl (by omega)]
    · refine ih (i + 1) _ (by omega) ((upd_s rfl).trans h0) ⟨upd_e rfl ?_, upd_e rfl ?_, upd_e rfl ?_, upd_e rfl ?_, upd_e rfl ?_, upd_e rfl ?_, upd_e rfl ?_, upd_e rfl ?_, upd_e rfl ?_, upd_e rfl ?_, trivial⟩
      · simp only [nA, denS_unk, f_num, f_int, f_bool, mapO, Option.bind_some, n_lss, n_eql, n_eql0, n_add, n_sub, n_beq, n_len', n_rd, n_ix, n_fd, n_cell, n_over, n_t9, h6]
      · simp only [nA, denS_unk, f_num, f_int, f_bool, mapO, Option.bind_some, n_lss, n_eql, n_eql0, n_add, n_sub, n_beq, n_len', n_rd, n_ix, n_fd, n_cell, n_over, n_t9, h7, w]
      · simp only [nA, denS_unk, f_num, f_int, f_bool, mapO, Option.bind_some, n_lss, n_eql, n_eql0, n_add, n_sub, n_beq, n_len', n_rd, n_ix, n_fd, n_cell, n_over, n_t9, h8]
      · simp only [nA, denS_unk, f_num, f_int, f_bool, mapO, Option.bind_some, n_lss, n_eql, n_eql0, n_add, n_sub, n_beq, n_len', n_rd, n_ix, n_fd, n_cell, n_over, n_t9, h9]
      · simp only [nA, denS_unk, f_num, f_int, f_bool, mapO, Option.bind_some, n_lss, n_eql, n_eql0, n_add, n_sub, n_beq, n_len', n_rd, n_ix, n_fd, n_cell, n_over, n_t9, h10]
      · simp only [nA, denS_unk, f_num, f_int, f_bool, mapO, Option.bind_some, n_lss, n_eql, n_eql0, n_add, n_sub, n_beq, n_len', n_rd, n_ix, n_fd, n_cell, n_over, n_t9, h11]
      · simp only [nA, denS_unk, f_num, f_int, f_bool, mapO, Option.bind_some, n_lss, n_eql, n_eql0, n_add, n_sub, n_beq, n_len', n_rd, n_ix, n_fd, n_cell, n_over, n_t9, h7, h12, h13, h14, h15, g1, g2, n_tak0, sp]
        rw [t1, show sumV l - sumV (m.take i) - vN (p, q) = sumV l - (sumV (m.take i) + vN (p, q)) by omega]
      · simp only [nA, denS_unk, f_num, f_int, f_bool, mapO, Option.bind_some, n_lss, n_eql, n_eql0, n_add, n_sub, n_beq, n_len', n_rd, n_ix, n_fd, n_cell, n_over, n_t9, h7, h12, h13, h14, h15, g1, g2, n_tak1, sp]
        rw [t1, show sumV l - sumV (m.take i) - vN (p, q) = sumV l - (sumV (m.take i) + vN (p, q)) by omega]
      · simp only [nA, denS_unk, f_num, f_int, f_bool, mapO, Option.bind_some, n_lss, n_eql, n_eql0, n_add, n_sub, n_beq, n_len', n_rd, n_ix, n_fd, n_cell, n_over, n_t9, h7, h12, h13, h14, h15, g1, g2, n_tak2, sp]
        rw [t2, show cntV l - cntV (m.take i) - oo q = cntV l - (cntV (m.take i) + oo q) by omega]
      · simp only [nA, denS_unk, f_num, f_int, f_bool, mapO, Option.bind_some, n_lss, n_eql, n_eql0, n_add, n_sub, n_beq, n_len', n_rd, n_ix, n_fd, n_cell, n_over, n_t9, h15]
theorem e16 {m : Vs} (hm : m.length = l.length) (hs : sumV m = sumV l) (hc : cntV m = cntV l) (hw : ∀ v, v ∈ m → SW v.1) {s : Nat → Value} (h0 : s 0 = .slice (some x) l.length c)
    (h : Sh s 6 [.int .i64 (.ofNat l.length), .int .i64 a, .bool ao, .int .i64 b, .bool bo, .int .i64 (gH (sumV l)), .int .u64 (gL (sumV l)), .int .u64 (gL (cntV l)), .agg ⟨cv m⟩]) : NE R 16 s := by
  obtain ⟨h6, h7, h8, h9, h10, h11, h12, h13, h14, -⟩ := h
  refine Ends_mk ?_
  show NE R 18 _
  refine e18 D ha hb hm hs hc hw l.length 0 _ (by omega) ((upd_s rfl).trans h0) ⟨upd_e rfl ?_, upd_e rfl ?_, upd_e rfl ?_, upd_e rfl ?_, upd_e rfl ?_, upd_e rfl ?_, upd_e rfl ?_, upd_e rfl ?_, upd_e rfl ?_, upd_e rfl ?_, trivial⟩
  · simp only [nA, denS_unk, f_num, f_int, f_bool, mapO, Option.bind_some, n_lss, n_eql, n_eql0, n_add, n_sub, n_beq, n_len', n_rd, n_ix, n_fd, n_cell, n_over, n_t9, h6]
  · simp only [nA, denS_unk, f_num, f_int, f_bool, mapO, Option.bind_some, n_lss, n_eql, n_eql0, n_add, n_sub, n_beq, n_len', n_rd, n_ix, n_fd, n_cell, n_over, n_t9, h6]
  · simp only [nA, denS_unk, f_num, f_int, f_bool, mapO, Option.bind_some, n_lss, n_eql, n_eql0, n_add, n_sub, n_beq, n_len', n_rd, n_ix, n_fd, n_cell, n_over, n_t9, h7]
  · simp only [nA, denS_unk, f_num, f_int, f_bool, mapO, Option.bind_some, n_lss, n_eql, n_eql0, n_add, n_sub, n_beq, n_len', n_rd, n_ix, n_fd, n_cell, n_over, n_t9, h8]
  · simp only [nA, denS_unk, f_num, f_int, f_bool, mapO, Option.bind_some, n_lss, n_eql, n_eql0, n_add, n_sub, n_beq, n_len', n_rd, n_ix, n_fd, n_cell, n_over, n_t9, h9]
  · simp only [nA, denS_unk, f_num, f_int, f_bool, mapO, Option.bind_some, n_lss, n_eql, n_eql0, n_add, n_sub, n_beq, n_len', n_rd, n_ix, n_fd, n_cell, n_over, n_t9, h10]
  · simp only [nA, denS_unk, f_num, f_int, f_bool, mapO, Option.bind_some, n_lss, n_eql, n_eql0, n_add, n_sub, n_beq, n_len', n_rd, n_ix, n_fd, n_cell, n_over, n_t9, h11]
    show _ = some (Value.int .i64 (gH (sumV l - 0)))
    rw [Int.sub_zero]
  · simp only [nA, denS_unk, f_num, f_int, f_bool, mapO, Option.bind_some, n_lss, n_eql, n_eql0, n_add, n_sub, n_beq, n_len', n_rd, n_ix, n_fd, n_cell, n_over, n_t9, h12]
    show _ = some (Value.int .u64 (gL (sumV l - 0)))
    rw [Int.sub_zero]
  · simp only [nA, denS_unk, f_num, f_int, f_bool, mapO, Option.bind_some, n_lss, n_eql, n_eql0, n_add, n_sub, n_beq, n_len', n_rd, n_ix, n_fd, n_cell, n_over, n_t9, h13]
    show _ = some (Value.int .u64 (gL (cntV l - 0)))
    rw [Int.sub_zero]
  · simp only [nA, denS_unk, f_num, f_int, f_bool, mapO, Option.bind_some, n_lss, n_eql, n_eql0, n_add, n_sub, n_beq, n_len', n_rd, n_ix, n_fd, n_cell, n_over, n_t9, h14]
theorem e14 {m : Vs} (hm : m.length = l.length) (hs : sumV m = sumV l) (hc : cntV m = cntV l) (hw : ∀ v, v ∈ m → SW v.1) {ov : Bool} (ho : ov = true → 0 < cntV m) (h5 : l.length ≤ 500) {s : Nat → Value} (h0 : s 0 = .slice (some x) l.length c)
    (h : Sh s 6 [.bool ov, .int .i64 (.ofNat l.length), .int .i64 a, .bool ao, .int .i64 b, .bool bo, .int .i64 (gH (sumV l)), .int .u64 (gL (sumV l)), .int .u64 (gL (cntV l)), .int .i64 (gH (sumV m)), .int .u64 (gL (sumV m)), .int .u64 (gL (cntV m)), .int .i64 (gH (sumV m)), .int .u64 (gL (sumV m)), .int .u64 (gL (cntV m)), .agg ⟨cv m⟩]) : NE R 14 s := by
  obtain ⟨h6, h7, h8, h9, h10, h11, h12, h13, h14, h15, h16, h17, h18, h19, h20, h21, -⟩ := h
  rw [hs] at h15 h16 h18 h19
  rw [hc] at h17 h20 ho
  have hgo : ∀ L, L = [(6, 6, (Ev.unk 6 7)), (8, 1, (Ev.unk 1 9)), (7, 6, (Ev.unk 6 8)), (10, 1, (Ev.unk 1 11)), (9, 6, (Ev.unk 6 10)), (13, 10, (Ev.unk 10 14)), (12, 10, (Ev.unk 10 13)), (11, 6, (Ev.unk 6 12)), (14, 20, (Ev.unk 20 21)), (6, 6, (Ev.unk 6 7))] → NE R 16 (upd s (nu R) L) := by
    rintro L rfl
    refine e16 D ha hb hm hs hc hw ((upd_s rfl).trans h0) ⟨upd_e rfl ?_, upd_e rfl ?_, upd_e rfl ?_, upd_e rfl ?_, upd_e rfl ?_, upd_e rfl ?_, upd_e rfl ?_, upd_e rfl ?_, upd_e rfl ?_, trivial⟩
    · simp only [nA, denS_unk, f_num, f_int, f_bool, mapO, Option.bind_some, n_lss, n_eql, n_eql0, n_add, n_sub, n_beq, n_len', n_rd, n_ix, n_fd, n_cell, n_over, n_t9, h7]
    · simp only [nA, denS_unk, f_num, f_int, f_bool, mapO, Option.bind_some, n_lss, n_eql, n_eql0, n_add, n_sub, n_beq, n_len', n_rd, n_ix, n_fd, n_cell, n_over, n_t9, h8]
    · simp only [nA, denS_unk, f_num, f_int, f_bool, mapO, Option.bind_some, n_lss, n_eql, n_eql0, n_add, n_sub, n_beq, n_len', n_rd, n_ix, n_fd, n_cell, n_over, n_t9, h9]
    · simp only [nA, denS_unk, f_num, f_int, f_bool, mapO, Option.bind_some, n_lss, n_eql, n_eql0, n_add, n_sub, n_beq, n_len', n_rd, n_ix, n_fd, n_cell, n_over, n_t9, h10]
    · simp only [nA, denS_unk, f_num, f_int, f_bool, mapO, Option.bind_some, n_lss, n_eql, n_eql0, n_add, n_sub, n_beq, n_len', n_rd, n_ix, n_fd, n_cell, n_over, n_t9, h11]
    · simp only [nA, denS_unk, f_num, f_int, f_bool, mapO, Option.bind_some, n_lss, n_eql, n_eql0, n_add, n_sub, n_beq, n_len', n_rd, n_ix, n_fd, n_cell, n_over, n_t9, h12]
    · simp only [nA, denS_unk, f_num, f_int, f_bool, mapO, Option.bind_some, n_lss, n_eql, n_eql0, n_add, n_sub, n_beq, n_len', n_rd, n_ix, n_fd, n_cell, n_over, n_t9, h13]
    · simp only [nA, denS_unk, f_num, f_int, f_bool, mapO, Option.bind_some, n_lss, n_eql, n_eql0, n_add, n_sub, n_beq, n_len', n_rd, n_ix, n_fd, n_cell, n_over, n_t9, h14]
    · simp only [nA, denS_unk, f_num, f_int, f_bool, mapO, Option.bind_some, n_lss, n_eql, n_eql0, n_add, n_sub, n_beq, n_len', n_rd, n_ix, n_fd, n_cell, n_over, n_t9, h21]
  refine Ends_mk ?_
  show At _ _ _ _ navt14
  unfold navt14
  refine at_t ?_ (at_t ?_ (at_t ?_ (at_t ?_ (at_t ?_ (at_t ?_ (at_node (b := ov) ?_ (fun hv => ?_) (fun _ => ?_)))))))
  · simp only [nA, denS_unk, f_num, f_int, f_bool, mapO, Option.bind_some, n_lss, n_eql, n_eql0, n_add, n_sub, n_beq, n_len', n_rd, n_ix, n_fd, n_cell, n_over, n_t9, h12, h15, BEq.rfl]
  · simp only [nA, denS_unk, f_num, f_int, f_bool, mapO, Option.bind_some, n_lss, n_eql, n_eql0, n_add, n_sub, n_beq, n_len', n_rd, n_ix, n_fd, n_cell, n_over, n_t9, h13, h16, BEq.rfl]
  · simp only [nA, denS_unk, f_num, f_int, f_bool, mapO, Option.bind_some, n_lss, n_eql, n_eql0, n_add, n_sub, n_beq, n_len', n_rd, n_ix, n_fd, n_cell, n_over, n_t9, h14, h17, BEq.rfl]
  · simp only [nA, denS_unk, f_num, f_int, f_bool, mapO, Option.bind_some, n_lss, n_eql, n_eql0, n_add, n_sub, n_beq, n_len', n_rd, n_ix, n_fd, n_cell, n_over, n_t9, h12, h18, BEq.rfl]
  · simp only [nA, denS_unk, f_num, f_int, f_bool, mapO, Option.bind_some, n_lss, n_eql, n_eql0, n_add, n_sub, n_beq, n_len', n_rd, n_ix, n_fd, n_cell, n_over, n_t9, h13, h19, BEq.rfl]
  · simp only [nA, denS_unk, f_num, f_int, f_bool, mapO, Option.bind_some, n_lss, n_eql, n_eql0, n_add, n_sub, n_beq, n_len', n_rd, n_ix, n_fd, n_cell, n_over, n_t9, h14, h20, BEq.rfl]
  · simp only [nA, denS_unk, f_num, f_int, f_bool, mapO, Option.bind_some, n_lss, n_eql, n_eql0, n_add, n_sub, n_beq, n_len', n_rd, n_ix, n_fd, n_cell, n_over, n_t9, h6]
  · refine at_t ?_ (hgo _ rfl)
    simp only [nA, denS_unk, f_num, f_int, f_bool, mapO, Option.bind_some, n_lss, n_eql, n_eql0, n_add, n_sub, n_beq, n_len', n_rd, n_ix, n_fd, n_cell, n_over, n_t9, n_val1, h12, h13, h14]
    have := (cnt_len l).2
    have h7 := ho hv
    refine congrArg (fun z => some (Value.bool z)) (decide_eq_true (.inl ?_))
    unfold gL
    omega
  · exact hgo _ rfl
theorem e12 {m : Vs} (hm : m.length = l.length) (hs : sumV m = sumV l) (hc : cntV m = cntV l) (hw : ∀ v, v ∈ m → SW v.1) {ov : Bool} (ho : ov = true → 0 < cntV m) (h5 : l.length ≤ 500) : ∀ (k i : Nat) (s : Nat → Value), i + k = l.length → s 0 = .slice (some x) l.length c →
    Sh s 6 [.bool ov, .int .i64 (.ofNat l.length), .int .i64 (.ofNat i), .int .i64 a, .bool ao, .int .i64 b, .bool bo, .int .i64 (gH (sumV (l.take i))), .int .u64 (gL (sumV (l.take i))), .int .u64 (gL (cntV (l.take i))), .int .i64 (gH (sumV (m.take i))), .int .u64 (gL (sumV (m.take i))), .int .u64 (gL (cntV (m.take i))), .int .i64 (gH (sumV (m.take i))), .int .u64 (gL (sumV (m.take i))), .int .u64 (gL (cntV (m.take i))), .agg ⟨cv m⟩] → NE R 12 s := by
  intro k
  induction k with
  | zero =>
    intro i s hk h0 h
    obtain ⟨h6, h7, h8, h9, h10, h11, h12, h13, h14, h15, h16, h17, h18, h19, h20, h21, h22, -⟩ := h
    refine Ends_mk ?_
    show At _ _ _ _ navt12
    unfold navt12
    refine at_f ?_ ?_
    · simp only [nA, denS_unk, f_num, f_int, f_bool, mapO, Option.bind_some, n_lss, n_eql, n_eql0, n_add, n_sub, n_beq, n_len', n_rd, n_ix, n_fd, n_cell, n_over, n_t9, h0, h8]
      rw [dl]
      exact congrArg (fun z => some (Value.bool z)) (decide_eq_false (by omega))
    · have e1 : m.take i = m := List.take_of_length_le (by omega)
      have e2 : l.take i = l := List.take_of_length_le (by omega)
      rw [e2] at h13 h14 h15
      rw [e1] at h16 h17 h18 h19 h20 h21
      refine e14 D ha hb hm hs hc hw ho h5 ((upd_s rfl).trans h0) ⟨upd_e rfl ?_, upd_e rfl ?_, upd_e rfl ?_, upd_e rfl ?_, upd_e rfl ?_, upd_e rfl ?_, upd_e rfl ?_, upd_e rfl ?_, upd_e rfl ?_, upd_e rfl ?_, upd_e rfl ?_, upd_e rfl ?_, upd_e rfl ?_, upd_e rfl ?_, upd_e rfl ?_, upd_e rfl ?_, trivial⟩
      · simp only [nA, denS_unk, f_num, f_int, f_bool, mapO, Option.bind_some, n_lss, n_eql, n_eql0, n_add, n_sub, n_beq, n_len', n_rd, n_ix, n_fd, n_cell, n_over, n_t9, h6]
      · simp only [nA, denS_unk, f_num, f_int, f_bool, mapO, Option.bind_some, n_lss, n_eql, n_eql0, n_add, n_sub, n_beq, n_len', n_rd, n_ix, n_fd, n_cell, n_over, n_t9, h7]
      · simp only [nA, denS_unk, f_num, f_int, f_bool, mapO, Option.bind_some, n_lss, n_eql, n_eql0, n_add, n_sub, n_beq, n_len', n_rd, n_ix, n_fd, n_cell, n_over, n_t9, h9]
      · simp only [nA, denS_unk, f_num, f_int, f_bool, mapO, Option.bind_some, n_lss, n_eql, n_eql0, n_add, n_sub, n_beq, n_len', n_rd, n_ix, n_fd, n_cell, n_over, n_t9, h10]
      · simp only [nA, denS_unk, f_num, f_int, f_bool, mapO, Option.bind_some, n_lss, n_eql, n_eql0, n_add, n_sub, n_beq, n_len', n_rd, n_ix, n_fd, n_cell, n_over, n_t9, h11]
      · simp only [nA, denS_unk, f_num, f_int, f_bool, mapO, Option.bind_some, n_lss, n_eql, n_eql0, n_add, n_sub, n_beq, n_len', n_rd, n_ix, n_fd, n_cell, n_over, n_t9, h12]
      · simp only [nA, denS_unk, f_num, f_int, f_bool, mapO, Option.bind_some, n_lss, n_eql, n_eql0, n_add, n_sub, n_beq, n_len', n_rd, n_ix, n_fd, n_cell, n_over, n_t9, h13]
      · simp only [nA, denS_unk, f_num, f_int, f_bool, mapO, Option.bind_some, n_lss, n_eql, n_eql0, n_add, n_sub, n_beq, n_len', n_rd, n_ix, n_fd, n_cell, n_over, n_t9, h14]
      · simp only [nA, denS_unk, f_num, f_int, f_bool, mapO, Option.bind_some, n_lss, n_eql, n_eql0, n_add, n_sub, n_beq, n_len', n_rd, n_ix, n_fd, n_cell, n_over, n_t9, h15]
      · simp only [nA, denS_unk, f_num, f_int, f_bool, mapO, Option.bind_some, n_lss, n_eql, n_eql0, n_add, n_sub, n_beq, n_len', n_rd, n_ix, n_fd, n_cell, n_over, n_t9, h16]
      · simp only [nA, denS_unk, f_num, f_int, f_bool, mapO, Option.bind_some, n_lss, n_eql, n_eql0, n_add, n_sub, n_beq, n_len', n_rd, n_ix, n_fd, n_cell, n_over, n_t9, h17]
      · simp only [nA, denS_unk, f_num, f_int, f_bool, mapO, Option.bind_some, n_lss, n_eql, n_eql0, n_add, n_sub, n_beq, n_len', n_rd, n_ix, n_fd, n_cell, n_over, n_t9, h18]
      · simp only [nA, denS_unk, f_num, f_int, f_bool, mapO, Option.bind_some, n_lss, n_eql, n_eql0, n_add, n_sub, n_beq, n_len', n_rd, n_ix, n_fd, n_cell, n_over, n_t9, h19]
      · simp only [nA, denS_unk, f_num, f_int, f_bool, mapO, Option.bind_some, n_lss, n_eql, n_eql0, n_add, n_sub, n_beq, n_len', n_rd, n_ix, n_fd, n_cell, n_over, n_t9, h20]
      · simp only [nA, denS_unk, f_num, f_int, f_bool, mapO, Option.bind_some, n_lss, n_eql, n_eql0, n_add, n_sub, n_beq, n_len', n_rd, n_ix, n_fd, n_cell, n_over, n_t9, h21]
      · simp only [nA, denS_unk, f_num, f_int, f_bool, mapO, Option.bind_some, n_lss, n_eql, n_eql0, n_add, n_sub, n_beq, n_len', n_rd, n_ix, n_fd, n_cell, n_over, n_t9, h22]
  | succ k ih =>
    intro i s hk h0 h
    obtain ⟨h6, h7, h8, h9, h10, h11, h12, h13, h14, h15, h16, h17, h18, h19, h20, h21, h22, -⟩ := h
    have few := D.few
    obtain ⟨p, q, hv⟩ := at_of (m := m) (i := i) (by omega)
    obtain ⟨g1, g2⟩ := cv_get hv
    obtain ⟨t1, t2⟩ := sum_take hv
    have sp := hw _ (List.mem_of_getElem? hv)
    obtain ⟨p', q', hv'⟩ := at_of (m := l) (i := i) (by omega)
    obtain ⟨g1', g2'⟩ := D.rd _ _ _ hv'
    obtain ⟨t1', t2'⟩ := sum_take hv'
    have sp' := D.sw _ (List.mem_of_getElem? hv')
    have sa := ha.1
    have w := w_add (n := i) (i := 1) (by omega)
    refine Ends_mk ?_
    show At _ _ _ _ navt12
    unfold navt12
    refine at_t ?_ (at_t ?_ (at_t ?_ ?_))
    · simp only [nA, denS_unk, f_num, f_int, f_bool, mapO, Option.bind_some, n_lss, n_eql, n_eql0, n_add, n_sub, n_beq, n_len', n_rd, n_ix, n_fd, n_cell, n_over, n_t9, h0, h8]
      rw [dl]
      exact congrArg (fun z => some (Value.bool z)) (decide_eq_true (by omega))
    · simp only [nA, denS_unk, f_num, f_int, f_bool, mapO, Option.bind_some, n_lss, n_eql, n_eql0, n_add, n_sub, n_beq, n_len', n_rd, n_ix, n_fd, n_cell, n_over, n_t9, h0, h8, n_t1]
      rw [bl (by omega)]
    · simp only [nA, denS_unk, f_num, f_int, f_bool, mapO, Option.bind_some, n_lss, n_eql, n_eql0, n_add, n_sub, n_beq, n_len', n_rd, n_ix, n_fd, n_cell, n_over, n_t9, h7, h8]
      rw [bl (by omega)]
    · refine ih (i + 1) _ (by omega) ((upd_s rfl).trans h0) ⟨upd_e rfl ?_, upd_e rfl ?_, upd_e rfl ?_, upd_e rfl ?_, upd_e rfl ?_, upd_e rfl ?_, upd_e rfl ?_, upd_e rfl ?_, upd_e rfl ?_, upd_e rfl ?_, upd_e rfl ?_, upd_e rfl ?_, upd_e rfl ?_, upd_e rfl ?_, upd_e rfl ?_, upd_e rfl ?_, upd_e rfl ?_, trivial⟩
      · simp only [nA, denS_unk, f_num, f_int, f_bool, mapO, Option.bind_some, n_lss, n_eql, n_eql0, n_add, n_sub, n_beq, n_len', n_rd, n_ix, n_fd, n_cell, n_over, n_t9, h6]
      · simp only [nA, denS_unk, f_num, f_int, f_bool, mapO, Option.bind_some, n_lss, n_eql, n_eql0, n_add, n_sub, n_beq, n_len', n_rd, n_ix, n_fd, n_cell, n_over, n_t9, h7]
      · simp only [nA, denS_unk, f_num, f_int, f_bool, mapO, Option.bind_some, n_lss, n_eql, n_eql0, n_add, n_sub, n_beq, n_len', n_rd, n_ix, n_fd, n_cell, n_over, n_t9, h8, w]
      · simp only [nA, denS_unk, f_num, f_int, f_bool, mapO, Option.bind_some, n_lss, n_eql, n_eql0, n_add, n_sub, n_beq, n_len', n_rd, n_ix, n_fd, n_cell, n_over, n_t9, h9]
      · simp only [nA, denS_unk, f_num, f_int, f_bool, mapO, Option.bind_some, n_lss, n_eql, n_eql0, n_add, n_sub, n_beq, n_len', n_rd, n_ix, n_fd, n_cell, n_over, n_t9, h10]
      · simp only [nA, denS_unk, f_num, f_int, f_bool, mapO, Option.bind_some, n_lss, n_eql, n_eql0, n_add, n_sub, n_beq, n_len', n_rd, n_ix, n_fd, n_cell, n_over, n_t9, h11]
      · simp only [nA, denS_unk, f_num, f_int, f_bool, mapO, Option.bind_some, n_lss, n_eql, n_eql0, n_add, n_sub, n_beq, n_len', n_rd, n_ix, n_fd, n_cell, n_over, n_t9, h12]
      · simp only [nA, denS_unk, f_num, f_int, f_bool, mapO, Option.bind_some, n_lss, n_eql, n_eql0, n_add, n_sub, n_beq, n_len', n_rd, n_ix, n_fd, n_cell, n_over, n_t9, h0, h8, h13, h14, h15, g1', g2', n_put0, sp']
        rw [t1']
      · simp only [nA, denS_unk, f_num, f_int, f_bool, mapO, Option.bind_some, n_lss, n_eql, n_eql0, n_add, n_sub, n_beq, n_len', n_rd, n_ix, n_fd, n_cell, n_over, n_t9, h0, h8, h13, h14, h15, g1', g2', n_put1, sp']
        rw [t1']
      · simp only [nA, denS_unk, f_num, f_int, f_bool, mapO, Option.bind_some, n_lss, n_eql, n_eql0, n_add, n_sub, n_beq, n_len', n_rd, n_ix, n_fd, n_cell, n_over, n_t9, h0, h8, h13, h14, h15, g1', g2', n_put2, sp']
        rw [t2']
      · simp only [nA, denS_unk, f_num, f_int, f_bool, mapO, Option.bind_some, n_lss, n_eql, n_eql0, n_add, n_sub, n_beq, n_len', n_rd, n_ix, n_fd, n_cell, n_over, n_t9, h8, h16, h17, h18, h22, g1, g2, n_put0, sp]
        rw [t1]
      · simp only [nA, denS_unk, f_num, f_int, f_bool, mapO, Option.bind_some, n_lss, n_eql, n_eql0, n_add, n_sub, n_beq, n_len', n_rd, n_ix, n_fd, n_cell, n_over, n_t9, h8, h16, h17, h18, h22, g1, g2, n_put1, sp]
        rw [t1]
      · simp only [nA, denS_unk, f_num, f_int, f_bool, mapO, Option.bind_some, n_lss, n_eql, n_eql0, n_add, n_sub, n_beq, n_len', n_rd, n_ix, n_fd, n_cell, n_over, n_t9, h8, h16, h17, h18, h22, g1, g2, n_put2, sp]
        rw [t2]
      · simp only [nA, denS_unk, f_num, f_int, f_bool, mapO, Option.bind_some, n_lss, n_eql, n_eql0, n_add, n_sub, n_beq, n_len', n_rd, n_ix, n_fd, n_cell, n_over, n_t9, h8, h9, h10, h19, h20, h21, h22, g1, g2, n_put0, n_put1, n_put2, n_tak0, n_tak1, n_tak2, sp, sa, Int.add_sub_cancel]
        rw [t1]
      · simp only [nA, denS_unk, f_num, f_int, f_bool, mapO, Option.bind_some, n_lss, n_eql, n_eql0, n_add, n_sub, n_beq, n_len', n_rd, n_ix, n_fd, n_cell, n_over, n_t9, h8, h9, h10, h19, h20, h21, h22, g1, g2, n_put0, n_put1, n_put2, n_tak0, n_tak1, n_tak2, sp, sa, Int.add_sub_cancel]
        rw [t1]
      · simp only [nA, denS_unk, f_num, f_int, f_bool, mapO, Option.bind_some, n_lss, n_eql, n_eql0, n_add, n_sub, n_beq, n_len', n_rd, n_ix, n_fd, n_cell, n_over, n_t9, h8, h9, h10, h19, h20, h21, h22, g1, g2, n_put0, n_put1, n_put2, n_tak0, n_tak1, n_tak2, sp, sa, Int.add_sub_cancel]
        rw [t2]
      · simp only [nA, denS_unk, f_num, f_int, f_bool, mapO, Option.bind_some, n_lss, n_eql, n_eql0, n_add, n_sub, n_beq, n_len', n_rd, n_ix, n_fd, n_cell, n_over, n_t9, h22]
theorem e10 {m : Vs} (hm : m.length = l.length) (hs : sumV m = sumV l) (hc : cntV m = cntV l) (hw : ∀ v, v ∈ m → SW v.1) {ov : Bool} (ho : ov = true → 0 < cntV m) (h5 : l.length ≤ 500) {s : Nat → Value} (h0 : s 0 = .slice (some x) l.length c)
    (h : Sh s 6 [.bool ov, .int .i64 (.ofNat l.length), .int .i64 a, .bool ao, .int .i64 b, .bool bo, .int .i64 (gH 0), .int .u64 (gL 0), .int .u64 (gL 0), .int .i64 (gH 0), .int .u64 (gL 0), .int .u64 (gL 0), .int .i64 (gH 0), .int .u64 (gL 0), .int .u64 (gL 0), .agg ⟨cv m⟩]) : NE R 10 s := by
  obtain ⟨h6, h7, h8, h9, h10, h11, h12, h13, h14, h15, h16, h17, h18, h19, h20, h21, -⟩ := h
  refine Ends_mk ?_
  show NE R 12 _
  refine e12 D ha hb hm hs hc hw ho h5 l.length 0 _ (by omega) ((upd_s rfl).trans h0) ⟨upd_e rfl ?_, upd_e rfl ?_, upd_e rfl ?_, upd_e rfl ?_, upd_e rfl ?_, upd_e rfl ?_, upd_e rfl ?_, upd_e rfl ?_, upd_e rfl ?_, upd_e rfl ?_, upd_e rfl ?_, upd_e rfl ?_, upd_e rfl ?_, upd_e rfl ?_, upd_e rfl ?_, upd_e rfl ?_, upd_e rfl ?_, trivial⟩
  · simp only [nA, denS_unk, f_num, f_int, f_bool, mapO, Option.bind_some, n_lss, n_eql, n_eql0, n_add, n_sub, n_beq, n_len', n_rd, n_ix, n_fd, n_cell, n_over, n_t9, h6]
  · simp only [nA, denS_unk, f_num, f_int, f_bool, mapO, Option.bind_some, n_lss, n_eql, n_eql0, n_add, n_sub, n_beq, n_len', n_rd, n_ix, n_fd, n_cell, n_over, n_t9, h7]
  · simp only [nA, denS_unk, f_num, f_int, f_bool, mapO, Option.bind_some, n_lss, n_eql, n_eql0, n_add, n_sub, n_beq, n_len', n_rd, n_ix, n_fd, n_cell, n_over, n_t9, h7]
  · simp only [nA, denS_unk, f_num, f_int, f_bool, mapO, Option.bind_some, n_lss, n_eql, n_eql0, n_add, n_sub, n_beq, n_len', n_rd, n_ix, n_fd, n_cell, n_over, n_t9, h8]
  · simp only [nA, denS_unk, f_num, f_int, f_bool, mapO, Option.bind_some, n_lss, n_eql, n_eql0, n_add, n_sub, n_beq, n_len', n_rd, n_ix, n_fd, n_cell, n_over, n_t9, h9]
  · simp only [nA, denS_unk, f_num, f_int, f_bool, mapO, Option.bind_some, n_lss, n_eql, n_eql0, n_add, n_sub, n_beq, n_len', n_rd, n_ix, n_fd, n_cell, n_over, n_t9, h10]
  · simp only [nA, denS_unk, f_num, f_int, f_bool, mapO, Option.bind_some, n_lss, n_eql, n_eql0, n_add, n_sub, n_beq, n_len', n_rd, n_ix, n_fd, n_cell, n_over, n_t9, h11]
  · simp only [nA, denS_unk, f_num, f_int, f_bool, mapO, Option.bind_some, n_lss, n_eql, n_eql0, n_add, n_sub, n_beq, n_len', n_rd, n_ix, n_fd, n_cell, n_over, n_t9, h12]
    rfl
  · simp only [nA, denS_unk, f_num, f_int, f_bool, mapO, Option.bind_some, n_lss, n_eql, n_eql0, n_add, n_sub, n_beq, n_len', n_rd, n_ix, n_fd, n_cell, n_over, n_t9, h13]
    rfl
  · simp only [nA, denS_unk, f_num, f_int, f_bool, mapO, Option.bind_some, n_lss, n_eql, n_eql0, n_add, n_sub, n_beq, n_len', n_rd, n_ix, n_fd, n_cell, n_over, n_t9, h14]
    rfl
  · simp only [nA, denS_unk, f_num, f_int, f_bool, mapO, Option.bind_some, n_lss, n_eql, n_eql0, n_add, n_sub, n_beq, n_len', n_rd, n_ix, n_fd, n_cell, n_over, n_t9, h15]
    rfl
  · simp only [nA, denS_unk, f_num, f_int, f_bool, mapO, Option.bind_some, n_lss, n_eql, n_eql0, n_add, n_sub, n_beq, n_len', n_rd, n_ix, n_fd, n_cell, n_over, n_t9, h16]
    rfl
  · simp only [nA, denS_unk, f_num, f_int, f_bool, mapO, Option.bind_some, n_lss, n_eql, n_eql0, n_add, n_sub, n_beq, n_len', n_rd, n_ix, n_fd, n_cell, n_over, n_t9, h17]
    rfl
  · simp only [nA, denS_unk, f_num, f_int, f_bool, mapO, Option.bind_some, n_lss, n_eql, n_eql0, n_add, n_sub, n_beq, n_len', n_rd, n_ix, n_fd, n_cell, n_over, n_t9, h18]
    rfl
  · simp only [nA, denS_unk, f_num, f_int, f_bool, mapO, Option.bind_some, n_lss, n_eql, n_eql0, n_add, n_sub, n_beq, n_len', n_rd, n_ix, n_fd, n_cell, n_over, n_t9, h19]
    rfl
  · simp only [nA, denS_unk, f_num, f_int, f_bool, mapO, Option.bind_some, n_lss, n_eql, n_eql0, n_add, n_sub, n_beq, n_len', n_rd, n_ix, n_fd, n_cell, n_over, n_t9, h20]
    rfl
  · simp only [nA, denS_unk, f_num, f_int, f_bool, mapO, Option.bind_some, n_lss, n_eql, n_eql0, n_add, n_sub, n_beq, n_len', n_rd, n_ix, n_fd, n_cell, n_over, n_t9, h21]
end
end Go.Proofs.Yteafoajpieablaa
