/- The first loop of NumberAdds, the ways of nothing, and the whole. -/
import Derived.Test.YteafoajpieablaaNaddD
set_option linter.unusedVariables false
set_option linter.unusedSimpArgs false
set_option linter.unusedSectionVars false
namespace Go.Proofs.Yteafoajpieablaa
open Go Go.RowKit Ev
def sub8 (e6 : Value) : VT := (.node (Ev.sy 1 1 [(Ev.num 13), (Ev.num 3), (.bool false), (Ev.unk 6 8), (Ev.sy 6 5 [(Ev.unk 0 1)])]) (.node (Ev.sy 1 9 [(Ev.num 1), (Ev.unk 0 1), (Ev.unk 6 8)]) (.node (Ev.sy 1 9 [(Ev.num 13), (Ev.sy 6 6 [(Ev.sy 0 8 [(Ev.sy 0 7 [(Ev.num 1), (Ev.unk 0 1), (Ev.unk 6 8)]), (Ev.num 0)])]), (Ev.sy 6 1 [(Ev.num 1), (Ev.num 3), (.bool false), (Ev.unk 6 7), (Ev.unk 6 8)])]) (.node (Ev.sy 1 1 [(Ev.num 13), (Ev.num 3), (.bool true), (Ev.sy 6 1 [(Ev.num 4), (Ev.num 3), (.bool false), (Ev.sy 6 6 [(Ev.sy 0 8 [(Ev.sy 0 7 [(Ev.num 1), (Ev.unk 0 1), (Ev.unk 6 8)]), (Ev.num 0)])]), (Ev.sy 6 1 [(Ev.num 1), (Ev.num 3), (.bool false), (Ev.unk 6 7), (Ev.unk 6 8)])]), (.int .i64 (.ofNat 0))]) (.node (Ev.sy 1 9 [(Ev.num 9), (Ev.unk 6 7), (Ev.sy 6 1 [(Ev.num 0), (Ev.num 3), (.bool false), (Ev.unk 6 8), (Ev.sy 6 1 [(Ev.num 0), (Ev.num 3), (.bool false), (Ev.sy 6 1 [(Ev.num 4), (Ev.num 3), (.bool false), (Ev.sy 6 6 [(Ev.sy 0 8 [(Ev.sy 0 7 [(Ev.num 1), (Ev.unk 0 1), (Ev.unk 6 8)]), (Ev.num 0)])]), (Ev.sy 6 1 [(Ev.num 1), (Ev.num 3), (.bool false), (Ev.unk 6 7), (Ev.unk 6 8)])]), (Ev.sy 6 1 [(Ev.num 1), (Ev.num 3), (.bool false), (Ev.unk 6 7), (Ev.unk 6 8)])])])]) (.go 8 [(100, 100), (101, 101), (102, 102), (103, 103), (104, 104), (105, 105)] [(6, 1, e6), (7, 6, (Ev.unk 6 7)), (8, 6, (Ev.sy 6 1 [(Ev.num 0), (Ev.num 3), (.bool true), (Ev.unk 6 8), (.int .i64 (.ofNat 1))])), (10, 1, (Ev.unk 1 10)), (9, 6, (Ev.unk 6 9)), (12, 1, (Ev.unk 1 12)), (11, 6, (Ev.unk 6 11)), (15, 10, (Ev.unk 10 15)), (14, 10, (Ev.unk 10 14)), (13, 6, (Ev.unk 6 13)), (18, 10, (Ev.unk 10 18)), (17, 10, (Ev.unk 10 17)), (16, 6, (Ev.unk 6 16)), (21, 10, (Ev.unk 10 21)), (20, 10, (Ev.unk 10 20)), (19, 6, (Ev.unk 6 19)), (22, 20, (Ev.sy 0 11 [(Ev.num 1), (Ev.sy 0 11 [(Ev.num 1), (Ev.unk 20 22), (Ev.unk 6 8), (Ev.num 2), (Ev.num 0), (Ev.sy 6 11 [(Ev.num 0), (Ev.unk 20 22), (Ev.sy 6 1 [(Ev.num 0), (Ev.num 3), (.bool false), (Ev.unk 6 8), (Ev.sy 6 1 [(Ev.num 0), (Ev.num 3), (.bool false), (Ev.sy 6 1 [(Ev.num 4), (Ev.num 3), (.bool false), (Ev.sy 6 6 [(Ev.sy 0 8 [(Ev.sy 0 7 [(Ev.num 1), (Ev.unk 0 1), (Ev.unk 6 8)]), (Ev.num 0)])]), (Ev.sy 6 1 [(Ev.num 1), (Ev.num 3), (.bool false), (Ev.unk 6 7), (Ev.unk 6 8)])]), (Ev.sy 6 1 [(Ev.num 1), (Ev.num 3), (.bool false), (Ev.unk 6 7), (Ev.unk 6 8)])])]), (Ev.num 2), (Ev.num 0)]), (Ev.sy 1 11 [(Ev.num 0), (Ev.unk 20 22), (Ev.sy 6 1 [(Ev.num 0), (Ev.num 3), (.bool false), (Ev.unk 6 8), (Ev.sy 6 1 [(Ev.num 0), (Ev.num 3), (.bool false), (Ev.sy 6 1 [(Ev.num 4), (Ev.num 3), (.bool false), (Ev.sy 6 6 [(Ev.sy 0 8 [(Ev.sy 0 7 [(Ev.num 1), (Ev.unk 0 1), (Ev.unk 6 8)]), (Ev.num 0)])]), (Ev.sy 6 1 [(Ev.num 1), (Ev.num 3), (.bool false), (Ev.unk 6 7), (Ev.unk 6 8)])]), (Ev.sy 6 1 [(Ev.num 1), (Ev.num 3), (.bool false), (Ev.unk 6 7), (Ev.unk 6 8)])])]), (Ev.num 2), (Ev.num 1)])]), (Ev.sy 6 1 [(Ev.num 0), (Ev.num 3), (.bool false), (Ev.unk 6 8), (Ev.sy 6 1 [(Ev.num 0), (Ev.num 3), (.bool false), (Ev.sy 6 1 [(Ev.num 4), (Ev.num 3), (.bool false), (Ev.sy 6 6 [(Ev.sy 0 8 [(Ev.sy 0 7 [(Ev.num 1), (Ev.unk 0 1), (Ev.unk 6 8)]), (Ev.num 0)])]), (Ev.sy 6 1 [(Ev.num 1), (Ev.num 3), (.bool false), (Ev.unk 6 7), (Ev.unk 6 8)])]), (Ev.sy 6 1 [(Ev.num 1), (Ev.num 3), (.bool false), (Ev.unk 6 7), (Ev.unk 6 8)])])]), (Ev.num 2), (Ev.num 0), (Ev.sy 6 11 [(Ev.num 0), (Ev.unk 20 22), (Ev.unk 6 8), (Ev.num 2), (Ev.num 0)]), (Ev.sy 1 11 [(Ev.num 0), (Ev.unk 20 22), (Ev.unk 6 8), (Ev.num 2), (Ev.num 1)])])), (7, 6, (Ev.unk 6 7))]) .dead) (.node (Ev.sy 1 9 [(Ev.num 9), (Ev.unk 6 7), (Ev.sy 6 1 [(Ev.num 0), (Ev.num 3), (.bool false), (Ev.unk 6 8), (Ev.sy 6 1 [(Ev.num 4), (Ev.num 3), (.bool false), (Ev.sy 6 6 [(Ev.sy 0 8 [(Ev.sy 0 7 [(Ev.num 1), (Ev.unk 0 1), (Ev.unk 6 8)]), (Ev.num 0)])]), (Ev.sy 6 1 [(Ev.num 1), (Ev.num 3), (.bool false), (Ev.unk 6 7), (Ev.unk 6 8)])])])]) (.go 8 [(100, 100), (101, 101), (102, 102), (103, 103), (104, 104), (105, 105)] [(6, 1, e6), (7, 6, (Ev.unk 6 7)), (8, 6, (Ev.sy 6 1 [(Ev.num 0), (Ev.num 3), (.bool true), (Ev.unk 6 8), (.int .i64 (.ofNat 1))])), (10, 1, (Ev.unk 1 10)), (9, 6, (Ev.unk 6 9)), (12, 1, (Ev.unk 1 12)), (11, 6, (Ev.unk 6 11)), (15, 10, (Ev.unk 10 15)), (14, 10, (Ev.unk 10 14)), (13, 6, (Ev.unk 6 13)), (18, 10, (Ev.unk 10 18)), (17, 10, (Ev.unk 10 17)), (16, 6, (Ev.unk 6 16)), (21, 10, (Ev.unk 10 21)), (20, 10, (Ev.unk 10 20)), (19, 6, (Ev.unk 6 19)), (22, 20, (Ev.sy 0 11 [(Ev.num 1), (Ev.sy 0 11 [(Ev.num 1), (Ev.unk 20 22), (Ev.unk 6 8), (Ev.num 2), (Ev.num 0), (Ev.sy 6 11 [(Ev.num 0), (Ev.unk 20 22), (Ev.sy 6 1 [(Ev.num 0), (Ev.num 3), (.bool false), (Ev.unk 6 8), (Ev.sy 6 1 [(Ev.num 4), (Ev.num 3), (.bool false), (Ev.sy 6 6 [(Ev.sy 0 8 [(Ev.sy 0 7 [(Ev.num 1), (Ev.unk 0 1), (Ev.unk 6 8)]), (Ev.num 0)])]), (Ev.sy 6 1 [(Ev.num 1), (Ev.num 3), (.bool false), (Ev.unk 6 7), (Ev.unk 6 8)])])]), (Ev.num 2), (Ev.num 0)]), (Ev.sy 1 11 [(Ev.num 0), (Ev.unk 20 22), (Ev.sy 6 1 [(Ev.num 0), (Ev.num 3), (.bool false), (Ev.unk 6 8), (Ev.sy 6 1 [(Ev.num 4), (Ev.num 3), (.bool false), (Ev.sy 6 6 [(Ev.sy 0 8 [(Ev.sy 0 7 [(Ev.num 1), (Ev.unk 0 1), (Ev.unk 6 8)]), (Ev.num 0)])]), (Ev.sy 6 1 [(Ev.num 1), (Ev.num 3), (.bool false), (Ev.unk 6 7), (Ev.unk 6 8)])])]), (Ev.num 2), (Ev.num 1)])]), (Ev.sy 6 1 [(Ev.num 0), (Ev.num 3), (.bool false), (Ev.unk 6 8), (Ev.sy 6 1 [(Ev.num 4), (Ev.num 3), (.bool false), (Ev.sy 6 6 [(Ev.sy 0 8 [(Ev.sy 0 7 [(Ev.num 1), (Ev.unk 0 1), (Ev.unk 6 8)]), (Ev.num 0)])]), (Ev.sy 6 1 [(Ev.num 1), (Ev.num 3), (.bool false), (Ev.unk 6 7), (Ev.unk 6 8)])])]), (Ev.num 2), (Ev.num 0), (Ev.sy 6 11 [(Ev.num 0), (Ev.unk 20 22), (Ev.unk 6 8), (Ev.num 2), (Ev.num 0)]), (Ev.sy 1 11 [(Ev.num 0), (Ev.unk 20 22), (Ev.unk 6 8), (Ev.num 2), (Ev.num 1)])])), (7, 6, (Ev.unk 6 7))]) .dead)) .dead) .dead) (.go 8 [(100, 100), (101, 101), (102, 102), (103, 103), (104, 104), (105, 105)] [(6, 1, e6), (7, 6, (Ev.unk 6 7)), (8, 6, (Ev.sy 6 1 [(Ev.num 0), (Ev.num 3), (.bool true), (Ev.unk 6 8), (.int .i64 (.ofNat 1))])), (10, 1, (Ev.unk 1 10)), (9, 6, (Ev.unk 6 9)), (12, 1, (Ev.unk 1 12)), (11, 6, (Ev.unk 6 11)), (15, 10, (Ev.unk 10 15)), (14, 10, (Ev.unk 10 14)), (13, 6, (Ev.unk 6 13)), (18, 10, (Ev.unk 10 18)), (17, 10, (Ev.unk 10 17)), (16, 6, (Ev.unk 6 16)), (21, 10, (Ev.unk 10 21)), (20, 10, (Ev.unk 10 20)), (19, 6, (Ev.unk 6 19)), (22, 20, (Ev.unk 20 22)), (7, 6, (Ev.unk 6 7))]))
theorem upd_nil {s : Nat → Value} {u : Nat → List Value → Option Value} : upd s u [] = s := rfl
/-- What came in as the second list. -/
structure DatB (R : Addr → Option Value) (ad : Option Addr) (bs : List Int) : Prop where
  rd : ∀ i n, bs[i]? = some n → ∃ y, ad = some y ∧ R ((y.add (i * 1)).add 0) = some (.int .i64 n)
  sw : ∀ n, n ∈ bs → SW n
section
variable {R : Addr → Option Value} {x : Addr} {l : Vs} {c : Nat} (D : Dat R x l) {a b : Int} {ao bo : Bool} (ha : Ok a ao) (hb : Ok b bo) {ad : Option Addr} {bs : List Int} {cb : Nat} (B : DatB R ad bs)
include D ha hb B
theorem sub8_ok {e6 : Value} {ov : Bool} {i : Nat} {m : Vs} (hm : m.Perm l) (hi : i < l.length) {s : Nat → Value} {o : Bool} (he : denS s (nu R) e6 = some (.bool ov)) (h1 : s 1 = .slice ad bs.length cb) (h5 : l.length ≤ 500)
    (h : Sh s 6 [.bool o, .int .i64 (.ofNat l.length), .int .i64 (.ofNat i), .int .i64 a, .bool ao, .int .i64 b, .bool bo, .int .i64 (gH 0), .int .u64 (gL 0), .int .u64 (gL 0), .int .i64 (gH 0), .int .u64 (gL 0), .int .u64 (gL 0), .int .i64 (gH 0), .int .u64 (gL 0), .int .u64 (gL 0), .agg ⟨cv m⟩])
    (ih : ∀ (m' : Vs) (s' : Nat → Value), m'.Perm l → s' 0 = s 0 → s' 1 = s 1 → Sh s' 6 [.bool ov, .int .i64 (.ofNat l.length), .int .i64 (.ofNat (i + 1)), .int .i64 a, .bool ao, .int .i64 b, .bool bo, .int .i64 (gH 0), .int .u64 (gL 0), .int .u64 (gL 0), .int .i64 (gH 0), .int .u64 (gL 0), .int .u64 (gL 0), .int .i64 (gH 0), .int .u64 (gL 0), .int .u64 (gL 0), .agg ⟨cv m'⟩] → NE R 8 s') :
    At (nu R) (Ev.Ends (nu R) natab (naQ R)) (naQ R) s (sub8 e6) := by
  obtain ⟨h6, h7, h8, h9, h10, h11, h12, h13, h14, h15, h16, h17, h18, h19, h20, h21, h22, -⟩ := h
  have w := w_add (n := i) (i := 1) (by omega)
  have hl := hm.length_eq
  unfold sub8
  refine at_node (b := decide (i < bs.length)) ?_ (fun hv => ?_) (fun hv => ?_)
  · simp only [nA, denS_unk, f_num, f_int, f_bool, mapO, Option.bind_some, n_lss, n_eql, n_eql0, n_add, n_sub, n_beq, n_len', n_rd, n_ix, n_fd, n_cell, n_over, n_t9, h1, h8]
    rw [dl]
  · have hib := of_decide_eq_true hv
    obtain ⟨nb, hnb⟩ : ∃ nb, bs[i]? = some nb := ⟨_, List.getElem?_eq_getElem hib⟩
    obtain ⟨y, rfl, hy⟩ := B.rd _ _ hnb
    have snb := B.sw _ (List.mem_of_getElem? hnb)
    have w1 := w_sub (n := l.length) (i := i) (by omega) (by omega)
    have hd0 : Int.ofNat (l.length - i) ≠ 0 := by
      show ((l.length - i : Nat) : Int) ≠ 0
      omega
    have hdp : (0 : Int) < Int.ofNat (l.length - i) := by
      show (0 : Int) < ((l.length - i : Nat) : Int)
      omega
    have ht := n_t13 (R := R) nb (Int.ofNat (l.length - i)) snb hd0
    have hr : ∀ t c, nu R 0 [num 4, num t, .bool c, .int .i64 nb, .int .i64 (Int.ofNat (l.length - i))] = some (.int .i64 (nb.tmod (Int.ofNat (l.length - i)))) := fun t c => n_rem t c .i64 _ _ hd0
    have b1 := Int.lt_tmod_of_pos nb hdp
    have b2 := Int.tmod_lt_of_pos nb hdp
    obtain ⟨p1, q1, hv1⟩ := at_of (m := m) (i := i) (by omega)
    obtain ⟨g1, g2⟩ := cv_get hv1
    have hsw : ∀ (j : Nat) (p2 : Int) (q2 : Bool), j < m.length → overL (overL (cv m) (i * 2 + 0) [.int .i64 p2, .bool q2]) (j * 2 + 0) [.int .i64 p1, .bool q1] = cv (swap m i j (p1, q1) (p2, q2)) := fun j p2 q2 hj => by
      rw [cv_set (v := (p2, q2)) (by omega), cv_set (v := (p1, q1)) (by rw [List.length_set]; exact hj)]
      rfl
    refine at_t ?_ (at_t ?_ (at_node (b := decide (nb.tmod (Int.ofNat (l.length - i)) < Int.ofNat 0)) ?_ (fun hneg => ?_) (fun hpos => ?_)))
    · simp only [nA, denS_unk, f_num, f_int, f_bool, mapO, Option.bind_some, n_lss, n_eql, n_eql0, n_add, n_sub, n_beq, n_len', n_rd, n_ix, n_fd, n_cell, n_over, n_t9, h1, h8, n_t1]
      rw [bl hib]
    · simp only [nA, denS_unk, f_num, f_int, f_bool, mapO, Option.bind_some, n_lss, n_eql, n_eql0, n_add, n_sub, n_beq, n_len', n_rd, n_ix, n_fd, n_cell, n_over, n_t9, h1, h7, h8, hy, w1, ht]
    · simp only [nA, denS_unk, f_num, f_int, f_bool, mapO, Option.bind_some, n_lss, n_eql, n_eql0, n_add, n_sub, n_beq, n_len', n_rd, n_ix, n_fd, n_cell, n_over, n_t9, h1, h7, h8, hy, w1, hr]
    · have hneg := of_decide_eq_true hneg
      obtain ⟨p, hp⟩ := Int.eq_ofNat_of_zero_le (a := nb.tmod (Int.ofNat (l.length - i)) + Int.ofNat (l.length - i)) (by omega)
      have hpl : p < l.length - i := by
        have : (p : Int) < ((l.length - i : Nat) : Int) := by
          rw [← hp]
          have h0 : nb.tmod (Int.ofNat (l.length - i)) < 0 := hneg
          show _ < Int.ofNat (l.length - i)
          omega
        omega
      have w2 : wrapA .i64 (nb.tmod (Int.ofNat (l.length - i)) + Int.ofNat (l.length - i)) = Int.ofNat p := by
        rw [hp]
        exact wA (by omega)
      have w3 := w_add (n := i) (i := p) (by omega)
      obtain ⟨p2, q2, hv2⟩ := at_of (m := m) (i := i + p) (by omega)
      obtain ⟨g3, g4⟩ := cv_get hv2
      have hs := hsw (i + p) p2 q2 (by omega)
      refine at_t ?_ (ih (swap m i (i + p) (p1, q1) (p2, q2)) _ ((swap_perm hv1 hv2).trans hm) (upd_s rfl) (upd_s rfl) ⟨upd_e rfl ?_, upd_e rfl ?_, upd_e rfl ?_, upd_e rfl ?_, upd_e rfl ?_, upd_e rfl ?_, upd_e rfl ?_, upd_e rfl ?_, upd_e rfl ?_, upd_e rfl ?_, upd_e rfl ?_, upd_e rfl ?_, upd_e rfl ?_, upd_e rfl ?_, upd_e rfl ?_, upd_e rfl ?_, upd_e rfl ?_, trivial⟩)
      · simp only [nA, denS_unk, f_num, f_int, f_bool, mapO, Option.bind_some, n_lss, n_eql, n_eql0, n_add, n_sub, n_beq, n_len', n_rd, n_ix, n_fd, n_cell, n_over, n_t9, h1, h7, h8, hy, w1, hr, w2, w3]
        rw [bl (by omega)]
      · exact he
      · simp only [nA, denS_unk, f_num, f_int, f_bool, mapO, Option.bind_some, n_lss, n_eql, n_eql0, n_add, n_sub, n_beq, n_len', n_rd, n_ix, n_fd, n_cell, n_over, n_t9, h7]
      · simp only [nA, denS_unk, f_num, f_int, f_bool, mapO, Option.bind_some, n_lss, n_eql, n_eql0, n_add, n_sub, n_beq, n_len', n_rd, n_ix, n_fd, n_cell, n_over, n_t9, h8, w]
      · simp only [nA, denS_unk, f_num, f_int, f_bool, mapO, Option.bind_some, n_lss, n_eql, n_eql0, n_add, n_sub, n_beq, n_len', n_rd, n_ix, n_fd, n_cell, n_over, n_t9, h9]
      · simp only [nA, denS_unk, f_num, f_int, f_bool, mapO, Option.bind_some, n_lss, n_eql, n_eql0, n_add, n_sub, n_beq, n_len', n_rd, n_ix, n_fd, n_cell, n_over, n_t9, h10]
      · simp only [nA, denS_unk, f_num, f_int, f_bool, mapO, Option.bind_some, n_lss, n_eql, n_eql0, n_add, n_sub, n_beq, n_len', n_rd, n_ix, n_fd, n_cell, n_over, n_t9, h11]
      · simp only [nA, denS_unk, f_num, f_int, f_bool, mapO, Option.bind_some, n_lss, n_eql, n_eql0, n_add, n_sub, n_beq, n_len', n_rd, n_ix, n_fd, n_cell, n_over, n_t9, h12]
      · simp only [nA, denS_unk, f_num, f_int, f_bool, mapO, Option.bind_some, n_lss, n_eql, n_eql0, n_add, n_sub, n_beq, n_len', n_rd, n_ix, n_fd, n_cell, n_over, n_t9, h13]
      · simp only [nA, denS_unk, f_num, f_int, f_bool, mapO, Option.bind_some, n_lss, n_eql, n_eql0, n_add, n_sub, n_beq, n_len', n_rd, n_ix, n_fd, n_cell, n_over, n_t9, h14]
      · simp only [nA, denS_unk, f_num, f_int, f_bool, mapO, Option.bind_some, n_lss, n_eql, n_eql0, n_add, n_sub, n_beq, n_len', n_rd, n_ix, n_fd, n_cell, n_over, n_t9, h15]
      · simp only [nA, denS_unk, f_num, f_int, f_bool, mapO, Option.bind_some, n_lss, n_eql, n_eql0, n_add, n_sub, n_beq, n_len', n_rd, n_ix, n_fd, n_cell, n_over, n_t9, h16]
      · simp only [nA, denS_unk, f_num, f_int, f_bool, mapO, Option.bind_some, n_lss, n_eql, n_eql0, n_add, n_sub, n_beq, n_len', n_rd, n_ix, n_fd, n_cell, n_over, n_t9, h17]
      · simp only [nA, denS_unk, f_num, f_int, f_bool, mapO, Option.bind_some, n_lss, n_eql, n_eql0, n_add, n_sub, n_beq, n_len', n_rd, n_ix, n_fd, n_cell, n_over, n_t9, h18]
      · simp only [nA, denS_unk, f_num, f_int, f_bool, mapO, Option.bind_some, n_lss, n_eql, n_eql0, n_add, n_sub, n_beq, n_len', n_rd, n_ix, n_fd, n_cell, n_over, n_t9, h19]
      · simp only [nA, denS_unk, f_num, f_int, f_bool, mapO, Option.bind_some, n_lss, n_eql, n_eql0, n_add, n_sub, n_beq, n_len', n_rd, n_ix, n_fd, n_cell, n_over, n_t9, h20]
      · simp only [nA, denS_unk, f_num, f_int, f_bool, mapO, Option.bind_some, n_lss, n_eql, n_eql0, n_add, n_sub, n_beq, n_len', n_rd, n_ix, n_fd, n_cell, n_over, n_t9, h21]
      · simp only [nA, denS_unk, f_num, f_int, f_bool, mapO, Option.bind_some, n_lss, n_eql, n_eql0, n_add, n_sub, n_beq, n_len', n_rd, n_ix, n_fd, n_cell, n_over, n_t9, h1, h7, h8, h22, hy, w1, hr, w2, w3, g1, g2, g3, g4, hs]
    · have hpos := of_decide_eq_false hpos
      obtain ⟨p, hp⟩ := Int.eq_ofNat_of_zero_le (a := nb.tmod (Int.ofNat (l.length - i))) (by
        have h0 : ¬ nb.tmod (Int.ofNat (l.length - i)) < 0 := hpos
        omega)
      have hpl : p < l.length - i := by
        have : (p : Int) < ((l.length - i : Nat) : Int) := by
          rw [← hp]
          exact b2
        omega
      have w2 : nb.tmod (Int.ofNat (l.length - i)) = Int.ofNat p := hp
      have w3 := w_add (n := i) (i := p) (by omega)
      obtain ⟨p2, q2, hv2⟩ := at_of (m := m) (i := i + p) (by omega)
      obtain ⟨g3, g4⟩ := cv_get hv2
      have hs := hsw (i + p) p2 q2 (by omega)
      refine at_t ?_ (ih (swap m i (i + p) (p1, q1) (p2, q2)) _ ((swap_perm hv1 hv2).trans hm) (upd_s rfl) (upd_s rfl) ⟨upd_e rfl ?_, upd_e rfl ?_, upd_e rfl ?_, upd_e rfl ?_, upd_e rfl ?_, upd_e rfl ?_, upd_e rfl ?_, upd_e rfl ?_, upd_e rfl ?_, upd_e rfl ?_, upd_e rfl ?_, upd_e rfl ?_, upd_e rfl ?_, upd_e rfl ?_, upd_e rfl ?_, upd_e rfl ?_, upd_e rfl ?_, trivial⟩)
      · simp only [nA, denS_unk, f_num, f_int, f_bool, mapO, Option.bind_some, n_lss, n_eql, n_eql0, n_add, n_sub, n_beq, n_len', n_rd, n_ix, n_fd, n_cell, n_over, n_t9, h1, h7, h8, hy, w1, hr, w2, w3]
        rw [bl (by omega)]
      · exact he
      · simp only [nA, denS_unk, f_num, f_int, f_bool, mapO, Option.bind_some, n_lss, n_eql, n_eql0, n_add, n_sub, n_beq, n_len', n_rd, n_ix, n_fd, n_cell, n_over, n_t9, h7]
      · simp only [nA, denS_unk, f_num, f_int, f_bool, mapO, Option.bind_some, n_lss, n_eql, n_eql0, n_add, n_sub, n_beq, n_len', n_rd, n_ix, n_fd, n_cell, n_over, n_t9, h8, w]
      · simp only [nA, denS_unk, f_num, f_int, f_bool, mapO, Option.bind_some, n_lss, n_eql, n_eql0, n_add, n_sub, n_beq, n_len', n_rd, n_ix, n_fd, n_cell, n_over, n_t9, h9]
      · simp only [nA, denS_unk, f_num, f_int, f_bool, mapO, Option.bind_some, n_lss, n_eql, n_eql0, n_add, n_sub, n_beq, n_len', n_rd, n_ix, n_fd, n_cell, n_over, n_t9, h10]
      · simp only [nA, denS_unk, f_num, f_int, f_bool, mapO, Option.bind_some, n_lss, n_eql, n_eql0, n_add, n_sub, n_beq, n_len', n_rd, n_ix, n_fd, n_cell, n_over, n_t9, h11]
      · simp only [nA, denS_unk, f_num, f_int, f_bool, mapO, Option.bind_some, n_lss, n_eql, n_eql0, n_add, n_sub, n_beq, n_len', n_rd, n_ix, n_fd, n_cell, n_over, n_t9, h12]
      · simp only [nA, denS_unk, f_num, f_int, f_bool, mapO, Option.bind_some, n_lss, n_eql, n_eql0, n_add, n_sub, n_beq, n_len', n_rd, n_ix, n_fd, n_cell, n_over, n_t9, h13]
      · simp only [nA, denS_unk, f_num, f_int, f_bool, mapO, Option.bind_some, n_lss, n_eql, n_eql0, n_add, n_sub, n_beq, n_len', n_rd, n_ix, n_fd, n_cell, n_over, n_t9, h14]
      · simp only [nA, denS_unk, f_num, f_int, f_bool, mapO, Option.bind_some, n_lss, n_eql, n_eql0, n_add, n_sub, n_beq, n_len', n_rd, n_ix, n_fd, n_cell, n_over, n_t9, h15]
      · simp only [nA, denS_unk, f_num, f_int, f_bool, mapO, Option.bind_some, n_lss, n_eql, n_eql0, n_add, n_sub, n_beq, n_len', n_rd, n_ix, n_fd, n_cell, n_over, n_t9, h16]
      · simp only [nA, denS_unk, f_num, f_int, f_bool, mapO, Option.bind_some, n_lss, n_eql, n_eql0, n_add, n_sub, n_beq, n_len', n_rd, n_ix, n_fd, n_cell, n_over, n_t9, h17]
      · simp only [nA, denS_unk, f_num, f_int, f_bool, mapO, Option.bind_some, n_lss, n_eql, n_eql0, n_add, n_sub, n_beq, n_len', n_rd, n_ix, n_fd, n_cell, n_over, n_t9, h18]
      · simp only [nA, denS_unk, f_num, f_int, f_bool, mapO, Option.bind_some, n_lss, n_eql, n_eql0, n_add, n_sub, n_beq, n_len', n_rd, n_ix, n_fd, n_cell, n_over, n_t9, h19]
      · simp only [nA, denS_unk, f_num, f_int, f_bool, mapO, Option.bind_some, n_lss, n_eql, n_eql0, n_add, n_sub, n_beq, n_len', n_rd, n_ix, n_fd, n_cell, n_over, n_t9, h20]
      · simp only [nA, denS_unk, f_num, f_int, f_bool, mapO, Option.bind_some, n_lss, n_eql, n_eql0, n_add, n_sub, n_beq, n_len', n_rd, n_ix, n_fd, n_cell, n_over, n_t9, h21]
      · simp only [nA, denS_unk, f_num, f_int, f_bool, mapO, Option.bind_some, n_lss, n_eql, n_eql0, n_add, n_sub, n_beq, n_len', n_rd, n_ix, n_fd, n_cell, n_over, n_t9, h1, h7, h8, h22, hy, w1, hr, w2, w3, g1, g2, g3, g4, hs]
  · refine ih m _ hm (upd_s rfl) (upd_s rfl) ⟨upd_e rfl ?_, upd_e rfl ?_, upd_e rfl ?_, upd_e rfl ?_, upd_e rfl ?_, upd_e rfl ?_, upd_e rfl ?_, upd_e rfl ?_, upd_e rfl ?_, upd_e rfl ?_, upd_e rfl ?_, upd_e rfl ?_, upd_e rfl ?_, upd_e rfl ?_, upd_e rfl ?_, upd_e rfl ?_, upd_e rfl ?_, trivial⟩
    · exact he
    · simp only [nA, denS_unk, f_num, f_int, f_bool, mapO, Option.bind_some, n_lss, n_eql, n_eql0, n_add, n_sub, n_beq, n_len', n_rd, n_ix, n_fd, n_cell, n_over, n_t9, h7]
    · simp only [nA, denS_unk, f_num, f_int, f_bool, mapO, Option.bind_some, n_lss, n_eql, n_eql0, n_add, n_sub, n_beq, n_len', n_rd, n_ix, n_fd, n_cell, n_over, n_t9, h8, w]
    · simp only [nA, denS_unk, f_num, f_int, f_bool, mapO, Option.bind_some, n_lss, n_eql, n_eql0, n_add, n_sub, n_beq, n_len', n_rd, n_ix, n_fd, n_cell, n_over, n_t9, h9]
    · simp only [nA, denS_unk, f_num, f_int, f_bool, mapO, Option.bind_some, n_lss, n_eql, n_eql0, n_add, n_sub, n_beq, n_len', n_rd, n_ix, n_fd, n_cell, n_over, n_t9, h10]
    · simp only [nA, denS_unk, f_num, f_int, f_bool, mapO, Option.bind_some, n_lss, n_eql, n_eql0, n_add, n_sub, n_beq, n_len', n_rd, n_ix, n_fd, n_cell, n_over, n_t9, h11]
    · simp only [nA, denS_unk, f_num, f_int, f_bool, mapO, Option.bind_some, n_lss, n_eql, n_eql0, n_add, n_sub, n_beq, n_len', n_rd, n_ix, n_fd, n_cell, n_over, n_t9, h12]
    · simp only [nA, denS_unk, f_num, f_int, f_bool, mapO, Option.bind_some, n_lss, n_eql, n_eql0, n_add, n_sub, n_beq, n_len', n_rd, n_ix, n_fd, n_cell, n_over, n_t9, h13]
    · simp only [nA, denS_unk, f_num, f_int, f_bool, mapO, Option.bind_some, n_lss, n_eql, n_eql0, n_add, n_sub, n_beq, n_len', n_rd, n_ix, n_fd, n_cell, n_over, n_t9, h14]
    · simp only [nA, denS_unk, f_num, f_int, f_bool, mapO, Option.bind_some, n_lss, n_eql, n_eql0, n_add, n_sub, n_beq, n_len', n_rd, n_ix, n_fd, n_cell, n_over, n_t9, h15]
    · simp only [nA, denS_unk, f_num, f_int, f_bool, mapO, Option.bind_some, n_lss, n_eql, n_eql0, n_add, n_sub, n_beq, n_len', n_rd, n_ix, n_fd, n_cell, n_over, n_t9, h16]
    · simp only [nA, denS_unk, f_num, f_int, f_bool, mapO, Option.bind_some, n_lss, n_eql, n_eql0, n_add, n_sub, n_beq, n_len', n_rd, n_ix, n_fd, n_cell, n_over, n_t9, h17]
    · simp only [nA, denS_unk, f_num, f_int, f_bool, mapO, Option.bind_some, n_lss, n_eql, n_eql0, n_add, n_sub, n_beq, n_len', n_rd, n_ix, n_fd, n_cell, n_over, n_t9, h18]
    · simp only [nA, denS_unk, f_num, f_int, f_bool, mapO, Option.bind_some, n_lss, n_eql, n_eql0, n_add, n_sub, n_beq, n_len', n_rd, n_ix, n_fd, n_cell, n_over, n_t9, h19]
    · simp only [nA, denS_unk, f_num, f_int, f_bool, mapO, Option.bind_some, n_lss, n_eql, n_eql0, n_add, n_sub, n_beq, n_len', n_rd, n_ix, n_fd, n_cell, n_over, n_t9, h20]
    · simp only [nA, denS_unk, f_num, f_int, f_bool, mapO, Option.bind_some, n_lss, n_eql, n_eql0, n_add, n_sub, n_beq, n_len', n_rd, n_ix, n_fd, n_cell, n_over, n_t9, h21]
    · simp only [nA, denS_unk, f_num, f_int, f_bool, mapO, Option.bind_some, n_lss, n_eql, n_eql0, n_add, n_sub, n_beq, n_len', n_rd, n_ix, n_fd, n_cell, n_over, n_t9, h22]
theorem e8 (h5 : l.length ≤ 500) : ∀ (k i : Nat) (m : Vs) (ov : Bool) (s : Nat → Value), i + k = l.length → m.Perm l → (ov = true → 0 < cntV l) → s 0 = .slice (some x) l.length c → s 1 = .slice ad bs.length cb →
    Sh s 6 [.bool ov, .int .i64 (.ofNat l.length), .int .i64 (.ofNat i), .int .i64 a, .bool ao, .int .i64 b, .bool bo, .int .i64 (gH 0), .int .u64 (gL 0), .int .u64 (gL 0), .int .i64 (gH 0), .int .u64 (gL 0), .int .u64 (gL 0), .int .i64 (gH 0), .int .u64 (gL 0), .int .u64 (gL 0), .agg ⟨cv m⟩] → NE R 8 s := by
  intro k
  induction k with
  | zero =>
    intro i m ov s hk hm ho h0 h1 h
    obtain ⟨h6, h7, h8, h9, h10, h11, h12, h13, h14, h15, h16, h17, h18, h19, h20, h21, h22, -⟩ := h
    refine Ends_mk ?_
    show At _ _ _ _ navt8
    unfold navt8
    refine at_f ?_ ?_
    · simp only [nA, denS_unk, f_num, f_int, f_bool, mapO, Option.bind_some, n_lss, n_eql, n_eql0, n_add, n_sub, n_beq, n_len', n_rd, n_ix, n_fd, n_cell, n_over, n_t9, h7, h8]
      rw [dl]
      exact congrArg (fun z => some (Value.bool z)) (decide_eq_false (by omega))
    · refine e10 D ha hb hm.length_eq (sum_perm hm) (cnt_perm hm) (fun v hv => D.sw v (hm.mem_iff.1 hv)) (fun hx => by rw [cnt_perm hm]; exact ho hx) h5 ((upd_s rfl).trans h0) ⟨upd_e rfl ?_, upd_e rfl ?_, upd_e rfl ?_, upd_e rfl ?_, upd_e rfl ?_, upd_e rfl ?_, upd_e rfl ?_, upd_e rfl ?_, upd_e rfl ?_, upd_e rfl ?_, upd_e rfl ?_, upd_e rfl ?_, upd_e rfl ?_, upd_e rfl ?_, upd_e rfl ?_, upd_e rfl ?_, trivial⟩
      · simp only [nA, denS_unk, f_num, f_int, f_bool, mapO, Option.bind_some, n_lss, n_eql, n_eql0, n_add, n_sub, n_beq, n_len', n_rd, n_ix, n_fd, n_cell, n_over, n_t9, h6]
      · simp only [nA, denS_unk, f_num, f_int, f_bool, mapO, Option.bind_some, n_lss, n_eql, n_eql0, n_add, n_sub, n_beq, n_len', n_rd, n_ix, n_fd, n_cell, n_over, n_t9, h7]
      · simp only [nA, denS_unk, f_num, f_int, f_bool, mapO, Option.bind_some, n_lss, n_eql, n_eql0, n_add, n_sub, n_beq, n_len', n_rd, n_ix, n_fd, n_cell, n_over, n_t9, h9]
      · simp only [nA, denS_unk, f_num, f_int, f_bool, mapO, Option.bind_some, n_lss, n_eql, n_eql0, n_add, n_sub, n_beq, n_len', n_rd, n_ix, n_fd, n_cell, n_over, n_t9, h10]
      · simp only [nA, denS_unk, f_num, f_int, f_bool, mapO, Option.bind_some, n_lss, n_eql, n_eql0, n_add, n_sub, n_beq, n_len', n_rd, n_ix, n_fd, n_cell, n_over, n_t9, h11]
      · simp only [nA, denS_unk, f_num, f_int, f_bool, mapO, Option.bind_some, n_lss, n_eql, n_eql0, n_add, n_sub, n_beq, n_len', n_rd, n_ix, n_fd, n_cell, n_over, n_t9, h12]
      · simp only [nA, denS_unk, f_num, f_int, f_bool, mapO, Option.bind_some, n_lss, n_eql, n_eql0, n_add, n_sub, n_beq, n_len', n_rd, n_ix, n_fd, n_cell, n_over, n_t9, h13]
      · simp only [nA, denS_unk, f_num, f_int, f_bool, mapO, Option.bind_some, n_lss, n_eql, n_eql0, n_add, n_sub, n_beq, n_len', n_rd, n_ix, n_fd, n_cell, n_over, n_t9, h14]
      · simp only [nA, denS_unk, f_num, f_int, f_bool, mapO, Option.bind_some, n_lss, n_eql, n_eql0, n_add, n_sub, n_beq, n_len', n_rd, n_ix, n_fd, n_cell, n_over, n_t9, h15]
      · simp only [nA, denS_unk, f_num, f_int, f_bool, mapO, Option.bind_some, n_lss, n_eql, n_eql0, n_add, n_sub, n_beq, n_len', n_rd, n_ix, n_fd, n_cell, n_over, n_t9, h16]
      · simp only [nA, denS_unk, f_num, f_int, f_bool, mapO, Option.bind_some, n_lss, n_eql, n_eql0, n_add, n_sub, n_beq, n_len', n_rd, n_ix, n_fd, n_cell, n_over, n_t9, h17]
      · simp only [nA, denS_unk, f_num, f_int, f_bool, mapO, Option.bind_some, n_lss, n_eql, n_eql0, n_add, n_sub, n_beq, n_len', n_rd, n_ix, n_fd, n_cell, n_over, n_t9, h18]
      · simp only [nA, denS_unk, f_num, f_int, f_bool, mapO, Option.bind_some, n_lss, n_eql, n_eql0, n_add, n_sub, n_beq, n_len', n_rd, n_ix, n_fd, n_cell, n_over, n_t9, h19]
      · simp only [nA, denS_unk, f_num, f_int, f_bool, mapO, Option.bind_some, n_lss, n_eql, n_eql0, n_add, n_sub, n_beq, n_len', n_rd, n_ix, n_fd, n_cell, n_over, n_t9, h20]
      · simp only [nA, denS_unk, f_num, f_int, f_bool, mapO, Option.bind_some, n_lss, n_eql, n_eql0, n_add, n_sub, n_beq, n_len', n_rd, n_ix, n_fd, n_cell, n_over, n_t9, h21]
      · simp only [nA, denS_unk, f_num, f_int, f_bool, mapO, Option.bind_some, n_lss, n_eql, n_eql0, n_add, n_sub, n_beq, n_len', n_rd, n_ix, n_fd, n_cell, n_over, n_t9, h22]
  | succ k ih =>
    intro i m ov s hk hm ho h0 h1 h
    have hh := h
    obtain ⟨h6, h7, h8, h9, h10, h11, h12, h13, h14, h15, h16, h17, h18, h19, h20, h21, h22, -⟩ := h
    have hl := hm.length_eq
    obtain ⟨p, q, hv⟩ := at_of (m := m) (i := i) (by omega)
    obtain ⟨g1, g2⟩ := cv_get hv
    have hq : q = true → 0 < cntV l := fun hx => by
      rw [← cnt_perm hm]
      exact cnt_mem (List.mem_of_getElem? hv) hx
    have go : ∀ (e6 : Value) (ov' : Bool), denS s (nu R) e6 = some (.bool ov') → (ov' = true → 0 < cntV l) → At (nu R) (Ev.Ends (nu R) natab (naQ R)) (naQ R) s (sub8 e6) := fun e6 ov' he ho' =>
      sub8_ok D ha hb B hm (by omega) he h1 h5 hh (fun m' s' hm' h0' h1' hs' => ih (i + 1) m' ov' s' (by omega) hm' ho' (h0'.trans h0) (h1'.trans h1) hs')
    have hc : denS s (nu R) (Ev.sy 1 11 [(Ev.num 0), (Ev.unk 20 22), (Ev.unk 6 8), (Ev.num 2), (Ev.num 1)]) = some (.bool q) := by
      simp only [nA, denS_unk, f_num, f_int, f_bool, mapO, Option.bind_some, n_lss, n_eql, n_eql0, n_add, n_sub, n_beq, n_len', n_rd, n_ix, n_fd, n_cell, n_over, n_t9, h8, h22, g2]
    have hu : denS s (nu R) (Ev.unk 1 6) = some (.bool ov) := by
      simp only [nA, denS_unk, f_num, f_int, f_bool, mapO, Option.bind_some, n_lss, n_eql, n_eql0, n_add, n_sub, n_beq, n_len', n_rd, n_ix, n_fd, n_cell, n_over, n_t9, h6]
    have tail : ∀ e, e = Ev.sy 1 11 [(Ev.num 0), (Ev.unk 20 22), (Ev.unk 6 8), (Ev.num 2), (Ev.num 1)] → At (nu R) (Ev.Ends (nu R) natab (naQ R)) (naQ R) s (.node (Ev.unk 1 6) (sub8 (.bool true)) (sub8 e)) := by
      rintro e rfl
      exact at_node hu (fun hx => go _ true (denS_flat rfl) (fun _ => ho hx)) (fun _ => go _ q hc hq)
    refine Ends_mk ?_
    show At _ _ _ _ navt8
    unfold navt8
    refine at_t ?_ (at_t ?_ (at_node hc (fun hx => ?_) (fun hx => ?_)))
    · simp only [nA, denS_unk, f_num, f_int, f_bool, mapO, Option.bind_some, n_lss, n_eql, n_eql0, n_add, n_sub, n_beq, n_len', n_rd, n_ix, n_fd, n_cell, n_over, n_t9, h7, h8]
      rw [dl]
      exact congrArg (fun z => some (Value.bool z)) (decide_eq_true (by omega))
    · simp only [nA, denS_unk, f_num, f_int, f_bool, mapO, Option.bind_some, n_lss, n_eql, n_eql0, n_add, n_sub, n_beq, n_len', n_rd, n_ix, n_fd, n_cell, n_over, n_t9, h7, h8]
      rw [bl (by omega)]
    · refine at_node (b := p == 0) ?_ (fun _ => ?_) (fun _ => q_true)
      · simp only [nA, denS_unk, f_num, f_int, f_bool, mapO, Option.bind_some, n_lss, n_eql, n_eql0, n_add, n_sub, n_beq, n_len', n_rd, n_ix, n_fd, n_cell, n_over, n_t9, h8, h22, g1]
        rfl
      · exact tail _ rfl
    · exact tail _ rfl
theorem e6 (h5 : l.length ≤ 500) {s : Nat → Value} (h0 : s 0 = .slice (some x) l.length c) (h1 : s 1 = .slice ad bs.length cb) (h : Sh s 2 [.int .i64 a, .bool ao, .int .i64 b, .bool bo, .int .i64 (.ofNat l.length), .agg ⟨cv l⟩]) : NE R 6 s := by
  obtain ⟨h2, h3, h4, h5', h6, h7, -⟩ := h
  refine Ends_mk ?_
  show NE R 8 _
  refine e8 D ha hb B h5 l.length 0 l false _ (by omega) (List.Perm.refl _) (fun hx => by cases hx) ((upd_s rfl).trans h0) ((upd_s rfl).trans h1) ⟨upd_e rfl ?_, upd_e rfl ?_, upd_e rfl ?_, upd_e rfl ?_, upd_e rfl ?_, upd_e rfl ?_, upd_e rfl ?_, upd_e rfl ?_, upd_e rfl ?_, upd_e rfl ?_, upd_e rfl ?_, upd_e rfl ?_, upd_e rfl ?_, upd_e rfl ?_, upd_e rfl ?_, upd_e rfl ?_, upd_e rfl ?_, trivial⟩
  · simp only [nA, denS_unk, f_num, f_int, f_bool, mapO, Option.bind_some, n_lss, n_eql, n_eql0, n_add, n_sub, n_beq, n_len', n_rd, n_ix, n_fd, n_cell, n_over, n_t9, h6]
  · simp only [nA, denS_unk, f_num, f_int, f_bool, mapO, Option.bind_some, n_lss, n_eql, n_eql0, n_add, n_sub, n_beq, n_len', n_rd, n_ix, n_fd, n_cell, n_over, n_t9, h6]
  · simp only [nA, denS_unk, f_num, f_int, f_bool, mapO, Option.bind_some, n_lss, n_eql, n_eql0, n_add, n_sub, n_beq, n_len', n_rd, n_ix, n_fd, n_cell, n_over, n_t9, h6]
  · simp only [nA, denS_unk, f_num, f_int, f_bool, mapO, Option.bind_some, n_lss, n_eql, n_eql0, n_add, n_sub, n_beq, n_len', n_rd, n_ix, n_fd, n_cell, n_over, n_t9, h2]
  · simp only [nA, denS_unk, f_num, f_int, f_bool, mapO, Option.bind_some, n_lss, n_eql, n_eql0, n_add, n_sub, n_beq, n_len', n_rd, n_ix, n_fd, n_cell, n_over, n_t9, h3]
  · simp only [nA, denS_unk, f_num, f_int, f_bool, mapO, Option.bind_some, n_lss, n_eql, n_eql0, n_add, n_sub, n_beq, n_len', n_rd, n_ix, n_fd, n_cell, n_over, n_t9, h4]
  · simp only [nA, denS_unk, f_num, f_int, f_bool, mapO, Option.bind_some, n_lss, n_eql, n_eql0, n_add, n_sub, n_beq, n_len', n_rd, n_ix, n_fd, n_cell, n_over, n_t9, h5']
  · simp only [nA, denS_unk, f_num, f_int, f_bool, mapO, Option.bind_some, n_lss, n_eql, n_eql0, n_add, n_sub, n_beq, n_len', n_rd, n_ix, n_fd, n_cell, n_over, n_t9, h6]
    rw [gH0]
  · simp only [nA, denS_unk, f_num, f_int, f_bool, mapO, Option.bind_some, n_lss, n_eql, n_eql0, n_add, n_sub, n_beq, n_len', n_rd, n_ix, n_fd, n_cell, n_over, n_t9, h6]
    rw [gL0]; rfl
  · simp only [nA, denS_unk, f_num, f_int, f_bool, mapO, Option.bind_some, n_lss, n_eql, n_eql0, n_add, n_sub, n_beq, n_len', n_rd, n_ix, n_fd, n_cell, n_over, n_t9, h6]
    rw [gL0]; rfl
  · simp only [nA, denS_unk, f_num, f_int, f_bool, mapO, Option.bind_some, n_lss, n_eql, n_eql0, n_add, n_sub, n_beq, n_len', n_rd, n_ix, n_fd, n_cell, n_over, n_t9, h6]
    rw [gH0]
  · simp only [nA, denS_unk, f_num, f_int, f_bool, mapO, Option.bind_some, n_lss, n_eql, n_eql0, n_add, n_sub, n_beq, n_len', n_rd, n_ix, n_fd, n_cell, n_over, n_t9, h6]
    rw [gL0]; rfl
  · simp only [nA, denS_unk, f_num, f_int, f_bool, mapO, Option.bind_some, n_lss, n_eql, n_eql0, n_add, n_sub, n_beq, n_len', n_rd, n_ix, n_fd, n_cell, n_over, n_t9, h6]
    rw [gL0]; rfl
  · simp only [nA, denS_unk, f_num, f_int, f_bool, mapO, Option.bind_some, n_lss, n_eql, n_eql0, n_add, n_sub, n_beq, n_len', n_rd, n_ix, n_fd, n_cell, n_over, n_t9, h6]
    rw [gH0]
  · simp only [nA, denS_unk, f_num, f_int, f_bool, mapO, Option.bind_some, n_lss, n_eql, n_eql0, n_add, n_sub, n_beq, n_len', n_rd, n_ix, n_fd, n_cell, n_over, n_t9, h6]
    rw [gL0]; rfl
  · simp only [nA, denS_unk, f_num, f_int, f_bool, mapO, Option.bind_some, n_lss, n_eql, n_eql0, n_add, n_sub, n_beq, n_len', n_rd, n_ix, n_fd, n_cell, n_over, n_t9, h6]
    rw [gL0]; rfl
  · simp only [nA, denS_unk, f_num, f_int, f_bool, mapO, Option.bind_some, n_lss, n_eql, n_eql0, n_add, n_sub, n_beq, n_len', n_rd, n_ix, n_fd, n_cell, n_over, n_t9, h7]
end
section
variable {R : Addr → Option Value} {ad : Option Addr} {c : Nat} {a b : Int} {ao bo : Bool} (ha : Ok a ao) (hb : Ok b bo) {s : Nat → Value} (h0 : s 0 = .slice ad 0 c)
include ha hb h0
theorem z19 (h : Sh s 6 [.int .i64 (.ofNat 0), .int .i64 a, .bool ao, .int .i64 b, .bool bo, .int .i64 (gH 0), .int .u64 (gL 0), .int .u64 (gL 0)]) : NE R 19 s := by
  obtain ⟨h6, h7, h8, h9, h10, h11, h12, h13, -⟩ := h
  refine Ends_mk ?_
  show At _ _ _ _ navt19
  unfold navt19
  refine at_f ?_ (e20 ha hb ⟨upd_e rfl ?_, upd_e rfl ?_, upd_e rfl ?_, upd_e rfl ?_, upd_e rfl ?_, upd_e rfl ?_, upd_e rfl ?_, trivial⟩)
  · simp only [nA, denS_unk, f_num, f_int, f_bool, mapO, Option.bind_some, n_lss, n_eql, n_eql0, n_add, n_sub, n_beq, n_len', n_rd, n_ix, n_fd, n_cell, n_over, n_t9, h0, h6]
    rfl
  · simp only [nA, denS_unk, f_num, f_int, f_bool, mapO, Option.bind_some, n_lss, n_eql, n_eql0, n_add, n_sub, n_beq, n_len', n_rd, n_ix, n_fd, n_cell, n_over, n_t9, h7]
  · simp only [nA, denS_unk, f_num, f_int, f_bool, mapO, Option.bind_some, n_lss, n_eql, n_eql0, n_add, n_sub, n_beq, n_len', n_rd, n_ix, n_fd, n_cell, n_over, n_t9, h8]
  · simp only [nA, denS_unk, f_num, f_int, f_bool, mapO, Option.bind_some, n_lss, n_eql, n_eql0, n_add, n_sub, n_beq, n_len', n_rd, n_ix, n_fd, n_cell, n_over, n_t9, h9]
  · simp only [nA, denS_unk, f_num, f_int, f_bool, mapO, Option.bind_some, n_lss, n_eql, n_eql0, n_add, n_sub, n_beq, n_len', n_rd, n_ix, n_fd, n_cell, n_over, n_t9, h10]
  · simp only [nA, denS_unk, f_num, f_int, f_bool, mapO, Option.bind_some, n_lss, n_eql, n_eql0, n_add, n_sub, n_beq, n_len', n_rd, n_ix, n_fd, n_cell, n_over, n_t9, h11]
  · simp only [nA, denS_unk, f_num, f_int, f_bool, mapO, Option.bind_some, n_lss, n_eql, n_eql0, n_add, n_sub, n_beq, n_len', n_rd, n_ix, n_fd, n_cell, n_over, n_t9, h12]
  · simp only [nA, denS_unk, f_num, f_int, f_bool, mapO, Option.bind_some, n_lss, n_eql, n_eql0, n_add, n_sub, n_beq, n_len', n_rd, n_ix, n_fd, n_cell, n_over, n_t9, h13]
theorem z17 (h : Sh s 6 [.int .i64 a, .bool ao, .int .i64 b, .bool bo, .int .i64 (gH 0), .int .u64 (gL 0), .int .u64 (gL 0)]) : NE R 17 s := by
  obtain ⟨h6, h7, h8, h9, h10, h11, h12, -⟩ := h
  refine Ends_mk ?_
  show NE R 19 _
  refine z19 ha hb ((upd_s rfl).trans h0) ⟨upd_e rfl ?_, upd_e rfl ?_, upd_e rfl ?_, upd_e rfl ?_, upd_e rfl ?_, upd_e rfl ?_, upd_e rfl ?_, upd_e rfl ?_, trivial⟩
  · simp only [nA, denS_unk, f_num, f_int, f_bool, mapO, Option.bind_some, n_lss, n_eql, n_eql0, n_add, n_sub, n_beq, n_len', n_rd, n_ix, n_fd, n_cell, n_over, n_t9, h6]
  · simp only [nA, denS_unk, f_num, f_int, f_bool, mapO, Option.bind_some, n_lss, n_eql, n_eql0, n_add, n_sub, n_beq, n_len', n_rd, n_ix, n_fd, n_cell, n_over, n_t9, h6]
  · simp only [nA, denS_unk, f_num, f_int, f_bool, mapO, Option.bind_some, n_lss, n_eql, n_eql0, n_add, n_sub, n_beq, n_len', n_rd, n_ix, n_fd, n_cell, n_over, n_t9, h7]
  · simp only [nA, denS_unk, f_num, f_int, f_bool, mapO, Option.bind_some, n_lss, n_eql, n_eql0, n_add, n_sub, n_beq, n_len', n_rd, n_ix, n_fd, n_cell, n_over, n_t9, h8]
  · simp only [nA, denS_unk, f_num, f_int, f_bool, mapO, Option.bind_some, n_lss, n_eql, n_eql0, n_add, n_sub, n_beq, n_len', n_rd, n_ix, n_fd, n_cell, n_over, n_t9, h9]
  · simp only [nA, denS_unk, f_num, f_int, f_bool, mapO, Option.bind_some, n_lss, n_eql, n_eql0, n_add, n_sub, n_beq, n_len', n_rd, n_ix, n_fd, n_cell, n_over, n_t9, h10]
  · simp only [nA, denS_unk, f_num, f_int, f_bool, mapO, Option.bind_some, n_lss, n_eql, n_eql0, n_add, n_sub, n_beq, n_len', n_rd, n_ix, n_fd, n_cell, n_over, n_t9, h11]
  · simp only [nA, denS_unk, f_num, f_int, f_bool, mapO, Option.bind_some, n_lss, n_eql, n_eql0, n_add, n_sub, n_beq, n_len', n_rd, n_ix, n_fd, n_cell, n_over, n_t9, h12]
theorem z15 (h : Sh s 6 [.bool false, .int .i64 a, .bool ao, .int .i64 b, .bool bo, .int .i64 (gH 0), .int .u64 (gL 0), .int .u64 (gL 0), .int .i64 (gH 0), .int .u64 (gL 0), .int .u64 (gL 0), .int .i64 (gH 0), .int .u64 (gL 0), .int .u64 (gL 0)]) : NE R 15 s := by
  obtain ⟨h6, h7, h8, h9, h10, h11, h12, h13, h14, h15, h16, h17, h18, h19, -⟩ := h
  refine Ends_mk ?_
  show At _ _ _ _ navt15
  unfold navt15
  refine at_t ?_ (at_t ?_ (at_t ?_ (at_t ?_ (at_t ?_ (at_t ?_ (at_f ?_ (z17 ha hb ((upd_s rfl).trans h0) ⟨upd_e rfl ?_, upd_e rfl ?_, upd_e rfl ?_, upd_e rfl ?_, upd_e rfl ?_, upd_e rfl ?_, upd_e rfl ?_, trivial⟩)))))))
  · simp only [nA, denS_unk, f_num, f_int, f_bool, mapO, Option.bind_some, n_lss, n_eql, n_eql0, n_add, n_sub, n_beq, n_len', n_rd, n_ix, n_fd, n_cell, n_over, n_t9, h11, h14, BEq.rfl]
  · simp only [nA, denS_unk, f_num, f_int, f_bool, mapO, Option.bind_some, n_lss, n_eql, n_eql0, n_add, n_sub, n_beq, n_len', n_rd, n_ix, n_fd, n_cell, n_over, n_t9, h12, h15, BEq.rfl]
  · simp only [nA, denS_unk, f_num, f_int, f_bool, mapO, Option.bind_some, n_lss, n_eql, n_eql0, n_add, n_sub, n_beq, n_len', n_rd, n_ix, n_fd, n_cell, n_over, n_t9, h13, h16, BEq.rfl]
  · simp only [nA, denS_unk, f_num, f_int, f_bool, mapO, Option.bind_some, n_lss, n_eql, n_eql0, n_add, n_sub, n_beq, n_len', n_rd, n_ix, n_fd, n_cell, n_over, n_t9, h11, h17, BEq.rfl]
  · simp only [nA, denS_unk, f_num, f_int, f_bool, mapO, Option.bind_some, n_lss, n_eql, n_eql0, n_add, n_sub, n_beq, n_len', n_rd, n_ix, n_fd, n_cell, n_over, n_t9, h12, h18, BEq.rfl]
  · simp only [nA, denS_unk, f_num, f_int, f_bool, mapO, Option.bind_some, n_lss, n_eql, n_eql0, n_add, n_sub, n_beq, n_len', n_rd, n_ix, n_fd, n_cell, n_over, n_t9, h13, h19, BEq.rfl]
  · simp only [nA, denS_unk, f_num, f_int, f_bool, mapO, Option.bind_some, n_lss, n_eql, n_eql0, n_add, n_sub, n_beq, n_len', n_rd, n_ix, n_fd, n_cell, n_over, n_t9, h6]
  · simp only [nA, denS_unk, f_num, f_int, f_bool, mapO, Option.bind_some, n_lss, n_eql, n_eql0, n_add, n_sub, n_beq, n_len', n_rd, n_ix, n_fd, n_cell, n_over, n_t9, h7]
  · simp only [nA, denS_unk, f_num, f_int, f_bool, mapO, Option.bind_some, n_lss, n_eql, n_eql0, n_add, n_sub, n_beq, n_len', n_rd, n_ix, n_fd, n_cell, n_over, n_t9, h8]
  · simp only [nA, denS_unk, f_num, f_int, f_bool, mapO, Option.bind_some, n_lss, n_eql, n_eql0, n_add, n_sub, n_beq, n_len', n_rd, n_ix, n_fd, n_cell, n_over, n_t9, h9]
  · simp only [nA, denS_unk, f_num, f_int, f_bool, mapO, Option.bind_some, n_lss, n_eql, n_eql0, n_add, n_sub, n_beq, n_len', n_rd, n_ix, n_fd, n_cell, n_over, n_t9, h10]
  · simp only [nA, denS_unk, f_num, f_int, f_bool, mapO, Option.bind_some, n_lss, n_eql, n_eql0, n_add, n_sub, n_beq, n_len', n_rd, n_ix, n_fd, n_cell, n_over, n_t9, h11]
  · simp only [nA, denS_unk, f_num, f_int, f_bool, mapO, Option.bind_some, n_lss, n_eql, n_eql0, n_add, n_sub, n_beq, n_len', n_rd, n_ix, n_fd, n_cell, n_over, n_t9, h12]
  · simp only [nA, denS_unk, f_num, f_int, f_bool, mapO, Option.bind_some, n_lss, n_eql, n_eql0, n_add, n_sub, n_beq, n_len', n_rd, n_ix, n_fd, n_cell, n_over, n_t9, h13]
theorem z13 (h : Sh s 6 [.bool false, .int .i64 (.ofNat 0), .int .i64 a, .bool ao, .int .i64 b, .bool bo, .int .i64 (gH 0), .int .u64 (gL 0), .int .u64 (gL 0), .int .i64 (gH 0), .int .u64 (gL 0), .int .u64 (gL 0), .int .i64 (gH 0), .int .u64 (gL 0), .int .u64 (gL 0)]) : NE R 13 s := by
  obtain ⟨h6, h7, h8, h9, h10, h11, h12, h13, h14, h15, h16, h17, h18, h19, h20, -⟩ := h
  refine Ends_mk ?_
  show At _ _ _ _ navt13
  unfold navt13
  refine at_f ?_ (z15 ha hb ((upd_s rfl).trans h0) ⟨upd_e rfl ?_, upd_e rfl ?_, upd_e rfl ?_, upd_e rfl ?_, upd_e rfl ?_, upd_e rfl ?_, upd_e rfl ?_, upd_e rfl ?_, upd_e rfl ?_, upd_e rfl ?_, upd_e rfl ?_, upd_e rfl ?_, upd_e rfl ?_, upd_e rfl ?_, trivial⟩)
  · simp only [nA, denS_unk, f_num, f_int, f_bool, mapO, Option.bind_some, n_lss, n_eql, n_eql0, n_add, n_sub, n_beq, n_len', n_rd, n_ix, n_fd, n_cell, n_over, n_t9, h0, h7]
    rfl
  · simp only [nA, denS_unk, f_num, f_int, f_bool, mapO, Option.bind_some, n_lss, n_eql, n_eql0, n_add, n_sub, n_beq, n_len', n_rd, n_ix, n_fd, n_cell, n_over, n_t9, h6]
  · simp only [nA, denS_unk, f_num, f_int, f_bool, mapO, Option.bind_some, n_lss, n_eql, n_eql0, n_add, n_sub, n_beq, n_len', n_rd, n_ix, n_fd, n_cell, n_over, n_t9, h8]
  · simp only [nA, denS_unk, f_num, f_int, f_bool, mapO, Option.bind_some, n_lss, n_eql, n_eql0, n_add, n_sub, n_beq, n_len', n_rd, n_ix, n_fd, n_cell, n_over, n_t9, h9]
  · simp only [nA, denS_unk, f_num, f_int, f_bool, mapO, Option.bind_some, n_lss, n_eql, n_eql0, n_add, n_sub, n_beq, n_len', n_rd, n_ix, n_fd, n_cell, n_over, n_t9, h10]
  · simp only [nA, denS_unk, f_num, f_int, f_bool, mapO, Option.bind_some, n_lss, n_eql, n_eql0, n_add, n_sub, n_beq, n_len', n_rd, n_ix, n_fd, n_cell, n_over, n_t9, h11]
  · simp only [nA, denS_unk, f_num, f_int, f_bool, mapO, Option.bind_some, n_lss, n_eql, n_eql0, n_add, n_sub, n_beq, n_len', n_rd, n_ix, n_fd, n_cell, n_over, n_t9, h12]
  · simp only [nA, denS_unk, f_num, f_int, f_bool, mapO, Option.bind_some, n_lss, n_eql, n_eql0, n_add, n_sub, n_beq, n_len', n_rd, n_ix, n_fd, n_cell, n_over, n_t9, h13]
  · simp only [nA, denS_unk, f_num, f_int, f_bool, mapO, Option.bind_some, n_lss, n_eql, n_eql0, n_add, n_sub, n_beq, n_len', n_rd, n_ix, n_fd, n_cell, n_over, n_t9, h14]
  · simp only [nA, denS_unk, f_num, f_int, f_bool, mapO, Option.bind_some, n_lss, n_eql, n_eql0, n_add, n_sub, n_beq, n_len', n_rd, n_ix, n_fd, n_cell, n_over, n_t9, h15]
  · simp only [nA, denS_unk, f_num, f_int, f_bool, mapO, Option.bind_some, n_lss, n_eql, n_eql0, n_add, n_sub, n_beq, n_len', n_rd, n_ix, n_fd, n_cell, n_over, n_t9, h16]
  · simp only [nA, denS_unk, f_num, f_int, f_bool, mapO, Option.bind_some, n_lss, n_eql, n_eql0, n_add, n_sub, n_beq, n_len', n_rd, n_ix, n_fd, n_cell, n_over, n_t9, h17]
  · simp only [nA, denS_unk, f_num, f_int, f_bool, mapO, Option.bind_some, n_lss, n_eql, n_eql0, n_add, n_sub, n_beq, n_len', n_rd, n_ix, n_fd, n_cell, n_over, n_t9, h18]
  · simp only [nA, denS_unk, f_num, f_int, f_bool, mapO, Option.bind_some, n_lss, n_eql, n_eql0, n_add, n_sub, n_beq, n_len', n_rd, n_ix, n_fd, n_cell, n_over, n_t9, h19]
  · simp only [nA, denS_unk, f_num, f_int, f_bool, mapO, Option.bind_some, n_lss, n_eql, n_eql0, n_add, n_sub, n_beq, n_len', n_rd, n_ix, n_fd, n_cell, n_over, n_t9, h20]
theorem z11 (h : Sh s 6 [.bool false, .int .i64 a, .bool ao, .int .i64 b, .bool bo, .int .i64 (gH 0), .int .u64 (gL 0), .int .u64 (gL 0), .int .i64 (gH 0), .int .u64 (gL 0), .int .u64 (gL 0), .int .i64 (gH 0), .int .u64 (gL 0), .int .u64 (gL 0)]) : NE R 11 s := by
  obtain ⟨h6, h7, h8, h9, h10, h11, h12, h13, h14, h15, h16, h17, h18, h19, -⟩ := h
  refine Ends_mk ?_
  show NE R 13 _
  refine z13 ha hb ((upd_s rfl).trans h0) ⟨upd_e rfl ?_, upd_e rfl ?_, upd_e rfl ?_, upd_e rfl ?_, upd_e rfl ?_, upd_e rfl ?_, upd_e rfl ?_, upd_e rfl ?_, upd_e rfl ?_, upd_e rfl ?_, upd_e rfl ?_, upd_e rfl ?_, upd_e rfl ?_, upd_e rfl ?_, upd_e rfl ?_, trivial⟩
  · simp only [nA, denS_unk, f_num, f_int, f_bool, mapO, Option.bind_some, n_lss, n_eql, n_eql0, n_add, n_sub, n_beq, n_len', n_rd, n_ix, n_fd, n_cell, n_over, n_t9, h6]
  · simp only [nA, denS_unk, f_num, f_int, f_bool, mapO, Option.bind_some, n_lss, n_eql, n_eql0, n_add, n_sub, n_beq, n_len', n_rd, n_ix, n_fd, n_cell, n_over, n_t9, h6]
  · simp only [nA, denS_unk, f_num, f_int, f_bool, mapO, Option.bind_some, n_lss, n_eql, n_eql0, n_add, n_sub, n_beq, n_len', n_rd, n_ix, n_fd, n_cell, n_over, n_t9, h7]
  · simp only [nA, denS_unk, f_num, f_int, f_bool, mapO, Option.bind_some, n_lss, n_eql, n_eql0, n_add, n_sub, n_beq, n_len', n_rd, n_ix, n_fd, n_cell, n_over, n_t9, h8]
  · simp only [nA, denS_unk, f_num, f_int, f_bool, mapO, Option.bind_some, n_lss, n_eql, n_eql0, n_add, n_sub, n_beq, n_len', n_rd, n_ix, n_fd, n_cell, n_over, n_t9, h9]
  · simp only [nA, denS_unk, f_num, f_int, f_bool, mapO, Option.bind_some, n_lss, n_eql, n_eql0, n_add, n_sub, n_beq, n_len', n_rd, n_ix, n_fd, n_cell, n_over, n_t9, h10]
  · simp only [nA, denS_unk, f_num, f_int, f_bool, mapO, Option.bind_some, n_lss, n_eql, n_eql0, n_add, n_sub, n_beq, n_len', n_rd, n_ix, n_fd, n_cell, n_over, n_t9, h11]
  · simp only [nA, denS_unk, f_num, f_int, f_bool, mapO, Option.bind_some, n_lss, n_eql, n_eql0, n_add, n_sub, n_beq, n_len', n_rd, n_ix, n_fd, n_cell, n_over, n_t9, h12]
  · simp only [nA, denS_unk, f_num, f_int, f_bool, mapO, Option.bind_some, n_lss, n_eql, n_eql0, n_add, n_sub, n_beq, n_len', n_rd, n_ix, n_fd, n_cell, n_over, n_t9, h13]
  · simp only [nA, denS_unk, f_num, f_int, f_bool, mapO, Option.bind_some, n_lss, n_eql, n_eql0, n_add, n_sub, n_beq, n_len', n_rd, n_ix, n_fd, n_cell, n_over, n_t9, h14]
  · simp only [nA, denS_unk, f_num, f_int, f_bool, mapO, Option.bind_some, n_lss, n_eql, n_eql0, n_add, n_sub, n_beq, n_len', n_rd, n_ix, n_fd, n_cell, n_over, n_t9, h15]
  · simp only [nA, denS_unk, f_num, f_int, f_bool, mapO, Option.bind_some, n_lss, n_eql, n_eql0, n_add, n_sub, n_beq, n_len', n_rd, n_ix, n_fd, n_cell, n_over, n_t9, h16]
  · simp only [nA, denS_unk, f_num, f_int, f_bool, mapO, Option.bind_some, n_lss, n_eql, n_eql0, n_add, n_sub, n_beq, n_len', n_rd, n_ix, n_fd, n_cell, n_over, n_t9, h17]
  · simp only [nA, denS_unk, f_num, f_int, f_bool, mapO, Option.bind_some, n_lss, n_eql, n_eql0, n_add, n_sub, n_beq, n_len', n_rd, n_ix, n_fd, n_cell, n_over, n_t9, h18]
  · simp only [nA, denS_unk, f_num, f_int, f_bool, mapO, Option.bind_some, n_lss, n_eql, n_eql0, n_add, n_sub, n_beq, n_len', n_rd, n_ix, n_fd, n_cell, n_over, n_t9, h19]
theorem z9 (h : Sh s 6 [.bool false, .int .i64 (.ofNat 0), .int .i64 a, .bool ao, .int .i64 b, .bool bo, .int .i64 (gH 0), .int .u64 (gL 0), .int .u64 (gL 0), .int .i64 (gH 0), .int .u64 (gL 0), .int .u64 (gL 0), .int .i64 (gH 0), .int .u64 (gL 0), .int .u64 (gL 0)]) : NE R 9 s := by
  obtain ⟨h6, h7, h8, h9, h10, h11, h12, h13, h14, h15, h16, h17, h18, h19, h20, -⟩ := h
  refine Ends_mk ?_
  show At _ _ _ _ navt9
  unfold navt9
  refine at_f ?_ (z11 ha hb ((upd_s rfl).trans h0) ⟨upd_e rfl ?_, upd_e rfl ?_, upd_e rfl ?_, upd_e rfl ?_, upd_e rfl ?_, upd_e rfl ?_, upd_e rfl ?_, upd_e rfl ?_, upd_e rfl ?_, upd_e rfl ?_, upd_e rfl ?_, upd_e rfl ?_, upd_e rfl ?_, upd_e rfl ?_, trivial⟩)
  · simp only [nA, denS_unk, f_num, f_int, f_bool, mapO, Option.bind_some, n_lss, n_eql, n_eql0, n_add, n_sub, n_beq, n_len', n_rd, n_ix, n_fd, n_cell, n_over, n_t9, h7]
    rfl
  · simp only [nA, denS_unk, f_num, f_int, f_bool, mapO, Option.bind_some, n_lss, n_eql, n_eql0, n_add, n_sub, n_beq, n_len', n_rd, n_ix, n_fd, n_cell, n_over, n_t9, h6]
  · simp only [nA, denS_unk, f_num, f_int, f_bool, mapO, Option.bind_some, n_lss, n_eql, n_eql0, n_add, n_sub, n_beq, n_len', n_rd, n_ix, n_fd, n_cell, n_over, n_t9, h8]
  · simp only [nA, denS_unk, f_num, f_int, f_bool, mapO, Option.bind_some, n_lss, n_eql, n_eql0, n_add, n_sub, n_beq, n_len', n_rd, n_ix, n_fd, n_cell, n_over, n_t9, h9]
  · simp only [nA, denS_unk, f_num, f_int, f_bool, mapO, Option.bind_some, n_lss, n_eql, n_eql0, n_add, n_sub, n_beq, n_len', n_rd, n_ix, n_fd, n_cell, n_over, n_t9, h10]
  · simp only [nA, denS_unk, f_num, f_int, f_bool, mapO, Option.bind_some, n_lss, n_eql, n_eql0, n_add, n_sub, n_beq, n_len', n_rd, n_ix, n_fd, n_cell, n_over, n_t9, h11]
  · simp only [nA, denS_unk, f_num, f_int, f_bool, mapO, Option.bind_some, n_lss, n_eql, n_eql0, n_add, n_sub, n_beq, n_len', n_rd, n_ix, n_fd, n_cell, n_over, n_t9, h12]
  · simp only [nA, denS_unk, f_num, f_int, f_bool, mapO, Option.bind_some, n_lss, n_eql, n_eql0, n_add, n_sub, n_beq, n_len', n_rd, n_ix, n_fd, n_cell, n_over, n_t9, h13]
  · simp only [nA, denS_unk, f_num, f_int, f_bool, mapO, Option.bind_some, n_lss, n_eql, n_eql0, n_add, n_sub, n_beq, n_len', n_rd, n_ix, n_fd, n_cell, n_over, n_t9, h14]
  · simp only [nA, denS_unk, f_num, f_int, f_bool, mapO, Option.bind_some, n_lss, n_eql, n_eql0, n_add, n_sub, n_beq, n_len', n_rd, n_ix, n_fd, n_cell, n_over, n_t9, h15]
  · simp only [nA, denS_unk, f_num, f_int, f_bool, mapO, Option.bind_some, n_lss, n_eql, n_eql0, n_add, n_sub, n_beq, n_len', n_rd, n_ix, n_fd, n_cell, n_over, n_t9, h16]
  · simp only [nA, denS_unk, f_num, f_int, f_bool, mapO, Option.bind_some, n_lss, n_eql, n_eql0, n_add, n_sub, n_beq, n_len', n_rd, n_ix, n_fd, n_cell, n_over, n_t9, h17]
  · simp only [nA, denS_unk, f_num, f_int, f_bool, mapO, Option.bind_some, n_lss, n_eql, n_eql0, n_add, n_sub, n_beq, n_len', n_rd, n_ix, n_fd, n_cell, n_over, n_t9, h18]
  · simp only [nA, denS_unk, f_num, f_int, f_bool, mapO, Option.bind_some, n_lss, n_eql, n_eql0, n_add, n_sub, n_beq, n_len', n_rd, n_ix, n_fd, n_cell, n_over, n_t9, h19]
  · simp only [nA, denS_unk, f_num, f_int, f_bool, mapO, Option.bind_some, n_lss, n_eql, n_eql0, n_add, n_sub, n_beq, n_len', n_rd, n_ix, n_fd, n_cell, n_over, n_t9, h20]
theorem z7 (h : Sh s 2 [.int .i64 a, .bool ao, .int .i64 b, .bool bo]) : NE R 7 s := by
  obtain ⟨h2, h3, h4, h5, -⟩ := h
  refine Ends_mk ?_
  show NE R 9 _
  refine z9 ha hb ((upd_s rfl).trans h0) ⟨upd_e rfl ?_, upd_e rfl ?_, upd_e rfl ?_, upd_e rfl ?_, upd_e rfl ?_, upd_e rfl ?_, upd_e rfl ?_, upd_e rfl ?_, upd_e rfl ?_, upd_e rfl ?_, upd_e rfl ?_, upd_e rfl ?_, upd_e rfl ?_, upd_e rfl ?_, upd_e rfl ?_, trivial⟩
  · simp only [nA, denS_unk, f_num, f_int, f_bool, mapO, Option.bind_some, n_lss, n_eql, n_eql0, n_add, n_sub, n_beq, n_len', n_rd, n_ix, n_fd, n_cell, n_over, n_t9, h2]
  · simp only [nA, denS_unk, f_num, f_int, f_bool, mapO, Option.bind_some, n_lss, n_eql, n_eql0, n_add, n_sub, n_beq, n_len', n_rd, n_ix, n_fd, n_cell, n_over, n_t9, h2]
  · simp only [nA, denS_unk, f_num, f_int, f_bool, mapO, Option.bind_some, n_lss, n_eql, n_eql0, n_add, n_sub, n_beq, n_len', n_rd, n_ix, n_fd, n_cell, n_over, n_t9, h2]
  · simp only [nA, denS_unk, f_num, f_int, f_bool, mapO, Option.bind_some, n_lss, n_eql, n_eql0, n_add, n_sub, n_beq, n_len', n_rd, n_ix, n_fd, n_cell, n_over, n_t9, h3]
  · simp only [nA, denS_unk, f_num, f_int, f_bool, mapO, Option.bind_some, n_lss, n_eql, n_eql0, n_add, n_sub, n_beq, n_len', n_rd, n_ix, n_fd, n_cell, n_over, n_t9, h4]
  · simp only [nA, denS_unk, f_num, f_int, f_bool, mapO, Option.bind_some, n_lss, n_eql, n_eql0, n_add, n_sub, n_beq, n_len', n_rd, n_ix, n_fd, n_cell, n_over, n_t9, h5]
  · simp only [nA, denS_unk, f_num, f_int, f_bool, mapO, Option.bind_some, n_lss, n_eql, n_eql0, n_add, n_sub, n_beq, n_len', n_rd, n_ix, n_fd, n_cell, n_over, n_t9, h2]
    rw [gH0]
  · simp only [nA, denS_unk, f_num, f_int, f_bool, mapO, Option.bind_some, n_lss, n_eql, n_eql0, n_add, n_sub, n_beq, n_len', n_rd, n_ix, n_fd, n_cell, n_over, n_t9, h2]
    rw [gL0]; rfl
  · simp only [nA, denS_unk, f_num, f_int, f_bool, mapO, Option.bind_some, n_lss, n_eql, n_eql0, n_add, n_sub, n_beq, n_len', n_rd, n_ix, n_fd, n_cell, n_over, n_t9, h2]
    rw [gL0]; rfl
  · simp only [nA, denS_unk, f_num, f_int, f_bool, mapO, Option.bind_some, n_lss, n_eql, n_eql0, n_add, n_sub, n_beq, n_len', n_rd, n_ix, n_fd, n_cell, n_over, n_t9, h2]
    rw [gH0]
  · simp only [nA, denS_unk, f_num, f_int, f_bool, mapO, Option.bind_some, n_lss, n_eql, n_eql0, n_add, n_sub, n_beq, n_len', n_rd, n_ix, n_fd, n_cell, n_over, n_t9, h2]
    rw [gL0]; rfl
  · simp only [nA, denS_unk, f_num, f_int, f_bool, mapO, Option.bind_some, n_lss, n_eql, n_eql0, n_add, n_sub, n_beq, n_len', n_rd, n_ix, n_fd, n_cell, n_over, n_t9, h2]
    rw [gL0]; rfl
  · simp only [nA, denS_unk, f_num, f_int, f_bool, mapO, Option.bind_some, n_lss, n_eql, n_eql0, n_add, n_sub, n_beq, n_len', n_rd, n_ix, n_fd, n_cell, n_over, n_t9, h2]
    rw [gH0]
  · simp only [nA, denS_unk, f_num, f_int, f_bool, mapO, Option.bind_some, n_lss, n_eql, n_eql0, n_add, n_sub, n_beq, n_len', n_rd, n_ix, n_fd, n_cell, n_over, n_t9, h2]
    rw [gL0]; rfl
  · simp only [nA, denS_unk, f_num, f_int, f_bool, mapO, Option.bind_some, n_lss, n_eql, n_eql0, n_add, n_sub, n_beq, n_len', n_rd, n_ix, n_fd, n_cell, n_over, n_t9, h2]
    rw [gL0]; rfl
end
/-- What came in, whole. -/
def Lst (R : Addr → Option Value) (ad : Option Addr) (l : Vs) : Prop := match ad with
  | none => l = []
  | some x => Dat R x l
section
variable {R : Addr → Option Value} {ad : Option Addr} {l : Vs} {c : Nat} (D : Lst R ad l) {a b : Int} {ao bo : Bool} (sa : SW a) (sb : SW b) {ad2 : Option Addr} {bs : List Int} {cb : Nat} (B : DatB R ad2 bs) {s : Nat → Value} (h0 : s 0 = .slice ad l.length c) (h1 : s 1 = .slice ad2 bs.length cb) (h : Sh s 2 [.int .i64 a, .bool ao, .int .i64 b, .bool bo])
include D B h0 h1 h
theorem e3 (ha : Ok a ao) (hb : Ok b bo) (h5 : l.length ≤ 500) : NE R 3 s := by
  refine Ends_mk ?_
  show NE R 4 s
  refine Ends_mk ?_
  show NE R 5 s
  refine Ends_mk ?_
  show At _ _ _ _ navt5
  unfold navt5
  obtain ⟨h2, h3, h4, h5', -⟩ := h
  refine at_node (b := Nat.blt 0 l.length) ?_ (fun hx => ?_) (fun hx => ?_)
  · simp only [nA, denS_unk, f_num, f_int, f_bool, mapO, Option.bind_some, n_lss, n_eql, n_eql0, n_add, n_sub, n_beq, n_len', n_rd, n_ix, n_fd, n_cell, n_over, n_t9, h0, n_t7]
  · have hx := Nat.blt_eq.mp hx
    cases ad with
    | none =>
      have : l = [] := D
      rw [this] at hx
      cases hx
    | some x =>
      have D' : Dat R x l := D
      have hcs := n_cs (R := R) 2 x l.length c (cv l) D'.all
      refine e6 D' ha hb B h5 ((upd_s rfl).trans h0) ((upd_s rfl).trans h1) ⟨(upd_s rfl).trans h2, (upd_s rfl).trans h3, (upd_s rfl).trans h4, (upd_s rfl).trans h5', upd_e rfl ?_, upd_e rfl ?_, trivial⟩
      · simp only [nA, denS_unk, f_num, f_int, f_bool, mapO, Option.bind_some, n_lss, n_eql, n_eql0, n_add, n_sub, n_beq, n_len', n_rd, n_ix, n_fd, n_cell, n_over, n_t9, h0]
      · simp only [nA, denS_unk, f_num, f_int, f_bool, mapO, Option.bind_some, n_lss, n_eql, n_eql0, n_add, n_sub, n_beq, n_len', n_rd, n_ix, n_fd, n_cell, n_over, n_t9, h0, hcs]
  · have hz : l.length = 0 := by
      cases hl : l.length with
      | zero => rfl
      | succ k => rw [hl] at hx; cases hx
    rw [hz] at h0
    exact z7 ha hb h0 ⟨h2, h3, h4, h5', trivial⟩
include sa sb
theorem e0 : NE R 0 s := by
  refine Ends_mk ?_
  show NE R 1 s
  refine Ends_mk ?_
  show NE R 2 s
  refine Ends_mk ?_
  show At _ _ _ _ navt2
  unfold navt2
  have hh := h
  obtain ⟨h2, h3, h4, h5', -⟩ := h
  have g3 : ∀ (ha : Ok a ao) (hb : Ok b bo) (h5 : l.length ≤ 500), NE R 3 s := fun ha hb h5 => e3 D B h0 h1 hh ha hb h5
  refine at_node (b := decide (500 < l.length)) ?_ (fun _ => q_true) (fun h5 => ?_)
  · simp only [nA, denS_unk, f_num, f_int, f_bool, mapO, Option.bind_some, n_lss, n_eql, n_eql0, n_add, n_sub, n_beq, n_len', n_rd, n_ix, n_fd, n_cell, n_over, n_t9, h0]
    rw [dl]
  have h5 : l.length ≤ 500 := by
    have := of_decide_eq_false h5
    omega
  refine at_node (b := decide (500 < bs.length)) ?_ (fun _ => q_true) (fun _ => ?_)
  · simp only [nA, denS_unk, f_num, f_int, f_bool, mapO, Option.bind_some, n_lss, n_eql, n_eql0, n_add, n_sub, n_beq, n_len', n_rd, n_ix, n_fd, n_cell, n_over, n_t9, h1]
    rw [dl]
  have eb : denS s (nu R) (Ev.unk 1 5) = some (.bool bo) := by
    simp only [nA, denS_unk, f_num, f_int, f_bool, mapO, Option.bind_some, n_lss, n_eql, n_eql0, n_add, n_sub, n_beq, n_len', n_rd, n_ix, n_fd, n_cell, n_over, n_t9, h5']
  have tl : Ok a ao → At (nu R) (Ev.Ends (nu R) natab (naQ R)) (naQ R) s (.node (Ev.unk 1 5) (.node (Ev.sy 1 1 [(Ev.num 11), (Ev.num 2), (.bool true), (Ev.unk 6 4), (.int .i64 (.ofNat 0))]) (.go 3 [(100, 100), (101, 101)] []) (.ret [(.bool true)] [])) (.go 3 [(100, 100), (101, 101)] [])) := by
    intro ha
    refine at_node eb (fun hx => ?_) (fun hx => ?_)
    · refine at_node (b := b == 0) ?_ (fun hy => g3 ha ⟨sb, fun _ => by simpa using hy⟩ h5) (fun _ => q_true)
      simp only [nA, denS_unk, f_num, f_int, f_bool, mapO, Option.bind_some, n_lss, n_eql, n_eql0, n_add, n_sub, n_beq, n_len', n_rd, n_ix, n_fd, n_cell, n_over, n_t9, h4]
      rfl
    · exact g3 ha ⟨sb, fun hy => by rw [hx] at hy; cases hy⟩ h5
  refine at_node (b := ao) ?_ (fun hx => ?_) (fun hx => ?_)
  · simp only [nA, denS_unk, f_num, f_int, f_bool, mapO, Option.bind_some, n_lss, n_eql, n_eql0, n_add, n_sub, n_beq, n_len', n_rd, n_ix, n_fd, n_cell, n_over, n_t9, h3]
  · refine at_node (b := a == 0) ?_ (fun hy => tl ⟨sa, fun _ => by simpa using hy⟩) (fun _ => q_true)
    simp only [nA, denS_unk, f_num, f_int, f_bool, mapO, Option.bind_some, n_lss, n_eql, n_eql0, n_add, n_sub, n_beq, n_len', n_rd, n_ix, n_fd, n_cell, n_over, n_t9, h2]
    rfl
  · exact tl ⟨sa, fun hy => by rw [hx] at hy; cases hy⟩
end
end Go.Proofs.Yteafoajpieablaa
