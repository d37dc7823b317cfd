import Derived.Test.YtkgflcpgjdbcdaaGreatDoorBwA
set_option linter.unusedVariables false
set_option linter.unusedSimpArgs false
set_option maxRecDepth 100000
set_option linter.unusedSectionVars false
namespace Go.Proofs.YtkgflcpgjdbcdaaGreatDoor
section
open Go Go.RowKit Ev
theorem c_i64 : cellTy Tryz.prog 2 = 6 := by decide +kernel
theorem c_int : cellTy Tryz.prog 3 = 6 := by decide +kernel
theorem c_u64 : cellTy Tryz.prog 60 = 10 := by decide +kernel
theorem c_bool : cellTy Tryz.prog 4 = 1 := by decide +kernel
theorem s_val : Tryz.prog.cellsOf 25 = 2 := by decide +kernel
theorem s_int : Tryz.prog.cellsOf 3 = 1 := by decide +kernel
theorem s_i64 : Tryz.prog.cellsOf 2 = 1 := by decide +kernel
theorem s_u64 : Tryz.prog.cellsOf 60 = 1 := by decide +kernel
theorem s_bool : Tryz.prog.cellsOf 4 = 1 := by decide +kernel
theorem s_great : Tryz.prog.cellsOf 62 = 3 := by decide +kernel
section
variable {R : Addr → Option Value}
theorem rds_i64 {f : Nat} {v : Value} (h : Rds Tryz.prog R f 2 [v]) : ∃ n, v = .int .i64 n ∧ SW n := by
  cases f with
  | zero => exact h.elim
  | succ f =>
    unfold Rds at h
    rw [Tryz.underlying2] at h
    exact ty_i64 (by rw [← c_i64]; exact h)
theorem rds_int {f : Nat} {v : Value} (h : Rds Tryz.prog R f 3 [v]) : ∃ n, v = .int .i64 n ∧ SW n := by
  cases f with
  | zero => exact h.elim
  | succ f =>
    unfold Rds at h
    rw [Tryz.underlying3] at h
    exact ty_i64 (by rw [← c_int]; exact h)
theorem rds_u64 {f : Nat} {v : Value} (h : Rds Tryz.prog R f 60 [v]) : ∃ n, v = .int .u64 n ∧ UW n := by
  cases f with
  | zero => exact h.elim
  | succ f =>
    unfold Rds at h
    rw [Tryz.underlying60] at h
    exact ty_u64 (by rw [← c_u64]; exact h)
theorem rds_bool {f : Nat} {v : Value} (h : Rds Tryz.prog R f 4 [v]) : ∃ b, v = .bool b := by
  cases f with
  | zero => exact h.elim
  | succ f =>
    unfold Rds at h
    rw [Tryz.underlying4] at h
    exact ty_bool (by rw [← c_bool]; exact h)
theorem rds_val {f : Nat} {cs : List Value} (h : Rds Tryz.prog R f 25 cs) : ∃ n b, cs = [.int .i64 n, .bool b] ∧ SW n := by
  cases f with
  | zero => exact h.elim
  | succ f =>
    unfold Rds at h
    rw [Tryz.underlying25] at h
    obtain ⟨h1, h2⟩ := h
    rw [s_val] at h1
    match cs, h1 with
    | [c0, c1], _ =>
      have q0 : Rds Tryz.prog R f 2 (([c0, c1].drop 0).take (Tryz.prog.cellsOf 2)) := h2 0 _ rfl
      have q1 : Rds Tryz.prog R f 4 (([c0, c1].drop 1).take (Tryz.prog.cellsOf 4)) := h2 1 _ rfl
      rw [s_i64] at q0
      rw [s_bool] at q1
      obtain ⟨n, rfl, hn⟩ := rds_i64 (v := c0) q0
      obtain ⟨b, rfl⟩ := rds_bool (v := c1) q1
      exact ⟨n, b, rfl, hn⟩
theorem rds_great {f : Nat} {cs : List Value} (h : Rds Tryz.prog R f 62 cs) : ∃ x y z, cs = [.int .i64 x, .int .u64 y, .int .u64 z] ∧ SW x ∧ UW y ∧ UW z := by
  cases f with
  | zero => exact h.elim
  | succ f =>
    unfold Rds at h
    rw [Tryz.underlying62] at h
    obtain ⟨h1, h2⟩ := h
    rw [s_great] at h1
    match cs, h1 with
    | [c0, c1, c2], _ =>
      have q0 : Rds Tryz.prog R f 2 (([c0, c1, c2].drop 0).take (Tryz.prog.cellsOf 2)) := h2 0 _ rfl
      have q1 : Rds Tryz.prog R f 60 (([c0, c1, c2].drop 1).take (Tryz.prog.cellsOf 60)) := h2 1 _ rfl
      have q2 : Rds Tryz.prog R f 60 (([c0, c1, c2].drop 2).take (Tryz.prog.cellsOf 60)) := h2 2 _ rfl
      rw [s_i64] at q0
      rw [s_u64] at q1 q2
      obtain ⟨x, rfl, hx⟩ := rds_i64 (v := c0) q0
      obtain ⟨y, rfl, hy⟩ := rds_u64 (v := c1) q1
      obtain ⟨z, rfl, hz⟩ := rds_u64 (v := c2) q2
      exact ⟨x, y, z, rfl, hx, hy, hz⟩
theorem in_val {v : Value} {vals : List Value} (h : InOk Tryz.prog R (25, none) v vals) : ∃ n b, v = .agg ⟨[.int .i64 n, .bool b]⟩ ∧ vals = [.int .i64 n, .bool b] ∧ SW n := by
  obtain ⟨⟨f, h1⟩, h2⟩ := h
  rw [show Tryz.prog.underlying _ = _ from Tryz.underlying25] at h2
  obtain ⟨cs, rfl, rfl⟩ := h2
  obtain ⟨n, b, rfl, hn⟩ := rds_val h1
  exact ⟨n, b, rfl, rfl, hn⟩
theorem in_great {v : Value} {vals : List Value} (h : InOk Tryz.prog R (62, none) v vals) : ∃ x y z, v = .agg ⟨[.int .i64 x, .int .u64 y, .int .u64 z]⟩ ∧ vals = [.int .i64 x, .int .u64 y, .int .u64 z] ∧ SW x ∧ UW y ∧ UW z := by
  obtain ⟨⟨f, h1⟩, h2⟩ := h
  rw [show Tryz.prog.underlying _ = _ from Tryz.underlying62] at h2
  obtain ⟨cs, rfl, rfl⟩ := h2
  obtain ⟨x, y, z, rfl, hn⟩ := rds_great h1
  exact ⟨x, y, z, rfl, rfl, hn⟩
theorem in_int {v : Value} {vals : List Value} (h : InOk Tryz.prog R (3, none) v vals) : ∃ n, v = .int .i64 n ∧ vals = [.int .i64 n] ∧ SW n := by
  obtain ⟨⟨f, h1⟩, h2⟩ := h
  rw [show Tryz.prog.underlying _ = _ from Tryz.underlying3] at h2
  obtain ⟨rfl, hc⟩ := h2
  have hv : vcells v = [v] := by cases v <;> first | rfl | (simp [isCell] at hc)
  rw [hv] at h1
  obtain ⟨n, rfl, hn⟩ := rds_int h1
  exact ⟨n, rfl, rfl, hn⟩
end
theorem put_is : FnIs Tryz.prog [] bwU 25 ([(62, none), (25, none)] : List ArgT) [([6, 10, 10], true)] 8 := by
  intro w args' vals _ hin
  match args', hin with
  | [v0, v1], ⟨a, b, hv, h0, c, d, hc, h1, hd⟩ =>
    obtain rfl : d = [] := hd
    obtain ⟨x, y, z, rfl, rfl, hx, hy, hz⟩ := in_great h0
    obtain ⟨n, o, rfl, rfl, hn⟩ := in_val h1
    subst hc
    subst hv
    refine ⟨[.int .i64 (hiP x y (oh n o) (ol n o)), .int .u64 (loP y (ol n o)), .int .u64 (loP z (oo o))], ⟨rfl, ?_⟩, (put_any x y z n o w hx hy hz hn).mono fun e w' ⟨he, hb⟩ => ⟨he, hb⟩⟩
    intro i k v hk hv
    match i with
    | 0 => injection hk with hk; injection hv with hv; subst hk; subst hv; exact ⟨i64_ty (hiP_sw _ _ _ _), rfl⟩
    | 1 => injection hk with hk; injection hv with hv; subst hk; subst hv; exact ⟨u64_ty (loP_uw _ _), rfl⟩
    | 2 => injection hk with hk; injection hv with hv; subst hk; subst hv; exact ⟨u64_ty (loP_uw _ _), rfl⟩
    | i + 3 => cases hk
theorem take_is : FnIs Tryz.prog [] bwU 32 ([(62, none), (25, none)] : List ArgT) [([6, 10, 10], true)] 11 := by
  intro w args' vals _ hin
  match args', hin with
  | [v0, v1], ⟨a, b, hv, h0, c, d, hc, h1, hd⟩ =>
    obtain rfl : d = [] := hd
    obtain ⟨x, y, z, rfl, rfl, hx, hy, hz⟩ := in_great h0
    obtain ⟨n, o, rfl, rfl, hn⟩ := in_val h1
    subst hc
    subst hv
    refine ⟨[.int .i64 (hiM x y (oh n o) (ol n o)), .int .u64 (loM y (ol n o)), .int .u64 (loM z (oo o))], ⟨rfl, ?_⟩, (take_any x y z n o w hx hy hz hn).mono fun e w' ⟨he, hb⟩ => ⟨he, hb⟩⟩
    intro i k v hk hv
    match i with
    | 0 => injection hk with hk; injection hv with hv; subst hk; subst hv; exact ⟨i64_ty (hiM_sw _ _ _ _), rfl⟩
    | 1 => injection hk with hk; injection hv with hv; subst hk; subst hv; exact ⟨u64_ty (loM_uw _ _), rfl⟩
    | 2 => injection hk with hk; injection hv with hv; subst hk; subst hv; exact ⟨u64_ty (loM_uw _ _), rfl⟩
    | i + 3 => cases hk
theorem outN_sw (S o : Int) : SW (outN S o) := by
  unfold outN SW
  by_cases h : outB S o = true
  · rw [if_pos h]; omega
  · rw [if_neg h]
    have h' : outB S o = false := by simpa using h
    unfold outB at h'
    have := of_decide_eq_false h'
    omega
theorem val_is : FnIs Tryz.prog [] bwU 26 ([(62, none)] : List ArgT) [([6, 1], true)] 14 := by
  intro w args' vals _ hin
  match args', hin with
  | [v0], ⟨a, b, hv, h0, hd⟩ =>
    obtain rfl : b = [] := hd
    obtain ⟨x, y, z, rfl, rfl, hx, hy, hz⟩ := in_great h0
    subst hv
    refine ⟨[.int .i64 (outN (x * 18446744073709551616 + y) z), .bool (outB (x * 18446744073709551616 + y) z)], ⟨rfl, ?_⟩, (vof_any x y z w hx hy hz).mono fun e w' ⟨he, hb⟩ => ⟨he, hb⟩⟩
    intro i k v hk hv
    match i with
    | 0 => injection hk with hk; injection hv with hv; subst hk; subst hv; exact ⟨i64_ty (outN_sw _ _), rfl⟩
    | 1 => injection hk with hk; injection hv with hv; subst hk; subst hv; exact ⟨rfl, rfl⟩
    | i + 2 => cases hk
structure Dat (R : Addr → Option Value) (x : Addr) (l : Vs) : Prop where
  rd : ∀ i p q, l[i]? = some (p, q) → R ((x.add (i * 2)).add 0) = some (.int .i64 p) ∧ R ((x.add (i * 2)).add 1) = some (.bool q)
  all : readN R x (l.length * 2) = some (cv l)
  sw : ∀ v, v ∈ l → SW v.1
  few : l.length < 9223372036854775808
theorem at_of {m : Vs} {i : Nat} (h : i < m.length) : ∃ p q, m[i]? = some (p, q) := by
  cases hv : m[i]? with
  | none => rw [List.getElem?_eq_none_iff] at hv; omega
  | some v => exact ⟨v.1, v.2, rfl⟩
def LstV (R : Addr → Option Value) (ad : Option Addr) (l : Vs) : Prop := match ad with
  | none => l = []
  | some x => Dat R x l
section
variable {R : Addr → Option Value}
theorem lst_of {f : Nat} {v : Value} (h : Rds Tryz.prog R f 45 [v]) : ∃ ad l c, v = .slice ad (List.length l) c ∧ LstV R ad l ∧ ∃ cs, readSl R 2 v = some cs ∧ cs = cv l := by
  cases f with
  | zero => exact h.elim
  | succ f =>
    unfold Rds at h
    rw [Tryz.underlying45] at h
    cases v with
    | slice ad n c =>
     cases ad with
     | none =>
      have h : n = 0 := h
      subst h
      exact ⟨none, [], c, rfl, rfl, [], rfl, rfl⟩
     | some x =>
      obtain ⟨h1, h2, h3⟩ := h
      obtain ⟨l, hl, hr⟩ := pick_list (p := fun i (v : Int × Bool) => R ((x.add (i * 2)).add 0) = some (.int .i64 v.1) ∧ R ((x.add (i * 2)).add 1) = some (.bool v.2) ∧ SW v.1) n (fun i hi => by
        obtain ⟨l', k1, k2, k3⟩ := h3 i hi
        obtain ⟨p, q, rfl, hp⟩ := rds_val k3
        rw [s_val] at k2
        refine ⟨(p, q), ?_, ?_, hp⟩
        · rw [Deep.add_add]; exact k2 0 _ rfl
        · rw [Deep.add_add]; exact k2 1 _ rfl)
      subst hl
      have D : readN R x (l.length * 2) = some (cv l) := readN_of _ _ (cv_len l) fun j v hj => by
        have hlt : j < l.length * 2 := by
          have := (List.getElem?_eq_some_iff.1 hj).1
          rw [cv_len] at this
          exact this
        obtain ⟨p, q, hv⟩ := at_of (m := l) (i := j / 2) (by omega)
        obtain ⟨g1, g2⟩ := cv_get hv
        obtain ⟨r1, r2, -⟩ := hr _ _ hv
        rw [Deep.add_add] at r1 r2
        by_cases hm : j % 2 = 0
        · rw [show j / 2 * 2 + 0 = j by omega] at g1 r1
          rw [g1] at hj
          rw [r1, hj]
        · rw [show j / 2 * 2 + 1 = j by omega] at g2 r2
          rw [g2] at hj
          rw [r2, hj]
      exact ⟨some x, l, c, rfl, ⟨fun i p q hv => ⟨(hr _ _ hv).1, (hr _ _ hv).2.1⟩, D, fun v hv => by
        obtain ⟨i, hi⟩ := List.getElem?_of_mem hv
        exact (hr _ _ hi).2.2, h2.1⟩, cv l, D, rfl⟩
    | _ => exact h.elim
end
end
section
open Go Go.RowKit Ev
theorem bw_mixed : Tryz.prog.follows .mixedOrders = true := by kernel_rfl
theorem dec_cv : ∀ l : Vs, dec (cv l) = l
  | [] => rfl
  | v :: l => by show (v.1, v.2) :: dec (cv l) = v :: l; rw [dec_cv l]
theorem in_vals {R : Addr → Option Value} {v : Value} {vals : List Value} (h : InOk Tryz.prog R (45, none) v vals) : ∃ ad l c, v = .slice ad (List.length l) c ∧ LstV R ad l ∧ vals = [.agg ⟨cv l⟩] := by
  obtain ⟨⟨f, h1⟩, h2⟩ := h
  rw [show Tryz.prog.underlying _ = _ from Tryz.underlying45] at h2
  obtain ⟨cs, h3, rfl⟩ := h2
  have hv : vcells v = [v] := by cases v <;> first | rfl | (cases h3)
  rw [hv] at h1
  obtain ⟨ad, l, c, rfl, L, cs', h4, rfl⟩ := lst_of h1
  rw [show Tryz.prog.cellsOf _ = 2 from s_val, h4] at h3
  injection h3 with h3
  subst h3
  exact ⟨ad, l, c, rfl, L, rfl⟩
theorem lst_few {R : Addr → Option Value} {ad : Option Addr} {l : Vs} (L : LstV R ad l) : l.length < 9223372036854775808 := by
  cases ad with
  | none => have : l = [] := L; rw [this]; decide
  | some x => exact (show Dat R x l from L).few
theorem lst_at {R : Addr → Option Value} {ad : Option Addr} {l : Vs} (L : LstV R ad l) {i : Nat} (hi : i < l.length) : ∃ x p q, ad = some x ∧ Dat R x l ∧ l[i]? = some (p, q) ∧ SW p ∧ R ((x.add (i * 2)).add 0) = some (.int .i64 p) ∧ R ((x.add (i * 2)).add 1) = some (.bool q) := by
  cases ad with
  | none => have : l = [] := L; rw [this] at hi; cases hi
  | some x =>
    have D : Dat R x l := L
    obtain ⟨p, q, hv⟩ := at_of hi
    exact ⟨x, p, q, rfl, D, hv, D.sw _ (List.mem_of_getElem? hv), D.rd _ _ _ hv⟩
section
variable {R : Addr → Option Value} {o : List (FuncId × OrcF)}
theorem p_put0 (S O n : Int) (b : Bool) (h : SW n) : uRd (cxOf Tryz.prog [] [] [] o [] bwU) R 24 [.int .i64 (gH S), .int .u64 (gL S), .int .u64 (gL O), .int .i64 n, .bool b] = some (.int .i64 (gH (S + vN (n, b)))) := by rw [n_U 8, ← put_h S n b h]; rfl
theorem p_put1 (S O n : Int) (b : Bool) (h : SW n) : uRd (cxOf Tryz.prog [] [] [] o [] bwU) R 25 [.int .i64 (gH S), .int .u64 (gL S), .int .u64 (gL O), .int .i64 n, .bool b] = some (.int .u64 (gL (S + vN (n, b)))) := by rw [n_U 9, ← put_l S n b h]; rfl
theorem p_put2 (S O n : Int) (b : Bool) : uRd (cxOf Tryz.prog [] [] [] o [] bwU) R 26 [.int .i64 (gH S), .int .u64 (gL S), .int .u64 (gL O), .int .i64 n, .bool b] = some (.int .u64 (gL (O + oo b))) := by rw [n_U 10, ← put_o O b]; rfl
theorem p_val0 (h l c : Int) : uRd (cxOf Tryz.prog [] [] [] o [] bwU) R 30 [.int .i64 h, .int .u64 l, .int .u64 c] = some (.int .i64 (outN (h * 18446744073709551616 + l) c)) := by rw [n_U 14]; rfl
theorem p_val1 (h l c : Int) : uRd (cxOf Tryz.prog [] [] [] o [] bwU) R 31 [.int .i64 h, .int .u64 l, .int .u64 c] = some (.bool (outB (h * 18446744073709551616 + l) c)) := by rw [n_U 15]; rfl
end
theorem gH0 : gH 0 = Int.ofNat 0 := by decide +kernel
theorem gL0 : gL 0 = Int.ofNat 0 := by decide +kernel
noncomputable abbrev toU (R : Addr → Option Value) : Nat → List Value → Option Value := uRd (cxOf Tryz.prog [] [] [] (toOrc []) [] bwU) R
noncomputable def toQ (R : Addr → Option Value) (l : Vs) : (Nat → Value) → List Value → List (Nat × AObj) → Prop := fun s vs _ => denV s (toU R) 9 (oneA vs) = some (oneA (outV [([6, 1], true)] [.int .i64 (totV l).1, .bool (totV l).2]))
section
variable {R : Addr → Option Value} {ad : Option Addr} {l : Vs} {c : Nat} (L : LstV R ad l)
include L
theorem to4 {s : Nat → Value} (h : Sh s 1 [.int .i64 (.ofNat 0), .bool false, .int .i64 (gH (sumV l)), .int .u64 (gL (sumV l)), .int .u64 (gL (cntV l))]) : Ev.Ends (toU R) totab (toQ R l) 4 s := by
  obtain ⟨h1, h2, h3, h4, h5, -⟩ := h
  refine Ends_mk ?_
  show denV s (toU R) 9 (.agg ⟨[(sy 6 31 [(unk 6 3), (unk 10 4), (unk 10 5)]), (sy 1 32 [(unk 6 3), (unk 10 4), (unk 10 5)])]⟩) = _
  have e1 : denS s (toU R) (sy 6 31 [(unk 6 3), (unk 10 4), (unk 10 5)]) = some (.int .i64 (totV l).1) := by
    simp only [nA, denS_unk, f_num, f_int, f_bool, mapO, Option.bind_some, n_lss, n_eql, n_eql0, n_add, n_sub, n_len, n_rd, n_ix, n_fd, n_cell, n_over, n_t9, n_t1, h3, h4, h5, p_val0]
    rfl
  have e2 : denS s (toU R) (sy 1 32 [(unk 6 3), (unk 10 4), (unk 10 5)]) = some (.bool (totV l).2) := by
    simp only [nA, denS_unk, f_num, f_int, f_bool, mapO, Option.bind_some, n_lss, n_eql, n_eql0, n_add, n_sub, n_len, n_rd, n_ix, n_fd, n_cell, n_over, n_t9, n_t1, h3, h4, h5, p_val1]
    rfl
  have d1 : denV s (toU R) 8 (sy 6 31 [(unk 6 3), (unk 10 4), (unk 10 5)]) = some (.int .i64 (totV l).1) := e1
  have d2 : denV s (toU R) 8 (sy 1 32 [(unk 6 3), (unk 10 4), (unk 10 5)]) = some (.bool (totV l).2) := e2
  unfold denV
  simp only [mapO, d1, d2]
  rfl
theorem to3 : ∀ (k i : Nat) (s : Nat → Value), i + k = l.length → s 0 = .slice ad l.length c →
    Sh s 1 [.int .i64 (.ofNat i), .int .i64 (.ofNat 0), .bool false, .int .i64 (gH (sumV (l.take i))), .int .u64 (gL (sumV (l.take i))), .int .u64 (gL (cntV (l.take i)))] → Ev.Ends (toU R) totab (toQ R l) 3 s := by
  intro k
  induction k with
  | zero =>
    intro i s hk h0 h
    obtain ⟨h1, h2, h3, h4, h5, h6, -⟩ := h
    rw [List.take_of_length_le (by omega)] at h4 h5 h6
    refine Ends_mk ?_
    show At _ _ _ _ tovt3
    unfold tovt3
    refine at_f ?_ (to4 L ⟨upd_e rfl ?_, upd_e rfl ?_, upd_e rfl ?_, upd_e rfl ?_, upd_e rfl ?_, trivial⟩)
    · simp only [nA, denS_unk, f_num, f_int, f_bool, mapO, Option.bind_some, n_lss, n_eql, n_eql0, n_add, n_sub, n_len, n_rd, n_ix, n_fd, n_cell, n_over, n_t9, n_t1, h0, h1]
      rw [dl]
      exact congrArg (fun z => some (Value.bool z)) (decide_eq_false (by omega))
    · simp only [nA, denS_unk, f_num, f_int, f_bool, mapO, Option.bind_some, n_lss, n_eql, n_eql0, n_add, n_sub, n_len, n_rd, n_ix, n_fd, n_cell, n_over, n_t9, n_t1, h2]
    · simp only [nA, denS_unk, f_num, f_int, f_bool, mapO, Option.bind_some, n_lss, n_eql, n_eql0, n_add, n_sub, n_len, n_rd, n_ix, n_fd, n_cell, n_over, n_t9, n_t1, h3]
    · simp only [nA, denS_unk, f_num, f_int, f_bool, mapO, Option.bind_some, n_lss, n_eql, n_eql0, n_add, n_sub, n_len, n_rd, n_ix, n_fd, n_cell, n_over, n_t9, n_t1, h4]
    · simp only [nA, denS_unk, f_num, f_int, f_bool, mapO, Option.bind_some, n_lss, n_eql, n_eql0, n_add, n_sub, n_len, n_rd, n_ix, n_fd, n_cell, n_over, n_t9, n_t1, h5]
    · simp only [nA, denS_unk, f_num, f_int, f_bool, mapO, Option.bind_some, n_lss, n_eql, n_eql0, n_add, n_sub, n_len, n_rd, n_ix, n_fd, n_cell, n_over, n_t9, n_t1, h6]
  | succ k ih =>
    intro i s hk h0 h
    obtain ⟨h1, h2, h3, h4, h5, h6, -⟩ := h
    obtain ⟨x, p, q, rfl, D, hv, sp, g1, g2⟩ := lst_at L (i := i) (by omega)
    obtain ⟨t1, t2⟩ := sum_take hv
    have few := D.few
    have w := w_add (n := i) (i := 1) (by omega)
    refine Ends_mk ?_
    show At _ _ _ _ tovt3
    unfold tovt3
    refine at_t ?_ (at_t ?_ (ih (i + 1) _ (by omega) ((upd_s rfl).trans h0) ⟨upd_e rfl ?_, upd_e rfl ?_, upd_e rfl ?_, upd_e rfl ?_, upd_e rfl ?_, upd_e rfl ?_, trivial⟩))
    · simp only [nA, denS_unk, f_num, f_int, f_bool, mapO, Option.bind_some, n_lss, n_eql, n_eql0, n_add, n_sub, n_len, n_rd, n_ix, n_fd, n_cell, n_over, n_t9, n_t1, h0, h1]
      rw [dl]
      exact congrArg (fun z => some (Value.bool z)) (decide_eq_true (by omega))
    · simp only [nA, denS_unk, f_num, f_int, f_bool, mapO, Option.bind_some, n_lss, n_eql, n_eql0, n_add, n_sub, n_len, n_rd, n_ix, n_fd, n_cell, n_over, n_t9, n_t1, h0, h1]
      rw [bl (by omega)]
    · simp only [nA, denS_unk, f_num, f_int, f_bool, mapO, Option.bind_some, n_lss, n_eql, n_eql0, n_add, n_sub, n_len, n_rd, n_ix, n_fd, n_cell, n_over, n_t9, n_t1, h1, w]
    · simp only [nA, denS_unk, f_num, f_int, f_bool, mapO, Option.bind_some, n_lss, n_eql, n_eql0, n_add, n_sub, n_len, n_rd, n_ix, n_fd, n_cell, n_over, n_t9, n_t1, h2]
    · simp only [nA, denS_unk, f_num, f_int, f_bool, mapO, Option.bind_some, n_lss, n_eql, n_eql0, n_add, n_sub, n_len, n_rd, n_ix, n_fd, n_cell, n_over, n_t9, n_t1, h3]
    · simp only [nA, denS_unk, f_num, f_int, f_bool, mapO, Option.bind_some, n_lss, n_eql, n_eql0, n_add, n_sub, n_len, n_rd, n_ix, n_fd, n_cell, n_over, n_t9, n_t1, h0, h1, h4, h5, h6, g1, g2, p_put0, sp]
      rw [t1]
    · simp only [nA, denS_unk, f_num, f_int, f_bool, mapO, Option.bind_some, n_lss, n_eql, n_eql0, n_add, n_sub, n_len, n_rd, n_ix, n_fd, n_cell, n_over, n_t9, n_t1, h0, h1, h4, h5, h6, g1, g2, p_put1, sp]
      rw [t1]
    · simp only [nA, denS_unk, f_num, f_int, f_bool, mapO, Option.bind_some, n_lss, n_eql, n_eql0, n_add, n_sub, n_len, n_rd, n_ix, n_fd, n_cell, n_over, n_t9, n_t1, h0, h1, h4, h5, h6, g1, g2, p_put2, sp]
      rw [t2]
theorem to0 {s : Nat → Value} (h0 : s 0 = .slice ad l.length c) : Ev.Ends (toU R) totab (toQ R l) 0 s := by
  refine Ends_mk ?_
  show Ev.Ends (toU R) totab (toQ R l) 1 s
  refine Ends_mk ?_
  show Ev.Ends (toU R) totab (toQ R l) 2 s
  refine Ends_mk ?_
  show Ev.Ends (toU R) totab (toQ R l) 3 _
  refine to3 L l.length 0 _ (by omega) ((upd_s rfl).trans h0) ⟨upd_e rfl ?_, upd_e rfl ?_, upd_e rfl ?_, upd_e rfl ?_, upd_e rfl ?_, upd_e rfl ?_, trivial⟩
  · exact denS_flat rfl
  · exact denS_flat rfl
  · exact denS_flat rfl
  · show _ = some (Value.int .i64 (gH 0))
    rw [gH0]
    exact denS_flat rfl
  · show _ = some (Value.int .u64 (gL 0))
    rw [gL0]
    exact denS_flat rfl
  · show _ = some (Value.int .u64 (gL 0))
    rw [gL0]
    exact denS_flat rfl
end
theorem to_ext (q : List (Value × Bool)) : ExtOk Tryz.prog (cxOf Tryz.prog [] [] [] (toOrc q) q bwU) :=
  orc_cons (fn_is put_is rfl (enter_of Tryz.func25 (by kernel_rfl) (by kernel_rfl))) (orc_cons (fn_is val_is rfl (enter_of Tryz.func26 (by kernel_rfl) (by kernel_rfl))) (ext_nil _ _ _ _))
theorem total_is : FnIsN Tryz.prog [] bwU 14 toargs [] [([6, 1], true)] 16 :=
  fn_of_ts_n to_ext bw_mixed to_flat (pls := topls) rfl to_checked fun w args' vals hin _ => by
    match args', hin with
    | [v0], ⟨a, b, hv, h0, hd⟩ =>
      obtain rfl : b = [] := hd
      obtain ⟨ad, l, c, rfl, L, rfl⟩ := in_vals h0
      subst hv
      refine ⟨[.int .i64 (totV l).1, .bool (totV l).2], ⟨rfl, ?_⟩, to0 L rfl⟩
      intro i k v hk hv
      match i with
      | 0 => injection hk with hk; injection hv with hv; subst hk; subst hv; exact ⟨i64_ty (outN_sw _ _), by show some (Value.int .i64 (totV (dec (cv l))).1) = _; rw [dec_cv]⟩
      | 1 => injection hk with hk; injection hv with hv; subst hk; subst hv; exact ⟨rfl, by show some (Value.bool (totV (dec (cv l))).2) = _; rw [dec_cv]⟩
      | i + 2 => cases hk
end
section
open Go Go.RowKit Ev
noncomputable abbrev xoU (R : Addr → Option Value) : Nat → List Value → Option Value := uRd (cxOf Tryz.prog [] [] [] (xoOrc []) [] bwU) R
noncomputable def xoQ (R : Addr → Option Value) (l : Vs) : (Nat → Value) → List Value → List (Nat × AObj) → Prop := fun s vs _ => denV s (xoU R) 9 (oneA vs) = some (oneA (outV [([6], false)] [.int .i64 (idxV (fun v : Int × Bool => v.2) l)]))
section
variable {R : Addr → Option Value} {ad : Option Addr} {l : Vs} {c : Nat} (L : LstV R ad l)
include L
theorem xo2 : ∀ (k i : Nat) (s : Nat → Value), i + k = l.length → idxV (fun v : Int × Bool => v.2) l = idxF (fun v : Int × Bool => v.2) i (l.drop i) → s 0 = .slice ad l.length c → s 1 = .int .i64 (.ofNat i) → Ev.Ends (xoU R) xotab (xoQ R l) 2 s := by
  intro k
  induction k with
  | zero =>
    intro i s hk hi h0 h1
    refine Ends_mk ?_
    show At _ _ _ _ xovt2
    unfold xovt2
    refine at_f ?_ ?_
    · simp only [nA, denS_unk, f_num, f_int, f_bool, mapO, Option.bind_some, n_lss, n_eql, n_eql0, n_add, n_sub, n_len, n_rd, n_ix, n_fd, n_cell, n_over, n_t9, n_t1, h0, h1]
      rw [dl]
      exact congrArg (fun z => some (Value.bool z)) (decide_eq_false (by omega))
    · refine Ends_mk ?_
      show denV s (xoU R) 9 (.int .i64 (.negSucc 0)) = some (.int .i64 (idxV (fun v : Int × Bool => v.2) l))
      rw [hi, List.drop_of_length_le (by omega)]
      unfold denV
      exact denS_flat rfl
  | succ k ih =>
    intro i s hk hi h0 h1
    obtain ⟨x, p, q, rfl, D, hv, sp, g1, g2⟩ := lst_at L (i := i) (by omega)
    have few := D.few
    have w := w_add (n := i) (i := 1) (by omega)
    have hdrop : l.drop i = (p, q) :: l.drop (i + 1) := by
      obtain ⟨hl, he⟩ := List.getElem?_eq_some_iff.1 hv
      rw [List.drop_eq_getElem_cons hl, he]
    rw [hdrop] at hi
    have next : (fun v : Int × Bool => v.2) (p, q) = false → ∀ L', L' = [(1, 6, (sy 6 1 [(num 0), (num 3), (.bool true), (unk 6 1), (.int .i64 (.ofNat 1))]))] → Ev.Ends (xoU R) xotab (xoQ R l) 2 (upd s (xoU R) L') := by
      rintro hp L' rfl
      refine ih (i + 1) _ (by omega) ?_ ((upd_s rfl).trans h0) (upd_e rfl ?_)
      · rw [hi]
        show (if (fun v : Int × Bool => v.2) (p, q) = true then _ else _) = _
        rw [hp]
        rfl
      · simp only [nA, denS_unk, f_num, f_int, f_bool, mapO, Option.bind_some, n_lss, n_eql, n_eql0, n_add, n_sub, n_len, n_rd, n_ix, n_fd, n_cell, n_over, n_t9, n_t1, h1, w]
    have stop : (fun v : Int × Bool => v.2) (p, q) = true → xoQ R l s [unk 6 1] [] := by
      intro hp
      show denV s (xoU R) 9 (unk 6 1) = some (.int .i64 (idxV (fun v : Int × Bool => v.2) l))
      have e : denS s (xoU R) (unk 6 1) = some (.int .i64 (.ofNat i)) := by
        simp only [nA, denS_unk, f_num, f_int, f_bool, mapO, Option.bind_some, n_lss, n_eql, n_eql0, n_add, n_sub, n_len, n_rd, n_ix, n_fd, n_cell, n_over, n_t9, n_t1, h1]
      rw [hi]
      show denS s (xoU R) (unk 6 1) = some (.int .i64 (if (fun v : Int × Bool => v.2) (p, q) = true then _ else _))
      rw [hp, e]
      rfl
    refine Ends_mk ?_
    show At _ _ _ _ xovt2
    unfold xovt2
    refine at_t ?_ (at_t ?_ ?_)
    · simp only [nA, denS_unk, f_num, f_int, f_bool, mapO, Option.bind_some, n_lss, n_eql, n_eql0, n_add, n_sub, n_len, n_rd, n_ix, n_fd, n_cell, n_over, n_t9, n_t1, h0, h1]
      rw [dl]
      exact congrArg (fun z => some (Value.bool z)) (decide_eq_true (by omega))
    · simp only [nA, denS_unk, f_num, f_int, f_bool, mapO, Option.bind_some, n_lss, n_eql, n_eql0, n_add, n_sub, n_len, n_rd, n_ix, n_fd, n_cell, n_over, n_t9, n_t1, h0, h1]
      rw [bl (by omega)]
    · refine at_node (b := q) ?_ (fun hq => stop hq) (fun hq => next hq _ rfl)
      simp only [nA, denS_unk, f_num, f_int, f_bool, mapO, Option.bind_some, n_lss, n_eql, n_eql0, n_add, n_sub, n_len, n_rd, n_ix, n_fd, n_cell, n_over, n_t9, n_t1, h0, h1, g2]
theorem xo0 {s : Nat → Value} (h0 : s 0 = .slice ad l.length c) : Ev.Ends (xoU R) xotab (xoQ R l) 0 s := by
  refine Ends_mk ?_
  show Ev.Ends (xoU R) xotab (xoQ R l) 1 s
  refine Ends_mk ?_
  show Ev.Ends (xoU R) xotab (xoQ R l) 2 _
  exact xo2 L l.length 0 _ (by omega) rfl ((upd_s rfl).trans h0) (upd_e rfl (denS_flat rfl))
end
theorem idxF_ok_xo : ∀ (l : Vs) (i : Nat), i + l.length < 9223372036854775808 → SW (idxF (fun v : Int × Bool => v.2) i l)
  | [], i, _ => by unfold SW idxF; decide
  | v :: l, i, h => by
    unfold idxF
    have h' : i + (l.length + 1) < 9223372036854775808 := h
    split
    · show -9223372036854775808 ≤ (i : Int) ∧ (i : Int) ≤ 9223372036854775807
      omega
    · exact idxF_ok_xo l (i + 1) (by omega)
theorem xo_is : FnIs Tryz.prog [] bwU 23 xoargs [([6], false)] 39 := fun w args' vals hg hin => fn_of_ts_n (ne := []) (fun _ => ext_nil _ _ _ _) bw_mixed xo_flat (pls := xopls) rfl xo_checked (fun w args' vals hin _ => by
    match args', hin with
    | [v0, v1], ⟨a, b, hv, h0, e, g, he, h1, hd⟩ =>
      obtain rfl : g = [] := hd
      obtain ⟨ad, l, c, rfl, L, rfl⟩ := in_vals h0
      obtain ⟨rfl, -, rfl⟩ := h1
      subst he
      subst hv
      refine ⟨[.int .i64 (idxV (fun v : Int × Bool => v.2) l)], ⟨rfl, ?_⟩, xo0 L rfl⟩
      intro i k v hk hv
      match i with
      | 0 => injection hk with hk; injection hv with hv; subst hk; subst hv; exact ⟨i64_ty (idxF_ok_xo l 0 (by have := lst_few L; omega)), by show some (Value.int .i64 (idxV (fun v : Int × Bool => v.2) (dec (cv l)))) = _; rw [dec_cv]⟩
      | i + 1 => cases hk) w args' vals hg hin (fun j hj => by cases hj)
noncomputable abbrev xiU (R : Addr → Option Value) : Nat → List Value → Option Value := uRd (cxOf Tryz.prog [] [] [] (xiOrc []) [] bwU) R
noncomputable def xiQ (R : Addr → Option Value) (l : Vs) : (Nat → Value) → List Value → List (Nat × AObj) → Prop := fun s vs _ => denV s (xiU R) 9 (oneA vs) = some (oneA (outV [([6], false)] [.int .i64 (idxV (fun v : Int × Bool => v.2 && v.1 != 0) l)]))
section
variable {R : Addr → Option Value} {ad : Option Addr} {l : Vs} {c : Nat} (L : LstV R ad l)
include L
theorem xi2 : ∀ (k i : Nat) (s : Nat → Value), i + k = l.length → idxV (fun v : Int × Bool => v.2 && v.1 != 0) l = idxF (fun v : Int × Bool => v.2 && v.1 != 0) i (l.drop i) → s 0 = .slice ad l.length c → s 1 = .int .i64 (.ofNat i) → Ev.Ends (xiU R) xitab (xiQ R l) 2 s := by
  intro k
  induction k with
  | zero =>
    intro i s hk hi h0 h1
    refine Ends_mk ?_
    show At _ _ _ _ xivt2
    unfold xivt2
    refine at_f ?_ ?_
    · simp only [nA, denS_unk, f_num, f_int, f_bool, mapO, Option.bind_some, n_lss, n_eql, n_eql0, n_add, n_sub, n_len, n_rd, n_ix, n_fd, n_cell, n_over, n_t9, n_t1, h0, h1]
      rw [dl]
      exact congrArg (fun z => some (Value.bool z)) (decide_eq_false (by omega))
    · refine Ends_mk ?_
      show denV s (xiU R) 9 (.int .i64 (.negSucc 0)) = some (.int .i64 (idxV (fun v : Int × Bool => v.2 && v.1 != 0) l))
      rw [hi, List.drop_of_length_le (by omega)]
      unfold denV
      exact denS_flat rfl
  | succ k ih =>
    intro i s hk hi h0 h1
    obtain ⟨x, p, q, rfl, D, hv, sp, g1, g2⟩ := lst_at L (i := i) (by omega)
    have few := D.few
    have w := w_add (n := i) (i := 1) (by omega)
    have hdrop : l.drop i = (p, q) :: l.drop (i + 1) := by
      obtain ⟨hl, he⟩ := List.getElem?_eq_some_iff.1 hv
      rw [List.drop_eq_getElem_cons hl, he]
    rw [hdrop] at hi
    have next : (fun v : Int × Bool => v.2 && v.1 != 0) (p, q) = false → ∀ L', L' = [(1, 6, (sy 6 1 [(num 0), (num 3), (.bool true), (unk 6 1), (.int .i64 (.ofNat 1))]))] → Ev.Ends (xiU R) xitab (xiQ R l) 2 (upd s (xiU R) L') := by
      rintro hp L' rfl
      refine ih (i + 1) _ (by omega) ?_ ((upd_s rfl).trans h0) (upd_e rfl ?_)
      · rw [hi]
        show (if (fun v : Int × Bool => v.2 && v.1 != 0) (p, q) = true then _ else _) = _
        rw [hp]
        rfl
      · simp only [nA, denS_unk, f_num, f_int, f_bool, mapO, Option.bind_some, n_lss, n_eql, n_eql0, n_add, n_sub, n_len, n_rd, n_ix, n_fd, n_cell, n_over, n_t9, n_t1, h1, w]
    have stop : (fun v : Int × Bool => v.2 && v.1 != 0) (p, q) = true → xiQ R l s [unk 6 1] [] := by
      intro hp
      show denV s (xiU R) 9 (unk 6 1) = some (.int .i64 (idxV (fun v : Int × Bool => v.2 && v.1 != 0) l))
      have e : denS s (xiU R) (unk 6 1) = some (.int .i64 (.ofNat i)) := by
        simp only [nA, denS_unk, f_num, f_int, f_bool, mapO, Option.bind_some, n_lss, n_eql, n_eql0, n_add, n_sub, n_len, n_rd, n_ix, n_fd, n_cell, n_over, n_t9, n_t1, h1]
      rw [hi]
      show denS s (xiU R) (unk 6 1) = some (.int .i64 (if (fun v : Int × Bool => v.2 && v.1 != 0) (p, q) = true then _ else _))
      rw [hp, e]
      rfl
    refine Ends_mk ?_
    show At _ _ _ _ xivt2
    unfold xivt2
    refine at_t ?_ (at_t ?_ ?_)
    · simp only [nA, denS_unk, f_num, f_int, f_bool, mapO, Option.bind_some, n_lss, n_eql, n_eql0, n_add, n_sub, n_len, n_rd, n_ix, n_fd, n_cell, n_over, n_t9, n_t1, h0, h1]
      rw [dl]
      exact congrArg (fun z => some (Value.bool z)) (decide_eq_true (by omega))
    · simp only [nA, denS_unk, f_num, f_int, f_bool, mapO, Option.bind_some, n_lss, n_eql, n_eql0, n_add, n_sub, n_len, n_rd, n_ix, n_fd, n_cell, n_over, n_t9, n_t1, h0, h1]
      rw [bl (by omega)]
    · refine at_node (b := q) ?_ (fun hq => ?_) (fun hq => next (by show (q && _) = false; rw [hq]; rfl) _ rfl)
      · simp only [nA, denS_unk, f_num, f_int, f_bool, mapO, Option.bind_some, n_lss, n_eql, n_eql0, n_add, n_sub, n_len, n_rd, n_ix, n_fd, n_cell, n_over, n_t9, n_t1, h0, h1, g2]
      · refine at_node (b := p == 0) ?_ (fun hp => next ?_ _ rfl) (fun hp => stop ?_)
        · simp only [nA, denS_unk, f_num, f_int, f_bool, mapO, Option.bind_some, n_lss, n_eql, n_eql0, n_add, n_sub, n_len, n_rd, n_ix, n_fd, n_cell, n_over, n_t9, n_t1, h0, h1, g1]
          rfl
        · show (q && !(p == 0)) = false
          rw [hp, hq]; rfl
        · show (q && !(p == 0)) = true
          rw [hp, hq]; rfl
theorem xi0 {s : Nat → Value} (h0 : s 0 = .slice ad l.length c) : Ev.Ends (xiU R) xitab (xiQ R l) 0 s := by
  refine Ends_mk ?_
  show Ev.Ends (xiU R) xitab (xiQ R l) 1 s
  refine Ends_mk ?_
  show Ev.Ends (xiU R) xitab (xiQ R l) 2 _
  exact xi2 L l.length 0 _ (by omega) rfl ((upd_s rfl).trans h0) (upd_e rfl (denS_flat rfl))
end
theorem idxF_ok_xi : ∀ (l : Vs) (i : Nat), i + l.length < 9223372036854775808 → SW (idxF (fun v : Int × Bool => v.2 && v.1 != 0) i l)
  | [], i, _ => by unfold SW idxF; decide
  | v :: l, i, h => by
    unfold idxF
    have h' : i + (l.length + 1) < 9223372036854775808 := h
    split
    · show -9223372036854775808 ≤ (i : Int) ∧ (i : Int) ≤ 9223372036854775807
      omega
    · exact idxF_ok_xi l (i + 1) (by omega)
theorem xi_is : FnIs Tryz.prog [] bwU 23 xiargs [([6], false)] 38 := fun w args' vals hg hin => fn_of_ts_n (ne := []) (fun _ => ext_nil _ _ _ _) bw_mixed xi_flat (pls := xipls) rfl xi_checked (fun w args' vals hin _ => by
    match args', hin with
    | [v0, v1], ⟨a, b, hv, h0, e, g, he, h1, hd⟩ =>
      obtain rfl : g = [] := hd
      obtain ⟨ad, l, c, rfl, L, rfl⟩ := in_vals h0
      obtain ⟨rfl, -, rfl⟩ := h1
      subst he
      subst hv
      refine ⟨[.int .i64 (idxV (fun v : Int × Bool => v.2 && v.1 != 0) l)], ⟨rfl, ?_⟩, xi0 L rfl⟩
      intro i k v hk hv
      match i with
      | 0 => injection hk with hk; injection hv with hv; subst hk; subst hv; exact ⟨i64_ty (idxF_ok_xi l 0 (by have := lst_few L; omega)), by show some (Value.int .i64 (idxV (fun v : Int × Bool => v.2 && v.1 != 0) (dec (cv l)))) = _; rw [dec_cv]⟩
      | i + 1 => cases hk) w args' vals hg hin (fun j hj => by cases hj)
end
section
open Go Go.RowKit Ev
theorem n_geq {cx : Cx} {R : Addr → Option Value} (t : Nat) (c : Bool) (k : IntKind) (a b : Int) : uRd cx R 0 [num 16, num t, .bool c, .int k a, .int k b] = some (.bool (decide (a ≥ b))) := by
  rw [uRd_op]; simp only [opSem, num, binOf]; rw [binA_int (by simp) (by simp)]; rfl
theorem n_cont {cx : Cx} {R : Addr → Option Value} {ad : Option Addr} {l : Vs} {c : Nat} (L : LstV R ad l) : uRd cx R 9 [num 2, .slice ad l.length c] = some (.agg ⟨cv l⟩) := by
  cases ad with
  | none =>
    have : l = [] := L
    subst this
    rw [uRd_rd _ _ _ _ (by omega)]
    rfl
  | some x => exact n_cs 2 x l.length c (cv l) (show Dat R x l from L).all
theorem idx_any (p : Int × Bool → Bool) : ∀ (l : Vs) (i : Nat), decide (idxF p i l ≥ (Int.ofNat 0)) = l.any p
  | [], i => rfl
  | v :: l, i => by
    unfold idxF
    rw [List.any_cons]
    cases hp : p v with
    | true => rw [if_pos rfl, Bool.true_or]; exact decide_eq_true (Int.ofNat_le.2 (Nat.zero_le i))
    | false => rw [if_neg (by simp), Bool.false_or]; exact idx_any p l (i + 1)
theorem co_ext (q : List (Value × Bool)) : ExtOk Tryz.prog (cxOf Tryz.prog [] [] [] (coOrc q) q bwU) :=
  orc_cons (fn_is xo_is rfl (enter_of Tryz.func23 (by kernel_rfl) (by kernel_rfl))) (ext_nil _ _ _ _)
theorem co_is : FnIs Tryz.prog [] bwU 12 coargs [([1], false)] 3 := fun w args' vals hg hin => fn_of_ts_n (ne := []) co_ext bw_mixed co_flat (pls := copls) rfl co_checked (fun w args' vals hin _ => by
    match args', hin with
    | [v0, v1], ⟨a, b, hv, h0, e, g, he, h1, hd⟩ =>
      obtain rfl : g = [] := hd
      obtain ⟨ad, l, c, rfl, L, rfl⟩ := in_vals h0
      obtain ⟨rfl, -, rfl⟩ := h1
      subst he
      subst hv
      refine ⟨[.bool (anyOver l)], ⟨rfl, ?_⟩, ?_⟩
      · intro i k v hk hv
        match i with
        | 0 => injection hk with hk; injection hv with hv; subst hk; subst hv; exact ⟨rfl, by show some (Value.bool (anyOver (dec (cv l)))) = _; rw [dec_cv]⟩
        | i + 1 => cases hk
      · refine Ends_mk ?_
        have h0 : startS coargs [.slice ad l.length c, .func (.func 42) ⟨[]⟩ ⟨[]⟩] 0 = .slice ad l.length c := rfl
        have hc := n_cont (cx := cxOf Tryz.prog [] [] [] (coOrc []) [] bwU) (c := c) L
        have hu : uRd (cxOf Tryz.prog [] [] [] (coOrc []) [] bwU) (fun a => w.cell? a) (39 + 16) [.agg ⟨cv l⟩] = some (.int .i64 (idxV (fun v : Int × Bool => v.2) l)) := by
          rw [n_U 39]
          show some (Value.int .i64 (idxV (fun v : Int × Bool => v.2) (dec (cv l)))) = _
          rw [dec_cv]
        have hd : denS (startS coargs [.slice ad l.length c, .func (.func 42) ⟨[]⟩ ⟨[]⟩]) (uRd (cxOf Tryz.prog [] [] [] (coOrc []) [] bwU) (fun a => w.cell? a)) (sy 1 1 [(num 16), (num 3), (.bool true), (sy 6 56 [(sy 0 10 [(num 2), (unk 0 0)])]), (.int .i64 (.ofNat 0))]) = some (.bool (anyOver l)) := by
          simp only [nA, denS_unk, f_num, f_int, f_bool, mapO, Option.bind_some, n_lss, n_eql, n_eql0, n_add, n_sub, n_len, n_rd, n_ix, n_fd, n_cell, n_over, n_t9, n_t1, h0, hc, hu, n_geq]
          exact congrArg (fun z => some (Value.bool z)) (idx_any (fun v : Int × Bool => v.2) l 0)
        exact hd) w args' vals hg hin (fun j hj => by cases hj)
theorem ci_ext (q : List (Value × Bool)) : ExtOk Tryz.prog (cxOf Tryz.prog [] [] [] (ciOrc q) q bwU) :=
  orc_cons (fn_is xi_is rfl (enter_of Tryz.func23 (by kernel_rfl) (by kernel_rfl))) (ext_nil _ _ _ _)
theorem ci_is : FnIs Tryz.prog [] bwU 12 ciargs [([1], false)] 2 := fun w args' vals hg hin => fn_of_ts_n (ne := []) ci_ext bw_mixed ci_flat (pls := cipls) rfl ci_checked (fun w args' vals hin _ => by
    match args', hin with
    | [v0, v1], ⟨a, b, hv, h0, e, g, he, h1, hd⟩ =>
      obtain rfl : g = [] := hd
      obtain ⟨ad, l, c, rfl, L, rfl⟩ := in_vals h0
      obtain ⟨rfl, -, rfl⟩ := h1
      subst he
      subst hv
      refine ⟨[.bool (anyBad l)], ⟨rfl, ?_⟩, ?_⟩
      · intro i k v hk hv
        match i with
        | 0 => injection hk with hk; injection hv with hv; subst hk; subst hv; exact ⟨rfl, by show some (Value.bool (anyBad (dec (cv l)))) = _; rw [dec_cv]⟩
        | i + 1 => cases hk
      · refine Ends_mk ?_
        have h0 : startS ciargs [.slice ad l.length c, .func (.func 13) ⟨[]⟩ ⟨[]⟩] 0 = .slice ad l.length c := rfl
        have hc := n_cont (cx := cxOf Tryz.prog [] [] [] (ciOrc []) [] bwU) (c := c) L
        have hu : uRd (cxOf Tryz.prog [] [] [] (ciOrc []) [] bwU) (fun a => w.cell? a) (38 + 16) [.agg ⟨cv l⟩] = some (.int .i64 (idxV (fun v : Int × Bool => v.2 && v.1 != 0) l)) := by
          rw [n_U 38]
          show some (Value.int .i64 (idxV (fun v : Int × Bool => v.2 && v.1 != 0) (dec (cv l)))) = _
          rw [dec_cv]
        have hd : denS (startS ciargs [.slice ad l.length c, .func (.func 13) ⟨[]⟩ ⟨[]⟩]) (uRd (cxOf Tryz.prog [] [] [] (ciOrc []) [] bwU) (fun a => w.cell? a)) (sy 1 1 [(num 16), (num 3), (.bool true), (sy 6 55 [(sy 0 10 [(num 2), (unk 0 0)])]), (.int .i64 (.ofNat 0))]) = some (.bool (anyBad l)) := by
          simp only [nA, denS_unk, f_num, f_int, f_bool, mapO, Option.bind_some, n_lss, n_eql, n_eql0, n_add, n_sub, n_len, n_rd, n_ix, n_fd, n_cell, n_over, n_t9, n_t1, h0, hc, hu, n_geq]
          exact congrArg (fun z => some (Value.bool z)) (idx_any (fun v : Int × Bool => v.2 && v.1 != 0) l 0)
        exact hd) w args' vals hg hin (fun j hj => by cases hj)
end
section
open Go Go.RowKit Ev
abbrev Ps := List (Int × Int × Bool)
def cp : Ps → List Value
  | [] => []
  | v :: l => .int .i64 v.1 :: .int .i64 v.2.1 :: .bool v.2.2 :: cp l
theorem cp_len : ∀ l : Ps, (cp l).length = l.length * 3
  | [] => rfl
  | v :: l => by show (cp l).length + 1 + 1 + 1 = (l.length + 1) * 3; rw [cp_len l]; omega
theorem dec_cp : ∀ l : Ps, dec3 (cp l) = l.map (·.2)
  | [] => rfl
  | v :: l => by show (v.2.1, v.2.2) :: dec3 (cp l) = v.2 :: l.map (·.2); rw [dec_cp l]
theorem cp_get : ∀ {l : Ps} {i : Nat} {t p : Int} {q : Bool}, l[i]? = some (t, p, q) → (cp l)[i * 3 + 0]? = some (.int .i64 t) ∧ (cp l)[i * 3 + 1]? = some (.int .i64 p) ∧ (cp l)[i * 3 + 2]? = some (.bool q)
  | w :: l, 0, t, p, q, h => by
    injection h with h
    subst h
    exact ⟨rfl, rfl, rfl⟩
  | w :: l, i + 1, t, p, q, h => by
    have := cp_get (l := l) (i := i) h
    rw [show (i + 1) * 3 + 0 = i * 3 + 0 + 1 + 1 + 1 by omega, show (i + 1) * 3 + 1 = i * 3 + 1 + 1 + 1 + 1 by omega, show (i + 1) * 3 + 2 = i * 3 + 2 + 1 + 1 + 1 by omega]
    exact this
theorem s_pt : Tryz.prog.cellsOf 27 = 3 := by decide +kernel
theorem b_pt : Tryz.prog.bytesOf 27 = 24 := by decide +kernel
structure PDat (R : Addr → Option Value) (x : Addr) (l : Ps) : Prop where
  rd : ∀ i t p q, l[i]? = some (t, p, q) → R ((x.add (i * 3)).add 0) = some (.int .i64 t) ∧ R ((x.add (i * 3)).add 1) = some (.int .i64 p) ∧ R ((x.add (i * 3)).add 2) = some (.bool q)
  all : readN R x (l.length * 3) = some (cp l)
  sw : ∀ v, v ∈ l → SW v.2.1
  few : l.length ≤ 5864062014634
def LstP (R : Addr → Option Value) (ad : Option Addr) (l : Ps) : Prop := match ad with
  | none => l = []
  | some x => PDat R x l
section
variable {R : Addr → Option Value}
theorem rds_pt {f : Nat} {cs : List Value} (h : Rds Tryz.prog R f 27 cs) : ∃ t n b, cs = [.int .i64 t, .int .i64 n, .bool b] ∧ SW n := by
  cases f with
  | zero => exact h.elim
  | succ f =>
    unfold Rds at h
    rw [Tryz.underlying27] at h
    obtain ⟨h1, h2⟩ := h
    rw [s_pt] at h1
    match cs, h1 with
    | [c0, c1, c2], _ =>
      have q0 : Rds Tryz.prog R f 2 (([c0, c1, c2].drop 0).take (Tryz.prog.cellsOf 2)) := h2 0 _ rfl
      have q1 : Rds Tryz.prog R f 25 (([c0, c1, c2].drop 1).take (Tryz.prog.cellsOf 25)) := h2 1 _ rfl
      rw [s_i64] at q0
      rw [s_val] at q1
      obtain ⟨t, rfl, ht⟩ := rds_i64 (v := c0) q0
      obtain ⟨n, b, he, hn⟩ := rds_val q1
      have he : [c1, c2] = [.int .i64 n, .bool b] := he
      injection he with e1 e2
      injection e2 with e2 _
      subst e1; subst e2
      exact ⟨t, n, b, rfl, hn⟩
theorem lstp_of {f : Nat} {v : Value} (h : Rds Tryz.prog R f 22 [v]) : ∃ ad l c, v = .slice ad (List.length l) c ∧ LstP R ad l ∧ ∃ cs, readSl R 3 v = some cs ∧ cs = cp l := by
  cases f with
  | zero => exact h.elim
  | succ f =>
    unfold Rds at h
    rw [Tryz.underlying22] at h
    cases v with
    | slice ad n c =>
     cases ad with
     | none =>
      have h : n = 0 := h
      subst h
      exact ⟨none, [], c, rfl, rfl, [], rfl, rfl⟩
     | some x =>
      obtain ⟨h1, h2, h3⟩ := h
      obtain ⟨l, hl, hr⟩ := pick_list (p := fun i (v : Int × Int × Bool) => R ((x.add (i * 3)).add 0) = some (.int .i64 v.1) ∧ R ((x.add (i * 3)).add 1) = some (.int .i64 v.2.1) ∧ R ((x.add (i * 3)).add 2) = some (.bool v.2.2) ∧ SW v.2.1) n (fun i hi => by
        obtain ⟨l', k1, k2, k3⟩ := h3 i hi
        obtain ⟨t, p, q, rfl, hp⟩ := rds_pt k3
        rw [s_pt] at k2
        refine ⟨(t, p, q), ?_, ?_, ?_, hp⟩
        · rw [Deep.add_add]; exact k2 0 _ rfl
        · rw [Deep.add_add]; exact k2 1 _ rfl
        · rw [Deep.add_add]; exact k2 2 _ rfl)
      subst hl
      have D : readN R x (l.length * 3) = some (cp l) := readN_of _ _ (cp_len l) fun j v hj => by
        have hlt : j < l.length * 3 := by
          have := (List.getElem?_eq_some_iff.1 hj).1
          rw [cp_len] at this
          exact this
        have hv : ∃ t p q, l[j / 3]? = some (t, p, q) := ⟨_, _, _, List.getElem?_eq_getElem (by omega)⟩
        obtain ⟨t, p, q, hv⟩ := hv
        obtain ⟨g0, g1, g2⟩ := cp_get hv
        obtain ⟨r0, r1, r2, -⟩ := hr _ _ hv
        rw [Deep.add_add] at r0 r1 r2
        have hm : j % 3 = 0 ∨ j % 3 = 1 ∨ j % 3 = 2 := by omega
        rcases hm with hm | hm | hm
        · rw [show j / 3 * 3 + 0 = j by omega] at g0 r0
          rw [g0] at hj
          rw [r0, hj]
        · rw [show j / 3 * 3 + 1 = j by omega] at g1 r1
          rw [g1] at hj
          rw [r1, hj]
        · rw [show j / 3 * 3 + 2 = j by omega] at g2 r2
          rw [g2] at hj
          rw [r2, hj]
      have hfew := h2.2
      rw [b_pt] at hfew
      exact ⟨some x, l, c, rfl, ⟨fun i t p q hv => ⟨(hr _ _ hv).1, (hr _ _ hv).2.1, (hr _ _ hv).2.2.1⟩, D, fun v hv => by
        obtain ⟨i, hi⟩ := List.getElem?_of_mem hv
        exact (hr _ _ hi).2.2.2, by omega⟩, cp l, D, rfl⟩
    | _ => exact h.elim
theorem in_pts {v : Value} {vals : List Value} (h : InOk Tryz.prog R (22, none) v vals) : ∃ ad l c, v = .slice ad (List.length l) c ∧ LstP R ad l ∧ vals = [.agg ⟨cp l⟩] := by
  obtain ⟨⟨f, h1⟩, h2⟩ := h
  rw [show Tryz.prog.underlying _ = _ from Tryz.underlying22] at h2
  obtain ⟨cs, h3, rfl⟩ := h2
  have hv : vcells v = [v] := by cases v <;> first | rfl | (cases h3)
  rw [hv] at h1
  obtain ⟨ad, l, c, rfl, L, cs', h4, rfl⟩ := lstp_of h1
  rw [show Tryz.prog.cellsOf _ = 3 from s_pt, h4] at h3
  injection h3 with h3
  subst h3
  exact ⟨ad, l, c, rfl, L, rfl⟩
theorem lstp_few {ad : Option Addr} {l : Ps} (L : LstP R ad l) : l.length ≤ 5864062014634 := by
  cases ad with
  | none => have : l = [] := L; rw [this]; decide
  | some x => exact (show PDat R x l from L).few
theorem lstp_sw {ad : Option Addr} {l : Ps} (L : LstP R ad l) : ∀ v, v ∈ l → SW v.2.1 := by
  cases ad with
  | none => have : l = [] := L; rw [this]; intro v hv; cases hv
  | some x => exact (show PDat R x l from L).sw
end
theorem cv_times : ∀ n, timesL [Value.int .i64 (.ofNat 0), .bool false] n = cv (List.replicate n (0, false))
  | 0 => rfl
  | n + 1 => by
    rw [List.replicate_succ]
    show _ = Value.int .i64 0 :: .bool false :: cv (List.replicate n (0, false))
    rw [← cv_times n]
    rfl
theorem cv_ok : ∀ {l : Vs}, (∀ v, v ∈ l → SW v.1) → ∀ (i : Nat) (v : Value), (cv l)[i]? = some v → tyOk (([6, 1] : List Nat).getD (i % 2) 0) v = true := by
  intro l hl i v hv
  have hlt : i < l.length * 2 := by
    have := (List.getElem?_eq_some_iff.1 hv).1
    rw [cv_len] at this
    exact this
  obtain ⟨p, q, hg⟩ := at_of (m := l) (i := i / 2) (by omega)
  obtain ⟨g1, g2⟩ := cv_get hg
  have hm : i % 2 = 0 ∨ i % 2 = 1 := by omega
  rcases hm with hm | hm
  · rw [show i / 2 * 2 + 0 = i by omega] at g1
    rw [g1] at hv
    injection hv with hv
    subst hv
    rw [hm]
    exact i64_ty (hl _ (List.mem_of_getElem? hg))
  · rw [show i / 2 * 2 + 1 = i by omega] at g2
    rw [g2] at hv
    injection hv with hv
    subst hv
    rw [hm]
    rfl
noncomputable abbrev vaU (R : Addr → Option Value) : Nat → List Value → Option Value := uRd (cxOf Tryz.prog [] [] [] (vaOrc []) [] bwU) R
noncomputable abbrev vaQ (R : Addr → Option Value) (l : Ps) := rowQ (vaU R) [6, 1] 25 false (cv (l.map (·.2))) l.length
theorem n_t11 {cx : Cx} {R : Addr → Option Value} (k : IntKind) (n m : Nat) : uRd cx R 8 [num 11, .int k (.ofNat n), num m] = some (.bool (Nat.ble n m)) := by rw [n_tr]; rfl
theorem n_times {cx : Cx} {R : Addr → Option Value} (k : IntKind) (n : Nat) (x y : Value) : uRd cx R 10 [num 4, .int k (.ofNat n), x, y] = some (.agg ⟨timesL [x, y] n⟩) := by rw [uRd_rd _ _ _ _ (by omega)]; rfl
section
variable {R : Addr → Option Value} {ad : Option Addr} {l : Ps} {c : Nat} (L : LstP R ad l)
include L
theorem va3 : ∀ (k i : Nat) (m : Vs) (s : Nat → Value), i + k = l.length → m.length = l.length → (∀ j, j < i → m[j]? = (l.map (·.2))[j]?) → s 0 = .slice ad l.length c → Sh s 1 [.int .i64 (.ofNat l.length), .int .i64 (.ofNat i), .agg ⟨cv m⟩] → Ev.Ends (vaU R) vatab (vaQ R l) 3 s := by
  intro k
  induction k with
  | zero =>
    intro i m s hk hm hj h0 h
    obtain ⟨h1, h2, h3, -⟩ := h
    have hml : m = l.map (·.2) := by
      apply List.ext_getElem?
      intro j
      by_cases hjl : j < i
      · exact hj j hjl
      · rw [List.getElem?_eq_none (by omega), List.getElem?_eq_none (by rw [List.length_map]; omega)]
    subst hml
    refine Ends_mk ?_
    show At _ _ _ _ vavt3
    unfold vavt3
    refine at_f ?_ ?_
    · simp only [nA, denS_unk, f_num, f_int, f_bool, mapO, Option.bind_some, n_lss, n_eql, n_eql0, n_add, n_sub, n_len, n_rd, n_ix, n_fd, n_cell, n_over, n_t9, n_t1, h0, h2]
      rw [dl]
      exact congrArg (fun z => some (Value.bool z)) (decide_eq_false (by omega))
    · refine Ends_mk ?_
      refine .inr ⟨fun h => (by cases h.1), 100, unk 6 1, unk 20 2, unk 6 1, rfl, List.mem_singleton.2 rfl, ?_, ?_⟩
      · rw [denS_unk, show upd s (vaU R) _ 2 = _ from upd_e rfl (by simp only [nA, denS_unk, f_num, f_int, f_bool, mapO, Option.bind_some, n_lss, n_eql, n_eql0, n_add, n_sub, n_len, n_rd, n_ix, n_fd, n_cell, n_over, n_t9, n_t1, h3]; rfl)]
      · show denS _ _ (unk 6 1) = _
        rw [denS_unk, show upd s (vaU R) _ 1 = _ from upd_e rfl (by simp only [nA, denS_unk, f_num, f_int, f_bool, mapO, Option.bind_some, n_lss, n_eql, n_eql0, n_add, n_sub, n_len, n_rd, n_ix, n_fd, n_cell, n_over, n_t9, n_t1, h1]; rfl)]
  | succ k ih =>
    intro i m s hk hm hj h0 h
    obtain ⟨h1, h2, h3, -⟩ := h
    have few := lstp_few L
    obtain ⟨t, p, q, hv⟩ : ∃ t p q, l[i]? = some (t, p, q) := ⟨_, _, _, List.getElem?_eq_getElem (by omega)⟩
    have w := w_add (n := i) (i := 1) (by omega)
    cases ad with
    | none =>
      have : l = [] := L
      rw [this] at hk
      simp at hk
    | some x =>
      obtain ⟨-, g1, g2⟩ := (show PDat R x l from L).rd _ _ _ _ hv
      have hset := cv_set (l := m) (i := i) (v := (p, q)) (by omega)
      have hset : overL (cv m) (i * 2 + 0) [.int .i64 p, .bool q] = cv (m.set i (p, q)) := hset
      refine Ends_mk ?_
      show At _ _ _ _ vavt3
      unfold vavt3
      refine at_t ?_ (at_t ?_ (at_t ?_ (ih (i + 1) (m.set i (p, q)) _ (by omega) (by rw [List.length_set]; exact hm) ?_ ((upd_s rfl).trans h0) ⟨upd_e rfl ?_, upd_e rfl ?_, upd_e rfl ?_, trivial⟩)))
      · simp only [nA, denS_unk, f_num, f_int, f_bool, mapO, Option.bind_some, n_lss, n_eql, n_eql0, n_add, n_sub, n_len, n_rd, n_ix, n_fd, n_cell, n_over, n_t9, n_t1, h0, h2]
        rw [dl]
        exact congrArg (fun z => some (Value.bool z)) (decide_eq_true (by omega))
      · simp only [nA, denS_unk, f_num, f_int, f_bool, mapO, Option.bind_some, n_lss, n_eql, n_eql0, n_add, n_sub, n_len, n_rd, n_ix, n_fd, n_cell, n_over, n_t9, n_t1, h0, h2]
        rw [bl (by omega)]
      · simp only [nA, denS_unk, f_num, f_int, f_bool, mapO, Option.bind_some, n_lss, n_eql, n_eql0, n_add, n_sub, n_len, n_rd, n_ix, n_fd, n_cell, n_over, n_t9, n_t1, h1, h2]
        rw [bl (by omega)]
      · intro j hjl
        by_cases hji : j = i
        · subst hji
          rw [List.getElem?_set_self (by omega), List.getElem?_map, hv]
          rfl
        · rw [List.getElem?_set_ne (fun h => hji h.symm)]
          exact hj j (by omega)
      · simp only [nA, denS_unk, f_num, f_int, f_bool, mapO, Option.bind_some, n_lss, n_eql, n_eql0, n_add, n_sub, n_len, n_rd, n_ix, n_fd, n_cell, n_over, n_t9, n_t1, h1]
      · simp only [nA, denS_unk, f_num, f_int, f_bool, mapO, Option.bind_some, n_lss, n_eql, n_eql0, n_add, n_sub, n_len, n_rd, n_ix, n_fd, n_cell, n_over, n_t9, n_t1, h2, w]
      · simp only [nA, denS_unk, f_num, f_int, f_bool, mapO, Option.bind_some, n_lss, n_eql, n_eql0, n_add, n_sub, n_len, n_rd, n_ix, n_fd, n_cell, n_over, n_t9, n_t1, h0, h2, h3, g1, g2, hset]
theorem va0 {s : Nat → Value} (h0 : s 0 = .slice ad l.length c) : Ev.Ends (vaU R) vatab (vaQ R l) 0 s := by
  have few := lstp_few L
  refine Ends_mk ?_
  show Ev.Ends (vaU R) vatab (vaQ R l) 1 s
  refine Ends_mk ?_
  show At _ _ _ _ vavt1
  unfold vavt1
  refine at_t ?_ ?_
  · simp only [nA, denS_unk, f_num, f_int, f_bool, mapO, Option.bind_some, n_lss, n_eql, n_eql0, n_add, n_sub, n_len, n_rd, n_ix, n_fd, n_cell, n_over, n_t9, n_t1, h0, n_t11]
    rw [show Nat.ble l.length 8796093021952 = true from Nat.ble_eq.mpr (by omega)]
  · refine Ends_mk ?_
    show Ev.Ends (vaU R) vatab (vaQ R l) 3 _
    refine va3 L l.length 0 (List.replicate l.length (0, false)) _ (by omega) (by simp) (fun j hj => by omega) ((upd_s rfl).trans ((upd_s rfl).trans h0)) ⟨upd_e rfl ?_, upd_e rfl ?_, upd_e rfl ?_, trivial⟩
    · rw [denS_unk]
      exact congrArg some (upd_e rfl (by simp only [nA, denS_unk, f_num, f_int, f_bool, mapO, Option.bind_some, n_lss, n_eql, n_eql0, n_add, n_sub, n_len, n_rd, n_ix, n_fd, n_cell, n_over, n_t9, n_t1, h0]))
    · exact denS_flat rfl
    · rw [denS_unk]
      refine congrArg some (upd_e rfl ?_)
      simp only [nA, denS_unk, f_num, f_int, f_bool, mapO, Option.bind_some, n_lss, n_eql, n_eql0, n_add, n_sub, n_len, n_rd, n_ix, n_fd, n_cell, n_over, n_t9, n_t1, h0, n_times]
      rw [cv_times]
end
theorem values_is : RowIs Tryz.prog [] bwU 11 vaargs [6, 1] 25 false 0 :=
  row_of_ts (fun _ => ext_nil _ _ _ _) bw_mixed va_flat (pls := vapls) rfl va_checked fun w args' vals hin => by
    match args', hin with
    | [v0], ⟨a, b, hv, h0, hd⟩ =>
      obtain rfl : b = [] := hd
      obtain ⟨ad, l, c, rfl, L, rfl⟩ := in_pts h0
      subst hv
      have few := lstp_few L
      refine ⟨cv (l.map (fun x : Int × Int × Bool => x.2)), l.length, ?_, ?_, ⟨by omega, by rw [cv_len, List.length_map]; rfl, cv_ok fun v hv => ?_⟩, va0 (s := startS vaargs [.slice ad l.length c]) L rfl⟩
      · show some (Value.agg ⟨cv (dec3 (cp l))⟩) = _
        rw [dec_cp]
      · show some (Value.int .i64 (.ofNat (dec3 (cp l)).length)) = _
        rw [dec_cp, List.length_map]
      · obtain ⟨u, hu, rfl⟩ := List.mem_map.1 hv
        exact lstp_sw L u hu
end
section
open Go Go.RowKit Ev
noncomputable abbrev miU (R : Addr → Option Value) : Nat → List Value → Option Value := uRd (cxOf Tryz.prog [] [] [] (miOrc []) [] bwU) R
noncomputable def miQ (R : Addr → Option Value) (l : Vs) : (Nat → Value) → List Value → List (Nat × AObj) → Prop := fun s vs _ => denV s (miU R) 9 (oneA vs) = some (oneA (outV [([6, 1], true)] [.int .i64 (minV l).1, .bool (minV l).2]))
section
variable {R : Addr → Option Value} {ad : Option Addr} {l : Vs} {c : Nat} (L : LstV R ad l)
include L
theorem mi4 : ∀ (k i : Nat) (m : Int × Bool) (s : Nat → Value), i + k = l.length → minV l = (l.drop i).foldl (fun m x => if x.1 < m.1 then x else m) m → s 0 = .slice ad l.length c →
    Sh s 1 [.int .i64 (.ofNat i), .int .i64 (.ofNat 0), .bool false, .int .i64 m.1, .bool m.2] → Ev.Ends (miU R) mitab (miQ R l) 4 s := by
  intro k
  induction k with
  | zero =>
    intro i m s hk hi h0 h
    obtain ⟨h1, h2, h3, h4, h5, -⟩ := h
    rw [List.drop_of_length_le (by omega)] at hi
    have hi : minV l = m := hi
    refine Ends_mk ?_
    show At _ _ _ _ mivt4
    unfold mivt4
    refine at_f ?_ ?_
    · simp only [nA, denS_unk, f_num, f_int, f_bool, mapO, Option.bind_some, n_lss, n_eql, n_eql0, n_add, n_sub, n_len, n_rd, n_ix, n_fd, n_cell, n_over, n_t9, n_t1, h0, h1]
      rw [dl]
      exact congrArg (fun z => some (Value.bool z)) (decide_eq_false (by omega))
    · refine Ends_mk ?_
      show denV _ (miU R) 9 (.agg ⟨[(unk 6 3), (unk 1 4)]⟩) = some (.agg ⟨[.int .i64 (minV l).1, .bool (minV l).2]⟩)
      rw [hi]
      have d1 : ∀ s', s' 3 = .int .i64 m.1 → denV s' (miU R) 8 (unk 6 3) = some (.int .i64 m.1) := fun s' e => by show denS s' _ (unk 6 3) = _; rw [denS_unk, e]
      have d2 : ∀ s', s' 4 = .bool m.2 → denV s' (miU R) 8 (unk 1 4) = some (.bool m.2) := fun s' e => by show denS s' _ (unk 1 4) = _; rw [denS_unk, e]
      unfold denV
      simp only [mapO]
      rw [d1 _ (upd_e rfl (by simp only [nA, denS_unk, f_num, f_int, f_bool, mapO, Option.bind_some, n_lss, n_eql, n_eql0, n_add, n_sub, n_len, n_rd, n_ix, n_fd, n_cell, n_over, n_t9, n_t1, h4])), d2 _ (upd_e rfl (by simp only [nA, denS_unk, f_num, f_int, f_bool, mapO, Option.bind_some, n_lss, n_eql, n_eql0, n_add, n_sub, n_len, n_rd, n_ix, n_fd, n_cell, n_over, n_t9, n_t1, h5]))]
  | succ k ih =>
    intro i m s hk hi h0 h
    obtain ⟨h1, h2, h3, h4, h5, -⟩ := h
    obtain ⟨x, p, q, rfl, D, hv, sp, g1, g2⟩ := lst_at L (i := i) (by omega)
    have few := D.few
    have w := w_add (n := i) (i := 1) (by omega)
    have hdrop : l.drop i = (p, q) :: l.drop (i + 1) := by
      obtain ⟨hl, he⟩ := List.getElem?_eq_some_iff.1 hv
      rw [List.drop_eq_getElem_cons hl, he]
    rw [hdrop, List.foldl_cons] at hi
    have keep : (fun m x => if x.1 < m.1 then x else m) m (p, q) = m → ∀ L', L' = [(1, 6, (sy 6 1 [(num 0), (num 3), (.bool true), (unk 6 1), (.int .i64 (.ofNat 1))])), (3, 1, (unk 1 3)), (2, 6, (unk 6 2)), (5, 1, (unk 1 5)), (4, 6, (unk 6 4))] → Ev.Ends (miU R) mitab (miQ R l) 4 (upd s (miU R) L') := by
      rintro hp L' rfl
      have hi := hi.trans (congrArg (fun z => (l.drop (i + 1)).foldl (fun m x => if x.1 < m.1 then x else m) z) hp)
      refine ih (i + 1) m _ (by omega) hi ((upd_s rfl).trans h0) ⟨upd_e rfl ?_, upd_e rfl ?_, upd_e rfl ?_, upd_e rfl ?_, upd_e rfl ?_, trivial⟩
      · simp only [nA, denS_unk, f_num, f_int, f_bool, mapO, Option.bind_some, n_lss, n_eql, n_eql0, n_add, n_sub, n_len, n_rd, n_ix, n_fd, n_cell, n_over, n_t9, n_t1, h1, w]
      · simp only [nA, denS_unk, f_num, f_int, f_bool, mapO, Option.bind_some, n_lss, n_eql, n_eql0, n_add, n_sub, n_len, n_rd, n_ix, n_fd, n_cell, n_over, n_t9, n_t1, h2]
      · simp only [nA, denS_unk, f_num, f_int, f_bool, mapO, Option.bind_some, n_lss, n_eql, n_eql0, n_add, n_sub, n_len, n_rd, n_ix, n_fd, n_cell, n_over, n_t9, n_t1, h3]
      · simp only [nA, denS_unk, f_num, f_int, f_bool, mapO, Option.bind_some, n_lss, n_eql, n_eql0, n_add, n_sub, n_len, n_rd, n_ix, n_fd, n_cell, n_over, n_t9, n_t1, h4]
      · simp only [nA, denS_unk, f_num, f_int, f_bool, mapO, Option.bind_some, n_lss, n_eql, n_eql0, n_add, n_sub, n_len, n_rd, n_ix, n_fd, n_cell, n_over, n_t9, n_t1, h5]
    have take : (fun m x => if x.1 < m.1 then x else m) m (p, q) = (p, q) → ∀ L', L' = [(1, 6, (sy 6 1 [(num 0), (num 3), (.bool true), (unk 6 1), (.int .i64 (.ofNat 1))])), (3, 1, (unk 1 3)), (2, 6, (unk 6 2)), (5, 1, (sy 1 6 [(sy 0 8 [(sy 0 7 [(num 2), (unk 0 0), (unk 6 1)]), (num 1)])])), (4, 6, (sy 6 6 [(sy 0 8 [(sy 0 7 [(num 2), (unk 0 0), (unk 6 1)]), (num 0)])]))] → Ev.Ends (miU R) mitab (miQ R l) 4 (upd s (miU R) L') := by
      rintro hp L' rfl
      have hi := hi.trans (congrArg (fun z => (l.drop (i + 1)).foldl (fun m x => if x.1 < m.1 then x else m) z) hp)
      refine ih (i + 1) (p, q) _ (by omega) hi ((upd_s rfl).trans h0) ⟨upd_e rfl ?_, upd_e rfl ?_, upd_e rfl ?_, upd_e rfl ?_, upd_e rfl ?_, trivial⟩
      · simp only [nA, denS_unk, f_num, f_int, f_bool, mapO, Option.bind_some, n_lss, n_eql, n_eql0, n_add, n_sub, n_len, n_rd, n_ix, n_fd, n_cell, n_over, n_t9, n_t1, h1, w]
      · simp only [nA, denS_unk, f_num, f_int, f_bool, mapO, Option.bind_some, n_lss, n_eql, n_eql0, n_add, n_sub, n_len, n_rd, n_ix, n_fd, n_cell, n_over, n_t9, n_t1, h2]
      · simp only [nA, denS_unk, f_num, f_int, f_bool, mapO, Option.bind_some, n_lss, n_eql, n_eql0, n_add, n_sub, n_len, n_rd, n_ix, n_fd, n_cell, n_over, n_t9, n_t1, h3]
      · simp only [nA, denS_unk, f_num, f_int, f_bool, mapO, Option.bind_some, n_lss, n_eql, n_eql0, n_add, n_sub, n_len, n_rd, n_ix, n_fd, n_cell, n_over, n_t9, n_t1, h0, h1, g1]
      · simp only [nA, denS_unk, f_num, f_int, f_bool, mapO, Option.bind_some, n_lss, n_eql, n_eql0, n_add, n_sub, n_len, n_rd, n_ix, n_fd, n_cell, n_over, n_t9, n_t1, h0, h1, g2]
    refine Ends_mk ?_
    show At _ _ _ _ mivt4
    unfold mivt4
    refine at_t ?_ (at_t ?_ (at_t ?_ (at_t ?_ (at_node (b := decide (p < m.1)) ?_ (fun hp => ?_) (fun hp => at_node (b := decide (m.1 < p)) ?_ (fun hp2 => ?_) (fun hp2 => ?_))))))
    · simp only [nA, denS_unk, f_num, f_int, f_bool, mapO, Option.bind_some, n_lss, n_eql, n_eql0, n_add, n_sub, n_len, n_rd, n_ix, n_fd, n_cell, n_over, n_t9, n_t1, h0, h1]
      rw [dl]
      exact congrArg (fun z => some (Value.bool z)) (decide_eq_true (by omega))
    · simp only [nA, denS_unk, f_num, f_int, f_bool, mapO, Option.bind_some, n_lss, n_eql, n_eql0, n_add, n_sub, n_len, n_rd, n_ix, n_fd, n_cell, n_over, n_t9, n_t1, h0, h1]
      rw [bl (by omega)]
    · simp only [nA, denS_unk, f_num, f_int, f_bool, mapO, Option.bind_some, n_lss, n_eql, n_eql0, n_add, n_sub, n_len, n_rd, n_ix, n_fd, n_cell, n_over, n_t9, n_t1, h0, h1, g1, h4, BEq.rfl]
    · simp only [nA, denS_unk, f_num, f_int, f_bool, mapO, Option.bind_some, n_lss, n_eql, n_eql0, n_add, n_sub, n_len, n_rd, n_ix, n_fd, n_cell, n_over, n_t9, n_t1, h0, h1, g1, h4, BEq.rfl]
    · simp only [nA, denS_unk, f_num, f_int, f_bool, mapO, Option.bind_some, n_lss, n_eql, n_eql0, n_add, n_sub, n_len, n_rd, n_ix, n_fd, n_cell, n_over, n_t9, n_t1, h0, h1, g1, h4]
    · have hp := of_decide_eq_true hp
      first
        | exact take (by show (if _ then _ else _) = _; rw [if_pos (by first | exact hp | omega)]) _ rfl
        | exact keep (by show (if _ then _ else _) = _; rw [if_neg (by first | exact hp | omega)]) _ rfl
    · simp only [nA, denS_unk, f_num, f_int, f_bool, mapO, Option.bind_some, n_lss, n_eql, n_eql0, n_add, n_sub, n_len, n_rd, n_ix, n_fd, n_cell, n_over, n_t9, n_t1, h0, h1, g1, h4]
    · have hp := of_decide_eq_false hp
      have hp2 := of_decide_eq_true hp2
      first
        | exact take (by show (if _ then _ else _) = _; rw [if_pos (by omega)]) _ rfl
        | exact keep (by show (if _ then _ else _) = _; rw [if_neg (by omega)]) _ rfl
    · have hp := of_decide_eq_false hp
      have hp2 := of_decide_eq_false hp2
      exact keep (by show (if _ then _ else _) = _; rw [if_neg (by omega)]) _ rfl
theorem mi0 {s : Nat → Value} (hne : 0 < l.length) (h0 : s 0 = .slice ad l.length c) : Ev.Ends (miU R) mitab (miQ R l) 0 s := by
  obtain ⟨x, p, q, rfl, D, hv, sp, g1, g2⟩ := lst_at L (i := 0) hne
  refine Ends_mk ?_
  show Ev.Ends (miU R) mitab (miQ R l) 1 s
  refine Ends_mk ?_
  show At _ _ _ _ mivt1
  unfold mivt1
  refine at_f ?_ ?_
  · simp only [nA, denS_unk, f_num, f_int, f_bool, mapO, Option.bind_some, n_lss, n_eql, n_eql0, n_add, n_sub, n_len, n_rd, n_ix, n_fd, n_cell, n_over, n_t9, n_t1, h0]
    exact congrArg (fun z => some (Value.bool z)) (decide_eq_false (by show ¬ ((l.length : Nat) : Int) < 1; omega))
  refine Ends_mk ?_
  show At _ _ _ _ mivt2
  unfold mivt2
  refine at_t ?_ ?_
  · simp only [nA, denS_unk, f_num, f_int, f_bool, mapO, Option.bind_some, n_lss, n_eql, n_eql0, n_add, n_sub, n_len, n_rd, n_ix, n_fd, n_cell, n_over, n_t9, n_t1, h0, upd_nil]
    rw [bl hne]
  refine Ends_mk ?_
  show Ev.Ends (miU R) mitab (miQ R l) 4 _
  refine mi4 L (l.length - 1) 1 (p, q) _ (by omega) ?_ ((upd_s rfl).trans h0) ⟨upd_e rfl ?_, upd_e rfl ?_, upd_e rfl ?_, upd_e rfl ?_, upd_e rfl ?_, trivial⟩
  · cases l with
    | nil => cases hne
    | cons v t =>
      injection hv with hv
      subst hv
      rfl
  · exact denS_flat rfl
  · exact denS_flat rfl
  · exact denS_flat rfl
  · simp only [nA, denS_unk, f_num, f_int, f_bool, mapO, Option.bind_some, n_lss, n_eql, n_eql0, n_add, n_sub, n_len, n_rd, n_ix, n_fd, n_cell, n_over, n_t9, n_t1, h0, upd_nil, g1]
  · simp only [nA, denS_unk, f_num, f_int, f_bool, mapO, Option.bind_some, n_lss, n_eql, n_eql0, n_add, n_sub, n_len, n_rd, n_ix, n_fd, n_cell, n_over, n_t9, n_t1, h0, upd_nil, g2]
end
theorem mi_sw : ∀ (l : Vs) (m : Int × Bool), SW m.1 → (∀ v, v ∈ l → SW v.1) → SW (l.foldl (fun m x => if x.1 < m.1 then x else m) m).1
  | [], m, h, _ => h
  | v :: l, m, h, hl => by
    rw [List.foldl_cons]
    refine mi_sw l _ ?_ (fun u hu => hl u (List.mem_cons_of_mem _ hu))
    show SW (if _ then _ else _ : Int × Bool).1
    split
    · exact hl v List.mem_cons_self
    · exact h
theorem mi_is : FnIsN Tryz.prog [] bwU 29 miargs [0] [([6, 1], true)] 4 :=
  fn_of_ts_n (fun _ => ext_nil _ _ _ _) bw_mixed mi_flat (pls := mipls) rfl mi_checked fun w args' vals hin hne => by
    match args', hin with
    | [v0, v1], ⟨a, b, hv, h0, e, g, he, h1, hd⟩ =>
      obtain rfl : g = [] := hd
      obtain ⟨ad, l, c, rfl, L, rfl⟩ := in_vals h0
      obtain ⟨rfl, -, rfl⟩ := h1
      subst he
      subst hv
      obtain ⟨ad', n', c', e0, hn⟩ := hne 0 (List.mem_singleton.2 rfl)
      have e0 : Value.slice ad l.length c = .slice ad' n' c' := e0
      injection e0 with _ e0 _
      subst e0
      have hsw : ∀ v, v ∈ l → SW v.1 := by
        cases ad with
        | none => have : l = [] := L; rw [this] at hn; cases hn
        | some x => exact (show Dat _ x l from L).sw
      have hv : SW (minV l).1 := by
        cases l with
        | nil => cases hn
        | cons v t => exact mi_sw t v (hsw v List.mem_cons_self) (fun u hu => hsw u (List.mem_cons_of_mem _ hu))
      refine ⟨[.int .i64 (minV l).1, .bool (minV l).2], ⟨rfl, ?_⟩, mi0 (s := startS miargs [.slice ad l.length c, .func (.func 30) ⟨[]⟩ ⟨[]⟩]) L hn rfl⟩
      intro i k v hk hvv
      match i with
      | 0 => injection hk with hk; injection hvv with hvv; subst hk; subst hvv; exact ⟨i64_ty hv, by show some (Value.int .i64 (minV (dec (cv l))).1) = _; rw [dec_cv]⟩
      | 1 => injection hk with hk; injection hvv with hvv; subst hk; subst hvv; exact ⟨rfl, by show some (Value.bool (minV (dec (cv l))).2) = _; rw [dec_cv]⟩
      | i + 2 => cases hk
noncomputable abbrev maU (R : Addr → Option Value) : Nat → List Value → Option Value := uRd (cxOf Tryz.prog [] [] [] (maOrc []) [] bwU) R
noncomputable def maQ (R : Addr → Option Value) (l : Vs) : (Nat → Value) → List Value → List (Nat × AObj) → Prop := fun s vs _ => denV s (maU R) 9 (oneA vs) = some (oneA (outV [([6, 1], true)] [.int .i64 (maxV l).1, .bool (maxV l).2]))
section
variable {R : Addr → Option Value} {ad : Option Addr} {l : Vs} {c : Nat} (L : LstV R ad l)
include L
theorem ma4 : ∀ (k i : Nat) (m : Int × Bool) (s : Nat → Value), i + k = l.length → maxV l = (l.drop i).foldl (fun m x => if m.1 < x.1 then x else m) m → s 0 = .slice ad l.length c →
    Sh s 1 [.int .i64 (.ofNat i), .int .i64 (.ofNat 0), .bool false, .int .i64 m.1, .bool m.2] → Ev.Ends (maU R) matab (maQ R l) 4 s := by
  intro k
  induction k with
  | zero =>
    intro i m s hk hi h0 h
    obtain ⟨h1, h2, h3, h4, h5, -⟩ := h
    rw [List.drop_of_length_le (by omega)] at hi
    have hi : maxV l = m := hi
    refine Ends_mk ?_
    show At _ _ _ _ mavt4
    unfold mavt4
    refine at_f ?_ ?_
    · simp only [nA, denS_unk, f_num, f_int, f_bool, mapO, Option.bind_some, n_lss, n_eql, n_eql0, n_add, n_sub, n_len, n_rd, n_ix, n_fd, n_cell, n_over, n_t9, n_t1, h0, h1]
      rw [dl]
      exact congrArg (fun z => some (Value.bool z)) (decide_eq_false (by omega))
    · refine Ends_mk ?_
      show denV _ (maU R) 9 (.agg ⟨[(unk 6 3), (unk 1 4)]⟩) = some (.agg ⟨[.int .i64 (maxV l).1, .bool (maxV l).2]⟩)
      rw [hi]
      have d1 : ∀ s', s' 3 = .int .i64 m.1 → denV s' (maU R) 8 (unk 6 3) = some (.int .i64 m.1) := fun s' e => by show denS s' _ (unk 6 3) = _; rw [denS_unk, e]
      have d2 : ∀ s', s' 4 = .bool m.2 → denV s' (maU R) 8 (unk 1 4) = some (.bool m.2) := fun s' e => by show denS s' _ (unk 1 4) = _; rw [denS_unk, e]
      unfold denV
      simp only [mapO]
      rw [d1 _ (upd_e rfl (by simp only [nA, denS_unk, f_num, f_int, f_bool, mapO, Option.bind_some, n_lss, n_eql, n_eql0, n_add, n_sub, n_len, n_rd, n_ix, n_fd, n_cell, n_over, n_t9, n_t1, h4])), d2 _ (upd_e rfl (by simp only [nA, denS_unk, f_num, f_int, f_bool, mapO, Option.bind_some, n_lss, n_eql, n_eql0, n_add, n_sub, n_len, n_rd, n_ix, n_fd, n_cell, n_over, n_t9, n_t1, h5]))]
  | succ k ih =>
    intro i m s hk hi h0 h
    obtain ⟨h1, h2, h3, h4, h5, -⟩ := h
    obtain ⟨x, p, q, rfl, D, hv, sp, g1, g2⟩ := lst_at L (i := i) (by omega)
    have few := D.few
    have w := w_add (n := i) (i := 1) (by omega)
    have hdrop : l.drop i = (p, q) :: l.drop (i + 1) := by
      obtain ⟨hl, he⟩ := List.getElem?_eq_some_iff.1 hv
      rw [List.drop_eq_getElem_cons hl, he]
    rw [hdrop, List.foldl_cons] at hi
    have keep : (fun m x => if m.1 < x.1 then x else m) m (p, q) = m → ∀ L', L' = [(1, 6, (sy 6 1 [(num 0), (num 3), (.bool true), (unk 6 1), (.int .i64 (.ofNat 1))])), (3, 1, (unk 1 3)), (2, 6, (unk 6 2)), (5, 1, (unk 1 5)), (4, 6, (unk 6 4))] → Ev.Ends (maU R) matab (maQ R l) 4 (upd s (maU R) L') := by
      rintro hp L' rfl
      have hi := hi.trans (congrArg (fun z => (l.drop (i + 1)).foldl (fun m x => if m.1 < x.1 then x else m) z) hp)
      refine ih (i + 1) m _ (by omega) hi ((upd_s rfl).trans h0) ⟨upd_e rfl ?_, upd_e rfl ?_, upd_e rfl ?_, upd_e rfl ?_, upd_e rfl ?_, trivial⟩
      · simp only [nA, denS_unk, f_num, f_int, f_bool, mapO, Option.bind_some, n_lss, n_eql, n_eql0, n_add, n_sub, n_len, n_rd, n_ix, n_fd, n_cell, n_over, n_t9, n_t1, h1, w]
      · simp only [nA, denS_unk, f_num, f_int, f_bool, mapO, Option.bind_some, n_lss, n_eql, n_eql0, n_add, n_sub, n_len, n_rd, n_ix, n_fd, n_cell, n_over, n_t9, n_t1, h2]
      · simp only [nA, denS_unk, f_num, f_int, f_bool, mapO, Option.bind_some, n_lss, n_eql, n_eql0, n_add, n_sub, n_len, n_rd, n_ix, n_fd, n_cell, n_over, n_t9, n_t1, h3]
      · simp only [nA, denS_unk, f_num, f_int, f_bool, mapO, Option.bind_some, n_lss, n_eql, n_eql0, n_add, n_sub, n_len, n_rd, n_ix, n_fd, n_cell, n_over, n_t9, n_t1, h4]
      · simp only [nA, denS_unk, f_num, f_int, f_bool, mapO, Option.bind_some, n_lss, n_eql, n_eql0, n_add, n_sub, n_len, n_rd, n_ix, n_fd, n_cell, n_over, n_t9, n_t1, h5]
    have take : (fun m x => if m.1 < x.1 then x else m) m (p, q) = (p, q) → ∀ L', L' = [(1, 6, (sy 6 1 [(num 0), (num 3), (.bool true), (unk 6 1), (.int .i64 (.ofNat 1))])), (3, 1, (unk 1 3)), (2, 6, (unk 6 2)), (5, 1, (sy 1 6 [(sy 0 8 [(sy 0 7 [(num 2), (unk 0 0), (unk 6 1)]), (num 1)])])), (4, 6, (sy 6 6 [(sy 0 8 [(sy 0 7 [(num 2), (unk 0 0), (unk 6 1)]), (num 0)])]))] → Ev.Ends (maU R) matab (maQ R l) 4 (upd s (maU R) L') := by
      rintro hp L' rfl
      have hi := hi.trans (congrArg (fun z => (l.drop (i + 1)).foldl (fun m x => if m.1 < x.1 then x else m) z) hp)
      refine ih (i + 1) (p, q) _ (by omega) hi ((upd_s rfl).trans h0) ⟨upd_e rfl ?_, upd_e rfl ?_, upd_e rfl ?_, upd_e rfl ?_, upd_e rfl ?_, trivial⟩
      · simp only [nA, denS_unk, f_num, f_int, f_bool, mapO, Option.bind_some, n_lss, n_eql, n_eql0, n_add, n_sub, n_len, n_rd, n_ix, n_fd, n_cell, n_over, n_t9, n_t1, h1, w]
      · simp only [nA, denS_unk, f_num, f_int, f_bool, mapO, Option.bind_some, n_lss, n_eql, n_eql0, n_add, n_sub, n_len, n_rd, n_ix, n_fd, n_cell, n_over, n_t9, n_t1, h2]
      · simp only [nA, denS_unk, f_num, f_int, f_bool, mapO, Option.bind_some, n_lss, n_eql, n_eql0, n_add, n_sub, n_len, n_rd, n_ix, n_fd, n_cell, n_over, n_t9, n_t1, h3]
      · simp only [nA, denS_unk, f_num, f_int, f_bool, mapO, Option.bind_some, n_lss, n_eql, n_eql0, n_add, n_sub, n_len, n_rd, n_ix, n_fd, n_cell, n_over, n_t9, n_t1, h0, h1, g1]
      · simp only [nA, denS_unk, f_num, f_int, f_bool, mapO, Option.bind_some, n_lss, n_eql, n_eql0, n_add, n_sub, n_len, n_rd, n_ix, n_fd, n_cell, n_over, n_t9, n_t1, h0, h1, g2]
    refine Ends_mk ?_
    show At _ _ _ _ mavt4
    unfold mavt4
    refine at_t ?_ (at_t ?_ (at_t ?_ (at_t ?_ (at_node (b := decide (p < m.1)) ?_ (fun hp => ?_) (fun hp => at_node (b := decide (m.1 < p)) ?_ (fun hp2 => ?_) (fun hp2 => ?_))))))
    · simp only [nA, denS_unk, f_num, f_int, f_bool, mapO, Option.bind_some, n_lss, n_eql, n_eql0, n_add, n_sub, n_len, n_rd, n_ix, n_fd, n_cell, n_over, n_t9, n_t1, h0, h1]
      rw [dl]
      exact congrArg (fun z => some (Value.bool z)) (decide_eq_true (by omega))
    · simp only [nA, denS_unk, f_num, f_int, f_bool, mapO, Option.bind_some, n_lss, n_eql, n_eql0, n_add, n_sub, n_len, n_rd, n_ix, n_fd, n_cell, n_over, n_t9, n_t1, h0, h1]
      rw [bl (by omega)]
    · simp only [nA, denS_unk, f_num, f_int, f_bool, mapO, Option.bind_some, n_lss, n_eql, n_eql0, n_add, n_sub, n_len, n_rd, n_ix, n_fd, n_cell, n_over, n_t9, n_t1, h0, h1, g1, h4, BEq.rfl]
    · simp only [nA, denS_unk, f_num, f_int, f_bool, mapO, Option.bind_some, n_lss, n_eql, n_eql0, n_add, n_sub, n_len, n_rd, n_ix, n_fd, n_cell, n_over, n_t9, n_t1, h0, h1, g1, h4, BEq.rfl]
    · simp only [nA, denS_unk, f_num, f_int, f_bool, mapO, Option.bind_some, n_lss, n_eql, n_eql0, n_add, n_sub, n_len, n_rd, n_ix, n_fd, n_cell, n_over, n_t9, n_t1, h0, h1, g1, h4]
    · have hp := of_decide_eq_true hp
      first
        | exact take (by show (if _ then _ else _) = _; rw [if_pos (by first | exact hp | omega)]) _ rfl
        | exact keep (by show (if _ then _ else _) = _; rw [if_neg (by first | exact hp | omega)]) _ rfl
    · simp only [nA, denS_unk, f_num, f_int, f_bool, mapO, Option.bind_some, n_lss, n_eql, n_eql0, n_add, n_sub, n_len, n_rd, n_ix, n_fd, n_cell, n_over, n_t9, n_t1, h0, h1, g1, h4]
    · have hp := of_decide_eq_false hp
      have hp2 := of_decide_eq_true hp2
      first
        | exact take (by show (if _ then _ else _) = _; rw [if_pos (by omega)]) _ rfl
        | exact keep (by show (if _ then _ else _) = _; rw [if_neg (by omega)]) _ rfl
    · have hp := of_decide_eq_false hp
      have hp2 := of_decide_eq_false hp2
      exact keep (by show (if _ then _ else _) = _; rw [if_neg (by omega)]) _ rfl
theorem ma0 {s : Nat → Value} (hne : 0 < l.length) (h0 : s 0 = .slice ad l.length c) : Ev.Ends (maU R) matab (maQ R l) 0 s := by
  obtain ⟨x, p, q, rfl, D, hv, sp, g1, g2⟩ := lst_at L (i := 0) hne
  refine Ends_mk ?_
  show Ev.Ends (maU R) matab (maQ R l) 1 s
  refine Ends_mk ?_
  show At _ _ _ _ mavt1
  unfold mavt1
  refine at_f ?_ ?_
  · simp only [nA, denS_unk, f_num, f_int, f_bool, mapO, Option.bind_some, n_lss, n_eql, n_eql0, n_add, n_sub, n_len, n_rd, n_ix, n_fd, n_cell, n_over, n_t9, n_t1, h0]
    exact congrArg (fun z => some (Value.bool z)) (decide_eq_false (by show ¬ ((l.length : Nat) : Int) < 1; omega))
  refine Ends_mk ?_
  show At _ _ _ _ mavt2
  unfold mavt2
  refine at_t ?_ ?_
  · simp only [nA, denS_unk, f_num, f_int, f_bool, mapO, Option.bind_some, n_lss, n_eql, n_eql0, n_add, n_sub, n_len, n_rd, n_ix, n_fd, n_cell, n_over, n_t9, n_t1, h0, upd_nil]
    rw [bl hne]
  refine Ends_mk ?_
  show Ev.Ends (maU R) matab (maQ R l) 4 _
  refine ma4 L (l.length - 1) 1 (p, q) _ (by omega) ?_ ((upd_s rfl).trans h0) ⟨upd_e rfl ?_, upd_e rfl ?_, upd_e rfl ?_, upd_e rfl ?_, upd_e rfl ?_, trivial⟩
  · cases l with
    | nil => cases hne
    | cons v t =>
      injection hv with hv
      subst hv
      rfl
  · exact denS_flat rfl
  · exact denS_flat rfl
  · exact denS_flat rfl
  · simp only [nA, denS_unk, f_num, f_int, f_bool, mapO, Option.bind_some, n_lss, n_eql, n_eql0, n_add, n_sub, n_len, n_rd, n_ix, n_fd, n_cell, n_over, n_t9, n_t1, h0, upd_nil, g1]
  · simp only [nA, denS_unk, f_num, f_int, f_bool, mapO, Option.bind_some, n_lss, n_eql, n_eql0, n_add, n_sub, n_len, n_rd, n_ix, n_fd, n_cell, n_over, n_t9, n_t1, h0, upd_nil, g2]
end
theorem ma_sw : ∀ (l : Vs) (m : Int × Bool), SW m.1 → (∀ v, v ∈ l → SW v.1) → SW (l.foldl (fun m x => if m.1 < x.1 then x else m) m).1
  | [], m, h, _ => h
  | v :: l, m, h, hl => by
    rw [List.foldl_cons]
    refine ma_sw l _ ?_ (fun u hu => hl u (List.mem_cons_of_mem _ hu))
    show SW (if _ then _ else _ : Int × Bool).1
    split
    · exact hl v List.mem_cons_self
    · exact h
theorem ma_is : FnIsN Tryz.prog [] bwU 31 maargs [0] [([6, 1], true)] 6 :=
  fn_of_ts_n (fun _ => ext_nil _ _ _ _) bw_mixed ma_flat (pls := mapls) rfl ma_checked fun w args' vals hin hne => by
    match args', hin with
    | [v0, v1], ⟨a, b, hv, h0, e, g, he, h1, hd⟩ =>
      obtain rfl : g = [] := hd
      obtain ⟨ad, l, c, rfl, L, rfl⟩ := in_vals h0
      obtain ⟨rfl, -, rfl⟩ := h1
      subst he
      subst hv
      obtain ⟨ad', n', c', e0, hn⟩ := hne 0 (List.mem_singleton.2 rfl)
      have e0 : Value.slice ad l.length c = .slice ad' n' c' := e0
      injection e0 with _ e0 _
      subst e0
      have hsw : ∀ v, v ∈ l → SW v.1 := by
        cases ad with
        | none => have : l = [] := L; rw [this] at hn; cases hn
        | some x => exact (show Dat _ x l from L).sw
      have hv : SW (maxV l).1 := by
        cases l with
        | nil => cases hn
        | cons v t => exact ma_sw t v (hsw v List.mem_cons_self) (fun u hu => hsw u (List.mem_cons_of_mem _ hu))
      refine ⟨[.int .i64 (maxV l).1, .bool (maxV l).2], ⟨rfl, ?_⟩, ma0 (s := startS maargs [.slice ad l.length c, .func (.func 30) ⟨[]⟩ ⟨[]⟩]) L hn rfl⟩
      intro i k v hk hvv
      match i with
      | 0 => injection hk with hk; injection hvv with hvv; subst hk; subst hvv; exact ⟨i64_ty hv, by show some (Value.int .i64 (maxV (dec (cv l))).1) = _; rw [dec_cv]⟩
      | 1 => injection hk with hk; injection hvv with hvv; subst hk; subst hvv; exact ⟨rfl, by show some (Value.bool (maxV (dec (cv l))).2) = _; rw [dec_cv]⟩
      | i + 2 => cases hk
end
section
open Go Go.RowKit Ev
section
variable {R : Addr → Option Value} {o : List (FuncId × OrcF)}
theorem p_tak0 (S O n : Int) (b : Bool) (h : SW n) : uRd (cxOf Tryz.prog [] [] [] o [] bwU) R 27 [.int .i64 (gH S), .int .u64 (gL S), .int .u64 (gL O), .int .i64 n, .bool b] = some (.int .i64 (gH (S - vN (n, b)))) := by rw [n_U 11, ← take_h S n b h]; rfl
theorem p_tak1 (S O n : Int) (b : Bool) (h : SW n) : uRd (cxOf Tryz.prog [] [] [] o [] bwU) R 28 [.int .i64 (gH S), .int .u64 (gL S), .int .u64 (gL O), .int .i64 n, .bool b] = some (.int .u64 (gL (S - vN (n, b)))) := by rw [n_U 12, ← take_l S n b h]; rfl
theorem p_tak2 (S O n : Int) (b : Bool) : uRd (cxOf Tryz.prog [] [] [] o [] bwU) R 29 [.int .i64 (gH S), .int .u64 (gL S), .int .u64 (gL O), .int .i64 n, .bool b] = some (.int .u64 (gL (O - oo b))) := by rw [n_U 13, ← take_o O b]; rfl
theorem p_over (l : Vs) : uRd (cxOf Tryz.prog [] [] [] o [] bwU) R 19 [.agg ⟨cv l⟩] = some (.bool (anyOver l)) := by
  rw [n_U 3]
  show some (Value.bool (anyOver (dec (cv l)))) = _
  rw [dec_cv]
end
noncomputable abbrev icU (R : Addr → Option Value) : Nat → List Value → Option Value := uRd (cxOf Tryz.prog [] [] [] (icOrc []) [] bwU) R
noncomputable def icQ (R : Addr → Option Value) (l : Vs) : (Nat → Value) → List Value → List (Nat × AObj) → Prop := fun s vs _ => denV s (icU R) 9 (oneA vs) = some (oneA (outV [([6, 1], true)] [.int .i64 (icV l).1, .bool (icV l).2]))
section
variable {R : Addr → Option Value} {ad : Option Addr} {l : Vs} {c : Nat} (L : LstV R ad l)
include L
theorem ic4 {s : Nat → Value} (h0 : s 0 = .slice ad l.length c) (h : Sh s 1 [.int .i64 (.ofNat 0), .bool false, .int .i64 (gH (incS l l.length)), .int .u64 (gL (incS l l.length)), .int .u64 (gL (incO l l.length))]) : Ev.Ends (icU R) ictab (icQ R l) 4 s := by
  obtain ⟨h1, h2, h3, h4, h5, -⟩ := h
  have hc := n_cont (cx := cxOf Tryz.prog [] [] [] (icOrc []) [] bwU) (c := c) L
  refine Ends_mk ?_
  show At _ _ _ _ icvt4
  unfold icvt4
  refine at_node (b := anyOver l) ?_ (fun ho => ?_) (fun ho => ?_)
  · simp only [nA, denS_unk, f_num, f_int, f_bool, mapO, Option.bind_some, n_lss, n_eql, n_eql0, n_add, n_sub, n_len, n_rd, n_ix, n_fd, n_cell, n_over, n_t9, n_t1, h0, hc, p_over]
  · show denV s (icU R) 9 (.agg ⟨[.int .i64 (.ofNat 0), .bool true]⟩) = some (.agg ⟨[.int .i64 (icV l).1, .bool (icV l).2]⟩)
    have e : icV l = (0, true) := by unfold icV; rw [if_pos ho]
    rw [e]
    have d1 : denV s (icU R) 8 (.int .i64 (.ofNat 0)) = some (.int .i64 (.ofNat 0)) := denS_flat rfl
    have d2 : denV s (icU R) 8 (.bool true) = some (.bool true) := denS_flat rfl
    unfold denV
    simp only [mapO, d1, d2]
    rfl
  · show denV s (icU R) 9 (.agg ⟨[(sy 6 31 [(unk 6 3), (unk 10 4), (unk 10 5)]), (sy 1 32 [(unk 6 3), (unk 10 4), (unk 10 5)])]⟩) = some (.agg ⟨[.int .i64 (icV l).1, .bool (icV l).2]⟩)
    have e : icV l = (outN (gH (incS l l.length) * 18446744073709551616 + gL (incS l l.length)) (gL (incO l l.length)), outB (gH (incS l l.length) * 18446744073709551616 + gL (incS l l.length)) (gL (incO l l.length))) := by unfold icV; rw [if_neg (by rw [ho]; simp)]
    rw [e]
    have e1 : denS s (icU R) (sy 6 31 [(unk 6 3), (unk 10 4), (unk 10 5)]) = some (.int .i64 (outN (gH (incS l l.length) * 18446744073709551616 + gL (incS l l.length)) (gL (incO l l.length)))) := by
      simp only [nA, denS_unk, f_num, f_int, f_bool, mapO, Option.bind_some, n_lss, n_eql, n_eql0, n_add, n_sub, n_len, n_rd, n_ix, n_fd, n_cell, n_over, n_t9, n_t1, h3, h4, h5, p_val0]
    have e2 : denS s (icU R) (sy 1 32 [(unk 6 3), (unk 10 4), (unk 10 5)]) = some (.bool (outB (gH (incS l l.length) * 18446744073709551616 + gL (incS l l.length)) (gL (incO l l.length)))) := by
      simp only [nA, denS_unk, f_num, f_int, f_bool, mapO, Option.bind_some, n_lss, n_eql, n_eql0, n_add, n_sub, n_len, n_rd, n_ix, n_fd, n_cell, n_over, n_t9, n_t1, h3, h4, h5, p_val1]
    have d1 : denV s (icU R) 8 (sy 6 31 [(unk 6 3), (unk 10 4), (unk 10 5)]) = _ := e1
    have d2 : denV s (icU R) 8 (sy 1 32 [(unk 6 3), (unk 10 4), (unk 10 5)]) = _ := e2
    unfold denV
    simp only [mapO, d1, d2]
theorem ic3 : ∀ (k j : Nat) (s : Nat → Value), j + 1 + k = max 1 l.length → s 0 = .slice ad l.length c →
    Sh s 1 [.int .i64 (.ofNat (j + 1)), .int .i64 (.ofNat 0), .bool false, .int .i64 (gH (incS l (j + 1))), .int .u64 (gL (incS l (j + 1))), .int .u64 (gL (incO l (j + 1)))] → Ev.Ends (icU R) ictab (icQ R l) 3 s := by
  intro k
  induction k with
  | zero =>
    intro j s hk h0 h
    obtain ⟨h1, h2, h3, h4, h5, h6, -⟩ := h
    have e1 : incS l (j + 1) = incS l l.length ∧ incO l (j + 1) = incO l l.length := by
      by_cases hz : l.length = 0
      · have : j = 0 := by omega
        subst this
        rw [hz]
        exact ⟨rfl, rfl⟩
      · have : j + 1 = l.length := by omega
        rw [this]
        exact ⟨rfl, rfl⟩
    rw [e1.1] at h4 h5
    rw [e1.2] at h6
    refine Ends_mk ?_
    show At _ _ _ _ icvt3
    unfold icvt3
    refine at_f ?_ (ic4 L ((upd_s rfl).trans h0) ⟨upd_e rfl ?_, upd_e rfl ?_, upd_e rfl ?_, upd_e rfl ?_, upd_e rfl ?_, trivial⟩)
    · simp only [nA, denS_unk, f_num, f_int, f_bool, mapO, Option.bind_some, n_lss, n_eql, n_eql0, n_add, n_sub, n_len, n_rd, n_ix, n_fd, n_cell, n_over, n_t9, n_t1, h0, h1]
      rw [dl]
      exact congrArg (fun z => some (Value.bool z)) (decide_eq_false (by omega))
    · simp only [nA, denS_unk, f_num, f_int, f_bool, mapO, Option.bind_some, n_lss, n_eql, n_eql0, n_add, n_sub, n_len, n_rd, n_ix, n_fd, n_cell, n_over, n_t9, n_t1, h2]
    · simp only [nA, denS_unk, f_num, f_int, f_bool, mapO, Option.bind_some, n_lss, n_eql, n_eql0, n_add, n_sub, n_len, n_rd, n_ix, n_fd, n_cell, n_over, n_t9, n_t1, h3]
    · simp only [nA, denS_unk, f_num, f_int, f_bool, mapO, Option.bind_some, n_lss, n_eql, n_eql0, n_add, n_sub, n_len, n_rd, n_ix, n_fd, n_cell, n_over, n_t9, n_t1, h4]
    · simp only [nA, denS_unk, f_num, f_int, f_bool, mapO, Option.bind_some, n_lss, n_eql, n_eql0, n_add, n_sub, n_len, n_rd, n_ix, n_fd, n_cell, n_over, n_t9, n_t1, h5]
    · simp only [nA, denS_unk, f_num, f_int, f_bool, mapO, Option.bind_some, n_lss, n_eql, n_eql0, n_add, n_sub, n_len, n_rd, n_ix, n_fd, n_cell, n_over, n_t9, n_t1, h6]
  | succ k ih =>
    intro j s hk h0 h
    obtain ⟨h1, h2, h3, h4, h5, h6, -⟩ := h
    have hj : j + 1 < l.length := by omega
    obtain ⟨x, p, q, rfl, D, hv, sp, g1, g2⟩ := lst_at L (i := j + 1) hj
    obtain ⟨x', p', q', hx, D', hv', sp', g1', g2'⟩ := lst_at L (i := j) (by omega)
    injection hx with hx
    subst hx
    have few := D.few
    have w := w_add (n := j + 1) (i := 1) (by omega)
    have w2 : wrapA .i64 (Int.ofNat (j + 1) - Int.ofNat 1) = Int.ofNat j := by
      rw [w_sub (by omega) (by omega)]
      rfl
    have f1 : R (((x.add ((j + 1) * 2)).add 0).add 0) = some (.int .i64 p) := by rw [Deep.add_add]; exact g1
    have f1' : R (((x.add (j * 2)).add 0).add 0) = some (.int .i64 p') := by rw [Deep.add_add]; exact g1'
    have eS : incS l (j + 2) = incS l (j + 1) + dS (p', q') (p, q) := by
      show incS l (j + 1) + dS (l.getD j (0, false)) (l.getD (j + 1) (0, false)) = _
      rw [List.getD_eq_getElem?_getD, List.getD_eq_getElem?_getD, hv, hv']
      rfl
    have eO : incO l (j + 2) = incO l (j + 1) + dO (p', q') (p, q) := by
      show incO l (j + 1) + dO (l.getD j (0, false)) (l.getD (j + 1) (0, false)) = _
      rw [List.getD_eq_getElem?_getD, List.getD_eq_getElem?_getD, hv, hv']
      rfl
    refine Ends_mk ?_
    show At _ _ _ _ icvt3
    unfold icvt3
    refine at_t ?_ (at_t ?_ (at_t ?_ (at_node (b := decide (p < p')) ?_ (fun hp => ?_) (fun hp => ?_))))
    · simp only [nA, denS_unk, f_num, f_int, f_bool, mapO, Option.bind_some, n_lss, n_eql, n_eql0, n_add, n_sub, n_len, n_rd, n_ix, n_fd, n_cell, n_over, n_t9, n_t1, h0, h1]
      rw [dl]
      exact congrArg (fun z => some (Value.bool z)) (decide_eq_true hj)
    · simp only [nA, denS_unk, f_num, f_int, f_bool, mapO, Option.bind_some, n_lss, n_eql, n_eql0, n_add, n_sub, n_len, n_rd, n_ix, n_fd, n_cell, n_over, n_t9, n_t1, h0, h1]
      rw [bl hj]
    · simp only [nA, denS_unk, f_num, f_int, f_bool, mapO, Option.bind_some, n_lss, n_eql, n_eql0, n_add, n_sub, n_len, n_rd, n_ix, n_fd, n_cell, n_over, n_t9, n_t1, h0, h1, w2]
      rw [bl (by omega)]
    · simp only [nA, denS_unk, f_num, f_int, f_bool, mapO, Option.bind_some, n_lss, n_eql, n_eql0, n_add, n_sub, n_len, n_rd, n_ix, n_fd, n_cell, n_over, n_t9, n_t1, h0, h1, w2, f1, f1']
    · have hp := of_decide_eq_true hp
      have s1 : incS l (j + 1 + 1) = incS l (j + 1) + vN (p, q) := by
        rw [eS]; unfold dS; rw [if_neg (by show ¬ p' ≤ p; omega)]; omega
      have s2 : incO l (j + 1 + 1) = incO l (j + 1) + oo q := by
        rw [eO]; unfold dO; rw [if_neg (by show ¬ p' ≤ p; omega)]; show _ + (oo q - 0) = _; omega
      refine ih (j + 1) _ (by omega) ((upd_s rfl).trans h0) ⟨upd_e rfl ?_, upd_e rfl ?_, upd_e rfl ?_, upd_e rfl ?_, upd_e rfl ?_, upd_e rfl ?_, trivial⟩
      · simp only [nA, denS_unk, f_num, f_int, f_bool, mapO, Option.bind_some, n_lss, n_eql, n_eql0, n_add, n_sub, n_len, n_rd, n_ix, n_fd, n_cell, n_over, n_t9, n_t1, h1, w]
      · simp only [nA, denS_unk, f_num, f_int, f_bool, mapO, Option.bind_some, n_lss, n_eql, n_eql0, n_add, n_sub, n_len, n_rd, n_ix, n_fd, n_cell, n_over, n_t9, n_t1, h2]
      · simp only [nA, denS_unk, f_num, f_int, f_bool, mapO, Option.bind_some, n_lss, n_eql, n_eql0, n_add, n_sub, n_len, n_rd, n_ix, n_fd, n_cell, n_over, n_t9, n_t1, h3]
      · simp only [nA, denS_unk, f_num, f_int, f_bool, mapO, Option.bind_some, n_lss, n_eql, n_eql0, n_add, n_sub, n_len, n_rd, n_ix, n_fd, n_cell, n_over, n_t9, n_t1, h0, h1, h4, h5, h6, g1, g2, p_put0, sp]
        rw [s1]
      · simp only [nA, denS_unk, f_num, f_int, f_bool, mapO, Option.bind_some, n_lss, n_eql, n_eql0, n_add, n_sub, n_len, n_rd, n_ix, n_fd, n_cell, n_over, n_t9, n_t1, h0, h1, h4, h5, h6, g1, g2, p_put1, sp]
        rw [s1]
      · simp only [nA, denS_unk, f_num, f_int, f_bool, mapO, Option.bind_some, n_lss, n_eql, n_eql0, n_add, n_sub, n_len, n_rd, n_ix, n_fd, n_cell, n_over, n_t9, n_t1, h0, h1, h4, h5, h6, g1, g2, p_put2, sp]
        rw [s2]
    · have hp := of_decide_eq_false hp
      have s1 : incS l (j + 1 + 1) = incS l (j + 1) + vN (p, q) - vN (p', q') := by
        rw [eS]; unfold dS; rw [if_pos (by show p' ≤ p; omega)]; omega
      have s2 : incO l (j + 1 + 1) = incO l (j + 1) + oo q - oo q' := by
        rw [eO]; unfold dO; rw [if_pos (by show p' ≤ p; omega)]; show _ + (oo q - oo q') = _; omega
      refine ih (j + 1) _ (by omega) ((upd_s rfl).trans h0) ⟨upd_e rfl ?_, upd_e rfl ?_, upd_e rfl ?_, upd_e rfl ?_, upd_e rfl ?_, upd_e rfl ?_, trivial⟩
      · simp only [nA, denS_unk, f_num, f_int, f_bool, mapO, Option.bind_some, n_lss, n_eql, n_eql0, n_add, n_sub, n_len, n_rd, n_ix, n_fd, n_cell, n_over, n_t9, n_t1, h1, w]
      · simp only [nA, denS_unk, f_num, f_int, f_bool, mapO, Option.bind_some, n_lss, n_eql, n_eql0, n_add, n_sub, n_len, n_rd, n_ix, n_fd, n_cell, n_over, n_t9, n_t1, h2]
      · simp only [nA, denS_unk, f_num, f_int, f_bool, mapO, Option.bind_some, n_lss, n_eql, n_eql0, n_add, n_sub, n_len, n_rd, n_ix, n_fd, n_cell, n_over, n_t9, n_t1, h3]
      · simp only [nA, denS_unk, f_num, f_int, f_bool, mapO, Option.bind_some, n_lss, n_eql, n_eql0, n_add, n_sub, n_len, n_rd, n_ix, n_fd, n_cell, n_over, n_t9, n_t1, h0, h1, h4, h5, h6, w2, g1, g2, g1', g2', p_put0, p_put1, p_put2, p_tak0, sp, sp']
        rw [s1]
      · simp only [nA, denS_unk, f_num, f_int, f_bool, mapO, Option.bind_some, n_lss, n_eql, n_eql0, n_add, n_sub, n_len, n_rd, n_ix, n_fd, n_cell, n_over, n_t9, n_t1, h0, h1, h4, h5, h6, w2, g1, g2, g1', g2', p_put0, p_put1, p_put2, p_tak1, sp, sp']
        rw [s1]
      · simp only [nA, denS_unk, f_num, f_int, f_bool, mapO, Option.bind_some, n_lss, n_eql, n_eql0, n_add, n_sub, n_len, n_rd, n_ix, n_fd, n_cell, n_over, n_t9, n_t1, h0, h1, h4, h5, h6, w2, g1, g2, g1', g2', p_put0, p_put1, p_put2, p_tak2, sp, sp']
        rw [s2]
theorem ic0 {s : Nat → Value} (h0 : s 0 = .slice ad l.length c) : Ev.Ends (icU R) ictab (icQ R l) 0 s := by
  refine Ends_mk ?_
  show Ev.Ends (icU R) ictab (icQ R l) 1 s
  refine Ends_mk ?_
  show Ev.Ends (icU R) ictab (icQ R l) 2 s
  refine Ends_mk ?_
  show Ev.Ends (icU R) ictab (icQ R l) 3 _
  refine ic3 L (max 1 l.length - 1) 0 _ (by omega) ((upd_s rfl).trans h0) ⟨upd_e rfl ?_, upd_e rfl ?_, upd_e rfl ?_, upd_e rfl ?_, upd_e rfl ?_, upd_e rfl ?_, trivial⟩
  · exact denS_flat rfl
  · exact denS_flat rfl
  · exact denS_flat rfl
  · show _ = some (Value.int .i64 (gH 0))
    rw [gH0]
    exact denS_flat rfl
  · show _ = some (Value.int .u64 (gL 0))
    rw [gL0]
    exact denS_flat rfl
  · show _ = some (Value.int .u64 (gL 0))
    rw [gL0]
    exact denS_flat rfl
end
theorem ic_ext (q : List (Value × Bool)) : ExtOk Tryz.prog (cxOf Tryz.prog [] [] [] (icOrc q) q bwU) :=
  orc_cons (fn_is co_is rfl (enter_of Tryz.func12 (by kernel_rfl) (by kernel_rfl))) (orc_cons (fn_is put_is rfl (enter_of Tryz.func25 (by kernel_rfl) (by kernel_rfl))) (orc_cons (fn_is take_is rfl (enter_of Tryz.func32 (by kernel_rfl) (by kernel_rfl))) (orc_cons (fn_is val_is rfl (enter_of Tryz.func26 (by kernel_rfl) (by kernel_rfl))) (ext_nil _ _ _ _))))
theorem increase_is : FnIs Tryz.prog [] bwU 18 icargs [([6, 1], true)] 18 := fun w args' vals hg hin =>
  fn_of_ts_n (ne := []) ic_ext bw_mixed ic_flat (pls := icpls) rfl ic_checked (fun w args' vals hin _ => by
    match args', hin with
    | [v0], ⟨a, b, hv, h0, hd⟩ =>
      obtain rfl : b = [] := hd
      obtain ⟨ad, l, c, rfl, L, rfl⟩ := in_vals h0
      subst hv
      refine ⟨[.int .i64 (icV l).1, .bool (icV l).2], ⟨rfl, ?_⟩, ic0 (s := startS icargs [.slice ad l.length c]) L rfl⟩
      intro i k v hk hv
      have hsw : SW (icV l).1 := by
        unfold icV
        split
        · unfold SW; decide
        · exact outN_sw _ _
      match i with
      | 0 => injection hk with hk; injection hv with hv; subst hk; subst hv; exact ⟨i64_ty hsw, by show some (Value.int .i64 (icV (dec (cv l))).1) = _; rw [dec_cv]⟩
      | 1 => injection hk with hk; injection hv with hv; subst hk; subst hv; exact ⟨rfl, by show some (Value.bool (icV (dec (cv l))).2) = _; rw [dec_cv]⟩
      | i + 2 => cases hk) w args' vals hg hin (fun j hj => by cases hj)
end
section
open Go Go.RowKit Ev
noncomputable abbrev wiU (R : Addr → Option Value) : Nat → List Value → Option Value := uRd (cxOf Tryz.prog [] [] [] (wiOrc []) [] bwU) R
theorem wi_U {R : Addr → Option Value} (j : Nat) (vs : List Value) : wiU R (j + 16) vs = bwU j vs := n_U j vs
noncomputable def wiQ (R : Addr → Option Value) (x : (Int × Bool) × Bool) : (Nat → Value) → List Value → List (Nat × AObj) → Prop := fun s vs _ => denV s (wiU R) 9 (oneA vs) = some (oneA (outV [([6, 1], true), ([1], false)] [.int .i64 x.1.1, .bool x.1.2, .bool x.2]))
theorem wi_ret {R : Addr → Option Value} {s : Nat → Value} {x : (Int × Bool) × Bool} {e1 e2 : Value} {a : Int} {b t : Bool} (hx : x = ((a, b), t)) (d1 : denV s (wiU R) 7 e1 = some (.int .i64 a)) (d2 : denV s (wiU R) 7 e2 = some (.bool b)) : wiQ R x s [.agg ⟨[e1, e2]⟩, .bool t] [] := by
  subst hx
  show denV s (wiU R) 9 (.tuple ⟨[.agg ⟨[e1, e2]⟩, .bool t]⟩) = some (.tuple ⟨[.agg ⟨[.int .i64 a, .bool b]⟩, .bool t]⟩)
  have d3 : denV s (wiU R) 8 (.agg ⟨[e1, e2]⟩) = some (.agg ⟨[.int .i64 a, .bool b]⟩) := by
    unfold denV
    simp only [mapO, d1, d2]
  have d4 : denV s (wiU R) 8 (.bool t) = some (.bool t) := denS_flat rfl
  unfold denV
  simp only [mapO, d3, d4]
theorem n_cont3 {cx : Cx} {R : Addr → Option Value} {ad : Option Addr} {l : Ps} {c : Nat} (L : LstP R ad l) : uRd cx R 9 [num 3, .slice ad l.length c] = some (.agg ⟨cp l⟩) := by
  cases ad with
  | none =>
    have : l = [] := L
    subst this
    rw [uRd_rd _ _ _ _ (by omega)]
    rfl
  | some x => exact n_cs 3 x l.length c (cp l) (show PDat R x l from L).all
section
variable {R : Addr → Option Value} {ad : Option Addr} {l : Ps} {c : Nat} (L : LstP R ad l) {fn : Int} {s : Nat → Value} (h0 : s 0 = .int .i64 fn) (h1 : s 1 = .slice ad l.length c) {V : Vs} (hV : V = l.map (·.2))
include L h0 h1 hV
theorem wi0 : Ev.Ends (wiU R) witab (wiQ R (winV fn V)) 0 s := by
  have few := lstp_few L
  have hl : V.length = l.length := by rw [hV, List.length_map]
  have hc := n_cont3 (cx := cxOf Tryz.prog [] [] [] (wiOrc []) [] bwU) (c := c) L
  have u0 : wiU R 16 [.agg ⟨cp l⟩] = some (.agg ⟨cv V⟩) := by
    rw [wi_U 0]
    show some (Value.agg ⟨cv (dec3 (cp l))⟩) = _
    rw [dec_cp, hV]
  have u1 : wiU R 17 [.agg ⟨cp l⟩] = some (.int .i64 (.ofNat V.length)) := by
    rw [wi_U 1]
    show some (Value.int .i64 (.ofNat (dec3 (cp l)).length)) = _
    rw [dec_cp, hV]
  have u2 : wiU R 18 [.agg ⟨cv V⟩] = some (.bool (anyBad V)) := by
    rw [wi_U 2]
    show some (Value.bool (anyBad (dec (cv V)))) = _
    rw [dec_cv]
  have u3 : wiU R 19 [.agg ⟨cv V⟩] = some (.bool (anyOver V)) := by
    rw [wi_U 3]
    show some (Value.bool (anyOver (dec (cv V)))) = _
    rw [dec_cv]
  have uu : ∀ (j : Nat) (f : Vs → Value), (∀ l, bwU j [.agg ⟨l⟩] = some (f (dec l))) → wiU R (j + 16) [.agg ⟨cv V⟩] = some (f V) := fun j f hf => by
    rw [wi_U j]
    rw [hf, dec_cv]
  have v4 := uu 4 (fun l => .int .i64 (minV l).1) (fun _ => rfl)
  have v5 := uu 5 (fun l => .bool (minV l).2) (fun _ => rfl)
  have v6 := uu 6 (fun l => .int .i64 (maxV l).1) (fun _ => rfl)
  have v7 := uu 7 (fun l => .bool (maxV l).2) (fun _ => rfl)
  have vt0 := uu 16 (fun l => .int .i64 (totV l).1) (fun _ => rfl)
  have vt1 := uu 17 (fun l => .bool (totV l).2) (fun _ => rfl)
  have vi0 := uu 18 (fun l => .int .i64 (icV l).1) (fun _ => rfl)
  have vi1 := uu 19 (fun l => .bool (icV l).2) (fun _ => rfl)
  have e0 : ∀ (d : Nat) (n : Int), denV s (wiU R) (d + 1) (.int .i64 n) = some (.int .i64 n) := fun d n => denS_flat rfl
  have eb : ∀ (d : Nat) (b : Bool), denV s (wiU R) (d + 1) (.bool b) = some (.bool b) := fun d b => denS_flat rfl
  have eF : ∀ k : Nat, denS s (wiU R) (sy 1 1 [(num 11), (num 3), (.bool true), (unk 6 0), (.int .i64 (.ofNat k))]) = some (.bool (fn == Int.ofNat k)) := fun k => by
    simp only [nA, denS_unk, f_num, f_int, f_bool, mapO, Option.bind_some, n_lss, n_eql, n_eql0, n_add, n_sub, n_len, n_rd, n_ix, n_fd, n_cell, n_over, n_t9, n_t1, h0]
  have eN : denS s (wiU R) (sy 6 18 [(sy 0 10 [(num 3), (unk 0 1)])]) = some (.int .i64 (.ofNat V.length)) := by
    simp only [nA, denS_unk, f_num, f_int, f_bool, mapO, Option.bind_some, n_lss, n_eql, n_eql0, n_add, n_sub, n_len, n_rd, n_ix, n_fd, n_cell, n_over, n_t9, n_t1, h1, hc, u1]
  refine Ends_mk ?_
  show At _ _ _ _ wivt0
  unfold wivt0
  refine at_node (b := Int.ofNat V.length == Int.ofNat 0) ?_ (fun hz => ?_) (fun hz => at_t ?_ (at_node (b := anyBad V) ?_ (fun hb => ?_) (fun hb => ?_)))
  · simp only [nA, denS_unk, f_num, f_int, f_bool, mapO, Option.bind_some, n_lss, n_eql, n_eql0, n_add, n_sub, n_len, n_rd, n_ix, n_fd, n_cell, n_over, n_t9, n_t1, h1, hc, u1]
  · have hz : V.length = 0 := by have := beq_iff_eq.1 hz; exact Int.ofNat.inj this
    refine wi_ret (a := 0) (b := false) ?_ (e0 6 _) (eb 6 _)
    unfold winV
    rw [if_pos (.inl (List.eq_nil_of_length_eq_zero hz))]
  · simp only [nA, denS_unk, f_num, f_int, f_bool, mapO, Option.bind_some, n_lss, n_eql, n_eql0, n_add, n_sub, n_len, n_rd, n_ix, n_fd, n_cell, n_over, n_t9, n_t1, h1, hc, u1, n_t11]
    rw [show Nat.ble V.length 8796093021952 = true from Nat.ble_eq.mpr (by omega)]
  · simp only [nA, denS_unk, f_num, f_int, f_bool, mapO, Option.bind_some, n_lss, n_eql, n_eql0, n_add, n_sub, n_len, n_rd, n_ix, n_fd, n_cell, n_over, n_t9, n_t1, h1, hc, u0, u2]
  · refine wi_ret (a := 0) (b := false) ?_ (e0 6 _) (eb 6 _)
    unfold winV
    rw [if_pos (.inr hb)]
  have hpos : 0 < V.length := by
    cases hl0 : V.length with
    | zero => rw [hl0] at hz; cases hz
    | succ k => omega
  have hne : ¬ (V = [] ∨ anyBad V = true) := by
    rintro (h | h)
    · rw [h] at hpos; cases hpos
    · rw [hb] at h; cases h
  have fe : ∀ k : Nat, (fn == Int.ofNat k) = true → fn = k := fun k h => beq_iff_eq.1 h
  have fn' : ∀ k : Nat, (fn == Int.ofNat k) = false → fn ≠ k := fun k h he => by rw [he] at h; simp at h
  have hblt : Nat.blt 0 V.length = true := Nat.blt_eq.mpr hpos
  refine at_node (eF 1) (fun f1 => ?_) (fun f1 => at_node (eF 2) (fun f2 => ?_) (fun f2 => at_node (eF 3) (fun f3 => ?_) (fun f3 => at_node (eF 4) (fun f4 => ?_) (fun f4 => at_node (eF 5) (fun f5 => ?_) (fun f5 => at_node (eF 6) (fun f6 => ?_) (fun f6 => ?_))))))
  · refine wi_ret (a := (totV V).1) (b := (totV V).2) ?_ (show denS _ _ _ = _ by simp only [nA, denS_unk, f_num, f_int, f_bool, mapO, Option.bind_some, n_lss, n_eql, n_eql0, n_add, n_sub, n_len, n_rd, n_ix, n_fd, n_cell, n_over, n_t9, n_t1, h1, hc, u0, vt0]) (show denS _ _ _ = _ by simp only [nA, denS_unk, f_num, f_int, f_bool, mapO, Option.bind_some, n_lss, n_eql, n_eql0, n_add, n_sub, n_len, n_rd, n_ix, n_fd, n_cell, n_over, n_t9, n_t1, h1, hc, u0, vt1])
    unfold winV
    rw [if_neg hne, if_pos (show fn = 1 from fe 1 f1)]
  · refine wi_ret (a := V.length) (b := false) ?_ (show denS _ _ _ = _ from eN) (eb 6 _)
    unfold winV
    rw [if_neg hne, if_neg (show ¬ fn = 1 from fn' 1 f1), if_pos (show fn = 2 from fe 2 f2)]
  · refine at_t ?_ (at_node (b := anyOver V) ?_ (fun ho => ?_) (fun ho => ?_))
    · simp only [nA, denS_unk, f_num, f_int, f_bool, mapO, Option.bind_some, n_lss, n_eql, n_eql0, n_add, n_sub, n_len, n_rd, n_ix, n_fd, n_cell, n_over, n_t9, n_t1, h1, hc, u1]
      rw [hblt]
    · simp only [nA, denS_unk, f_num, f_int, f_bool, mapO, Option.bind_some, n_lss, n_eql, n_eql0, n_add, n_sub, n_len, n_rd, n_ix, n_fd, n_cell, n_over, n_t9, n_t1, h1, hc, u0, u3]
    · refine wi_ret (a := 0) (b := true) ?_ (e0 6 _) (eb 6 _)
      unfold winV overs
      rw [if_neg hne, if_neg (show ¬ fn = 1 from fn' 1 f1), if_neg (show ¬ fn = 2 from fn' 2 f2), if_pos (show fn = 3 from fe 3 f3), if_pos ho]
    · refine wi_ret (a := (minV V).1) (b := (minV V).2) ?_ (show denS _ _ _ = _ by simp only [nA, denS_unk, f_num, f_int, f_bool, mapO, Option.bind_some, n_lss, n_eql, n_eql0, n_add, n_sub, n_len, n_rd, n_ix, n_fd, n_cell, n_over, n_t9, n_t1, h1, hc, u0, v4]) (show denS _ _ _ = _ by simp only [nA, denS_unk, f_num, f_int, f_bool, mapO, Option.bind_some, n_lss, n_eql, n_eql0, n_add, n_sub, n_len, n_rd, n_ix, n_fd, n_cell, n_over, n_t9, n_t1, h1, hc, u0, v5])
      unfold winV overs
      rw [if_neg hne, if_neg (show ¬ fn = 1 from fn' 1 f1), if_neg (show ¬ fn = 2 from fn' 2 f2), if_pos (show fn = 3 from fe 3 f3), if_neg (by rw [ho]; simp)]
  · refine at_t ?_ (at_node (b := anyOver V) ?_ (fun ho => ?_) (fun ho => ?_))
    · simp only [nA, denS_unk, f_num, f_int, f_bool, mapO, Option.bind_some, n_lss, n_eql, n_eql0, n_add, n_sub, n_len, n_rd, n_ix, n_fd, n_cell, n_over, n_t9, n_t1, h1, hc, u1]
      rw [hblt]
    · simp only [nA, denS_unk, f_num, f_int, f_bool, mapO, Option.bind_some, n_lss, n_eql, n_eql0, n_add, n_sub, n_len, n_rd, n_ix, n_fd, n_cell, n_over, n_t9, n_t1, h1, hc, u0, u3]
    · refine wi_ret (a := 0) (b := true) ?_ (e0 6 _) (eb 6 _)
      unfold winV overs
      rw [if_neg hne, if_neg (show ¬ fn = 1 from fn' 1 f1), if_neg (show ¬ fn = 2 from fn' 2 f2), if_neg (show ¬ fn = 3 from fn' 3 f3), if_pos (show fn = 4 from fe 4 f4), if_pos ho]
    · refine wi_ret (a := (maxV V).1) (b := (maxV V).2) ?_ (show denS _ _ _ = _ by simp only [nA, denS_unk, f_num, f_int, f_bool, mapO, Option.bind_some, n_lss, n_eql, n_eql0, n_add, n_sub, n_len, n_rd, n_ix, n_fd, n_cell, n_over, n_t9, n_t1, h1, hc, u0, v6]) (show denS _ _ _ = _ by simp only [nA, denS_unk, f_num, f_int, f_bool, mapO, Option.bind_some, n_lss, n_eql, n_eql0, n_add, n_sub, n_len, n_rd, n_ix, n_fd, n_cell, n_over, n_t9, n_t1, h1, hc, u0, v7])
      unfold winV overs
      rw [if_neg hne, if_neg (show ¬ fn = 1 from fn' 1 f1), if_neg (show ¬ fn = 2 from fn' 2 f2), if_neg (show ¬ fn = 3 from fn' 3 f3), if_pos (show fn = 4 from fe 4 f4), if_neg (by rw [ho]; simp)]
  · have w := w_sub (n := V.length) (i := 1) (by omega) (by omega)
    obtain ⟨p, q, hv⟩ := at_of (m := V) (i := V.length - 1) (by omega)
    obtain ⟨g1, g2⟩ := cv_get hv
    have hlast : lastV V = (p, q) := by
      unfold lastV
      rw [List.getLastD_eq_getLast?, List.getLast?_eq_getElem?, hv]
      rfl
    refine at_t ?_ (wi_ret (a := p) (b := q) ?_ (show denS _ _ _ = _ by simp only [nA, denS_unk, f_num, f_int, f_bool, mapO, Option.bind_some, n_lss, n_eql, n_eql0, n_add, n_sub, n_len, n_rd, n_ix, n_fd, n_cell, n_over, n_t9, n_t1, h1, hc, u0, u1, w, g1]) (show denS _ _ _ = _ by simp only [nA, denS_unk, f_num, f_int, f_bool, mapO, Option.bind_some, n_lss, n_eql, n_eql0, n_add, n_sub, n_len, n_rd, n_ix, n_fd, n_cell, n_over, n_t9, n_t1, h1, hc, u0, u1, w, g2]))
    · simp only [nA, denS_unk, f_num, f_int, f_bool, mapO, Option.bind_some, n_lss, n_eql, n_eql0, n_add, n_sub, n_len, n_rd, n_ix, n_fd, n_cell, n_over, n_t9, n_t1, h1, hc, u1, w]
      rw [bl (by omega)]
    · unfold winV
      rw [if_neg hne, if_neg (show ¬ fn = 1 from fn' 1 f1), if_neg (show ¬ fn = 2 from fn' 2 f2), if_neg (show ¬ fn = 3 from fn' 3 f3), if_neg (show ¬ fn = 4 from fn' 4 f4), if_pos (show fn = 5 from fe 5 f5), hlast]
  · refine wi_ret (a := (icV V).1) (b := (icV V).2) ?_ (show denS _ _ _ = _ by simp only [nA, denS_unk, f_num, f_int, f_bool, mapO, Option.bind_some, n_lss, n_eql, n_eql0, n_add, n_sub, n_len, n_rd, n_ix, n_fd, n_cell, n_over, n_t9, n_t1, h1, hc, u0, vi0]) (show denS _ _ _ = _ by simp only [nA, denS_unk, f_num, f_int, f_bool, mapO, Option.bind_some, n_lss, n_eql, n_eql0, n_add, n_sub, n_len, n_rd, n_ix, n_fd, n_cell, n_over, n_t9, n_t1, h1, hc, u0, vi1])
    unfold winV
    rw [if_neg hne, if_neg (show ¬ fn = 1 from fn' 1 f1), if_neg (show ¬ fn = 2 from fn' 2 f2), if_neg (show ¬ fn = 3 from fn' 3 f3), if_neg (show ¬ fn = 4 from fn' 4 f4), if_neg (show ¬ fn = 5 from fn' 5 f5), if_pos (show fn = 6 from fe 6 f6)]
  · refine wi_ret (a := 0) (b := false) ?_ (e0 6 _) (eb 6 _)
    unfold winV
    rw [if_neg hne, if_neg (show ¬ fn = 1 from fn' 1 f1), if_neg (show ¬ fn = 2 from fn' 2 f2), if_neg (show ¬ fn = 3 from fn' 3 f3), if_neg (show ¬ fn = 4 from fn' 4 f4), if_neg (show ¬ fn = 5 from fn' 5 f5), if_neg (show ¬ fn = 6 from fn' 6 f6)]
end
end
section
open Go Go.RowKit Ev
theorem fnis_of {P : Program} {gv : List (Nat × Tr Value)} {U : Nat → List Value → Option Value} {f : FuncId} {ps : List ArgT} {r : ResT} {base : Nat} (h : FnIsN P gv U f ps [] r base) : FnIs P gv U f ps r base := fun w args' vals hg hin => h w args' vals hg hin (fun j hj => by cases hj)
theorem wi_ext (q : List (Value × Bool)) : ExtOk Tryz.prog (cxOf Tryz.prog [] [] [] (wiOrc q) q bwU) :=
  orc_cons (row_is values_is (enter_of Tryz.func11 (by kernel_rfl) (by kernel_rfl))) (orc_cons (alt_is (fn_is ci_is rfl (enter_of Tryz.func12 (by kernel_rfl) (by kernel_rfl))) (fn_is co_is rfl (enter_of Tryz.func12 (by kernel_rfl) (by kernel_rfl))))
    (orc_cons (fn_is (fnis_of total_is) rfl (enter_of Tryz.func14 (by kernel_rfl) (by kernel_rfl))) (orc_cons (fn_is_n mi_is rfl rfl (enter_of Tryz.func29 (by kernel_rfl) (by kernel_rfl))) (orc_cons (fn_is_n ma_is rfl rfl (enter_of Tryz.func31 (by kernel_rfl) (by kernel_rfl)))
    (orc_cons (fn_is increase_is rfl (enter_of Tryz.func18 (by kernel_rfl) (by kernel_rfl))) (ext_nil _ _ _ _))))))
theorem sw_minV {l : Vs} (h : ∀ v, v ∈ l → SW v.1) : SW (minV l).1 := by
  cases l with
  | nil => unfold SW minV; decide
  | cons v t => exact mi_sw t v (h v List.mem_cons_self) (fun u hu => h u (List.mem_cons_of_mem _ hu))
theorem sw_maxV {l : Vs} (h : ∀ v, v ∈ l → SW v.1) : SW (maxV l).1 := by
  cases l with
  | nil => unfold SW maxV; decide
  | cons v t => exact ma_sw t v (h v List.mem_cons_self) (fun u hu => h u (List.mem_cons_of_mem _ hu))
theorem sw_over {l : Vs} {v : Int × Bool} (h : SW v.1) : SW (overs l v).1 := by
  unfold overs
  split
  · unfold SW; decide
  · exact h
theorem sw_last {l : Vs} (h : ∀ v, v ∈ l → SW v.1) : SW (lastV l).1 := by
  unfold lastV
  cases l with
  | nil => unfold SW; decide
  | cons v t =>
    rw [List.getLastD_eq_getLast?, List.getLast?_eq_some_getLast (List.cons_ne_nil v t)]
    exact h _ (List.getLast_mem _)
theorem sw_ic (l : Vs) : SW (icV l).1 := by
  unfold icV
  split
  · unfold SW; decide
  · exact outN_sw _ _
theorem sw_win {fn : Int} {l : Vs} (h : ∀ v, v ∈ l → SW v.1) (hl : l.length ≤ 5864062014634) : SW (winV fn l).1.1 := by
  unfold winV
  split
  · unfold SW; decide
  split
  · exact outN_sw _ _
  split
  · unfold SW; exact ⟨by show (-9223372036854775808 : Int) ≤ ((l.length : Nat) : Int); omega, by show ((l.length : Nat) : Int) ≤ 9223372036854775807; omega⟩
  split
  · exact sw_over (sw_minV h)
  split
  · exact sw_over (sw_maxV h)
  split
  · exact sw_last h
  split
  · exact sw_ic l
  · unfold SW; decide
theorem window_is : FnIs Tryz.prog [] bwU 6 wiargs [([6, 1], true), ([1], false)] 20 :=
  fnis_of (fn_of_ts_n wi_ext bw_mixed wi_flat (pls := wipls) rfl wi_checked (fun w args' vals hin _ => by
    match args', hin with
    | [v0, v1], ⟨a, b, hv, h0, e, g, he, h1, hd⟩ =>
      obtain rfl : g = [] := hd
      obtain ⟨fn, rfl, rfl, -⟩ := in_int h0
      obtain ⟨ad, l, c, rfl, L, rfl⟩ := in_pts h1
      subst he
      subst hv
      have hsw : SW (winV fn (l.map (fun x : Int × Int × Bool => x.2))).1.1 := sw_win (fun v hv => by
        obtain ⟨u, hu, rfl⟩ := List.mem_map.1 hv
        exact lstp_sw L u hu) (by rw [List.length_map]; exact lstp_few L)
      refine ⟨[.int .i64 (winV fn (l.map (fun x : Int × Int × Bool => x.2))).1.1, .bool (winV fn (l.map (fun x : Int × Int × Bool => x.2))).1.2, .bool (winV fn (l.map (fun x : Int × Int × Bool => x.2))).2], ⟨rfl, ?_⟩, wi0 (s := startS wiargs [.int .i64 fn, .slice ad l.length c]) L rfl rfl rfl⟩
      intro i k v hk hv
      match i with
      | 0 => injection hk with hk; injection hv with hv; subst hk; subst hv; exact ⟨i64_ty hsw, by show some (Value.int .i64 (winV fn (dec3 (cp l))).1.1) = _; rw [dec_cp]⟩
      | 1 => injection hk with hk; injection hv with hv; subst hk; subst hv; exact ⟨rfl, by show some (Value.bool (winV fn (dec3 (cp l))).1.2) = _; rw [dec_cp]⟩
      | 2 => injection hk with hk; injection hv with hv; subst hk; subst hv; exact ⟨rfl, by show some (Value.bool (winV fn (dec3 (cp l))).2) = _; rw [dec_cp]⟩
      | i + 3 => cases hk))
end
section
open Go Go.RowKit Ev
theorem wr {n : Int} (h : SW n) : wrapA .i64 n = n := by
  unfold SW at h
  cases n with
  | ofNat a => exact wA (by have : (a : Int) ≤ 9223372036854775807 := h.2; omega)
  | negSucc a =>
    unfold wrapA
    simp only [show Nat.blt a 9223372036854775808 = true from Nat.blt_eq.mpr (by have : -9223372036854775808 ≤ Int.negSucc a := h.1; rw [Int.negSucc_eq] at this; omega)]
theorem drop_at {l : Vs} {i : Nat} {v : Int × Bool} (h : l[i]? = some v) : l.drop i = v :: l.drop (i + 1) := by
  obtain ⟨h1, rfl⟩ := List.getElem?_eq_some_iff.1 h
  exact List.drop_eq_getElem_cons h1
theorem adF_over {w : Int × Bool} {S : Int} {v : Int × Bool} {l : Vs} (h : v.2 = true) : adF w S (v :: l) = true := by unfold adF; rw [if_pos h]
theorem adF_hi {w : Int × Bool} {S : Int} {v : Int × Bool} {l : Vs} (h : 0 < v.1 ∧ 9223372036854775807 - v.1 < S) : adF w S (v :: l) = true := by
  unfold adF
  rw [if_pos h, ite_self]
theorem adF_lo {w : Int × Bool} {S : Int} {v : Int × Bool} {l : Vs} (h : v.1 < 0 ∧ S < -9223372036854775808 - v.1) : adF w S (v :: l) = true := by
  unfold adF
  rw [if_pos h, ite_self, ite_self]
theorem adF_go {w : Int × Bool} {S : Int} {v : Int × Bool} {l : Vs} (h0 : v.2 = false) (h1 : ¬ (0 < v.1 ∧ 9223372036854775807 - v.1 < S)) (h2 : ¬ (v.1 < 0 ∧ S < -9223372036854775808 - v.1)) : adF w S (v :: l) = adF w (S + v.1) l := by
  conv => lhs; unfold adF
  rw [if_neg (by rw [h0]; simp), if_neg h1, if_neg h2]
noncomputable abbrev adU (R : Addr → Option Value) : Nat → List Value → Option Value := uRd (cxOf Tryz.prog [] [] [] (adOrc []) [] bwU) R
noncomputable def adQ (R : Addr → Option Value) (r : Bool) : (Nat → Value) → List Value → List (Nat × AObj) → Prop := fun s vs _ => denV s (adU R) 9 (oneA vs) = some (oneA (outV [([1], false)] [.bool r]))
theorem ad_ret {R : Addr → Option Value} {s : Nat → Value} {b r : Bool} (h : r = b) : adQ R r s [.bool b] [] := by
  subst h
  show denV s (adU R) 9 (.bool r) = some (.bool r)
  unfold denV
  exact denS_flat rfl
section
variable {R : Addr → Option Value} {ad : Option Addr} {l : Vs} {c : Nat} (L : LstV R ad l) {wn : Int} {wb r : Bool}
include L
theorem ad4 {S : Int} {s : Nat → Value} (hr : r = (wn == S && wb == false)) (h : Sh s 3 [.int .i64 S, .int .i64 wn, .bool wb]) : Ev.Ends (adU R) adtab (adQ R r) 4 s := by
  obtain ⟨h3, h4, h5, -⟩ := h
  have hb : ∀ a b : Bool, adU R 0 [num 11, num 4, .bool false, .bool a, .bool b] = some (.bool (a == b)) := fun a b => n_beq (by decide +kernel) false a b
  refine Ends_mk ?_
  show At _ _ _ _ advt4
  unfold advt4
  refine at_node (b := wn == S) ?_ (fun e1 => at_node (b := wb == false) ?_ (fun e2 => ?_) (fun e2 => ?_)) (fun e1 => ?_)
  · simp only [nA, denS_unk, f_num, f_int, f_bool, mapO, Option.bind_some, n_lss, n_eql, n_eql0, n_add, n_sub, n_len, n_rd, n_ix, n_fd, n_cell, n_over, n_t9, n_t1, h3, h4, h5]
  · simp only [nA, denS_unk, f_num, f_int, f_bool, mapO, Option.bind_some, n_lss, n_eql, n_eql0, n_add, n_sub, n_len, n_rd, n_ix, n_fd, n_cell, n_over, n_t9, n_t1, h3, h4, h5, hb]
  · exact ad_ret (by rw [hr, e1, e2]; rfl)
  · exact ad_ret (by rw [hr, e1, e2]; rfl)
  · exact ad_ret (by rw [hr, e1]; rfl)
theorem ad3 : ∀ (k i : Nat) (S : Int) (s : Nat → Value), i + k = l.length → SW S → s 2 = .slice ad l.length c → Sh s 3 [.int .i64 S, .int .i64 (.ofNat i), .int .i64 wn, .bool wb] → r = adF (wn, wb) S (l.drop i) → Ev.Ends (adU R) adtab (adQ R r) 3 s := by
  intro k
  induction k with
  | zero =>
    intro i S s hk hS h2 h hr
    obtain ⟨h3, h4, h5, h6, -⟩ := h
    rw [List.drop_of_length_le (by omega)] at hr
    refine Ends_mk ?_
    show At _ _ _ _ advt3
    unfold advt3
    refine at_f ?_ (ad4 L (S := S) (wn := wn) (wb := wb) hr ⟨upd_e rfl ?_, upd_e rfl ?_, upd_e rfl ?_, trivial⟩)
    · simp only [nA, denS_unk, f_num, f_int, f_bool, mapO, Option.bind_some, n_lss, n_eql, n_eql0, n_add, n_sub, n_len, n_rd, n_ix, n_fd, n_cell, n_over, n_t9, n_t1, h2, h3, h4, h5, h6]
      rw [dl]
      exact congrArg (fun z => some (Value.bool z)) (decide_eq_false (by omega))
    · simp only [nA, denS_unk, f_num, f_int, f_bool, mapO, Option.bind_some, n_lss, n_eql, n_eql0, n_add, n_sub, n_len, n_rd, n_ix, n_fd, n_cell, n_over, n_t9, n_t1, h2, h3, h4, h5, h6]
    · simp only [nA, denS_unk, f_num, f_int, f_bool, mapO, Option.bind_some, n_lss, n_eql, n_eql0, n_add, n_sub, n_len, n_rd, n_ix, n_fd, n_cell, n_over, n_t9, n_t1, h2, h3, h4, h5, h6]
    · simp only [nA, denS_unk, f_num, f_int, f_bool, mapO, Option.bind_some, n_lss, n_eql, n_eql0, n_add, n_sub, n_len, n_rd, n_ix, n_fd, n_cell, n_over, n_t9, n_t1, h2, h3, h4, h5, h6]
  | succ k ih =>
    intro i S s hk hS h2 h hr
    obtain ⟨h3, h4, h5, h6, -⟩ := h
    obtain ⟨x, p, q, rfl, D, hv, sp, g1, g2⟩ := lst_at L (i := i) (by omega)
    have few := D.few
    have w := w_add (n := i) (i := 1) (by omega)
    have f1 : R (((x.add (i * 2)).add 0).add 0) = some (.int .i64 p) := by rw [Deep.add_add]; exact g1
    have f2 : R (((x.add (i * 2)).add 1).add 0) = some (.bool q) := by rw [Deep.add_add]; exact g2
    rw [drop_at hv] at hr
    refine Ends_mk ?_
    show At _ _ _ _ advt3
    unfold advt3
    refine at_t ?_ (at_t ?_ (at_node (b := q) ?_ (fun hq => ad_ret (hr.trans (adF_over hq))) (fun hq => at_node (b := decide (Int.ofNat 0 < p)) ?_ (fun hp => ?_) (fun hp => ?_))))
    · simp only [nA, denS_unk, f_num, f_int, f_bool, mapO, Option.bind_some, n_lss, n_eql, n_eql0, n_add, n_sub, n_len, n_rd, n_ix, n_fd, n_cell, n_over, n_t9, n_t1, h2, h3, h4, h5, h6]
      rw [dl]
      exact congrArg (fun z => some (Value.bool z)) (decide_eq_true (by omega))
    · simp only [nA, denS_unk, f_num, f_int, f_bool, mapO, Option.bind_some, n_lss, n_eql, n_eql0, n_add, n_sub, n_len, n_rd, n_ix, n_fd, n_cell, n_over, n_t9, n_t1, h2, h3, h4, h5, h6]
      rw [bl (by omega)]
    · simp only [nA, denS_unk, f_num, f_int, f_bool, mapO, Option.bind_some, n_lss, n_eql, n_eql0, n_add, n_sub, n_len, n_rd, n_ix, n_fd, n_cell, n_over, n_t9, n_t1, h2, h3, h4, h5, h6, f2]
    · simp only [nA, denS_unk, f_num, f_int, f_bool, mapO, Option.bind_some, n_lss, n_eql, n_eql0, n_add, n_sub, n_len, n_rd, n_ix, n_fd, n_cell, n_over, n_t9, n_t1, h2, h3, h4, h5, h6, f1]
    · have hp : 0 < p := of_decide_eq_true hp
      have e1 : wrapA .i64 (Int.ofNat 9223372036854775807 - p) = 9223372036854775807 - p := by
        have sp' := sp
        unfold SW at sp'
        exact wr (by unfold SW; show _ ≤ (9223372036854775807 : Int) - p ∧ (9223372036854775807 : Int) - p ≤ _; omega)
      refine at_node (b := decide (9223372036854775807 - p < S)) ?_ (fun hi => ad_ret (hr.trans (adF_hi ⟨hp, of_decide_eq_true hi⟩))) (fun hi => at_f ?_ ?_)
      · simp only [nA, denS_unk, f_num, f_int, f_bool, mapO, Option.bind_some, n_lss, n_eql, n_eql0, n_add, n_sub, n_len, n_rd, n_ix, n_fd, n_cell, n_over, n_t9, n_t1, h2, h3, h4, h5, h6, f1, e1]
      · simp only [nA, denS_unk, f_num, f_int, f_bool, mapO, Option.bind_some, n_lss, n_eql, n_eql0, n_add, n_sub, n_len, n_rd, n_ix, n_fd, n_cell, n_over, n_t9, n_t1, h2, h3, h4, h5, h6, f1]
        exact congrArg (fun z => some (Value.bool z)) (decide_eq_false (by show ¬ p < 0; omega))
      · have hi := of_decide_eq_false hi
        have hS' : SW (S + p) := by unfold SW at hS sp ⊢; omega
        have wS : wrapA .i64 (S + p) = S + p := wr hS'
        refine ih (i + 1) (S + p) _ (by omega) hS' ((upd_s rfl).trans h2) ⟨upd_e rfl ?_, upd_e rfl ?_, upd_e rfl ?_, upd_e rfl ?_, trivial⟩ (hr.trans (adF_go hq (fun x => hi x.2) (fun x => absurd x.1 (by show ¬ p < 0; omega))))
        · simp only [nA, denS_unk, f_num, f_int, f_bool, mapO, Option.bind_some, n_lss, n_eql, n_eql0, n_add, n_sub, n_len, n_rd, n_ix, n_fd, n_cell, n_over, n_t9, n_t1, h2, h3, h4, h5, h6, f1, wS]
        · simp only [nA, denS_unk, f_num, f_int, f_bool, mapO, Option.bind_some, n_lss, n_eql, n_eql0, n_add, n_sub, n_len, n_rd, n_ix, n_fd, n_cell, n_over, n_t9, n_t1, h2, h3, h4, h5, h6, w]
        · simp only [nA, denS_unk, f_num, f_int, f_bool, mapO, Option.bind_some, n_lss, n_eql, n_eql0, n_add, n_sub, n_len, n_rd, n_ix, n_fd, n_cell, n_over, n_t9, n_t1, h2, h3, h4, h5, h6]
        · simp only [nA, denS_unk, f_num, f_int, f_bool, mapO, Option.bind_some, n_lss, n_eql, n_eql0, n_add, n_sub, n_len, n_rd, n_ix, n_fd, n_cell, n_over, n_t9, n_t1, h2, h3, h4, h5, h6]
    · have hp : ¬ 0 < p := of_decide_eq_false hp
      refine at_node (b := decide (p < Int.ofNat 0)) ?_ (fun hn => ?_) (fun hn => ?_)
      · simp only [nA, denS_unk, f_num, f_int, f_bool, mapO, Option.bind_some, n_lss, n_eql, n_eql0, n_add, n_sub, n_len, n_rd, n_ix, n_fd, n_cell, n_over, n_t9, n_t1, h2, h3, h4, h5, h6, f1]
      · have hn : p < 0 := of_decide_eq_true hn
        have e1 : wrapA .i64 (Int.negSucc 9223372036854775807 - p) = -9223372036854775808 - p := by
          have sp' := sp
          unfold SW at sp'
          exact wr (by unfold SW; show _ ≤ (-9223372036854775808 : Int) - p ∧ (-9223372036854775808 : Int) - p ≤ _; omega)
        refine at_node (b := decide (S < -9223372036854775808 - p)) ?_ (fun hi => ad_ret (hr.trans (adF_lo ⟨hn, of_decide_eq_true hi⟩))) (fun hi => ?_)
        · simp only [nA, denS_unk, f_num, f_int, f_bool, mapO, Option.bind_some, n_lss, n_eql, n_eql0, n_add, n_sub, n_len, n_rd, n_ix, n_fd, n_cell, n_over, n_t9, n_t1, h2, h3, h4, h5, h6, f1, e1]
        · have hi := of_decide_eq_false hi
          have hS' : SW (S + p) := by unfold SW at hS sp ⊢; omega
          have wS : wrapA .i64 (S + p) = S + p := wr hS'
          refine ih (i + 1) (S + p) _ (by omega) hS' ((upd_s rfl).trans h2) ⟨upd_e rfl ?_, upd_e rfl ?_, upd_e rfl ?_, upd_e rfl ?_, trivial⟩ (hr.trans (adF_go hq (fun x => hp x.1) (fun x => hi x.2)))
          · simp only [nA, denS_unk, f_num, f_int, f_bool, mapO, Option.bind_some, n_lss, n_eql, n_eql0, n_add, n_sub, n_len, n_rd, n_ix, n_fd, n_cell, n_over, n_t9, n_t1, h2, h3, h4, h5, h6, f1, wS]
          · simp only [nA, denS_unk, f_num, f_int, f_bool, mapO, Option.bind_some, n_lss, n_eql, n_eql0, n_add, n_sub, n_len, n_rd, n_ix, n_fd, n_cell, n_over, n_t9, n_t1, h2, h3, h4, h5, h6, w]
          · simp only [nA, denS_unk, f_num, f_int, f_bool, mapO, Option.bind_some, n_lss, n_eql, n_eql0, n_add, n_sub, n_len, n_rd, n_ix, n_fd, n_cell, n_over, n_t9, n_t1, h2, h3, h4, h5, h6]
          · simp only [nA, denS_unk, f_num, f_int, f_bool, mapO, Option.bind_some, n_lss, n_eql, n_eql0, n_add, n_sub, n_len, n_rd, n_ix, n_fd, n_cell, n_over, n_t9, n_t1, h2, h3, h4, h5, h6]
      · have hn : ¬ p < 0 := of_decide_eq_false hn
        have hS' : SW (S + p) := by unfold SW at hS sp ⊢; omega
        have wS : wrapA .i64 (S + p) = S + p := wr hS'
        refine ih (i + 1) (S + p) _ (by omega) hS' ((upd_s rfl).trans h2) ⟨upd_e rfl ?_, upd_e rfl ?_, upd_e rfl ?_, upd_e rfl ?_, trivial⟩ (hr.trans (adF_go hq (fun x => hp x.1) (fun x => hn x.1)))
        · simp only [nA, denS_unk, f_num, f_int, f_bool, mapO, Option.bind_some, n_lss, n_eql, n_eql0, n_add, n_sub, n_len, n_rd, n_ix, n_fd, n_cell, n_over, n_t9, n_t1, h2, h3, h4, h5, h6, f1, wS]
        · simp only [nA, denS_unk, f_num, f_int, f_bool, mapO, Option.bind_some, n_lss, n_eql, n_eql0, n_add, n_sub, n_len, n_rd, n_ix, n_fd, n_cell, n_over, n_t9, n_t1, h2, h3, h4, h5, h6, w]
        · simp only [nA, denS_unk, f_num, f_int, f_bool, mapO, Option.bind_some, n_lss, n_eql, n_eql0, n_add, n_sub, n_len, n_rd, n_ix, n_fd, n_cell, n_over, n_t9, n_t1, h2, h3, h4, h5, h6]
        · simp only [nA, denS_unk, f_num, f_int, f_bool, mapO, Option.bind_some, n_lss, n_eql, n_eql0, n_add, n_sub, n_len, n_rd, n_ix, n_fd, n_cell, n_over, n_t9, n_t1, h2, h3, h4, h5, h6]
theorem ad0 {s : Nat → Value} (h0 : s 0 = .int .i64 wn) (h1 : s 1 = .bool wb) (h2 : s 2 = .slice ad l.length c) (hr : r = adF (wn, wb) 0 l) : Ev.Ends (adU R) adtab (adQ R r) 0 s := by
  refine Ends_mk ?_
  show Ev.Ends (adU R) adtab (adQ R r) 1 s
  refine Ends_mk ?_
  show Ev.Ends (adU R) adtab (adQ R r) 2 s
  refine Ends_mk ?_
  show Ev.Ends (adU R) adtab (adQ R r) 3 _
  refine ad3 L (wn := wn) (wb := wb) l.length 0 0 _ (by omega) (by unfold SW; decide) ((upd_s rfl).trans h2) ⟨upd_e rfl ?_, upd_e rfl ?_, upd_e rfl ?_, upd_e rfl ?_, trivial⟩ hr
  · exact denS_flat rfl
  · exact denS_flat rfl
  · simp only [denS_unk, h0]
  · simp only [denS_unk, h1]
end
theorem ad_ext (q : List (Value × Bool)) : ExtOk Tryz.prog (cxOf Tryz.prog [] [] [] (adOrc q) q bwU) := ext_nil _ _ _ _
theorem adds_is : FnIs Tryz.prog [] bwU 7 adargs [([1], false)] 37 :=
  fnis_of (fn_of_ts_n ad_ext bw_mixed ad_flat (pls := adpls) rfl ad_checked (fun w args' vals hin _ => by
    match args', hin with
    | [v0, v1], ⟨a, b, hv, h0, e, g, he, h1, hd⟩ =>
      obtain rfl : g = [] := hd
      obtain ⟨n, o, rfl, rfl, hn⟩ := in_val h0
      obtain ⟨ad, l, c, rfl, L, rfl⟩ := in_vals h1
      subst he
      subst hv
      refine ⟨[.bool (adF (n, o) 0 l)], ⟨rfl, ?_⟩, ad0 (s := startS adargs [.agg ⟨[.int .i64 n, .bool o]⟩, .slice ad l.length c]) L rfl rfl rfl rfl⟩
      intro i k v hk hv
      match i with
      | 0 => injection hk with hk; injection hv with hv; subst hk; subst hv; exact ⟨rfl, by show some (Value.bool (adF (n, o) 0 (dec (cv l)))) = _; rw [dec_cv]⟩
      | i + 1 => cases hk))
end
section
open Go Go.RowKit Ev
def Nov (l : Vs) : Prop := ∀ v, v ∈ l → v.2 = false ∧ SW v.1
theorem nov_any {l : Vs} (h : Nov l) : anyOver l = false := by
  unfold anyOver
  rw [List.any_eq_false]
  intro v hv
  rw [(h v hv).1]
  simp
theorem nov_bad {l : Vs} (h : Nov l) : anyBad l = false := by
  unfold anyBad
  rw [List.any_eq_false]
  intro v hv
  rw [(h v hv).1]
  simp
theorem nov_app {l m : Vs} (h : Nov l) (k : Nov m) : Nov (l ++ m) := fun v hv => by
  rcases List.mem_append.1 hv with x | x
  · exact h v x
  · exact k v x
theorem nov_cnt : ∀ {l : Vs}, Nov l → cntV l = 0
  | [], _ => rfl
  | v :: l, h => by
    show cntV l + oo v.2 = 0
    rw [nov_cnt (fun u hu => h u (List.mem_cons_of_mem _ hu)), (h v List.mem_cons_self).1]
    rfl
theorem vN_sw {v : Int × Bool} (h : SW v.1) : -9223372036854775808 ≤ vN v ∧ vN v ≤ 9223372036854775807 := by
  unfold vN
  unfold SW at h
  split <;> omega
theorem nov_sum : ∀ {l : Vs}, Nov l → -(9223372036854775808 * (l.length : Int)) ≤ sumV l ∧ sumV l ≤ 9223372036854775808 * (l.length : Int)
  | [], _ => by show -(9223372036854775808 * (0 : Int)) ≤ 0 ∧ (0 : Int) ≤ 9223372036854775808 * (0 : Int); omega
  | v :: l, h => by
    have ih := nov_sum (fun u hu => h u (List.mem_cons_of_mem _ hu))
    have k := vN_sw (h v List.mem_cons_self).2
    show -(9223372036854775808 * ((l.length + 1 : Nat) : Int)) ≤ sumV l + vN v ∧ sumV l + vN v ≤ 9223372036854775808 * ((l.length + 1 : Nat) : Int)
    omega
theorem g_back {S : Int} (h : -170141183460469231731687303715884105728 ≤ S ∧ S < 170141183460469231731687303715884105728) : gH S * 18446744073709551616 + gL S = S := by
  unfold gH gL wrap64
  omega
def ov (S : Int) : Int × Bool := (outN S 0, outB S 0)
theorem ov_in {S : Int} (h : SW S) : ov S = (S, false) := by
  unfold SW at h
  have e : outB S 0 = false := by unfold outB; exact decide_eq_false (by omega)
  unfold ov outN
  rw [e]
  rfl
theorem ov_out {S : Int} (h : ¬ SW S) : (ov S).2 = true := by
  unfold SW at h
  show outB S 0 = true
  unfold outB
  exact decide_eq_true (by omega)
theorem tot_ov {l : Vs} (h : Nov l) (hl : l.length ≤ 120) : totV l = ov (sumV l) := by
  have := nov_sum h
  unfold totV ov
  rw [nov_cnt h, g_back (by omega)]
  rfl
theorem adF_sum : ∀ (l : List Int) (T : Int), SW T → adF (ov (T + l.sum)) T (l.map ov) = true
  | [], T, h => by
    rw [List.sum_nil, Int.add_zero, ov_in h]
    show (T == T && false == false) = true
    simp
  | S :: l, T, h => by
    rw [List.map_cons, List.sum_cons]
    unfold adF
    by_cases hS : SW S
    · rw [ov_in hS]
      split
      · rfl
      split
      · rfl
      rename_i h1
      split
      · rfl
      rename_i h2
      have e := adF_sum l (T + S) (by unfold SW at h hS ⊢; simp only at h1 h2; omega)
      rw [show T + (S + l.sum) = T + S + l.sum by omega]
      exact e
    · rw [if_pos (ov_out hS)]
theorem nov_get {l : Vs} (h : Nov l) (i : Nat) : (l.getD i (0, false)).2 = false ∧ SW (l.getD i (0, false)).1 := by
  rw [List.getD_eq_getElem?_getD]
  cases hv : l[i]? with
  | none => exact ⟨rfl, by unfold SW; decide⟩
  | some v => exact h v (List.mem_of_getElem? hv)
theorem nov_inc {l : Vs} (h : Nov l) : ∀ i : Nat, incO l i = 0 ∧ -(18446744073709551616 * (i : Int)) ≤ incS l i ∧ incS l i ≤ 18446744073709551616 * (i : Int)
  | 0 => ⟨rfl, by show -(18446744073709551616 * (0 : Int)) ≤ 0 ∧ (0 : Int) ≤ 18446744073709551616 * (0 : Int); omega⟩
  | 1 => ⟨rfl, by show -(18446744073709551616 * (1 : Int)) ≤ 0 ∧ (0 : Int) ≤ 18446744073709551616 * (1 : Int); omega⟩
  | i + 2 => by
    obtain ⟨a, b⟩ := nov_inc h (i + 1)
    obtain ⟨c1, c2⟩ := nov_get h i
    obtain ⟨d1, d2⟩ := nov_get h (i + 1)
    refine ⟨?_, ?_⟩
    · show incO l (i + 1) + dO _ _ = 0
      rw [a]
      unfold dO
      rw [c1, d1]
      unfold oo
      simp
    · have e : -18446744073709551616 ≤ dS (l.getD i (0, false)) (l.getD (i + 1) (0, false)) ∧ dS (l.getD i (0, false)) (l.getD (i + 1) (0, false)) ≤ 18446744073709551616 := by
        have k1 := vN_sw c2
        have k2 := vN_sw d2
        unfold dS
        split <;> omega
      show _ ≤ incS l (i + 1) + dS _ _ ∧ incS l (i + 1) + dS _ _ ≤ _
      omega
theorem ic_ov {l : Vs} (h : Nov l) (hl : l.length ≤ 120) : icV l = ov (incS l l.length) := by
  obtain ⟨a, b⟩ := nov_inc h l.length
  unfold icV ov
  rw [nov_any h, a, g_back (by omega)]
  rfl
theorem inc_left (P Q : Vs) : ∀ i : Nat, i ≤ P.length → incS (P ++ Q) i = incS P i
  | 0, _ => rfl
  | 1, _ => rfl
  | i + 2, h => by
    show incS (P ++ Q) (i + 1) + dS _ _ = incS P (i + 1) + dS _ _
    rw [inc_left P Q (i + 1) (by omega)]
    simp only [List.getD_eq_getElem?_getD]
    rw [List.getElem?_append_left (by omega), List.getElem?_append_left (by omega)]
theorem inc_right (P Q : Vs) (hP : 0 < P.length) : ∀ j : Nat, j < Q.length → incS (P ++ Q) (P.length + j + 1) = incS P P.length + dS (P.getD (P.length - 1) (0, false)) (Q.getD 0 (0, false)) + incS Q (j + 1)
  | 0, h => by
    obtain ⟨n, hn⟩ : ∃ n, P.length = n + 1 := ⟨P.length - 1, by omega⟩
    have e := inc_left P Q P.length (Nat.le_refl _)
    rw [hn] at e ⊢
    show incS (P ++ Q) (n + 1) + dS _ _ = _ + incS Q 1
    rw [e]
    simp only [List.getD_eq_getElem?_getD]
    rw [List.getElem?_append_left (by omega), List.getElem?_append_right (by omega)]
    rw [show n + 1 - P.length = 0 by omega, show n + 1 - 1 = n by omega]
    show _ = _ + 0
    omega
  | j + 1, h => by
    have ih := inc_right P Q hP j (by omega)
    show incS (P ++ Q) (P.length + j + 1) + dS ((P ++ Q).getD (P.length + j) (0, false)) ((P ++ Q).getD (P.length + j + 1) (0, false)) = _ + (incS Q (j + 1) + dS (Q.getD j (0, false)) (Q.getD (j + 1) (0, false)))
    rw [ih]
    simp only [List.getD_eq_getElem?_getD]
    rw [List.getElem?_append_right (by omega), List.getElem?_append_right (by omega)]
    rw [show P.length + j - P.length = j by omega, show P.length + j + 1 - P.length = j + 1 by omega]
    omega
theorem inc_app {P Q : Vs} (hP : 0 < P.length) (hQ : 0 < Q.length) : incS (P ++ Q) (P ++ Q).length = incS P P.length + dS (P.getD (P.length - 1) (0, false)) (Q.getD 0 (0, false)) + incS Q Q.length := by
  have e := inc_right P Q hP (Q.length - 1) (by omega)
  rw [List.length_append, show P.length + Q.length = P.length + (Q.length - 1) + 1 by omega, e, show Q.length - 1 + 1 = Q.length by omega]
theorem fmin_spec : ∀ (l : Vs) (v : Int × Bool), ((l.foldl (fun m x => if x.1 < m.1 then x else m) v).1 ≤ v.1 ∧ ∀ u, u ∈ l → (l.foldl (fun m x => if x.1 < m.1 then x else m) v).1 ≤ u.1) ∧ (l.foldl (fun m x => if x.1 < m.1 then x else m) v = v ∨ l.foldl (fun m x => if x.1 < m.1 then x else m) v ∈ l)
  | [], v => ⟨⟨Int.le_refl _, fun u h => by cases h⟩, .inl rfl⟩
  | x :: l, v => by
    obtain ⟨⟨a, b⟩, c⟩ := fmin_spec l (if x.1 < v.1 then x else v)
    rw [List.foldl_cons]
    generalize l.foldl (fun m x => if x.1 < m.1 then x else m) (if x.1 < v.1 then x else v) = r at a b c
    have hx : (if x.1 < v.1 then x else v).1 ≤ v.1 ∧ (if x.1 < v.1 then x else v).1 ≤ x.1 := by split <;> omega
    refine ⟨⟨by omega, fun u hu => ?_⟩, ?_⟩
    · rcases List.mem_cons.1 hu with rfl | hu
      · omega
      · exact b u hu
    · rcases c with rfl | c
      · split
        · exact .inr List.mem_cons_self
        · exact .inl rfl
      · exact .inr (List.mem_cons_of_mem _ c)
theorem min_spec {l : Vs} (h : l ≠ []) : minV l ∈ l ∧ ∀ u, u ∈ l → (minV l).1 ≤ u.1 := by
  cases l with
  | nil => exact absurd rfl h
  | cons v l =>
    obtain ⟨⟨a, b⟩, c⟩ := fmin_spec l v
    refine ⟨?_, fun u hu => ?_⟩
    · rcases c with c | c
      · show l.foldl _ v ∈ _
        rw [c]
        exact List.mem_cons_self
      · exact List.mem_cons_of_mem _ c
    · rcases List.mem_cons.1 hu with rfl | hu
      · exact a
      · exact b u hu
theorem min_app {P Q : Vs} (hP : P ≠ []) (hQ : Q ≠ []) : (minV (P ++ Q)).1 = min (minV P).1 (minV Q).1 := by
  obtain ⟨a1, a2⟩ := min_spec (l := P ++ Q) (by simp [hP])
  obtain ⟨b1, b2⟩ := min_spec hP
  obtain ⟨c1, c2⟩ := min_spec hQ
  have d1 := a2 _ (List.mem_append_left Q b1)
  have d2 := a2 _ (List.mem_append_right P c1)
  rcases List.mem_append.1 a1 with x | x
  · have := b2 _ x
    omega
  · have := c2 _ x
    omega
theorem fmax_spec : ∀ (l : Vs) (v : Int × Bool), (v.1 ≤ (l.foldl (fun m x => if m.1 < x.1 then x else m) v).1 ∧ ∀ u, u ∈ l → u.1 ≤ (l.foldl (fun m x => if m.1 < x.1 then x else m) v).1) ∧ (l.foldl (fun m x => if m.1 < x.1 then x else m) v = v ∨ l.foldl (fun m x => if m.1 < x.1 then x else m) v ∈ l)
  | [], v => ⟨⟨Int.le_refl _, fun u h => by cases h⟩, .inl rfl⟩
  | x :: l, v => by
    obtain ⟨⟨a, b⟩, c⟩ := fmax_spec l (if v.1 < x.1 then x else v)
    rw [List.foldl_cons]
    generalize l.foldl (fun m x => if m.1 < x.1 then x else m) (if v.1 < x.1 then x else v) = r at a b c
    have hx : v.1 ≤ (if v.1 < x.1 then x else v).1 ∧ x.1 ≤ (if v.1 < x.1 then x else v).1 := by split <;> omega
    refine ⟨⟨by omega, fun u hu => ?_⟩, ?_⟩
    · rcases List.mem_cons.1 hu with rfl | hu
      · omega
      · exact b u hu
    · rcases c with rfl | c
      · split
        · exact .inr List.mem_cons_self
        · exact .inl rfl
      · exact .inr (List.mem_cons_of_mem _ c)
theorem max_spec {l : Vs} (h : l ≠ []) : maxV l ∈ l ∧ ∀ u, u ∈ l → u.1 ≤ (maxV l).1 := by
  cases l with
  | nil => exact absurd rfl h
  | cons v l =>
    obtain ⟨⟨a, b⟩, c⟩ := fmax_spec l v
    refine ⟨?_, fun u hu => ?_⟩
    · rcases c with c | c
      · show l.foldl _ v ∈ _
        rw [c]
        exact List.mem_cons_self
      · exact List.mem_cons_of_mem _ c
    · rcases List.mem_cons.1 hu with rfl | hu
      · exact a
      · exact b u hu
theorem max_app {P Q : Vs} (hP : P ≠ []) (hQ : Q ≠ []) : (maxV (P ++ Q)).1 = max (maxV P).1 (maxV Q).1 := by
  obtain ⟨a1, a2⟩ := max_spec (l := P ++ Q) (by simp [hP])
  obtain ⟨b1, b2⟩ := max_spec hP
  obtain ⟨c1, c2⟩ := max_spec hQ
  have d1 := a2 _ (List.mem_append_left Q b1)
  have d2 := a2 _ (List.mem_append_right P c1)
  rcases List.mem_append.1 a1 with x | x
  · have := b2 _ x
    omega
  · have := c2 _ x
    omega
theorem win_1 {l : Vs} (h : Nov l) (hn : l ≠ []) (hl : l.length ≤ 120) : (winV 1 l).1 = ov (sumV l) := by
  unfold winV
  rw [nov_bad h, if_neg (by simp [hn]), if_pos rfl]
  exact tot_ov h hl
theorem win_2 {l : Vs} (h : Nov l) (hn : l ≠ []) : (winV 2 l).1 = ((l.length : Int), false) := by
  unfold winV
  rw [nov_bad h, if_neg (by simp [hn])]
  rfl
theorem win_3 {l : Vs} (h : Nov l) (hn : l ≠ []) : (winV 3 l).1 = minV l := by
  unfold winV overs
  rw [nov_bad h, nov_any h, if_neg (by simp [hn])]
  rfl
theorem win_4 {l : Vs} (h : Nov l) (hn : l ≠ []) : (winV 4 l).1 = maxV l := by
  unfold winV overs
  rw [nov_bad h, nov_any h, if_neg (by simp [hn])]
  rfl
theorem win_5 {l : Vs} (h : Nov l) (hn : l ≠ []) : (winV 5 l).1 = lastV l := by
  unfold winV
  rw [nov_bad h, if_neg (by simp [hn])]
  rfl
theorem win_6 {l : Vs} (h : Nov l) (hn : l ≠ []) (hl : l.length ≤ 120) : (winV 6 l).1 = ov (incS l l.length) := by
  unfold winV
  rw [nov_bad h, if_neg (by simp [hn])]
  exact ic_ov h hl
section
variable {P Q : Vs} (hP : Nov P) (hQ : Nov Q) (nP : P ≠ []) (nQ : Q ≠ []) (lP : P.length ≤ 60) (lQ : Q.length ≤ 60)
include hP hQ nP nQ lP lQ
theorem bw_count : (winV 2 (P ++ Q)).1.1 = P.length + Q.length := by
  rw [win_2 (nov_app hP hQ) (by simp [nP])]
  show ((P ++ Q).length : Int) = _
  rw [List.length_append]
  omega
theorem bw_min : (winV 3 (P ++ Q)).1.1 = min (winV 3 P).1.1 (winV 3 Q).1.1 := by
  rw [win_3 (nov_app hP hQ) (by simp [nP]), win_3 hP nP, win_3 hQ nQ]
  exact min_app nP nQ
theorem bw_max : (winV 4 (P ++ Q)).1.1 = max (winV 4 P).1.1 (winV 4 Q).1.1 := by
  rw [win_4 (nov_app hP hQ) (by simp [nP]), win_4 hP nP, win_4 hQ nQ]
  exact max_app nP nQ
theorem bw_last {v : Int × Bool} (hv : Q[Q.length - 1]? = some v) : (winV 5 (P ++ Q)).1 = v := by
  rw [win_5 (nov_app hP hQ) (by simp [nP])]
  unfold lastV
  have k : 0 < Q.length := List.length_pos_iff.2 nQ
  rw [List.getLastD_eq_getLast?, List.getLast?_eq_getElem?, List.length_append, List.getElem?_append_right (by omega), show P.length + Q.length - 1 - P.length = Q.length - 1 by omega, hv]
  rfl
theorem bw_sum : adF (winV 1 (P ++ Q)).1 0 [(winV 1 P).1, (winV 1 Q).1] = true := by
  rw [win_1 (nov_app hP hQ) (by simp [nP]) (by rw [List.length_append]; omega), win_1 hP nP (by omega), win_1 hQ nQ (by omega), sum_app]
  have e := adF_sum [sumV P, sumV Q] 0 (by unfold SW; decide)
  rw [show (0 : Int) + [sumV P, sumV Q].sum = sumV P + sumV Q by simp] at e
  exact e
theorem bw_inc {u v : Int × Bool} (hu : P[P.length - 1]? = some u) (hv : Q[0]? = some v) : adF (winV 6 (P ++ Q)).1 0 [(winV 6 P).1, (winV 6 [u, v]).1, (winV 6 Q).1] = true := by
  have kP : 0 < P.length := List.length_pos_iff.2 nP
  have kQ : 0 < Q.length := List.length_pos_iff.2 nQ
  have nuv : Nov [u, v] := fun w hw => by
    rcases List.mem_cons.1 hw with rfl | hw
    · exact hP _ (List.mem_of_getElem? hu)
    · rcases List.mem_cons.1 hw with rfl | hw
      · exact hQ _ (List.mem_of_getElem? hv)
      · cases hw
  rw [win_6 (nov_app hP hQ) (by simp [nP]) (by rw [List.length_append]; omega), win_6 hP nP (by omega), win_6 hQ nQ (by omega), win_6 nuv (by simp) (by show 2 ≤ 120; omega), inc_app kP kQ]
  have e := adF_sum [incS P P.length, incS [u, v] 2, incS Q Q.length] 0 (by unfold SW; decide)
  have e2 : incS [u, v] 2 = dS u v := by show (0 : Int) + dS u v = _; omega
  have e3 : P.getD (P.length - 1) (0, false) = u := by rw [List.getD_eq_getElem?_getD, hu]; rfl
  have e4 : Q.getD 0 (0, false) = v := by rw [List.getD_eq_getElem?_getD, hv]; rfl
  rw [e3, e4]
  rw [show (0 : Int) + [incS P P.length, incS [u, v] 2, incS Q Q.length].sum = incS P P.length + dS u v + incS Q Q.length by simp [e2]; omega] at e
  exact e
end
end
section
open Go Go.RowKit Ev
def mkC (V : Vs) : List Value := [.int .i64 0, .bool false, .int .i64 (winV 1 V).1.1, .bool (winV 1 V).1.2, .int .i64 (winV 2 V).1.1, .bool (winV 2 V).1.2, .int .i64 (winV 3 V).1.1, .bool (winV 3 V).1.2, .int .i64 (winV 4 V).1.1, .bool (winV 4 V).1.2, .int .i64 (winV 5 V).1.1, .bool (winV 5 V).1.2, .int .i64 (winV 6 V).1.1, .bool (winV 6 V).1.2]
noncomputable abbrev mkU (R : Addr → Option Value) : Nat → List Value → Option Value := uRd (cxOf Tryz.prog [] [] [] (mkOrc []) [] bwU) R
theorem mk_U {R : Addr → Option Value} (j : Nat) (vs : List Value) : mkU R (j + 16) vs = bwU j vs := n_U j vs
noncomputable def mkQ (R : Addr → Option Value) (V : Vs) : (Nat → Value) → List Value → List (Nat × AObj) → Prop := fun s vs _ => denV s (mkU R) 9 (oneA vs) = some (oneA (outV [([6, 1, 6, 1, 6, 1, 6, 1, 6, 1, 6, 1, 6, 1], true)] (mkC V)))
section
variable {R : Addr → Option Value} {ad : Option Addr} {l : Ps} {c : Nat} (L : LstP R ad l) (hn : 0 < l.length) {s : Nat → Value} (h0 : s 0 = .slice ad l.length c) {V : Vs} (hV : V = l.map (·.2))
include L hn h0 hV
theorem mk10 : Ev.Ends (mkU R) mktab (mkQ R V) 10 s := by
  have hc := n_cont3 (cx := cxOf Tryz.prog [] [] [] (mkOrc []) [] bwU) (c := c) L
  have u0 : ∀ k : Nat, mkU R 36 [.int .i64 (.ofNat k), .agg ⟨cp l⟩] = some (.int .i64 (winV (.ofNat k) V).1.1) := fun k => by
    rw [mk_U 20]
    show some (Value.int .i64 (winV (.ofNat k) (dec3 (cp l))).1.1) = _
    rw [dec_cp, hV]
  have u1 : ∀ k : Nat, mkU R 37 [.int .i64 (.ofNat k), .agg ⟨cp l⟩] = some (.bool (winV (.ofNat k) V).1.2) := fun k => by
    rw [mk_U 21]
    show some (Value.bool (winV (.ofNat k) (dec3 (cp l))).1.2) = _
    rw [dec_cp, hV]
  have e0 : ∀ k : Nat, denS s (mkU R) (sy 6 37 [(.int .i64 (.ofNat k)), (sy 0 10 [(num 3), (unk 0 0)])]) = some (.int .i64 (winV (.ofNat k) V).1.1) := fun k => by
    simp only [nA, denS_unk, f_num, f_int, f_bool, mapO, Option.bind_some, n_lss, n_eql, n_eql0, n_add, n_sub, n_len, n_rd, n_ix, n_fd, n_cell, n_over, n_t9, n_t1, n_t7, n_t11, h0, hc, u0]
  have e1 : ∀ k : Nat, denS s (mkU R) (sy 1 38 [(.int .i64 (.ofNat k)), (sy 0 10 [(num 3), (unk 0 0)])]) = some (.bool (winV (.ofNat k) V).1.2) := fun k => by
    simp only [nA, denS_unk, f_num, f_int, f_bool, mapO, Option.bind_some, n_lss, n_eql, n_eql0, n_add, n_sub, n_len, n_rd, n_ix, n_fd, n_cell, n_over, n_t9, n_t1, n_t7, n_t11, h0, hc, u1]
  have d0 : ∀ k : Nat, denV s (mkU R) 8 (sy 6 37 [(.int .i64 (.ofNat k)), (sy 0 10 [(num 3), (unk 0 0)])]) = some (.int .i64 (winV (.ofNat k) V).1.1) := e0
  have d1 : ∀ k : Nat, denV s (mkU R) 8 (sy 1 38 [(.int .i64 (.ofNat k)), (sy 0 10 [(num 3), (unk 0 0)])]) = some (.bool (winV (.ofNat k) V).1.2) := e1
  have f0 : denV s (mkU R) 8 (.int .i64 (.ofNat 0)) = some (.int .i64 (.ofNat 0)) := denS_flat rfl
  have f1 : denV s (mkU R) 8 (.bool false) = some (.bool false) := denS_flat rfl
  refine Ends_mk ?_
  show At _ _ _ _ mkvt10
  unfold mkvt10
  show denV s (mkU R) 9 (.agg ⟨_⟩) = some (.agg ⟨_⟩)
  unfold denV
  simp only [mapO, d0, d1, f0, f1]
  rfl
theorem mk_t {X : Nat → (Nat → Value) → Prop} {Q : (Nat → Value) → List Value → List (Nat × AObj) → Prop} {t : VT} (h : At (mkU R) X Q s t) : At (mkU R) X Q s (.node (sy 1 9 [(num 7), (unk 0 0)]) (.node (sy 1 9 [(num 11), (sy 6 5 [(unk 0 0)]), (num 5864062014634)]) t .dead) .dead) := by
  have few := lstp_few L
  refine at_t ?_ (at_t ?_ h)
  · simp only [nA, denS_unk, f_num, f_int, f_bool, mapO, Option.bind_some, n_lss, n_eql, n_eql0, n_add, n_sub, n_len, n_rd, n_ix, n_fd, n_cell, n_over, n_t9, n_t1, n_t7, n_t11, h0]
    rw [bl hn]
  · simp only [nA, denS_unk, f_num, f_int, f_bool, mapO, Option.bind_some, n_lss, n_eql, n_eql0, n_add, n_sub, n_len, n_rd, n_ix, n_fd, n_cell, n_over, n_t9, n_t1, n_t7, n_t11, h0]
    rw [show Nat.ble l.length 5864062014634 = true from Nat.ble_eq.mpr few]
theorem mk9 : Ev.Ends (mkU R) mktab (mkQ R V) 9 s := Ends_mk (mk10 L hn h0 hV)
theorem mk8 : Ev.Ends (mkU R) mktab (mkQ R V) 8 s := Ends_mk (mk_t L hn h0 hV (mk9 L hn h0 hV))
theorem mk7 : Ev.Ends (mkU R) mktab (mkQ R V) 7 s := Ends_mk (mk_t L hn h0 hV (mk8 L hn h0 hV))
theorem mk6 : Ev.Ends (mkU R) mktab (mkQ R V) 6 s := Ends_mk (mk_t L hn h0 hV (mk7 L hn h0 hV))
theorem mk5 : Ev.Ends (mkU R) mktab (mkQ R V) 5 s := Ends_mk (mk_t L hn h0 hV (mk6 L hn h0 hV))
theorem mk4 : Ev.Ends (mkU R) mktab (mkQ R V) 4 s := Ends_mk (mk_t L hn h0 hV (mk5 L hn h0 hV))
theorem mk3 : Ev.Ends (mkU R) mktab (mkQ R V) 3 s := Ends_mk (mk_t L hn h0 hV (mk4 L hn h0 hV))
theorem mk0 : Ev.Ends (mkU R) mktab (mkQ R V) 0 s := Ends_mk (Ends_mk (Ends_mk (mk3 L hn h0 hV)))
end
theorem mk_ext (q : List (Value × Bool)) : ExtOk Tryz.prog (cxOf Tryz.prog [] [] [] (mkOrc q) q bwU) :=
  orc_cons (fn_is window_is rfl (enter_of Tryz.func6 (by kernel_rfl) (by kernel_rfl))) (ext_nil _ _ _ _)
theorem makes_is : FnIsN Tryz.prog [] bwU 5 mkargs [0] [([6, 1, 6, 1, 6, 1, 6, 1, 6, 1, 6, 1, 6, 1], true)] 23 :=
  fn_of_ts_n mk_ext bw_mixed mk_flat (pls := mkpls) rfl mk_checked fun w args' vals hin hne => by
    match args', hin with
    | [v0], ⟨a, b, hv, h0, hd⟩ =>
      obtain rfl : b = [] := hd
      obtain ⟨ad, l, c, rfl, L, rfl⟩ := in_pts h0
      subst hv
      obtain ⟨ad', n', c', e0, hn⟩ := hne 0 (List.mem_singleton.2 rfl)
      have e0 : Value.slice ad l.length c = .slice ad' n' c' := e0
      injection e0 with _ e0 _
      subst e0
      have hsw : ∀ fn : Int, SW (winV fn (l.map (fun x : Int × Int × Bool => x.2))).1.1 := fun fn => sw_win (fun v hv => by
        obtain ⟨u, hu, rfl⟩ := List.mem_map.1 hv
        exact lstp_sw L u hu) (by rw [List.length_map]; exact lstp_few L)
      refine ⟨mkC (l.map (fun x : Int × Int × Bool => x.2)), ⟨rfl, ?_⟩, mk0 (s := startS mkargs [.slice ad l.length c]) L hn rfl rfl⟩
      intro i k v hk hv
      match i with
      | 0 => injection hk with hk; injection hv with hv; subst hk; subst hv; exact ⟨by decide, rfl⟩
      | 1 => injection hk with hk; injection hv with hv; subst hk; subst hv; exact ⟨rfl, rfl⟩
      | 2 => injection hk with hk; injection hv with hv; subst hk; subst hv; exact ⟨i64_ty (hsw 1), by show some (Value.int .i64 (winV 1 (dec3 (cp l))).1.1) = _; rw [dec_cp]⟩
      | 3 => injection hk with hk; injection hv with hv; subst hk; subst hv; exact ⟨rfl, by show some (Value.bool (winV 1 (dec3 (cp l))).1.2) = _; rw [dec_cp]⟩
      | 4 => injection hk with hk; injection hv with hv; subst hk; subst hv; exact ⟨i64_ty (hsw 2), by show some (Value.int .i64 (winV 2 (dec3 (cp l))).1.1) = _; rw [dec_cp]⟩
      | 5 => injection hk with hk; injection hv with hv; subst hk; subst hv; exact ⟨rfl, by show some (Value.bool (winV 2 (dec3 (cp l))).1.2) = _; rw [dec_cp]⟩
      | 6 => injection hk with hk; injection hv with hv; subst hk; subst hv; exact ⟨i64_ty (hsw 3), by show some (Value.int .i64 (winV 3 (dec3 (cp l))).1.1) = _; rw [dec_cp]⟩
      | 7 => injection hk with hk; injection hv with hv; subst hk; subst hv; exact ⟨rfl, by show some (Value.bool (winV 3 (dec3 (cp l))).1.2) = _; rw [dec_cp]⟩
      | 8 => injection hk with hk; injection hv with hv; subst hk; subst hv; exact ⟨i64_ty (hsw 4), by show some (Value.int .i64 (winV 4 (dec3 (cp l))).1.1) = _; rw [dec_cp]⟩
      | 9 => injection hk with hk; injection hv with hv; subst hk; subst hv; exact ⟨rfl, by show some (Value.bool (winV 4 (dec3 (cp l))).1.2) = _; rw [dec_cp]⟩
      | 10 => injection hk with hk; injection hv with hv; subst hk; subst hv; exact ⟨i64_ty (hsw 5), by show some (Value.int .i64 (winV 5 (dec3 (cp l))).1.1) = _; rw [dec_cp]⟩
      | 11 => injection hk with hk; injection hv with hv; subst hk; subst hv; exact ⟨rfl, by show some (Value.bool (winV 5 (dec3 (cp l))).1.2) = _; rw [dec_cp]⟩
      | 12 => injection hk with hk; injection hv with hv; subst hk; subst hv; exact ⟨i64_ty (hsw 6), by show some (Value.int .i64 (winV 6 (dec3 (cp l))).1.1) = _; rw [dec_cp]⟩
      | 13 => injection hk with hk; injection hv with hv; subst hk; subst hv; exact ⟨rfl, by show some (Value.bool (winV 6 (dec3 (cp l))).1.2) = _; rw [dec_cp]⟩
      | i + 14 => cases hk
end
end Go.Proofs.YtkgflcpgjdbcdaaGreatDoor
