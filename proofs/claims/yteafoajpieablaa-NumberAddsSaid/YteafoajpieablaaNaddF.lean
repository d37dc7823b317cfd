/- NumberAdds: the contracts it rests on, what came in, and the call. -/
import Derived.Test.YteafoajpieablaaNaddE
set_option linter.unusedVariables false
set_option linter.unusedSimpArgs false
namespace Go.Proofs.Yteafoajpieablaa
open Go Go.RowKit Ev
/-! Cells of their kinds. -/
theorem ty_i64 {v : Value} (h : tyOk 6 v = true) : ∃ n, v = .int .i64 n ∧ SW n := by
  obtain ⟨k, n, rfl, hk⟩ := ty_int (by omega) h
  cases k <;> first | (exfalso; revert hk; decide) | skip
  refine ⟨n, rfl, ?_⟩
  simp [tyOk, kindCode, IntKind.min, IntKind.max, IntKind.bits, IntKind.signed] at h
  unfold SW
  omega
theorem ty_u64 {v : Value} (h : tyOk 10 v = true) : ∃ n, v = .int .u64 n ∧ UW n := by
  obtain ⟨k, n, rfl, hk⟩ := ty_int (by omega) h
  cases k <;> first | (exfalso; revert hk; decide) | skip
  refine ⟨n, rfl, ?_⟩
  simp [tyOk, kindCode, IntKind.min, IntKind.max, IntKind.bits, IntKind.signed] at h
  unfold UW
  omega
theorem i64_ty {n : Int} (h : SW n) : tyOk 6 (.int .i64 n) = true := by
  unfold SW at h
  simp [tyOk, kindCode, IntKind.min, IntKind.max, IntKind.bits, IntKind.signed]
  omega
theorem u64_ty {n : Int} (h : UW n) : tyOk 10 (.int .u64 n) = true := by
  unfold UW at h
  simp [tyOk, kindCode, IntKind.min, IntKind.max, IntKind.bits, IntKind.signed]
  omega
theorem c_i64 : cellTy Try.prog 2 = 6 := by decide +kernel
theorem c_int : cellTy Try.prog 3 = 6 := by decide +kernel
theorem c_u64 : cellTy Try.prog 33 = 10 := by decide +kernel
theorem c_bool : cellTy Try.prog 4 = 1 := by decide +kernel
theorem s_val : Try.prog.cellsOf 23 = 2 := by decide +kernel
theorem s_int : Try.prog.cellsOf 3 = 1 := by decide +kernel
theorem s_i64 : Try.prog.cellsOf 2 = 1 := by decide +kernel
theorem s_u64 : Try.prog.cellsOf 33 = 1 := by decide +kernel
theorem s_bool : Try.prog.cellsOf 4 = 1 := by decide +kernel
theorem s_great : Try.prog.cellsOf 35 = 3 := by decide +kernel
section
variable {R : Addr → Option Value}
theorem rds_i64 {f : Nat} {v : Value} (h : Rds Try.prog R f 2 [v]) : ∃ n, v = .int .i64 n ∧ SW n := by
  cases f with
  | zero => exact h.elim
  | succ f =>
    unfold Rds at h
    rw [Try.underlying2] at h
    exact ty_i64 (by rw [← c_i64]; exact h)
theorem rds_int {f : Nat} {v : Value} (h : Rds Try.prog R f 3 [v]) : ∃ n, v = .int .i64 n ∧ SW n := by
  cases f with
  | zero => exact h.elim
  | succ f =>
    unfold Rds at h
    rw [Try.underlying3] at h
    exact ty_i64 (by rw [← c_int]; exact h)
theorem rds_u64 {f : Nat} {v : Value} (h : Rds Try.prog R f 33 [v]) : ∃ n, v = .int .u64 n ∧ UW n := by
  cases f with
  | zero => exact h.elim
  | succ f =>
    unfold Rds at h
    rw [Try.underlying33] at h
    exact ty_u64 (by rw [← c_u64]; exact h)
theorem rds_bool {f : Nat} {v : Value} (h : Rds Try.prog R f 4 [v]) : ∃ b, v = .bool b := by
  cases f with
  | zero => exact h.elim
  | succ f =>
    unfold Rds at h
    rw [Try.underlying4] at h
    exact ty_bool (by rw [← c_bool]; exact h)
theorem rds_val {f : Nat} {cs : List Value} (h : Rds Try.prog R f 23 cs) : ∃ n b, cs = [.int .i64 n, .bool b] ∧ SW n := by
  cases f with
  | zero => exact h.elim
  | succ f =>
    unfold Rds at h
    rw [Try.underlying23] at h
    obtain ⟨h1, h2⟩ := h
    rw [s_val] at h1
    match cs, h1 with
    | [c0, c1], _ =>
      have q0 : Rds Try.prog R f 2 (([c0, c1].drop 0).take (Try.prog.cellsOf 2)) := h2 0 _ rfl
      have q1 : Rds Try.prog R f 4 (([c0, c1].drop 1).take (Try.prog.cellsOf 4)) := h2 1 _ rfl
      rw [s_i64] at q0
      rw [s_bool] at q1
      obtain ⟨n, rfl, hn⟩ := rds_i64 (v := c0) q0
      obtain ⟨b, rfl⟩ := rds_bool (v := c1) q1
      exact ⟨n, b, rfl, hn⟩
theorem rds_great {f : Nat} {cs : List Value} (h : Rds Try.prog R f 35 cs) : ∃ x y z, cs = [.int .i64 x, .int .u64 y, .int .u64 z] ∧ SW x ∧ UW y ∧ UW z := by
  cases f with
  | zero => exact h.elim
  | succ f =>
    unfold Rds at h
    rw [Try.underlying35] at h
    obtain ⟨h1, h2⟩ := h
    rw [s_great] at h1
    match cs, h1 with
    | [c0, c1, c2], _ =>
      have q0 : Rds Try.prog R f 2 (([c0, c1, c2].drop 0).take (Try.prog.cellsOf 2)) := h2 0 _ rfl
      have q1 : Rds Try.prog R f 33 (([c0, c1, c2].drop 1).take (Try.prog.cellsOf 33)) := h2 1 _ rfl
      have q2 : Rds Try.prog R f 33 (([c0, c1, c2].drop 2).take (Try.prog.cellsOf 33)) := h2 2 _ rfl
      rw [s_i64] at q0
      rw [s_u64] at q1 q2
      obtain ⟨x, rfl, hx⟩ := rds_i64 (v := c0) q0
      obtain ⟨y, rfl, hy⟩ := rds_u64 (v := c1) q1
      obtain ⟨z, rfl, hz⟩ := rds_u64 (v := c2) q2
      exact ⟨x, y, z, rfl, hx, hy, hz⟩
/-! What contracts are handed. -/
theorem in_val {v : Value} {vals : List Value} (h : InOk Try.prog R (23, none) v vals) : ∃ n b, v = .agg ⟨[.int .i64 n, .bool b]⟩ ∧ vals = [.int .i64 n, .bool b] ∧ SW n := by
  obtain ⟨⟨f, h1⟩, h2⟩ := h
  rw [show Try.prog.underlying _ = _ from Try.underlying23] at h2
  obtain ⟨cs, rfl, rfl⟩ := h2
  obtain ⟨n, b, rfl, hn⟩ := rds_val h1
  exact ⟨n, b, rfl, rfl, hn⟩
theorem in_great {v : Value} {vals : List Value} (h : InOk Try.prog R (35, none) v vals) : ∃ x y z, v = .agg ⟨[.int .i64 x, .int .u64 y, .int .u64 z]⟩ ∧ vals = [.int .i64 x, .int .u64 y, .int .u64 z] ∧ SW x ∧ UW y ∧ UW z := by
  obtain ⟨⟨f, h1⟩, h2⟩ := h
  rw [show Try.prog.underlying _ = _ from Try.underlying35] at h2
  obtain ⟨cs, rfl, rfl⟩ := h2
  obtain ⟨x, y, z, rfl, hn⟩ := rds_great h1
  exact ⟨x, y, z, rfl, rfl, hn⟩
theorem in_int {v : Value} {vals : List Value} (h : InOk Try.prog R (3, none) v vals) : ∃ n, v = .int .i64 n ∧ vals = [.int .i64 n] ∧ SW n := by
  obtain ⟨⟨f, h1⟩, h2⟩ := h
  rw [show Try.prog.underlying _ = _ from Try.underlying3] at h2
  obtain ⟨rfl, hc⟩ := h2
  have hv : vcells v = [v] := by cases v <;> first | rfl | (simp [isCell] at hc)
  rw [hv] at h1
  obtain ⟨n, rfl, hn⟩ := rds_int h1
  exact ⟨n, rfl, rfl, hn⟩
end
theorem put_is : FnIs Try.prog [] naU 15 putP greatR 0 := by
  intro w args' vals _ hin
  match args', hin with
  | [v0, v1], ⟨a, b, hv, h0, c, d, hc, h1, hd⟩ =>
    obtain rfl : d = [] := hd
    obtain ⟨x, y, z, rfl, rfl, hx, hy, hz⟩ := in_great h0
    obtain ⟨n, o, rfl, rfl, hn⟩ := in_val h1
    subst hc
    subst hv
    refine ⟨[.int .i64 (hiP x y (oh n o) (ol n o)), .int .u64 (loP y (ol n o)), .int .u64 (loP z (oo o))], ⟨rfl, ?_⟩, (put_any x y z n o w hx hy hz hn).mono fun e w' ⟨he, hb⟩ => ⟨he, hb⟩⟩
    intro i k v hk hv
    match i with
    | 0 => injection hk with hk; injection hv with hv; subst hk; subst hv; exact ⟨i64_ty (hiP_sw _ _ _ _), rfl⟩
    | 1 => injection hk with hk; injection hv with hv; subst hk; subst hv; exact ⟨u64_ty (loP_uw _ _), rfl⟩
    | 2 => injection hk with hk; injection hv with hv; subst hk; subst hv; exact ⟨u64_ty (loP_uw _ _), rfl⟩
    | i + 3 => cases hk
theorem take_is : FnIs Try.prog [] naU 17 putP greatR 3 := by
  intro w args' vals _ hin
  match args', hin with
  | [v0, v1], ⟨a, b, hv, h0, c, d, hc, h1, hd⟩ =>
    obtain rfl : d = [] := hd
    obtain ⟨x, y, z, rfl, rfl, hx, hy, hz⟩ := in_great h0
    obtain ⟨n, o, rfl, rfl, hn⟩ := in_val h1
    subst hc
    subst hv
    refine ⟨[.int .i64 (hiM x y (oh n o) (ol n o)), .int .u64 (loM y (ol n o)), .int .u64 (loM z (oo o))], ⟨rfl, ?_⟩, (take_any x y z n o w hx hy hz hn).mono fun e w' ⟨he, hb⟩ => ⟨he, hb⟩⟩
    intro i k v hk hv
    match i with
    | 0 => injection hk with hk; injection hv with hv; subst hk; subst hv; exact ⟨i64_ty (hiM_sw _ _ _ _), rfl⟩
    | 1 => injection hk with hk; injection hv with hv; subst hk; subst hv; exact ⟨u64_ty (loM_uw _ _), rfl⟩
    | 2 => injection hk with hk; injection hv with hv; subst hk; subst hv; exact ⟨u64_ty (loM_uw _ _), rfl⟩
    | i + 3 => cases hk
theorem outN_sw (S o : Int) : SW (outN S o) := by
  unfold outN SW
  by_cases h : outB S o = true
  · rw [if_pos h]; omega
  · rw [if_neg h]
    have h' : outB S o = false := by simpa using h
    unfold outB at h'
    have := of_decide_eq_false h'
    omega
theorem val_is : FnIs Try.prog [] naU 21 valP valR 6 := by
  intro w args' vals _ hin
  match args', hin with
  | [v0], ⟨a, b, hv, h0, hd⟩ =>
    obtain rfl : b = [] := hd
    obtain ⟨x, y, z, rfl, rfl, hx, hy, hz⟩ := in_great h0
    subst hv
    refine ⟨[.int .i64 (outN (x * 18446744073709551616 + y) z), .bool (outB (x * 18446744073709551616 + y) z)], ⟨rfl, ?_⟩, (vof_any x y z w hx hy hz).mono fun e w' ⟨he, hb⟩ => ⟨he, hb⟩⟩
    intro i k v hk hv
    match i with
    | 0 => injection hk with hk; injection hv with hv; subst hk; subst hv; exact ⟨i64_ty (outN_sw _ _), rfl⟩
    | 1 => injection hk with hk; injection hv with hv; subst hk; subst hv; exact ⟨rfl, rfl⟩
    | i + 2 => cases hk
theorem doN_sw (op a : Int) (ao : Bool) (b : Int) (bo : Bool) : SW (doN op a ao b bo) := by
  unfold doN
  split
  · unfold SW; omega
  · split
    · unfold SW; omega
    · exact outN_sw _ _
theorem do_is : FnIs Try.prog [] naU 7 doP doR 8 := by
  intro w args' vals _ hin
  match args', hin with
  | [v0, v1, v2], ⟨a, b, hv, h0, c, d, hc, h1, e, g, he, h2, hd⟩ =>
    obtain rfl : g = [] := hd
    obtain ⟨op, rfl, rfl, -⟩ := in_int h0
    obtain ⟨n, o, rfl, rfl, hn⟩ := in_val h1
    obtain ⟨n', o', rfl, rfl, hn'⟩ := in_val h2
    subst he
    subst hc
    subst hv
    refine ⟨[.int .i64 (doN op n o n' o'), .bool (doB op n o n' o'), .int .i64 (doE op n o n' o')], ⟨rfl, ?_⟩, (do_any op n o n' o' w hn hn').mono fun e w' ⟨he, hb⟩ => ⟨he, hb⟩⟩
    intro i k v hk hv
    match i with
    | 0 => injection hk with hk; injection hv with hv; subst hk; subst hv; exact ⟨i64_ty (doN_sw _ _ _ _ _), rfl⟩
    | 1 => injection hk with hk; injection hv with hv; subst hk; subst hv; exact ⟨rfl, rfl⟩
    | 2 => injection hk with hk; injection hv with hv; subst hk; subst hv; exact ⟨i64_ty (by unfold doE SW; split <;> omega), rfl⟩
    | i + 3 => cases hk
/-! What came in. -/
theorem pick_list {α : Type} {p : Nat → α → Prop} : ∀ n, (∀ i, i < n → ∃ v, p i v) → ∃ l : List α, l.length = n ∧ ∀ i v, l[i]? = some v → p i v := by
  intro n
  induction n with
  | zero => exact fun _ => ⟨[], rfl, fun i v h => by cases h⟩
  | succ n ih =>
    intro h
    obtain ⟨l, hl, h1⟩ := ih (fun i hi => h i (by omega))
    obtain ⟨v, hv⟩ := h n (by omega)
    refine ⟨l ++ [v], by simp [hl], fun i u hi => ?_⟩
    by_cases hn : i < l.length
    · rw [List.getElem?_append_left hn] at hi
      exact h1 i u hi
    · rw [List.getElem?_append_right (by omega)] at hi
      have : i - l.length = 0 := by
        by_cases h0 : i - l.length = 0
        · exact h0
        · rw [List.getElem?_eq_none (by simp; omega)] at hi; cases hi
      rw [this] at hi
      injection hi with hi
      subst hi
      have : i = n := by omega
      subst this
      exact hv
section
variable {R : Addr → Option Value}
theorem lst_of {f : Nat} {v : Value} (h : Rds Try.prog R f 40 [v]) : ∃ ad l c, v = .slice ad (List.length l) c ∧ Lst R ad l ∧ ∃ cs, readSl R 2 v = some cs := by
  cases f with
  | zero => exact h.elim
  | succ f =>
    unfold Rds at h
    rw [Try.underlying40] at h
    cases v with
    | slice ad n c =>
     cases ad with
     | none =>
      have h : n = 0 := h
      subst h
      exact ⟨none, [], c, rfl, rfl, [], rfl⟩
     | some x =>
      obtain ⟨h1, h2, h3⟩ := h
      obtain ⟨l, hl, hr⟩ := pick_list (p := fun i (v : Int × Bool) => R ((x.add (i * 2)).add 0) = some (.int .i64 v.1) ∧ R ((x.add (i * 2)).add 1) = some (.bool v.2) ∧ SW v.1) n (fun i hi => by
        obtain ⟨l', k1, k2, k3⟩ := h3 i hi
        obtain ⟨p, q, rfl, hp⟩ := rds_val k3
        rw [s_val] at k2
        refine ⟨(p, q), ?_, ?_, hp⟩
        · rw [Deep.add_add]; exact k2 0 _ rfl
        · rw [Deep.add_add]; exact k2 1 _ rfl)
      subst hl
      have D : readN R x (l.length * 2) = some (cv l) := readN_of _ _ (cv_len l) fun j v hj => by
        have hlt : j < l.length * 2 := by
          have := (List.getElem?_eq_some_iff.1 hj).1
          rw [cv_len] at this
          exact this
        obtain ⟨p, q, hv⟩ := at_of (m := l) (i := j / 2) (by omega)
        obtain ⟨g1, g2⟩ := cv_get hv
        obtain ⟨r1, r2, -⟩ := hr _ _ hv
        rw [Deep.add_add] at r1 r2
        by_cases hm : j % 2 = 0
        · rw [show j / 2 * 2 + 0 = j by omega] at g1 r1
          rw [g1] at hj
          rw [r1, hj]
        · rw [show j / 2 * 2 + 1 = j by omega] at g2 r2
          rw [g2] at hj
          rw [r2, hj]
      exact ⟨some x, l, c, rfl, ⟨fun i p q hv => ⟨(hr _ _ hv).1, (hr _ _ hv).2.1⟩, D, fun v hv => by
        obtain ⟨i, hi⟩ := List.getElem?_of_mem hv
        exact (hr _ _ hi).2.2, h2.1⟩, cv l, D⟩
    | _ => exact h.elim
theorem datB_of {f : Nat} {v : Value} (h : Rds Try.prog R f 41 [v]) : ∃ ad bs c, v = .slice ad (List.length bs) c ∧ DatB R ad bs ∧ ∃ cs, readSl R 1 v = some cs := by
  cases f with
  | zero => exact h.elim
  | succ f =>
    unfold Rds at h
    rw [Try.underlying41] at h
    cases v with
    | slice ad n c =>
     cases ad with
     | none =>
      have h : n = 0 := h
      subst h
      exact ⟨none, [], c, rfl, ⟨fun i n h => (by cases h), fun n h => (by cases h)⟩, [], rfl⟩
     | some x =>
      obtain ⟨h1, h2, h3⟩ := h
      obtain ⟨l, hl, hr⟩ := pick_list (p := fun i (v : Int) => R ((x.add (i * 1)).add 0) = some (.int .i64 v) ∧ SW v) n (fun i hi => by
        obtain ⟨l', k1, k2, k3⟩ := h3 i hi
        rw [s_int] at k1 k2
        match l', k1 with
        | [u], _ =>
          obtain ⟨p, rfl, hp⟩ := rds_int k3
          refine ⟨p, ?_, hp⟩
          rw [Deep.add_add]; exact k2 0 _ rfl)
      subst hl
      have D : readN R x (l.length * 1) = some (l.map fun n => Value.int .i64 n) := readN_of _ _ (by simp) fun j v hj => by
        rw [List.getElem?_map] at hj
        cases hv : l[j]? with
        | none => rw [hv] at hj; cases hj
        | some n =>
          rw [hv] at hj
          injection hj with hj
          have r1 := (hr _ _ hv).1
          rw [Deep.add_add, show j * 1 + 0 = j by omega] at r1
          rw [r1, ← hj]
      exact ⟨some x, l, c, rfl, ⟨fun i n hv => ⟨x, rfl, (hr _ _ hv).1⟩, fun v hv => by
        obtain ⟨i, hi⟩ := List.getElem?_of_mem hv
        exact (hr _ _ hi).2⟩, _, D⟩
    | _ => exact h.elim
end
/-! The call. -/
theorem na_mixed : Try.prog.follows .mixedOrders = true := by kernel_rfl
theorem na_rl : tells true (evFn (cxOf Try.prog naEx [] [] []) 100000 60 (.fn 6) [] ⟨.nil, 100, 100⟩) = true := by decide +kernel
theorem na_lives {q : List (Value × Bool)} : OrcIs Try.prog (cxOf Try.prog naEx [] [] [] q naU) 6 trueO := trueO_is (enter_of Try.func6 (by kernel_rfl) (by kernel_rfl)) (ext_cons na_e0 (ext_cons na_e1 (ext_nil _ [] []))) na_mixed na_rl
theorem na_ext (q : List (Value × Bool)) : ExtOk Try.prog (cxOf Try.prog naEx [] [] (naOrc q) q naU) :=
  orc_cons na_lives (orc_cons (fn_is put_is rfl (enter_of Try.func15 (by kernel_rfl) (by kernel_rfl))) (orc_cons (fn_is take_is rfl (enter_of Try.func17 (by kernel_rfl) (by kernel_rfl)))
    (orc_cons (fn_is val_is rfl (enter_of Try.func21 (by kernel_rfl) (by kernel_rfl))) (orc_cons (fn_is do_is rfl (enter_of Try.func7 (by kernel_rfl) (by kernel_rfl))) (ext_cons na_e0 (ext_cons na_e1 (ext_nil _ _ _ _)))))))
theorem one_cell {P : Program} {w : World} {r : Reach} {b : Nat} {t e : TypeId} {v : Value} (hu : P.underlying t = some (.slice e)) (h : Value.okWide P w r b t v) : vcells v = [v] := by
  unfold Value.okWide at h
  rw [hu] at h
  have ht := cell_ty h
  cases v <;> first | rfl | (simp [tyOk] at ht)
theorem agg_cell {P : Program} {w : World} {r : Reach} {b : Nat} {t : TypeId} {fs : Array Field} {v : Value} (hu : P.underlying t = some (.struct fs)) (h : Value.okWide P w r b t v) : ∃ cs, v = .agg ⟨cs⟩ := by
  unfold Value.okWide at h
  rw [hu] at h
  obtain ⟨cs, h1, -⟩ := h
  exact ⟨cs.toList, h1⟩
theorem na_walk (w : World) (r : Reach) (b0 : Nat) (args : List Value) (hl : [40, 41, 23, 23].length = args.length)
    (hok : ∀ (j : Nat) t v, ([40, 41, 23, 23] : List TypeId)[j]? = some t → args[j]? = some v → Value.okWide Try.prog w r b0 t v)
    (hd : ∀ (j : Nat) t v, ([40, 41, 23, 23] : List TypeId)[j]? = some t → args[j]? = some v → ∃ f, Rds Try.prog (fun a => w.cell? a) f t (vcells v)) :
    Calls Try.prog 5 ⟨args⟩ w fun e w' => e = .returned (.bool true) ∧ Below w.heap.size w w' := by
  match args, hl with
  | [v0, v1, v2, v3], _ =>
    have o0 := hok 0 _ _ rfl rfl
    have o1 := hok 1 _ _ rfl rfl
    have o2 := hok 2 _ _ rfl rfl
    have o3 := hok 3 _ _ rfl rfl
    obtain ⟨f0, d0⟩ := hd 0 _ _ rfl rfl
    obtain ⟨f1, d1⟩ := hd 1 _ _ rfl rfl
    obtain ⟨f2, d2⟩ := hd 2 _ _ rfl rfl
    obtain ⟨f3, d3⟩ := hd 3 _ _ rfl rfl
    have p0 := one_cell Try.underlying40 o0
    have p1 := one_cell Try.underlying41 o1
    obtain ⟨cs2, rfl⟩ := agg_cell Try.underlying23 o2
    obtain ⟨cs3, rfl⟩ := agg_cell Try.underlying23 o3
    rw [p0] at d0
    rw [p1] at d1
    obtain ⟨a, ao, rfl, sa⟩ := rds_val d2
    obtain ⟨b, bo, rfl, sb⟩ := rds_val d3
    obtain ⟨ad, l, c, rfl, L, cs0, r0⟩ := lst_of d0
    obtain ⟨ad2, bs, cb, rfl, B, cs1, r1⟩ := datB_of d1
    have hin : InsOk Try.prog (fun a => w.cell? a) naargs [.slice ad l.length c, .slice ad2 bs.length cb, .agg ⟨[.int .i64 a, .bool ao]⟩, .agg ⟨[.int .i64 b, .bool bo]⟩] ([.agg ⟨cs0⟩] ++ ([.agg ⟨cs1⟩] ++ ([.int .i64 a, .bool ao] ++ ([.int .i64 b, .bool bo] ++ [])))) := by
      refine ⟨_, _, rfl, ⟨⟨f0, d0⟩, ?_⟩, _, _, rfl, ⟨⟨f1, d1⟩, ?_⟩, _, _, rfl, ⟨⟨f2, d2⟩, ?_⟩, _, _, rfl, ⟨⟨f3, d3⟩, ?_⟩, rfl⟩
      · rw [show Try.prog.underlying _ = _ from Try.underlying40]
        exact ⟨cs0, by rw [s_val]; exact r0, rfl⟩
      · rw [show Try.prog.underlying _ = _ from Try.underlying41]
        exact ⟨cs1, by rw [s_int]; exact r1, rfl⟩
      · rw [show Try.prog.underlying _ = _ from Try.underlying23]
        exact ⟨_, rfl, rfl⟩
      · rw [show Try.prog.underlying _ = _ from Try.underlying23]
        exact ⟨_, rfl, rfl⟩
    have hck := na_checked
    unfold chkF at hck
    split at hck
    case h_2 => cases hck
    rename_i fi hfi
    rw [Bool.and_eq_true] at hck
    obtain ⟨hr, hf⟩ := ins_entry (u := uRd (cxOf Try.prog naEx [] [] (naOrc []) [] naU) (fun a => w.cell? a)) (s := startS naargs [.slice ad l.length c, .slice ad2 bs.length cb, .agg ⟨[.int .i64 a, .bool ao]⟩, .agg ⟨[.int .i64 b, .bool bo]⟩]) (fun vs => uRd_rd _ _ 8 vs (by omega)) naargs _ _ 0 na_flat hin (fun j _ => by rw [Nat.zero_add]; rfl)
    refine ts_call na_ext na_mixed hfi hck.1 (pls := napls) rfl hck.2 (old_all w) hr hf (fun _ _ h => by cases h) (e0 (R := fun a => w.cell? a) L sa sb B rfl rfl ⟨rfl, rfl, rfl, rfl, trivial⟩) (fun s vs rs m hp w' v' hs hu hq hv _ _ hb _ => ?_)
    subst hs
    have hq' : denV m.s m.u 9 (oneA vs) = some (oneA (outV naR [.bool true])) := by rw [hu]; exact hq
    exact ⟨by rw [denV_ok 9 hv hq']; rfl, hb⟩
end Go.Proofs.Yteafoajpieablaa
