import Derived.Test.YtaepplhgeeaidaaDoorLxT
set_option linter.unusedVariables false
set_option linter.unusedSimpArgs false
set_option linter.unusedSectionVars false
set_option maxRecDepth 100000
namespace Go.Proofs.YtaepplhgeeaidaaDoor
open Go Go.RowKit Ev
theorem f_str {s : Nat → Value} {u : Nat → List Value → Option Value} (b : ByteArray) : denS s u (.string b) = some (.string b) := denS_flat rfl
noncomputable def QV (cx : Cx) (R : Addr → Option Value) (r : Value) : (Nat → Value) → List Value → List (Nat × AObj) → Prop := fun s vs _ => denV s (uRd cx R) 9 (oneA vs) = some r
theorem n_beq2 (a b : Nat) : (Int.ofNat a == Int.ofNat b) = (a == b) := by
  rw [Bool.eq_iff_iff, beq_iff_eq, beq_iff_eq]
  exact ⟨fun h => Int.ofNat.inj h, fun h => by rw [h]⟩
theorem w_inc {n : Nat} (h : n < 9223372036854775807) : wrapA .i64 (Int.ofNat n + Int.ofNat 1) = Int.ofNat (n + 1) := w_add (by omega)
theorem drop_at {x : B8} {i : Nat} (h : i < x.length) : x.drop i = x.getD i 0 :: x.drop (i + 1) := by
  rw [List.drop_eq_getElem_cons h, List.getD_eq_getElem?_getD, List.getElem?_eq_getElem h]
  rfl
def QB (x : B8) : Prop := x.length < 9223372036854775808
section
variable {cx : Cx} {R : Addr → Option Value} {s : Nat → Value}
theorem ret_b (b : Bool) : QV cx R (.bool b) s [.bool b] [] := by show denV s _ 9 (.bool b) = some (.bool b); unfold denV; exact denS_flat rfl
theorem ret_u {i : Nat} {v : Value} (h : s i = v) : QV cx R v s [unk 6 i] [] := by show denS s _ (unk 6 i) = some v; rw [denS_unk, h]
end
section
variable {cx : Cx} (hU : cx.U = lxU) {R : Addr → Option Value}
include hU
theorem rd2 {x : B8} (hx : QB x) : ∀ (k i : Nat) (s : Nat → Value), i + k = x.length → s 0 = .string (tx x) → s 1 = .int .i64 (.ofNat i) → Ev.Ends (uRd cx R) rdtab (QV cx R (.int .i64 (Int.ofNat (i + runF digB (x.drop i))))) 2 s := by
  intro k
  unfold QB at hx
  induction k with
  | zero =>
    intro i s hk q0 q1
    refine Ends_mk ?_
    show At _ _ _ _ rdvt2
    unfold rdvt2
    refine at_node (by simp only [nA, denS_unk, f_num, f_int, f_bool, f_str, mapO, Option.bind_some, n_lss, n_eql, n_add, n_sub, n_t9, n_leq, n_t11, x_len, x_cut, x_t12, x_t10, x_seq, dl, n_beq2, q0, q1] <;> exact rfl) (fun h => absurd (of_decide_eq_true h) (by omega)) (fun h => ?_)
    refine Ends_mk ?_
    show QV cx R _ _ [unk 6 1] []
    refine ret_u ?_
    rw [List.drop_of_length_le (by omega)]
    exact upd_e rfl (by rw [denS_unk, q1]; rfl)
  | succ k ih =>
    intro i s hk q0 q1
    have hi : i < x.length := by omega
    have w := w_inc (n := i) (by omega)
    have hb := x_byte (cx := cx) (R := R) hi .i64
    have hd := drop_at hi
    generalize hc : x.getD i 0 = c at hb hd
    have e : runF digB (x.drop i) = if digB c.toNat then runF digB (x.drop (i + 1)) + 1 else 0 := by rw [hd]; rfl
    have stop : digB c.toNat = false → Ev.Ends (uRd cx R) rdtab (QV cx R (.int .i64 (Int.ofNat (i + runF digB (x.drop i))))) 3 (upd s (uRd cx R) [(1, 6, unk 6 1)]) := fun hp => by
      refine Ends_mk ?_
      show QV cx R _ _ [unk 6 1] []
      refine ret_u ?_
      rw [e, hp]
      exact upd_e rfl (by rw [denS_unk, q1]; rfl)
    refine Ends_mk ?_
    show At _ _ _ _ rdvt2
    unfold rdvt2
    refine at_node (by simp only [nA, denS_unk, f_num, f_int, f_bool, f_str, mapO, Option.bind_some, n_lss, n_eql, n_add, n_sub, n_t9, n_leq, n_t11, x_len, x_cut, x_t12, x_t10, x_seq, dl, n_beq2, q0, q1] <;> exact rfl) (fun _ => ?_) (fun h => absurd (of_decide_eq_false h) (by omega))
    refine at_node (by simp only [nA, denS_unk, f_num, f_int, f_bool, f_str, mapO, Option.bind_some, n_lss, n_eql, n_add, n_sub, n_t9, n_leq, n_t11, x_len, x_cut, x_t12, x_t10, x_seq, dl, n_beq2, q0, q1] <;> exact rfl) (fun _ => ?_) (fun h => by rw [bl hi] at h; cases h)
    refine at_node (by simp only [nA, denS_unk, f_num, f_int, f_bool, f_str, mapO, Option.bind_some, n_lss, n_eql, n_add, n_sub, n_t9, n_leq, n_t11, x_len, x_cut, x_t12, x_t10, x_seq, dl, n_beq2, q0, q1, hb] <;> exact rfl) (fun h1 => stop ?_) (fun h1 => ?_)
    · unfold digB; rw [h1]; rfl
    refine at_node (by simp only [nA, denS_unk, f_num, f_int, f_bool, f_str, mapO, Option.bind_some, n_lss, n_eql, n_add, n_sub, n_t9, n_leq, n_t11, x_len, x_cut, x_t12, x_t10, x_seq, dl, n_beq2, q0, q1, hb] <;> exact rfl) (fun h2 => stop ?_) (fun h2 => ?_)
    · unfold digB; rw [h1, h2]; rfl
    have hp : digB c.toNat = true := by unfold digB; rw [h1, h2]; rfl
    rw [e, hp, if_pos rfl, show i + (runF digB (x.drop (i + 1)) + 1) = i + 1 + runF digB (x.drop (i + 1)) by omega]
    refine ih (i + 1) _ (by omega) ((upd_s rfl).trans q0) (upd_e rfl ?_)
    simp only [nA, denS_unk, f_num, f_int, f_bool, f_str, mapO, Option.bind_some, n_lss, n_eql, n_add, n_sub, n_t9, n_leq, n_t11, x_len, x_cut, x_t12, x_t10, x_seq, dl, n_beq2, q0, q1, w]
theorem rd0 {x : B8} (hx : QB x) {s : Nat → Value} (q0 : s 0 = .string (tx x)) : Ev.Ends (uRd cx R) rdtab (QV cx R (.int .i64 (Int.ofNat (runF digB x)))) 0 s := by
  refine Ends_mk ?_
  show Ev.Ends (uRd cx R) rdtab _ 1 s
  refine Ends_mk ?_
  show Ev.Ends (uRd cx R) rdtab _ 2 _
  have := rd2 hU (R := R) hx x.length 0 (upd s (uRd cx R) [(1, 6, (.int .i64 (.ofNat 0)))]) (by omega) ((upd_s rfl).trans q0) (upd_e rfl (denS_flat rfl))
  rw [List.drop_zero, Nat.zero_add] at this
  exact this
theorem rw2 {x : B8} (hx : QB x) : ∀ (k i : Nat) (s : Nat → Value), i + k = x.length → s 0 = .string (tx x) → s 1 = .int .i64 (.ofNat i) → Ev.Ends (uRd cx R) rwtab (QV cx R (.int .i64 (Int.ofNat (i + runF wordB (x.drop i))))) 2 s := by
  intro k
  unfold QB at hx
  induction k with
  | zero =>
    intro i s hk q0 q1
    refine Ends_mk ?_
    show At _ _ _ _ rwvt2
    unfold rwvt2
    refine at_node (by simp only [nA, denS_unk, f_num, f_int, f_bool, f_str, mapO, Option.bind_some, n_lss, n_eql, n_add, n_sub, n_t9, n_leq, n_t11, x_len, x_cut, x_t12, x_t10, x_seq, dl, n_beq2, q0, q1] <;> exact rfl) (fun h => absurd (of_decide_eq_true h) (by omega)) (fun h => ?_)
    refine Ends_mk ?_
    show QV cx R _ _ [unk 6 1] []
    refine ret_u ?_
    rw [List.drop_of_length_le (by omega)]
    exact upd_e rfl (by rw [denS_unk, q1]; rfl)
  | succ k ih =>
    intro i s hk q0 q1
    have hi : i < x.length := by omega
    have w := w_inc (n := i) (by omega)
    have hb := x_byte (cx := cx) (R := R) hi .i64
    have hd := drop_at hi
    generalize hc : x.getD i 0 = c at hb hd
    have e : runF wordB (x.drop i) = if wordB c.toNat then runF wordB (x.drop (i + 1)) + 1 else 0 := by rw [hd]; rfl
    have stop : wordB c.toNat = false → Ev.Ends (uRd cx R) rwtab (QV cx R (.int .i64 (Int.ofNat (i + runF wordB (x.drop i))))) 3 (upd s (uRd cx R) [(1, 6, unk 6 1)]) := fun hp => by
      refine Ends_mk ?_
      show QV cx R _ _ [unk 6 1] []
      refine ret_u ?_
      rw [e, hp]
      exact upd_e rfl (by rw [denS_unk, q1]; rfl)
    have next : wordB c.toNat = true → ∀ L', L' = [(1, 6, (sy 6 1 [(num 0), (num 3), (.bool true), (unk 6 1), (.int .i64 (.ofNat 1))]))] → Ev.Ends (uRd cx R) rwtab (QV cx R (.int .i64 (Int.ofNat (i + runF wordB (x.drop i))))) 2 (upd s (uRd cx R) L') := by
      rintro hp L' rfl
      rw [e, hp, if_pos rfl, show i + (runF wordB (x.drop (i + 1)) + 1) = i + 1 + runF wordB (x.drop (i + 1)) by omega]
      refine ih (i + 1) _ (by omega) ((upd_s rfl).trans q0) (upd_e rfl ?_)
      simp only [nA, denS_unk, f_num, f_int, f_bool, f_str, mapO, Option.bind_some, n_lss, n_eql, n_add, n_sub, n_t9, n_leq, n_t11, x_len, x_cut, x_t12, x_t10, x_seq, dl, n_beq2, q0, q1, w]
    clear e ih
    refine Ends_mk ?_
    show At _ _ _ _ rwvt2
    unfold rwvt2
    refine at_node (by simp only [nA, denS_unk, f_num, f_int, f_bool, f_str, mapO, Option.bind_some, n_lss, n_eql, n_add, n_sub, n_t9, n_leq, n_t11, x_len, x_cut, x_t12, x_t10, x_seq, dl, n_beq2, q0, q1] <;> exact rfl) (fun _ => ?_) (fun h => absurd (of_decide_eq_false h) (by omega))
    refine at_node (by simp only [nA, denS_unk, f_num, f_int, f_bool, f_str, mapO, Option.bind_some, n_lss, n_eql, n_add, n_sub, n_t9, n_leq, n_t11, x_len, x_cut, x_t12, x_t10, x_seq, dl, n_beq2, q0, q1] <;> exact rfl) (fun _ => ?_) (fun h => by rw [bl hi] at h; cases h)
    repeat' (refine at_node (by simp only [nA, denS_unk, f_num, f_int, f_bool, f_str, mapO, Option.bind_some, n_lss, n_eql, n_add, n_sub, n_t9, n_leq, n_t11, x_len, x_cut, x_t12, x_t10, x_seq, dl, n_beq2, q0, q1, hb] <;> exact rfl) (fun h => ?_) (fun h => ?_))
    all_goals first
      | exact next (by simp only [wordB, lowB, digB, *]; rfl) _ rfl
      | exact stop (by simp only [wordB, lowB, digB, *]; rfl)
theorem rw0 {x : B8} (hx : QB x) {s : Nat → Value} (q0 : s 0 = .string (tx x)) : Ev.Ends (uRd cx R) rwtab (QV cx R (.int .i64 (Int.ofNat (runF wordB x)))) 0 s := by
  refine Ends_mk ?_
  show Ev.Ends (uRd cx R) rwtab _ 1 s
  refine Ends_mk ?_
  show Ev.Ends (uRd cx R) rwtab _ 2 _
  have := rw2 hU (R := R) hx x.length 0 (upd s (uRd cx R) [(1, 6, (.int .i64 (.ofNat 0)))]) (by omega) ((upd_s rfl).trans q0) (upd_e rfl (denS_flat rfl))
  rw [List.drop_zero, Nat.zero_add] at this
  exact this
theorem skL {x : B8} (hx : QB x) : ∀ (k i : Nat), i + k = x.length →
    (∀ s : Nat → Value, s 0 = .string (tx x) → s 1 = .int .i64 (.ofNat i) → Ev.Ends (uRd cx R) sktab (QV cx R (.int .i64 (Int.ofNat (i + skipF false (x.drop i))))) 3 s) ∧
    (∀ s : Nat → Value, s 0 = .string (tx x) → s 1 = .int .i64 (.ofNat i) → Ev.Ends (uRd cx R) sktab (QV cx R (.int .i64 (Int.ofNat (i + skipF true (x.drop i))))) 7 s) := by
  intro k
  unfold QB at hx
  have out : ∀ (n i : Nat) (s : Nat → Value), s 1 = .int .i64 (.ofNat i) → n = i → Ev.Ends (uRd cx R) sktab (QV cx R (.int .i64 (Int.ofNat n))) 5 s := fun n i s q1 hn => by
    refine Ends_mk ?_
    show QV cx R _ _ [unk 6 1] []
    exact ret_u (by rw [hn]; exact q1)
  induction k with
  | zero =>
    intro i hk
    have e : ∀ b, i + skipF b (x.drop i) = i := fun b => by
      rw [List.drop_of_length_le (by omega)]
      cases b <;> rfl
    have f3 : ∀ (b : Bool) (s : Nat → Value), s 0 = .string (tx x) → s 1 = .int .i64 (.ofNat i) → Ev.Ends (uRd cx R) sktab (QV cx R (.int .i64 (Int.ofNat (i + skipF b (x.drop i))))) 3 s := fun b s q0 q1 => by
      refine Ends_mk ?_
      show At _ _ _ _ skvt3
      unfold skvt3
      refine at_node (by simp only [nA, denS_unk, f_num, f_int, f_bool, f_str, mapO, Option.bind_some, n_lss, n_eql, n_add, n_sub, n_t9, n_leq, n_t11, x_len, x_cut, x_t12, x_t10, x_seq, dl, n_beq2, q0, q1] <;> exact rfl) (fun h => absurd (of_decide_eq_true h) (by omega)) (fun h => ?_)
      exact out _ _ _ (upd_e rfl (by rw [denS_unk, q1])) (e b)
    refine ⟨f3 false, fun s q0 q1 => ?_⟩
    refine Ends_mk ?_
    show At _ _ _ _ skvt7
    unfold skvt7
    refine at_node (by simp only [nA, denS_unk, f_num, f_int, f_bool, f_str, mapO, Option.bind_some, n_lss, n_eql, n_add, n_sub, n_t9, n_leq, n_t11, x_len, x_cut, x_t12, x_t10, x_seq, dl, n_beq2, q0, q1] <;> exact rfl) (fun h => absurd (of_decide_eq_true h) (by omega)) (fun h => ?_)
    exact f3 true _ ((upd_s rfl).trans q0) (upd_e rfl (by rw [denS_unk, q1]))
  | succ k ih =>
    intro i hk
    have hi : i < x.length := by omega
    have w := w_inc (n := i) (by omega)
    have hb := x_byte (cx := cx) (R := R) hi .i64
    have hd := drop_at hi
    generalize hc : x.getD i 0 = c at hb hd
    obtain ⟨ih3, ih7⟩ := ih (i + 1) (by omega)
    have inc : ∀ s : Nat → Value, s 1 = .int .i64 (.ofNat i) → upd s (uRd cx R) [(1, 6, (sy 6 1 [(num 0), (num 3), (.bool true), (unk 6 1), (.int .i64 (.ofNat 1))]))] 1 = .int .i64 (.ofNat (i + 1)) := fun s q1 => upd_e rfl (by simp only [nA, denS_unk, f_num, f_int, f_bool, f_str, mapO, Option.bind_some, n_lss, n_eql, n_add, n_sub, n_t9, n_leq, n_t11, x_len, x_cut, x_t12, x_t10, x_seq, dl, n_beq2, q1, w])
    have ef : skipF false (x.drop i) = if c.toNat = 35 then skipF true (x.drop (i + 1)) + 1 else if blB c.toNat then skipF false (x.drop (i + 1)) + 1 else 0 := by rw [hd]; rfl
    have et : skipF true (x.drop i) = if c.toNat = 10 then skipF false (x.drop (i + 1)) + 1 else skipF true (x.drop (i + 1)) + 1 := by rw [hd]; rfl
    have f8 : c.toNat ≠ 35 → ∀ s : Nat → Value, s 0 = .string (tx x) → s 1 = .int .i64 (.ofNat i) → Ev.Ends (uRd cx R) sktab (QV cx R (.int .i64 (Int.ofNat (i + skipF false (x.drop i))))) 8 s := fun hne s q0 q1 => by
      have stop : blB c.toNat = false → Ev.Ends (uRd cx R) sktab (QV cx R (.int .i64 (Int.ofNat (i + skipF false (x.drop i))))) 5 (upd s (uRd cx R) [(1, 6, unk 6 1)]) := fun hp =>
        out _ i _ (upd_e rfl (by rw [denS_unk, q1])) (by rw [ef, if_neg hne, hp]; rfl)
      have next : blB c.toNat = true → Ev.Ends (uRd cx R) sktab (QV cx R (.int .i64 (Int.ofNat (i + skipF false (x.drop i))))) 3 (upd s (uRd cx R) [(1, 6, (sy 6 1 [(num 0), (num 3), (.bool true), (unk 6 1), (.int .i64 (.ofNat 1))]))]) := fun hp => by
        rw [ef, if_neg hne, hp, if_pos rfl, show i + (skipF false (x.drop (i + 1)) + 1) = i + 1 + skipF false (x.drop (i + 1)) by omega]
        exact ih3 _ ((upd_s rfl).trans q0) (inc s q1)
      clear ef et ih3 ih7
      refine Ends_mk ?_
      show At _ _ _ _ skvt8
      unfold skvt8
      refine at_node (by simp only [nA, denS_unk, f_num, f_int, f_bool, f_str, mapO, Option.bind_some, n_lss, n_eql, n_add, n_sub, n_t9, n_leq, n_t11, x_len, x_cut, x_t12, x_t10, x_seq, dl, n_beq2, q0, q1] <;> exact rfl) (fun _ => ?_) (fun h => by rw [bl hi] at h; cases h)
      repeat' (refine at_node (by simp only [nA, denS_unk, f_num, f_int, f_bool, f_str, mapO, Option.bind_some, n_lss, n_eql, n_add, n_sub, n_t9, n_leq, n_t11, x_len, x_cut, x_t12, x_t10, x_seq, dl, n_beq2, q0, q1, hb] <;> exact rfl) (fun h => ?_) (fun h => ?_))
      all_goals first
        | exact next (by simp only [blB, *]; rfl)
        | exact stop (by simp only [blB, *]; rfl)
    have f36 : ∀ (r : Value) (s : Nat → Value), s 0 = .string (tx x) → s 1 = .int .i64 (.ofNat i) → (∀ s : Nat → Value, s 0 = .string (tx x) → s 1 = .int .i64 (.ofNat i) → Ev.Ends (uRd cx R) sktab (QV cx R r) (if c.toNat = 35 then 7 else 8) s) → Ev.Ends (uRd cx R) sktab (QV cx R r) 3 s := fun r s q0 q1 hh => by
      clear ef et ih3 ih7 f8
      refine Ends_mk ?_
      show At _ _ _ _ skvt3
      unfold skvt3
      refine at_node (by simp only [nA, denS_unk, f_num, f_int, f_bool, f_str, mapO, Option.bind_some, n_lss, n_eql, n_add, n_sub, n_t9, n_leq, n_t11, x_len, x_cut, x_t12, x_t10, x_seq, dl, n_beq2, q0, q1] <;> exact rfl) (fun _ => ?_) (fun h => absurd (of_decide_eq_false h) (by omega))
      have p1 : upd s (uRd cx R) [(1, 6, unk 6 1)] 1 = .int .i64 (.ofNat i) := upd_e rfl (by rw [denS_unk, q1])
      have p0 : upd s (uRd cx R) [(1, 6, unk 6 1)] 0 = .string (tx x) := (upd_s rfl).trans q0
      show Ev.Ends (uRd cx R) sktab _ 4 (upd s (uRd cx R) [(1, 6, unk 6 1)])
      generalize upd s (uRd cx R) [(1, 6, unk 6 1)] = s1 at p0 p1
      refine Ends_mk ?_
      show At _ _ _ _ skvt4
      unfold skvt4
      refine at_node (by simp only [nA, denS_unk, f_num, f_int, f_bool, f_str, mapO, Option.bind_some, n_lss, n_eql, n_add, n_sub, n_t9, n_leq, n_t11, x_len, x_cut, x_t12, x_t10, x_seq, dl, n_beq2, p0, p1] <;> exact rfl) (fun _ => ?_) (fun h => by rw [bl hi] at h; cases h)
      have r1 : upd s1 (uRd cx R) [(1, 6, (unk 6 1)), (2, 1, (sy 1 1 [(num 11), (num 5), (.bool true), (sy 7 11 [(num 5), (unk 2 0), (unk 6 1)]), (.int .u8 (.ofNat 35))]))] 1 = .int .i64 (.ofNat i) := upd_e rfl (by rw [denS_unk, p1])
      have r0 : upd s1 (uRd cx R) [(1, 6, (unk 6 1)), (2, 1, (sy 1 1 [(num 11), (num 5), (.bool true), (sy 7 11 [(num 5), (unk 2 0), (unk 6 1)]), (.int .u8 (.ofNat 35))]))] 0 = .string (tx x) := (upd_s rfl).trans p0
      have r2 : upd s1 (uRd cx R) [(1, 6, (unk 6 1)), (2, 1, (sy 1 1 [(num 11), (num 5), (.bool true), (sy 7 11 [(num 5), (unk 2 0), (unk 6 1)]), (.int .u8 (.ofNat 35))]))] 2 = .bool (c.toNat == 35) := upd_e rfl (by simp only [nA, denS_unk, f_num, f_int, f_bool, f_str, mapO, Option.bind_some, n_lss, n_eql, n_add, n_sub, n_t9, n_leq, n_t11, x_len, x_cut, x_t12, x_t10, x_seq, dl, n_beq2, p0, p1, hb])
      show Ev.Ends (uRd cx R) sktab _ 6 (upd s1 (uRd cx R) [(1, 6, (unk 6 1)), (2, 1, (sy 1 1 [(num 11), (num 5), (.bool true), (sy 7 11 [(num 5), (unk 2 0), (unk 6 1)]), (.int .u8 (.ofNat 35))]))])
      generalize upd s1 (uRd cx R) [(1, 6, (unk 6 1)), (2, 1, (sy 1 1 [(num 11), (num 5), (.bool true), (sy 7 11 [(num 5), (unk 2 0), (unk 6 1)]), (.int .u8 (.ofNat 35))]))] = s2 at r0 r1 r2
      refine Ends_mk ?_
      show At _ _ _ _ skvt6
      unfold skvt6
      refine at_node (by simp only [nA, denS_unk, f_num, f_int, f_bool, f_str, mapO, Option.bind_some, n_lss, n_eql, n_add, n_sub, n_t9, n_leq, n_t11, x_len, x_cut, x_t12, x_t10, x_seq, dl, n_beq2, r2] <;> exact rfl) (fun h => ?_) (fun h => ?_)
      · have := hh (upd s2 (uRd cx R) [(1, 6, unk 6 1)]) ((upd_s rfl).trans r0) (upd_e rfl (by rw [denS_unk, r1]))
        rw [if_pos (by simpa using h)] at this
        exact this
      · have := hh (upd s2 (uRd cx R) [(1, 6, unk 6 1)]) ((upd_s rfl).trans r0) (upd_e rfl (by rw [denS_unk, r1]))
        rw [if_neg (by simpa using h)] at this
        exact this
    have f3n : c.toNat ≠ 35 → ∀ s : Nat → Value, s 0 = .string (tx x) → s 1 = .int .i64 (.ofNat i) → Ev.Ends (uRd cx R) sktab (QV cx R (.int .i64 (Int.ofNat (i + skipF false (x.drop i))))) 3 s := fun hne s q0 q1 => f36 _ s q0 q1 (fun s q0 q1 => by rw [if_neg hne]; exact f8 hne s q0 q1)
    have f7 : ∀ s : Nat → Value, s 0 = .string (tx x) → s 1 = .int .i64 (.ofNat i) → Ev.Ends (uRd cx R) sktab (QV cx R (.int .i64 (Int.ofNat (i + skipF true (x.drop i))))) 7 s := fun s q0 q1 => by
      refine Ends_mk ?_
      show At _ _ _ _ skvt7
      unfold skvt7
      refine at_node (by simp only [nA, denS_unk, f_num, f_int, f_bool, f_str, mapO, Option.bind_some, n_lss, n_eql, n_add, n_sub, n_t9, n_leq, n_t11, x_len, x_cut, x_t12, x_t10, x_seq, dl, n_beq2, q0, q1] <;> exact rfl) (fun _ => ?_) (fun h => absurd (of_decide_eq_false h) (by omega))
      refine at_node (by simp only [nA, denS_unk, f_num, f_int, f_bool, f_str, mapO, Option.bind_some, n_lss, n_eql, n_add, n_sub, n_t9, n_leq, n_t11, x_len, x_cut, x_t12, x_t10, x_seq, dl, n_beq2, q0, q1] <;> exact rfl) (fun _ => ?_) (fun h => by rw [bl hi] at h; cases h)
      refine at_node (by simp only [nA, denS_unk, f_num, f_int, f_bool, f_str, mapO, Option.bind_some, n_lss, n_eql, n_add, n_sub, n_t9, n_leq, n_t11, x_len, x_cut, x_t12, x_t10, x_seq, dl, n_beq2, q0, q1, hb] <;> exact rfl) (fun h => ?_) (fun h => ?_)
      · have h : c.toNat = 10 := by simpa using h
        have e : skipF true (x.drop i) = skipF false (x.drop i) := by rw [et, if_pos h, ef, if_neg (by omega), h]; rfl
        rw [e]
        exact f3n (by omega) _ ((upd_s rfl).trans q0) (upd_e rfl (by rw [denS_unk, q1]))
      · have h : c.toNat ≠ 10 := by simpa using h
        rw [et, if_neg h, show i + (skipF true (x.drop (i + 1)) + 1) = i + 1 + skipF true (x.drop (i + 1)) by omega]
        exact ih7 _ ((upd_s rfl).trans q0) (inc s q1)
    refine ⟨fun s q0 q1 => ?_, f7⟩
    by_cases h : c.toNat = 35
    · refine f36 _ s q0 q1 (fun s q0 q1 => ?_)
      rw [if_pos h]
      have e : skipF false (x.drop i) = skipF true (x.drop i) := by rw [et, if_neg (by omega), ef, if_pos h]
      rw [e]
      exact f7 s q0 q1
    · exact f3n h s q0 q1
theorem sk0 {x : B8} (hx : QB x) {s : Nat → Value} (q0 : s 0 = .string (tx x)) : Ev.Ends (uRd cx R) sktab (QV cx R (.int .i64 (Int.ofNat (skipF false x)))) 0 s := by
  refine Ends_mk ?_
  show Ev.Ends (uRd cx R) sktab _ 1 s
  refine Ends_mk ?_
  show Ev.Ends (uRd cx R) sktab _ 2 s
  refine Ends_mk ?_
  show Ev.Ends (uRd cx R) sktab _ 3 _
  have := (skL hU (R := R) hx x.length 0 (by omega)).1 (upd s (uRd cx R) [(1, 6, (.int .i64 (.ofNat 0)))]) ((upd_s rfl).trans q0) (upd_e rfl (denS_flat rfl))
  rw [List.drop_zero, Nat.zero_add] at this
  exact this
end
end Go.Proofs.YtaepplhgeeaidaaDoor
