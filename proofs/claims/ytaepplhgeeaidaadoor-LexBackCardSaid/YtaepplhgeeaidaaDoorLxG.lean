import Derived.Test.YtaepplhgeeaidaaDoorLxS
import Derived.Test.YtaepplhgeeaidaaDoorEvRx
set_option linter.unusedVariables false
set_option linter.unusedSimpArgs false
set_option linter.unusedSectionVars false
set_option maxRecDepth 100000
namespace Go.Proofs.YtaepplhgeeaidaaDoor
open Go Go.RowKit Ev
def outR : Except Nat (List Tok) → List Tok × Int × Nat
  | .ok l => (l, 0, 0)
  | .error i => ([], 13, i)
noncomputable def QA (cx : Cx) (R : Addr → Option Value) (o : List Tok × Int × Nat) : (Nat → Value) → List Value → List (Nat × AObj) → Prop :=
  rowXQ (uRd cx R) [6, 2, 6, 6] 33 true (o.1.flatMap eTok) o.1.length [.agg ⟨[.int .i64 o.2.1, .int .i64 (Int.ofNat o.2.2)]⟩]
section
variable {cx : Cx} {R : Addr → Option Value} {s : Nat → Value}
theorem fault_den {e1 e2 v1 v2 : Value} {u : Nat → List Value → Option Value} (h1 : denV s u 7 e1 = some v1) (h2 : denV s u 7 e2 = some v2) : denV s u 9 (.tuple ⟨[.agg ⟨[e1, e2]⟩]⟩) = some (.tuple ⟨[.agg ⟨[v1, v2]⟩]⟩) := by
  have h : denV s u 8 (.agg ⟨[e1, e2]⟩) = some (.agg ⟨[v1, v2]⟩) := by
    unfold denV
    simp only [mapO, h1, h2]
  unfold denV
  simp only [mapO, h]
theorem qa_none {e1 e2 : Value} {e : Int} {n : Nat} (h1 : denV s (uRd cx R) 7 e1 = some (.int .i64 e)) (h2 : denV s (uRd cx R) 7 e2 = some (.int .i64 (Int.ofNat n))) : QA cx R ([], e, n) s [.slice none 0 0, .agg ⟨[e1, e2]⟩] [] :=
  ⟨_, fault_den h1 h2, .inl ⟨rfl, rfl, rfl⟩⟩
end
section
variable {cx : Cx} (hU : cx.U = lxU) {R : Addr → Option Value}
include hU
theorem al8 {l : List Tok} (hl : l ≠ []) {s : Nat → Value} (q1 : s 1 = .int .i64 (.ofNat l.length)) (q2 : s 2 = .agg ⟨l.flatMap eTok⟩) (q3 : s 3 = .int .i64 (.ofNat 0)) (q4 : s 4 = .int .i64 (.ofNat 0)) : Ev.Ends (uRd cx R) altab (QA cx R (l, 0, 0)) 8 s := by
  refine Ends_mk ?_
  show QA cx R (l, 0, 0) s [(.func (.yield 100) ⟨[(unk 6 1)]⟩ ⟨[]⟩), (.agg ⟨[(unk 6 3), (unk 6 4)]⟩)] [(100, (.seq (unk 20 2) (unk 6 1) [6, 2, 6, 6] 33))]
  refine ⟨_, fault_den (v1 := .int .i64 0) (v2 := .int .i64 (Int.ofNat 0)) (by rw [dv_unk, q3]; rfl) (by rw [dv_unk, q4]), .inr ⟨fun h => hl (List.eq_nil_of_length_eq_zero h.2), 100, _, _, _, rfl, List.mem_singleton.2 rfl, by rw [denS_unk, q2], by rw [dv_unk, q1]⟩⟩
theorem al7 {x : B8} {l : List Tok} (hl : l.length ≤ 16384) {s : Nat → Value} (q0 : s 0 = .string (tx x)) (q1 : s 1 = .int .i64 (.ofNat l.length)) (q4 : s 4 = .agg ⟨l.flatMap eTok⟩) : Ev.Ends (uRd cx R) altab (QA cx R (l ++ [endT x.length], 0, 0)) 7 s := by
  have w := w_inc (n := l.length) (by omega)
  refine Ends_mk ?_
  show At _ _ _ _ alvt7
  unfold alvt7
  refine at_t (by simp only [nA, denS_unk, f_num, f_int, f_bool, f_str, mapO, Option.bind_some, n_lss, n_eql, n_add, n_sub, n_t9, n_leq, n_t11, x_len, x_cut, x_t12, x_t10, x_seq, dl, n_beq2, q1]; rw [Nat.ble_eq.mpr (by omega)]) ?_
  refine al8 hU (by simp) (upd_e rfl ?_) (upd_e rfl ?_) (upd_e rfl (denS_flat rfl)) (upd_e rfl (denS_flat rfl))
  · simp only [nA, denS_unk, f_num, f_int, f_bool, f_str, mapO, Option.bind_some, n_lss, n_eql, n_add, n_sub, n_t9, n_leq, n_t11, x_len, x_cut, x_t12, x_t10, x_seq, dl, n_beq2, q1, w]
    rw [List.length_append]
    rfl
  · simp only [nA, denS_unk, f_num, f_int, f_bool, f_str, mapO, Option.bind_some, n_lss, n_eql, n_add, n_sub, n_t9, n_leq, n_t11, x_len, x_cut, x_t12, x_t10, x_seq, dl, n_beq2, q0, q4, n_lit, n_cat]
    rw [List.flatMap_append]
    rfl
theorem al6 {x : B8} {s : Nat → Value} (q0 : s 0 = .string (tx x)) : Ev.Ends (uRd cx R) altab (QA cx R ([endT x.length], 0, 0)) 6 s := by
  refine Ends_mk ?_
  show Ev.Ends (uRd cx R) altab _ 8 _
  refine al8 hU (by simp) (upd_e rfl (denS_flat rfl)) (upd_e rfl ?_) (upd_e rfl (denS_flat rfl)) (upd_e rfl (denS_flat rfl))
  simp only [nA, denS_unk, f_num, f_int, f_bool, f_str, mapO, Option.bind_some, n_lss, n_eql, n_add, n_sub, n_t9, n_leq, n_t11, x_len, x_cut, x_t12, x_t10, x_seq, dl, n_beq2, q0, n_lit]
  rfl
theorem al5 {x : B8} (hx : x.length ≤ 16384) : ∀ (k i : Nat) (l : List Tok) (s : Nat → Value), x.length < i + k → i ≤ x.length → l ≠ [] → l.length ≤ i → s 0 = .string (tx x) → s 1 = .int .i64 (.ofNat l.length) → s 2 = .int .i64 (.ofNat i) → s 5 = .agg ⟨l.flatMap eTok⟩ →
    Ev.Ends (uRd cx R) altab (QA cx R (outR (allL frsF conF x k i l))) 5 s := by
  intro k
  induction k with
  | zero => intro i l s h1 h2; omega
  | succ k ih =>
    intro i l s hk hil hl0 hll q0 q1 q2 q5
    by_cases hi : i < x.length
    · have hle := firstF_le (nam := namF) (val := valF) (x.drop i) (negF conF l)
      rw [List.length_drop] at hle
      have hle : (frsF (x.drop i) (negF conF l)).2 ≤ x.length - i := hle
      have e : allL frsF conF x (k + 1) i l = if (frsF (x.drop i) (negF conF l)).2 = 0 then .error i else allL frsF conF x k (nxF x i (frsF (x.drop i) (negF conF l)).2) (l ++ [putAt (frsF (x.drop i) (negF conF l)).1 i]) := if_pos hi
      have hnx := nx_le (s := x) (i := i) (n := (frsF (x.drop i) (negF conF l)).2) (by omega)
      have hlu := lu19 (cx := cx) (R := R) hU (x.drop i) (negF conF l)
      have h15 := lu15 (cx := cx) (R := R) hU (x.drop i) (negF conF l)
      have h16 := lu16 (cx := cx) (R := R) hU (x.drop i) (negF conF l)
      have h17 := lu17 (cx := cx) (R := R) hU (x.drop i) (negF conF l)
      generalize hf : frsF (x.drop i) (negF conF l) = f at e hle hnx hlu h15 h16 h17
      have w1 : wrapA .i64 (Int.ofNat i + Int.ofNat f.2) = Int.ofNat (i + f.2) := w_add (by omega)
      have w2 : wrapA .i64 (Int.ofNat (i + f.2) + Int.ofNat (skipF false (x.drop (i + f.2)))) = Int.ofNat (i + f.2 + skipF false (x.drop (i + f.2))) := w_add (by unfold nxF at hnx; omega)
      have w3 := w_inc (n := l.length) (by omega)
      refine Ends_mk ?_
      show At _ _ _ _ alvt5
      unfold alvt5
      refine at_node (by simp only [nA, denS_unk, f_num, f_int, f_bool, f_str, mapO, Option.bind_some, n_lss, n_eql, n_add, n_sub, n_t9, n_leq, n_t11, x_len, x_cut, x_t12, x_t10, x_seq, dl, n_beq2, q0, q1, q2] <;> exact rfl) (fun _ => ?_) (fun h => absurd (of_decide_eq_false h) (by omega))
      refine at_t (by simp only [nA, denS_unk, f_num, f_int, f_bool, f_str, mapO, Option.bind_some, n_lss, n_eql, n_add, n_sub, n_t9, n_leq, n_t11, x_len, x_cut, x_t12, x_t10, x_seq, dl, n_beq2, q0, q1, q2]; rw [Nat.ble_eq.mpr hil, Nat.ble_eq.mpr (Nat.le_refl _)]; rfl) ?_
      refine at_t (by simp only [nA, denS_unk, f_num, f_int, f_bool, f_str, mapO, Option.bind_some, n_lss, n_eql, n_add, n_sub, n_t9, n_leq, n_t11, x_len, x_cut, x_t12, x_t10, x_seq, dl, n_beq2, q1]; rw [Nat.ble_eq.mpr (by omega)]) ?_
      refine at_t (by simp only [nA, denS_unk, f_num, f_int, f_bool, f_str, mapO, Option.bind_some, n_lss, n_eql, n_add, n_sub, n_t9, n_leq, n_t11, x_len, x_cut, x_t12, x_t10, x_seq, dl, n_beq2, ale1, q0, q2, tkA]; rw [Nat.ble_eq.mpr (by rw [List.length_drop]; omega)]) ?_
      refine at_t (by simp only [nA, denS_unk, f_num, f_int, f_bool, f_str, mapO, Option.bind_some, n_lss, n_eql, n_add, n_sub, n_t9, n_leq, n_t11, x_len, x_cut, x_t12, x_t10, x_seq, dl, n_beq2, ale1, q0, q2, tkA]; rw [bl (by rw [List.length_drop]; omega)]) ?_
      refine at_node (by simp only [nA, denS_unk, f_num, f_int, f_bool, f_str, mapO, Option.bind_some, n_lss, n_eql, n_add, n_sub, n_t9, n_leq, n_t11, x_len, x_cut, x_t12, x_t10, x_seq, dl, n_beq2, ale1, q0, q2, q5, tkA, lu14 hU, hlu] <;> exact rfl) (fun h0 => ?_) (fun h0 => ?_)
      · have h0 : f.2 = 0 := by simpa using h0
        rw [e, if_pos h0]
        exact qa_none (dv_int ..) (by rw [dv_unk, q2])
      · have h0 : ¬ f.2 = 0 := by simpa using h0
        rw [e, if_neg h0]
        refine at_t (by simp only [nA, denS_unk, f_num, f_int, f_bool, f_str, mapO, Option.bind_some, n_lss, n_eql, n_add, n_sub, n_t9, n_leq, n_t11, x_len, x_cut, x_t12, x_t10, x_seq, dl, n_beq2, q1]; rw [Nat.ble_eq.mpr (by omega)]) ?_
        refine at_t (by simp only [nA, denS_unk, f_num, f_int, f_bool, f_str, mapO, Option.bind_some, n_lss, n_eql, n_add, n_sub, n_t9, n_leq, n_t11, x_len, x_cut, x_t12, x_t10, x_seq, dl, n_beq2, ale1, q0, q2, q5, tkA, lu14 hU, hlu, w1]; rw [Nat.ble_eq.mpr (by omega), Nat.ble_eq.mpr (Nat.le_refl _)]; rfl) ?_
        refine ih (nxF x i f.2) (l ++ [putAt f.1 i]) _ (by unfold nxF; omega) hnx (by simp) (by rw [List.length_append]; show l.length + 1 ≤ _; unfold nxF; omega) ((upd_s rfl).trans q0) (upd_e rfl ?_) (upd_e rfl ?_) (upd_e rfl ?_)
        · simp only [nA, denS_unk, f_num, f_int, f_bool, f_str, mapO, Option.bind_some, n_lss, n_eql, n_add, n_sub, n_t9, n_leq, n_t11, x_len, x_cut, x_t12, x_t10, x_seq, dl, n_beq2, q1, w3]
          rw [List.length_append]
          rfl
        · simp only [nA, denS_unk, f_num, f_int, f_bool, f_str, mapO, Option.bind_some, n_lss, n_eql, n_add, n_sub, n_t9, n_leq, n_t11, x_len, x_cut, x_t12, x_t10, x_seq, dl, n_beq2, ale1, q0, q2, q5, tkA, lu14 hU, hlu, w1, lu4 hU, w2]
          rfl
        · simp only [nA, denS_unk, f_num, f_int, f_bool, f_str, mapO, Option.bind_some, n_lss, n_eql, n_add, n_sub, n_t9, n_leq, n_t11, x_len, x_cut, x_t12, x_t10, x_seq, dl, n_beq2, ale1, q0, q2, q5, tkA, lu14 hU, h15, h16, h17, n_lit, n_cat]
          rw [List.flatMap_append]
          rfl
    · have e : allL frsF conF x (k + 1) i l = .ok (l ++ [endT x.length]) := if_neg hi
      rw [e]
      refine Ends_mk ?_
      show At _ _ _ _ alvt5
      unfold alvt5
      refine at_node (by simp only [nA, denS_unk, f_num, f_int, f_bool, f_str, mapO, Option.bind_some, n_lss, n_eql, n_add, n_sub, n_t9, n_leq, n_t11, x_len, x_cut, x_t12, x_t10, x_seq, dl, n_beq2, q0, q1, q2] <;> exact rfl) (fun h => absurd (of_decide_eq_true h) (by omega)) (fun _ => ?_)
      show Ev.Ends (uRd cx R) altab _ 7 _
      exact al7 hU (by omega) ((upd_s rfl).trans q0) (upd_e rfl (by rw [denS_unk, q1])) (upd_e rfl (by rw [denS_unk, q5]))
theorem al4 {x : B8} (hx : x.length ≤ 16384) {k i : Nat} {s : Nat → Value} (hk : x.length < i + (k + 1)) (hil : i ≤ x.length) (q0 : s 0 = .string (tx x)) (q1 : s 1 = .int .i64 (.ofNat i)) :
    Ev.Ends (uRd cx R) altab (QA cx R (outR (allL frsF conF x (k + 1) i []))) 4 s := by
  by_cases hi : i < x.length
  · have hle := firstF_le (nam := namF) (val := valF) (x.drop i) (negF conF [])
    rw [List.length_drop] at hle
    have hle : (frsF (x.drop i) (negF conF [])).2 ≤ x.length - i := hle
    have e : allL frsF conF x (k + 1) i [] = if (frsF (x.drop i) (negF conF [])).2 = 0 then .error i else allL frsF conF x k (nxF x i (frsF (x.drop i) (negF conF [])).2) ([] ++ [putAt (frsF (x.drop i) (negF conF [])).1 i]) := if_pos hi
    have hnx := nx_le (s := x) (i := i) (n := (frsF (x.drop i) (negF conF [])).2) (by omega)
    have hlu := lu19 (cx := cx) (R := R) hU (x.drop i) (negF conF [])
    have h15 := lu15 (cx := cx) (R := R) hU (x.drop i) (negF conF [])
    have h16 := lu16 (cx := cx) (R := R) hU (x.drop i) (negF conF [])
    have h17 := lu17 (cx := cx) (R := R) hU (x.drop i) (negF conF [])
    have h14 : uRd cx R 30 [.agg ⟨[]⟩] = some (.bool (negF conF [])) := lu14 hU []
    generalize hf : frsF (x.drop i) (negF conF []) = f at e hle hnx hlu h15 h16 h17
    have w1 : wrapA .i64 (Int.ofNat i + Int.ofNat f.2) = Int.ofNat (i + f.2) := w_add (by omega)
    have w2 : wrapA .i64 (Int.ofNat (i + f.2) + Int.ofNat (skipF false (x.drop (i + f.2)))) = Int.ofNat (i + f.2 + skipF false (x.drop (i + f.2))) := w_add (by unfold nxF at hnx; omega)
    refine Ends_mk ?_
    show At _ _ _ _ alvt4
    unfold alvt4
    refine at_node (by simp only [nA, denS_unk, f_num, f_int, f_bool, f_str, mapO, Option.bind_some, n_lss, n_eql, n_add, n_sub, n_t9, n_leq, n_t11, x_len, x_cut, x_t12, x_t10, x_seq, dl, n_beq2, q0, q1] <;> exact rfl) (fun _ => ?_) (fun h => absurd (of_decide_eq_false h) (by omega))
    refine at_t (by simp only [nA, denS_unk, f_num, f_int, f_bool, f_str, mapO, Option.bind_some, n_lss, n_eql, n_add, n_sub, n_t9, n_leq, n_t11, x_len, x_cut, x_t12, x_t10, x_seq, dl, n_beq2, q0, q1]; rw [Nat.ble_eq.mpr hil, Nat.ble_eq.mpr (Nat.le_refl _)]; rfl) ?_
    refine at_t (by simp only [nA, denS_unk, f_num, f_int, f_bool, f_str, mapO, Option.bind_some, n_lss, n_eql, n_add, n_sub, n_t9, n_leq, n_t11, x_len, x_cut, x_t12, x_t10, x_seq, dl, n_beq2, ale0, q0, q1, tkA]; rw [Nat.ble_eq.mpr (by rw [List.length_drop]; omega)]) ?_
    refine at_t (by simp only [nA, denS_unk, f_num, f_int, f_bool, f_str, mapO, Option.bind_some, n_lss, n_eql, n_add, n_sub, n_t9, n_leq, n_t11, x_len, x_cut, x_t12, x_t10, x_seq, dl, n_beq2, ale0, q0, q1, tkA]; rw [bl (by rw [List.length_drop]; omega)]) ?_
    refine at_node (by simp only [nA, denS_unk, f_num, f_int, f_bool, f_str, mapO, Option.bind_some, n_lss, n_eql, n_add, n_sub, n_t9, n_leq, n_t11, x_len, x_cut, x_t12, x_t10, x_seq, dl, n_beq2, ale0, q0, q1, tkA, n_lit, h14, hlu] <;> exact rfl) (fun h0 => ?_) (fun h0 => ?_)
    · have h0 : f.2 = 0 := by simpa using h0
      rw [e, if_pos h0]
      exact qa_none (dv_int ..) (by rw [dv_unk, q1])
    · have h0 : ¬ f.2 = 0 := by simpa using h0
      rw [e, if_neg h0]
      refine at_t (by simp only [nA, denS_unk, f_num, f_int, f_bool, f_str, mapO, Option.bind_some, n_lss, n_eql, n_add, n_sub, n_t9, n_leq, n_t11, x_len, x_cut, x_t12, x_t10, x_seq, dl, n_beq2, ale0, q0, q1, tkA, n_lit, h14, hlu, w1]; rw [Nat.ble_eq.mpr (by omega), Nat.ble_eq.mpr (Nat.le_refl _)]; rfl) ?_
      refine al5 hU hx k (nxF x i f.2) ([] ++ [putAt f.1 i]) _ (by unfold nxF; omega) hnx (by simp) (by show 1 ≤ _; unfold nxF; omega) ((upd_s rfl).trans q0) (upd_e rfl (denS_flat rfl)) (upd_e rfl ?_) (upd_e rfl ?_)
      · simp only [nA, denS_unk, f_num, f_int, f_bool, f_str, mapO, Option.bind_some, n_lss, n_eql, n_add, n_sub, n_t9, n_leq, n_t11, x_len, x_cut, x_t12, x_t10, x_seq, dl, n_beq2, ale0, q0, q1, tkA, n_lit, h14, hlu, w1, lu4 hU, w2]
        rfl
      · simp only [nA, denS_unk, f_num, f_int, f_bool, f_str, mapO, Option.bind_some, n_lss, n_eql, n_add, n_sub, n_t9, n_leq, n_t11, x_len, x_cut, x_t12, x_t10, x_seq, dl, n_beq2, ale0, q0, q1, tkA, n_lit, h14, h15, h16, h17]
        rfl
  · have e : allL frsF conF x (k + 1) i [] = .ok ([] ++ [endT x.length]) := if_neg hi
    rw [e]
    refine Ends_mk ?_
    show At _ _ _ _ alvt4
    unfold alvt4
    refine at_node (by simp only [nA, denS_unk, f_num, f_int, f_bool, f_str, mapO, Option.bind_some, n_lss, n_eql, n_add, n_sub, n_t9, n_leq, n_t11, x_len, x_cut, x_t12, x_t10, x_seq, dl, n_beq2, q0, q1] <;> exact rfl) (fun h => absurd (of_decide_eq_true h) (by omega)) (fun _ => ?_)
    show Ev.Ends (uRd cx R) altab _ 6 _
    exact al6 hU ((upd_s rfl).trans q0)
theorem al0 {x : B8} {s : Nat → Value} (q0 : s 0 = .string (tx x)) : Ev.Ends (uRd cx R) altab (QA cx R (allR x)) 0 s := by
  refine Ends_mk ?_
  show Ev.Ends (uRd cx R) altab _ 1 s
  refine Ends_mk ?_
  show At _ _ _ _ alvt1
  unfold alvt1
  refine at_node (by simp only [nA, denS_unk, f_num, f_int, f_bool, f_str, mapO, Option.bind_some, n_lss, n_eql, n_add, n_sub, n_t9, n_leq, n_t11, x_len, x_cut, x_t12, x_t10, x_seq, dl, n_beq2, q0] <;> exact rfl) (fun h => ?_) (fun h => ?_)
  · have e : allR x = ([], 3, 0) := if_pos (of_decide_eq_true h)
    rw [e]
    exact qa_none (dv_int ..) (dv_int ..)
  · have h := of_decide_eq_false h
    have e : allR x = outR (allF frsF conF x) := by
      unfold allR
      rw [if_neg h]
      cases allF frsF conF x <;> rfl
    rw [e]
    refine Ends_mk ?_
    show Ev.Ends (uRd cx R) altab _ 3 s
    refine Ends_mk ?_
    show Ev.Ends (uRd cx R) altab _ 4 _
    have hs := skip_le x false
    refine al4 hU (by omega) (by omega) hs ((upd_s rfl).trans q0) (upd_e rfl ?_)
    simp only [nA, denS_unk, f_num, f_int, f_bool, f_str, mapO, Option.bind_some, n_lss, n_eql, n_add, n_sub, n_t9, n_leq, n_t11, x_len, x_cut, x_t12, x_t10, x_seq, dl, n_beq2, q0, lu4 hU]
end
section
variable {F : B8 → Bool → Tok × Nat} {con : B8 → Bool}
theorem lexes_few {s : B8} {i : Nat} {l a : List Tok} (h : Lexes F con s i l a) : a.length ≤ l.length + (s.length - i) + 1 := by
  induction h with
  | done h => rw [List.length_append]; show _ + 1 ≤ _; omega
  | step h hn g ih =>
    rw [List.length_append] at ih
    have ih : _ ≤ _ + 1 + _ + 1 := ih
    unfold nxF at ih
    omega
end
end Go.Proofs.YtaepplhgeeaidaaDoor
