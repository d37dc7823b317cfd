import Derived.Test.YtaepplhgeeaidaaDoorLxQ
set_option linter.unusedVariables false
set_option linter.unusedSimpArgs false
set_option linter.unusedSectionVars false
set_option maxRecDepth 100000
namespace Go.Proofs.YtaepplhgeeaidaaDoor
open Go Go.RowKit Ev
def QTk (x : Tok) : Prop := (-9223372036854775808 ≤ x.1 ∧ x.1 ≤ 9223372036854775807) ∧ x.2.1.length < 9223372036854775808 ∧ (-9223372036854775808 ≤ x.2.2.1 ∧ x.2.2.1 ≤ 9223372036854775807) ∧ (-9223372036854775808 ≤ x.2.2.2 ∧ x.2.2.2 ≤ 9223372036854775807)
abbrev LstK (R : Addr → Option Value) (ad : Option Addr) (l : List Tok) : Prop := LstG eTok 4 40 QTk R ad l
section
variable {cx : Cx} (hU : cx.U = lxU) {R : Addr → Option Value}
include hU
theorem uq5 {x : B8} (hx : QB x) {r : B8} {a : UInt8} (hr : x = a :: r) {s : Nat → Value} (q0 : s 0 = .string (tx x)) (q1 : s 1 = .int .i64 (.ofNat 1)) : Ev.Ends (uRd cx R) uqtab (QV cx R (uqR (uqO 1 (unqL (r.length + 1) r [])))) 5 s := by
  have hlen : x.length = r.length + 1 := by rw [hr]; rfl
  have hx' := hx
  unfold QB at hx'
  have hdr : x.drop 1 = r := by rw [hr]; rfl
  by_cases hi : 1 < x.length
  · have hb := x_byte (cx := cx) (R := R) hi .i64
    have hd := drop_at hi
    generalize hc : x.getD 1 0 = c at hb hd
    have e : unqL (r.length + 1) r [] = if c.toNat = 34 then some ([], 1) else if c.toNat = 92 then (if (escF (x.drop 1)).2 = 0 then none else (unqL r.length ((x.drop 1).drop (escF (x.drop 1)).2) ([] ++ [(escF (x.drop 1)).1])).map fun p => (p.1, p.2 + (escF (x.drop 1)).2)) else if plB c.toNat = true then (unqL r.length (x.drop 2) ([] ++ [c])).map fun p => (p.1, p.2 + 1) else none := by rw [← hdr, hd]; rfl
    have none6 : unqL (r.length + 1) r [] = none → ∀ s, Ev.Ends (uRd cx R) uqtab (QV cx R (uqR (uqO 1 (unqL (r.length + 1) r [])))) 6 s := fun h s => by
      rw [h]
      exact uq6 hU s
    have hel := esc_le (x.drop 1)
    rw [List.length_drop] at hel
    have we : wrapA .i64 (Int.ofNat 1 + Int.ofNat (escF (x.drop 1)).2) = Int.ofNat (1 + (escF (x.drop 1)).2) := w_add (by omega)
    have w2 := w_inc (n := 1) (by omega)
    refine Ends_mk ?_
    show At _ _ _ _ uqvt5
    unfold uqvt5
    refine at_node (by simp only [nA, denS_unk, f_num, f_int, f_bool, f_str, mapO, Option.bind_some, n_lss, n_eql, n_add, n_sub, n_t9, n_leq, n_t11, x_len, x_cut, x_t12, x_t10, x_seq, dl, n_beq2, q0, q1] <;> exact rfl) (fun _ => ?_) (fun h => absurd (of_decide_eq_false h) (by omega))
    refine at_node (by simp only [nA, denS_unk, f_num, f_int, f_bool, f_str, mapO, Option.bind_some, n_lss, n_eql, n_add, n_sub, n_t9, n_leq, n_t11, x_len, x_cut, x_t12, x_t10, x_seq, dl, n_beq2, q0, q1] <;> exact rfl) (fun _ => ?_) (fun h => by rw [bl hi] at h; cases h)
    refine at_node (by simp only [nA, denS_unk, f_num, f_int, f_bool, f_str, mapO, Option.bind_some, n_lss, n_eql, n_add, n_sub, n_t9, n_leq, n_t11, x_len, x_cut, x_t12, x_t10, x_seq, dl, n_beq2, q0, q1, hb] <;> exact rfl) (fun h34 => ?_) (fun h34 => ?_)
    · have h34 : c.toNat = 34 := by simpa using h34
      rw [e, if_pos h34]
      refine ret2 (dv_str ..) ?_
      rw [dv_sy]
      simp only [nA, denS_unk, f_num, f_int, f_bool, f_str, mapO, Option.bind_some, n_lss, n_eql, n_add, n_sub, n_t9, n_leq, n_t11, x_len, x_cut, x_t12, x_t10, x_seq, dl, n_beq2, q1, w2]
      rfl
    have h34 : ¬ c.toNat = 34 := by simpa using h34
    rw [if_neg h34] at e
    refine at_node (by simp only [nA, denS_unk, f_num, f_int, f_bool, f_str, mapO, Option.bind_some, n_lss, n_eql, n_add, n_sub, n_t9, n_leq, n_t11, x_len, x_cut, x_t12, x_t10, x_seq, dl, n_beq2, q0, q1, hb] <;> exact rfl) (fun h92 => ?_) (fun h92 => ?_)
    · have h92 : c.toNat = 92 := by simpa using h92
      rw [if_pos h92] at e
      refine at_t (by simp only [nA, denS_unk, f_num, f_int, f_bool, f_str, mapO, Option.bind_some, n_lss, n_eql, n_add, n_sub, n_t9, n_leq, n_t11, x_len, x_cut, x_t12, x_t10, x_seq, dl, n_beq2, q0, q1]; rw [Nat.ble_eq.mpr (by omega), Nat.ble_eq.mpr (Nat.le_refl _)]; rfl) ?_
      refine at_node (by simp only [nA, denS_unk, f_num, f_int, f_bool, f_str, mapO, Option.bind_some, n_lss, n_eql, n_add, n_sub, n_t9, n_leq, n_t11, x_len, x_cut, x_t12, x_t10, x_seq, dl, n_beq2, q0, q1, tkA, lu6 hU] <;> exact rfl) (fun h0 => ?_) (fun h0 => ?_)
      · have h0 : (escF (x.drop 1)).2 = 0 := by simpa using h0
        exact none6 (by rw [e, if_pos h0]) _
      · have h0 : ¬ (escF (x.drop 1)).2 = 0 := by simpa using h0
        rw [if_neg h0, List.drop_drop] at e
        rw [e, uqO_map]
        refine uq7 hU hx r.length (1 + (escF (x.drop 1)).2) ([] ++ [(escF (x.drop 1)).1]) _ (by omega) (by omega) (by show 1 ≤ 65; omega) ((upd_s rfl).trans q0) (upd_e rfl (denS_flat rfl)) (upd_e rfl ?_) (upd_e rfl ?_)
        · simp only [nA, denS_unk, f_num, f_int, f_bool, f_str, mapO, Option.bind_some, n_lss, n_eql, n_add, n_sub, n_t9, n_leq, n_t11, x_len, x_cut, x_t12, x_t10, x_seq, dl, n_beq2, q0, q1, tkA, lu6 hU, we]
        · simp only [nA, denS_unk, f_num, f_int, f_bool, f_str, mapO, Option.bind_some, n_lss, n_eql, n_add, n_sub, n_t9, n_leq, n_t11, x_len, x_cut, x_t12, x_t10, x_seq, dl, n_beq2, q0, q1, tkA, lu5 hU, n_lit]
          rfl
    have h92 : ¬ c.toNat = 92 := by simpa using h92
    rw [if_neg h92] at e
    refine at_node (by simp only [nA, denS_unk, f_num, f_int, f_bool, f_str, mapO, Option.bind_some, n_lss, n_eql, n_add, n_sub, n_t9, n_leq, n_t11, x_len, x_cut, x_t12, x_t10, x_seq, dl, n_beq2, q0, q1, hb] <;> exact rfl) (fun h1 => none6 (by rw [e, if_neg (by simp [plB, h1])]) _) (fun h1 => ?_)
    refine at_node (by simp only [nA, denS_unk, f_num, f_int, f_bool, f_str, mapO, Option.bind_some, n_lss, n_eql, n_add, n_sub, n_t9, n_leq, n_t11, x_len, x_cut, x_t12, x_t10, x_seq, dl, n_beq2, q0, q1, hb] <;> exact rfl) (fun h2 => none6 (by rw [e, if_neg (by simp [plB, h1, h2])]) _) (fun h2 => ?_)
    have hp : plB c.toNat = true := by simp [plB, h1, h2, h34, h92]
    rw [if_pos hp] at e
    rw [e, uqO_map]
    refine uq7 hU hx r.length 2 ([] ++ [c]) _ (by omega) (by omega) (by show 1 ≤ 65; omega) ((upd_s rfl).trans q0) (upd_e rfl (denS_flat rfl)) (upd_e rfl ?_) (upd_e rfl ?_)
    · simp only [nA, denS_unk, f_num, f_int, f_bool, f_str, mapO, Option.bind_some, n_lss, n_eql, n_add, n_sub, n_t9, n_leq, n_t11, x_len, x_cut, x_t12, x_t10, x_seq, dl, n_beq2, q0, q1, w2]
    · simp only [nA, denS_unk, f_num, f_int, f_bool, f_str, mapO, Option.bind_some, n_lss, n_eql, n_add, n_sub, n_t9, n_leq, n_t11, x_len, x_cut, x_t12, x_t10, x_seq, dl, n_beq2, q0, q1, hb, n_lit]
      rfl
  · have e : unqL (r.length + 1) r [] = none := by
      have : r = [] := List.eq_nil_of_length_eq_zero (by omega)
      rw [this]
      rfl
    rw [e]
    refine Ends_mk ?_
    show At _ _ _ _ uqvt5
    unfold uqvt5
    refine at_node (by simp only [nA, denS_unk, f_num, f_int, f_bool, f_str, mapO, Option.bind_some, n_lss, n_eql, n_add, n_sub, n_t9, n_leq, n_t11, x_len, x_cut, x_t12, x_t10, x_seq, dl, n_beq2, q0, q1] <;> exact rfl) (fun h => absurd (of_decide_eq_true h) (by omega)) (fun _ => ?_)
    exact uq6 hU _
theorem uq0 {x : B8} (hx : QB x) {s : Nat → Value} (q0 : s 0 = .string (tx x)) : Ev.Ends (uRd cx R) uqtab (QV cx R (uqR (unqP x))) 0 s := by
  refine Ends_mk ?_
  show Ev.Ends (uRd cx R) uqtab _ 1 s
  refine Ends_mk ?_
  show At _ _ _ _ uqvt1
  unfold uqvt1
  have none0 : unqF x = none → QV cx R (uqR (unqP x)) s [.string ⟨⟨[]⟩⟩, .int .i64 (.ofNat 0)] [] := fun h => by
    unfold unqP
    rw [h]
    exact ret2 (dv_str ..) (dv_int ..)
  have hs : (.string ⟨⟨[34]⟩⟩ : Value) = .string (tx [34]) := rfl
  cases x with
  | nil =>
    refine at_node (by simp only [nA, denS_unk, f_num, f_int, f_bool, f_str, mapO, Option.bind_some, n_lss, n_eql, n_add, n_sub, n_t9, n_leq, n_t11, x_len, x_cut, x_t12, x_t10, x_seq, dl, n_beq2, q0] <;> exact rfl) (fun _ => none0 rfl) (fun h => by simp at h)
  | cons a r =>
    refine at_node (by simp only [nA, denS_unk, f_num, f_int, f_bool, f_str, mapO, Option.bind_some, n_lss, n_eql, n_add, n_sub, n_t9, n_leq, n_t11, x_len, x_cut, x_t12, x_t10, x_seq, dl, n_beq2, q0] <;> exact rfl) (fun h => absurd (of_decide_eq_true h) (by simp)) (fun _ => ?_)
    refine at_node (by simp only [nA, denS_unk, f_num, f_int, f_bool, f_str, mapO, Option.bind_some, n_lss, n_eql, n_add, n_sub, n_t9, n_leq, n_t11, x_len, x_cut, x_t12, x_t10, x_seq, dl, n_beq2, q0] <;> exact rfl) (fun _ => ?_) (fun h => by
      have t : Nat.ble 1 (r.length + 1) = true := Nat.ble_eq.mpr (by omega)
      revert h
      rw [show (a :: r).length = r.length + 1 from rfl, t]
      exact fun h => by cases h)
    refine at_node (by simp only [nA, denS_unk, f_num, f_int, f_bool, f_str, mapO, Option.bind_some, n_lss, n_eql, n_add, n_sub, n_t9, n_leq, n_t11, x_len, x_cut, x_t12, x_t10, x_seq, dl, n_beq2, q0, hs] <;> exact rfl) (fun h => ?_) (fun h => ?_)
    · have h : a.toNat = 34 := by
        have : a = 34 := by simpa using h
        rw [this]; rfl
      have e : unqP (a :: r) = uqO 1 (unqL (r.length + 1) r []) := by
        have e0 : unqF (a :: r) = (unqL (r.length + 1) r []).map fun p => (p.1, p.2 + 1) := if_pos h
        unfold unqP
        rw [e0]
        cases unqL (r.length + 1) r [] with
        | none => rfl
        | some p => show (p.1, p.2 + 1) = (p.1, 1 + p.2); rw [Nat.add_comm]
      rw [e]
      refine Ends_mk ?_
      show Ev.Ends (uRd cx R) uqtab _ 3 _
      refine Ends_mk ?_
      show Ev.Ends (uRd cx R) uqtab _ 4 _
      refine Ends_mk ?_
      show Ev.Ends (uRd cx R) uqtab _ 5 _
      exact uq5 hU hx rfl ((upd_s rfl).trans q0) (upd_e rfl (denS_flat rfl))
    · refine none0 ?_
      have : ¬ a.toNat = 34 := fun hh => by
        have : a = 34 := UInt8.toNat_inj.1 hh
        simp [this] at h
      exact if_neg this
theorem n_not (b : Bool) : uRd cx R 1 [num 2, .bool b] = some (.bool (!b)) := by
  unfold uRd
  rw [if_neg (by omega), if_pos (by omega)]
  rfl
theorem tok_at {ad : Option Addr} {l : List Tok} (L : LstK R ad l) {i : Nat} (hi : i < l.length) : ∃ x a, ad = some x ∧ l[i]? = some a ∧ R ((x.add (i * 4)).add 0) = some (.int .i64 a.1) ∧ R ((x.add (i * 4)).add 1) = some (.string (tx a.2.1)) ∧ R ((x.add (i * 4)).add 2) = some (.int .i64 a.2.2.1) ∧ R ((x.add (i * 4)).add 3) = some (.int .i64 a.2.2.2) ∧ l.drop i = a :: l.drop (i + 1) := by
  obtain ⟨x, a, h1, h2, -, h3, h4⟩ := lstG_at L hi
  exact ⟨x, a, h1, h2, h3 0 _ rfl, h3 1 _ rfl, h3 2 _ rfl, h3 3 _ rfl, h4⟩
theorem mn0 {ad : Option Addr} {l : List Tok} {c : Nat} (L : LstK R ad l) {s : Nat → Value} (q0 : s 0 = .slice ad l.length c) : Ev.Ends (uRd cx R) mntab (QV cx R (.bool (negF conF l))) 0 s := by
  have few := (lstG_few L).1
  refine Ends_mk ?_
  show At _ _ _ _ mnvt0
  unfold mnvt0
  refine at_node (by simp only [nA, denS_unk, f_num, f_int, f_bool, f_str, mapO, Option.bind_some, n_lss, n_eql, n_add, n_sub, n_t9, n_leq, n_t11, x_len, x_cut, x_t12, x_t10, x_seq, dl, n_beq2, q0, n_len] <;> exact rfl) (fun h => ?_) (fun h => ?_)
  · have h : l.length = 0 := by simpa using h
    have : l = [] := List.eq_nil_of_length_eq_zero h
    subst this
    exact ret_b true
  have h : ¬ l.length = 0 := by simpa using h
  have w := w_sub (n := l.length) (i := 1) (by omega) few
  obtain ⟨x, a, rfl, ha, r0, r1, -, -, -⟩ := tok_at hU L (i := l.length - 1) (by omega)
  have e : negF conF l = (a.1 == 4 && !conF a.2.1) := by
    unfold negF
    rw [List.getLast?_eq_getElem?, ha]
  have hs : (.string ⟨⟨[41, 93, 125]⟩⟩ : Value) = .string (tx [41, 93, 125]) := rfl
  refine at_t (by simp only [nA, denS_unk, f_num, f_int, f_bool, f_str, mapO, Option.bind_some, n_lss, n_eql, n_add, n_sub, n_t9, n_leq, n_t11, x_len, x_cut, x_t12, x_t10, x_seq, dl, n_beq2, q0, n_len, w, n_t1]; rw [bl (by omega)]) ?_
  refine at_node (by simp only [nA, denS_unk, f_num, f_int, f_bool, f_str, mapO, Option.bind_some, n_lss, n_eql, n_add, n_sub, n_t9, n_leq, n_t11, x_len, x_cut, x_t12, x_t10, x_seq, dl, n_beq2, q0, n_len, w, n_t1, n_ix, n_fd, n_rd, r0] <;> exact rfl) (fun h4 => ?_) (fun h4 => ?_)
  · have e2 : negF conF l = !conF a.2.1 := by rw [e, show (a.1 == 4) = true from h4]; rfl
    rw [e2]
    show denV s (uRd cx R) 9 (sy 1 2 _) = _
    rw [dv_sy]
    simp only [nA, denS_unk, f_num, f_int, f_bool, f_str, mapO, Option.bind_some, n_lss, n_eql, n_add, n_sub, n_t9, n_leq, n_t11, x_len, x_cut, x_t12, x_t10, x_seq, dl, n_beq2, q0, n_len, w, n_t1, n_ix, n_fd, n_rd, r1, hs, lu27 hU, n_not hU]
    rfl
  · have e2 : negF conF l = false := by rw [e, show (a.1 == 4) = false from h4]; rfl
    rw [e2]
    exact ret_b false
theorem tk3 {l m : List Tok} {ad1 ad2 : Option Addr} {c1 c2 : Nat} {b : Bool} (L : LstK R ad1 l) (M : LstK R ad2 m) (hlm : l.length = m.length) : ∀ (k i : Nat) (s : Nat → Value), i + k = l.length → s 0 = .slice ad1 l.length c1 → s 1 = .slice ad2 m.length c2 → s 2 = .bool b → s 3 = .int .i64 (.ofNat i) →
    Ev.Ends (uRd cx R) tktab (QV cx R (.bool (tksB b (l.drop i) (m.drop i)))) 3 s := by
  have few := (lstG_few L).1
  intro k
  induction k with
  | zero =>
    intro i s hk q0 q1 q2 q3
    refine Ends_mk ?_
    show At _ _ _ _ tkvt3
    unfold tkvt3
    refine at_node (by simp only [nA, denS_unk, f_num, f_int, f_bool, f_str, mapO, Option.bind_some, n_lss, n_eql, n_add, n_sub, n_t9, n_leq, n_t11, x_len, x_cut, x_t12, x_t10, x_seq, dl, n_beq2, q0, q1, q2, q3, n_len] <;> exact rfl) (fun h => absurd (of_decide_eq_true h) (by omega)) (fun h => ?_)
    refine Ends_mk ?_
    rw [List.drop_of_length_le (by omega), List.drop_of_length_le (by omega)]
    exact ret_b true
  | succ k ih =>
    intro i s hk q0 q1 q2 q3
    have hi : i < l.length := by omega
    have hj : i < m.length := by omega
    obtain ⟨x, a, rfl, ha, r0, r1, r2, r3, hd⟩ := tok_at hU L hi
    obtain ⟨y, d, rfl, hb, p0, p1, p2, p3, he⟩ := tok_at hU M hj
    have w := w_inc (n := i) (by omega)
    have r0 : R (((x.add (i * 4)).add 0).add 0) = _ := r0
    have r1 : R (((x.add (i * 4)).add 1).add 0) = _ := r1
    have r2 : R (((x.add (i * 4)).add 2).add 0) = _ := r2
    have r3 : R (((x.add (i * 4)).add 3).add 0) = _ := r3
    have p0 : R (((y.add (i * 4)).add 0).add 0) = _ := p0
    have p1 : R (((y.add (i * 4)).add 1).add 0) = _ := p1
    have p2 : R (((y.add (i * 4)).add 2).add 0) = _ := p2
    have p3 : R (((y.add (i * 4)).add 3).add 0) = _ := p3
    have e : tksB b (l.drop i) (m.drop i) = (a.1 == d.1 && (a.2.1 == d.2.1 && (a.2.2.1 == d.2.2.1 && ((!b || a.2.2.2 == d.2.2.2) && tksB b (l.drop (i + 1)) (m.drop (i + 1)))))) := by rw [hd, he]; rfl
    have stop : tksB b (l.drop i) (m.drop i) = false → QV cx R (.bool (tksB b (l.drop i) (m.drop i))) s [.bool false] [] := fun h => by rw [h]; exact ret_b false
    have next : tksB b (l.drop i) (m.drop i) = tksB b (l.drop (i + 1)) (m.drop (i + 1)) → Ev.Ends (uRd cx R) tktab (QV cx R (.bool (tksB b (l.drop i) (m.drop i)))) 3 (upd s (uRd cx R) [(3, 6, (sy 6 1 [(num 0), (num 3), (.bool true), (unk 6 3), (.int .i64 (.ofNat 1))]))]) := fun h => by
      rw [h]
      exact ih (i + 1) _ (by omega) ((upd_s rfl).trans q0) ((upd_s rfl).trans q1) ((upd_s rfl).trans q2) (upd_e rfl (by simp only [nA, denS_unk, f_num, f_int, f_bool, f_str, mapO, Option.bind_some, n_lss, n_eql, n_add, n_sub, n_t9, n_leq, n_t11, x_len, x_cut, x_t12, x_t10, x_seq, dl, n_beq2, q3, w]))
    clear ih
    refine Ends_mk ?_
    show At _ _ _ _ tkvt3
    unfold tkvt3
    refine at_node (by simp only [nA, denS_unk, f_num, f_int, f_bool, f_str, mapO, Option.bind_some, n_lss, n_eql, n_add, n_sub, n_t9, n_leq, n_t11, x_len, x_cut, x_t12, x_t10, x_seq, dl, n_beq2, q0, q1, q2, q3, n_len] <;> exact rfl) (fun _ => ?_) (fun h => absurd (of_decide_eq_false h) (by omega))
    refine at_t (by simp only [nA, denS_unk, f_num, f_int, f_bool, f_str, mapO, Option.bind_some, n_lss, n_eql, n_add, n_sub, n_t9, n_leq, n_t11, x_len, x_cut, x_t12, x_t10, x_seq, dl, n_beq2, q0, q1, q2, q3, n_t1]; rw [bl hi]) (at_t (by simp only [nA, denS_unk, f_num, f_int, f_bool, f_str, mapO, Option.bind_some, n_lss, n_eql, n_add, n_sub, n_t9, n_leq, n_t11, x_len, x_cut, x_t12, x_t10, x_seq, dl, n_beq2, q0, q1, q2, q3, n_t1]; rw [bl hj]) ?_)
    refine at_node (by simp only [nA, denS_unk, f_num, f_int, f_bool, f_str, mapO, Option.bind_some, n_lss, n_eql, n_add, n_sub, n_t9, n_leq, n_t11, x_len, x_cut, x_t12, x_t10, x_seq, dl, n_beq2, q0, q1, q3, n_ix, n_fd, n_rd, r0, p0] <;> exact rfl) (fun h1 => ?_) (fun h1 => stop (by rw [e, h1]; rfl))
    refine at_node (by simp only [nA, denS_unk, f_num, f_int, f_bool, f_str, mapO, Option.bind_some, n_lss, n_eql, n_add, n_sub, n_t9, n_leq, n_t11, x_len, x_cut, x_t12, x_t10, x_seq, dl, n_beq2, q0, q1, q3, n_ix, n_fd, n_rd, r1, p1] <;> exact rfl) (fun h2 => ?_) (fun h2 => stop (by rw [e, h1, h2]; rfl))
    refine at_node (by simp only [nA, denS_unk, f_num, f_int, f_bool, f_str, mapO, Option.bind_some, n_lss, n_eql, n_add, n_sub, n_t9, n_leq, n_t11, x_len, x_cut, x_t12, x_t10, x_seq, dl, n_beq2, q0, q1, q3, n_ix, n_fd, n_rd, r2, p2] <;> exact rfl) (fun h3 => ?_) (fun h3 => stop (by rw [e, h1, h2, h3]; rfl))
    refine at_node (by simp only [nA, denS_unk, f_num, f_int, f_bool, f_str, mapO, Option.bind_some, n_lss, n_eql, n_add, n_sub, n_t9, n_leq, n_t11, x_len, x_cut, x_t12, x_t10, x_seq, dl, n_beq2, q2] <;> exact rfl) (fun h4 => ?_) (fun h4 => next (by rw [e, h1, h2, h3, h4]; rfl))
    refine at_node (by simp only [nA, denS_unk, f_num, f_int, f_bool, f_str, mapO, Option.bind_some, n_lss, n_eql, n_add, n_sub, n_t9, n_leq, n_t11, x_len, x_cut, x_t12, x_t10, x_seq, dl, n_beq2, q0, q1, q3, n_ix, n_fd, n_rd, r3, p3] <;> exact rfl) (fun h5 => next (by rw [e, h1, h2, h3, h4, h5]; rfl)) (fun h5 => stop (by rw [e, h1, h2, h3, h4, h5]; rfl))
omit hU in
theorem tks_len (b : Bool) : ∀ l m : List Tok, tksB b l m = true → l.length = m.length
  | [], [], _ => rfl
  | x :: l, y :: m, h => by
    unfold tksB at h
    simp only [Bool.and_eq_true] at h
    rw [List.length_cons, List.length_cons, tks_len b l m h.2.2.2.2]
theorem tk0 {l m : List Tok} {ad1 ad2 : Option Addr} {c1 c2 : Nat} {b : Bool} (L : LstK R ad1 l) (M : LstK R ad2 m) {s : Nat → Value} (q0 : s 0 = .slice ad1 l.length c1) (q1 : s 1 = .slice ad2 m.length c2) (q2 : s 2 = .bool b) :
    Ev.Ends (uRd cx R) tktab (QV cx R (.bool (tksB b l m))) 0 s := by
  refine Ends_mk ?_
  show Ev.Ends (uRd cx R) tktab _ 1 s
  refine Ends_mk ?_
  show At _ _ _ _ tkvt1
  unfold tkvt1
  refine at_node (by simp only [nA, denS_unk, f_num, f_int, f_bool, f_str, mapO, Option.bind_some, n_lss, n_eql, n_add, n_sub, n_t9, n_leq, n_t11, x_len, x_cut, x_t12, x_t10, x_seq, dl, n_beq2, q0, q1, n_len] <;> exact rfl) (fun h => ?_) (fun h => ?_)
  · have h : l.length = m.length := by simpa using h
    refine Ends_mk ?_
    show Ev.Ends (uRd cx R) tktab _ 3 _
    exact tk3 hU L M h l.length 0 _ (by omega) ((upd_s rfl).trans q0) ((upd_s rfl).trans q1) ((upd_s rfl).trans q2) (upd_e rfl (denS_flat rfl))
  · have h : ¬ l.length = m.length := by simpa using h
    have e : tksB b l m = false := by
      cases hh : tksB b l m with
      | false => rfl
      | true => exact absurd (tks_len b l m hh) h
    rw [e]
    exact ret_b false
end
end Go.Proofs.YtaepplhgeeaidaaDoor
