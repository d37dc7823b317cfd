import Derived.Test.YtaepplhgeeaidaaDoorLxP
set_option linter.unusedVariables false
set_option linter.unusedSimpArgs false
set_option linter.unusedSectionVars false
set_option maxRecDepth 100000
namespace Go.Proofs.YtaepplhgeeaidaaDoor
open Go Go.RowKit Ev
theorem bltF {a b : Nat} : (Nat.blt a b = false) ↔ b ≤ a := by
  constructor
  · intro h
    by_cases k : b ≤ a
    · exact k
    · rw [Nat.blt_eq.mpr (by omega : a < b)] at h; cases h
  · intro h
    cases k : Nat.blt a b with
    | true => have := Nat.blt_eq.mp k; omega
    | false => rfl
theorem dz {a : Int} : (decide (a < Int.ofNat 0) = true) ↔ a < 0 := decide_eq_true_iff
theorem dzF {a : Int} : (decide (a < Int.ofNat 0) = false) ↔ 0 ≤ a := by
  rw [decide_eq_false_iff_not]
  show ¬ a < 0 ↔ _
  omega
theorem escF_eq (x : B8) : escF x = if x.length < 2 then (0, 0) else if (x.getD 1 0).toNat = 92 ∨ (x.getD 1 0).toNat = 34 then (x.getD 1 0, 2) else if x.length < 4 then (0, 0) else
    if (x.getD 1 0).toNat = 120 ∧ 0 ≤ hexB (x.getD 2 0) ∧ 0 ≤ hexB (x.getD 3 0) then (hexV (hexB (x.getD 2 0)) (hexB (x.getD 3 0)), 4) else (0, 0) := by
  rcases x with _ | ⟨a, _ | ⟨c, _ | ⟨h, _ | ⟨l, r⟩⟩⟩⟩
  · rfl
  · rfl
  · rw [if_neg (by simp)]
    show (if _ then _ else _) = _
    rfl
  · rw [if_neg (by simp)]
    rfl
  · rw [if_neg (by simp), if_neg (c := (a :: c :: h :: l :: r).length < 4) (by simp)]
    rfl
theorem hexV_val (a b : Int) : Int.ofNat (hexV a b).toNat = wrapA .u8 (wrapA .i64 (wrapA .i64 (16 * a) + b)) := by
  unfold hexV
  generalize wrapA .i64 (wrapA .i64 (16 * a) + b) = z
  have h := tyOk_wrap .u8 z
  rw [← wrapA_eq] at h
  have h2 : 0 ≤ wrapA .u8 z ∧ wrapA .u8 z < 256 := by
    simp [tyOk, kindCode, IntKind.min, IntKind.max, IntKind.bits, IntKind.signed] at h
    omega
  generalize wrapA .u8 z = y at h2
  rw [UInt8.toNat_ofNat']
  show ((y.toNat % 2 ^ 8 : Nat) : Int) = y
  omega
theorem idxB_u8 (l : B8) (c : UInt8) : idxB l (Int.ofNat c.toNat) = Lib.indexByte l c := by
  unfold idxB
  show Lib.indexByte l c.toNat.toUInt8 = _
  congr 1
  exact UInt8.ofNat_toNat
theorem idx_rng : ∀ (l : B8) (c : UInt8), -1 ≤ Lib.indexByte l c ∧ Lib.indexByte l c < l.length
  | [], c => by unfold Lib.indexByte; simp
  | b :: l, c => by
    have := idx_rng l c
    unfold Lib.indexByte
    simp only [List.length_cons]
    split
    · omega
    · split <;> omega
section
variable {cx : Cx} {R : Addr → Option Value}
theorem n_mul (t : Nat) (c : Bool) (k : IntKind) (a b : Int) : uRd cx R 0 [num 2, num t, .bool c, .int k a, .int k b] = some (.int k (wrapA k (a * b))) := by
  rw [uRd_op]; simp only [opSem, num, binOf]; rw [binA_int (by simp) (by simp)]; rfl
theorem n_cv8 (k : IntKind) (a : Int) : uRd cx R 2 [num 7, .int k a] = some (.int .u8 (wrapA .u8 a)) := by
  unfold uRd
  rw [if_neg (by omega), if_pos (by omega)]
  rfl
end
section
variable {s : Nat → Value} {u : Nat → List Value → Option Value}
theorem ret2 {cx : Cx} {R : Addr → Option Value} {s : Nat → Value} {e1 e2 v1 v2 : Value} (h1 : denV s (uRd cx R) 8 e1 = some v1) (h2 : denV s (uRd cx R) 8 e2 = some v2) : QV cx R (.tuple ⟨[v1, v2]⟩) s [e1, e2] [] := by
  show denV s (uRd cx R) 9 (.tuple ⟨[e1, e2]⟩) = _
  unfold denV
  simp only [mapO, h1, h2]
theorem dv_sy (d ty k : Nat) (xs : List Value) : denV s u (d + 1) (sy ty (k + 1) xs) = (mapO (denS s u) xs).bind (u k) := by
  unfold denV
  exact denS_app ty k xs
theorem dv_int (d : Nat) (k : IntKind) (n : Int) : denV s u (d + 1) (.int k n) = some (.int k n) := by unfold denV; exact denS_flat rfl
theorem dv_str (d : Nat) (b : ByteArray) : denV s u (d + 1) (.string b) = some (.string b) := by unfold denV; exact denS_flat rfl
theorem dv_unk (d ty i : Nat) : denV s u (d + 1) (unk ty i) = some (s i) := by unfold denV; exact denS_unk ..
end
section
variable {cx : Cx} (hU : cx.U = lxU) {R : Addr → Option Value}
include hU
theorem ue0 {x : B8} (hx : QB x) {s : Nat → Value} (q0 : s 0 = .string (tx x)) : Ev.Ends (uRd cx R) uetab (QV cx R (.tuple ⟨[.int .u8 (Int.ofNat (escF x).1.toNat), .int .i64 (Int.ofNat (escF x).2)]⟩)) 0 s := by
  have e := escF_eq x
  have b1 : 1 < x.length → _ := fun h => x_byte (cx := cx) (R := R) (l := x) (i := 1) h .i64
  have b2 : 2 < x.length → _ := fun h => x_byte (cx := cx) (R := R) (l := x) (i := 2) h .i64
  have b3 : 3 < x.length → _ := fun h => x_byte (cx := cx) (R := R) (l := x) (i := 3) h .i64
  have hx2 : ∀ (c : UInt8), uRd cx R 19 [.string ⟨⟨[48, 49, 50, 51, 52, 53, 54, 55, 56, 57, 97, 98, 99, 100, 101, 102]⟩⟩, .int .u8 (Int.ofNat c.toNat)] = some (.int .i64 (hexB c)) := fun c => by
    rw [show (⟨⟨[48, 49, 50, 51, 52, 53, 54, 55, 56, 57, 97, 98, 99, 100, 101, 102]⟩⟩ : ByteArray) = tx [48, 49, 50, 51, 52, 53, 54, 55, 56, 57, 97, 98, 99, 100, 101, 102] from rfl, lu3 hU, idxB_u8]
    rfl
  have fin0 : escF x = (0, 0) → QV cx R (.tuple ⟨[.int .u8 (Int.ofNat (escF x).1.toNat), .int .i64 (Int.ofNat (escF x).2)]⟩) s [(.int .u8 (.ofNat 0)), (.int .i64 (.ofNat 0))] [] := fun h => by
    rw [h]
    exact ret2 (dv_int ..) (dv_int ..)
  have fin2 : 1 < x.length → escF x = (x.getD 1 0, 2) → QV cx R (.tuple ⟨[.int .u8 (Int.ofNat (escF x).1.toNat), .int .i64 (Int.ofNat (escF x).2)]⟩) s [(sy 7 11 [(num 5), (unk 2 0), (.int .i64 (.ofNat 1))]), (.int .i64 (.ofNat 2))] [] := fun h1 h => by
    rw [h]
    refine ret2 ?_ (dv_int ..)
    have := b1 h1
    rw [dv_sy]
    simp only [nA, denS_unk, f_num, f_int, f_bool, f_str, mapO, Option.bind_some, n_lss, n_eql, n_add, n_sub, n_t9, n_leq, n_t11, x_len, x_cut, x_t12, x_t10, x_seq, dl, n_beq2, q0, this]
  have fin4 : 3 < x.length → escF x = (hexV (hexB (x.getD 2 0)) (hexB (x.getD 3 0)), 4) → QV cx R (.tuple ⟨[.int .u8 (Int.ofNat (escF x).1.toNat), .int .i64 (Int.ofNat (escF x).2)]⟩) s [(sy 7 3 [(num 7), (sy 6 1 [(num 0), (num 3), (.bool false), (sy 6 1 [(num 2), (num 3), (.bool true), (.int .i64 (.ofNat 16)), (sy 6 20 [(.string ⟨⟨[48, 49, 50, 51, 52, 53, 54, 55, 56, 57, 97, 98, 99, 100, 101, 102]⟩⟩), (sy 7 11 [(num 5), (unk 2 0), (.int .i64 (.ofNat 2))])])]), (sy 6 20 [(.string ⟨⟨[48, 49, 50, 51, 52, 53, 54, 55, 56, 57, 97, 98, 99, 100, 101, 102]⟩⟩), (sy 7 11 [(num 5), (unk 2 0), (.int .i64 (.ofNat 3))])])])]), (.int .i64 (.ofNat 4))] [] := fun h1 h => by
    rw [h]
    refine ret2 ?_ (dv_int ..)
    have c2 := b2 (by omega)
    have c3 := b3 (by omega)
    rw [dv_sy, hexV_val]
    simp only [nA, denS_unk, f_num, f_int, f_bool, f_str, mapO, Option.bind_some, n_lss, n_eql, n_add, n_sub, n_t9, n_leq, n_t11, x_len, x_cut, x_t12, x_t10, x_seq, dl, n_beq2, q0, c2, c3, hx2, n_mul, n_cv8]
    rfl
  refine Ends_mk ?_
  show At _ _ _ _ uevt0
  unfold uevt0
  by_cases l4 : x.length < 4
  · by_cases l2 : x.length < 2
    · clear b1 b2 b3 fin4 fin2
      repeat' (refine at_node (by simp only [nA, denS_unk, f_num, f_int, f_bool, f_str, mapO, Option.bind_some, n_lss, n_eql, n_add, n_sub, n_t9, n_leq, n_t11, x_len, x_cut, x_t12, x_t10, x_seq, dl, n_beq2, q0] <;> exact rfl) (fun h => ?_) (fun h => ?_))
      all_goals try simp only [dz, dzF, bltF] at *
      all_goals simp only [decide_eq_true_eq, decide_eq_false_iff_not, Nat.not_lt, Nat.blt_eq] at *
      all_goals first
        | (exfalso; omega)
        | (refine fin0 ?_; rw [e]; simp (disch := omega) only [if_pos, if_neg]; done)
    · have c1 := b1 (by omega)
      clear b1 b2 b3 fin4
      repeat' (refine at_node (by simp only [nA, denS_unk, f_num, f_int, f_bool, f_str, mapO, Option.bind_some, n_lss, n_eql, n_add, n_sub, n_t9, n_leq, n_t11, x_len, x_cut, x_t12, x_t10, x_seq, dl, n_beq2, q0, c1] <;> exact rfl) (fun h => ?_) (fun h => ?_))
      all_goals try simp only [dz, dzF, bltF] at *
      all_goals simp only [decide_eq_true_eq, decide_eq_false_iff_not, Nat.not_lt, Nat.blt_eq, beq_iff_eq, beq_eq_false_iff_ne, ne_eq] at *
      all_goals first
        | (exfalso; omega)
        | (refine fin0 ?_; rw [e]; simp (disch := omega) only [if_pos, if_neg]; done)
        | (refine fin2 (by omega) ?_; rw [e]; simp (disch := omega) only [if_pos, if_neg]; done)
  · have c1 := b1 (by omega)
    have c2 := b2 (by omega)
    have c3 := b3 (by omega)
    clear b1 b2 b3
    repeat' (refine at_node (by simp only [nA, denS_unk, f_num, f_int, f_bool, f_str, mapO, Option.bind_some, n_lss, n_eql, n_add, n_sub, n_t9, n_leq, n_t11, x_len, x_cut, x_t12, x_t10, x_seq, dl, n_beq2, q0, c1, c2, c3, hx2] <;> exact rfl) (fun h => ?_) (fun h => ?_))
    all_goals try simp only [dz, dzF, bltF] at *
    all_goals simp only [decide_eq_true_eq, decide_eq_false_iff_not, Nat.not_lt, Nat.blt_eq, beq_iff_eq, beq_eq_false_iff_ne, ne_eq] at *
    all_goals first
      | (exfalso; omega)
      | (refine fin0 ?_; rw [e]; simp (disch := omega) only [if_pos, if_neg]; done)
      | (refine fin2 (by omega) ?_; rw [e]; simp (disch := omega) only [if_pos, if_neg]; done)
      | (refine fin4 (by omega) ?_; rw [e]; simp (disch := omega) only [if_pos, if_neg]; done)
omit hU in
theorem tkA (x : B8) (i : Nat) : (x.drop i).take (x.length - i) = x.drop i := List.take_of_length_le (by rw [List.length_drop]; exact Nat.le_refl _)
def uqO (i : Nat) : Option (B8 × Nat) → B8 × Nat
  | some p => (p.1, i + p.2)
  | none => ([], 0)
def uqR (p : B8 × Nat) : Value := .tuple ⟨[.string (tx p.1), .int .i64 (Int.ofNat p.2)]⟩
omit hU in
theorem uqO_map (i n : Nat) (o : Option (B8 × Nat)) : uqO i (o.map fun p => (p.1, p.2 + n)) = uqO (i + n) o := by
  cases o with
  | none => rfl
  | some p => show (p.1, i + (p.2 + n)) = (p.1, i + n + p.2); rw [Nat.add_assoc, Nat.add_comm n]
theorem uq6 (s : Nat → Value) : Ev.Ends (uRd cx R) uqtab (QV cx R (uqR ([], 0))) 6 s := by
  refine Ends_mk ?_
  show QV cx R _ s [.string ⟨⟨[]⟩⟩, .int .i64 (.ofNat 0)] []
  exact ret2 (dv_str ..) (dv_int ..)
theorem uq7 {x : B8} (hx : QB x) : ∀ (k i : Nat) (b : B8) (s : Nat → Value), i ≤ x.length → x.length < i + k → b.length ≤ 65 → s 0 = .string (tx x) → s 1 = .int .i64 (.ofNat b.length) → s 2 = .int .i64 (.ofNat i) → s 3 = .agg ⟨b.flatMap eB⟩ →
    Ev.Ends (uRd cx R) uqtab (QV cx R (uqR (uqO i (unqL k (x.drop i) b)))) 7 s := by
  intro k
  unfold QB at hx
  induction k with
  | zero => intro i b s h1 h2; omega
  | succ k ih =>
    intro i b s hil hk hb65 q0 q1 q2 q3
    by_cases hi : i < x.length
    · have hb := x_byte (cx := cx) (R := R) hi .i64
      have hd := drop_at hi
      generalize hc : x.getD i 0 = c at hb hd
      have e : unqL (k + 1) (x.drop i) b = if 64 < b.length then none else if c.toNat = 34 then some (b, 1) else if c.toNat = 92 then (if (escF (x.drop i)).2 = 0 then none else (unqL k ((x.drop i).drop (escF (x.drop i)).2) (b ++ [(escF (x.drop i)).1])).map fun p => (p.1, p.2 + (escF (x.drop i)).2)) else if plB c.toNat = true then (unqL k (x.drop (i + 1)) (b ++ [c])).map fun p => (p.1, p.2 + 1) else none := by rw [hd]; rfl
      have none6 : unqL (k + 1) (x.drop i) b = none → ∀ s, Ev.Ends (uRd cx R) uqtab (QV cx R (uqR (uqO i (unqL (k + 1) (x.drop i) b)))) 6 s := fun h s => by
        rw [h]
        exact uq6 hU s
      have hel := esc_le (x.drop i)
      rw [List.length_drop] at hel
      have wb := w_inc (n := b.length) (by omega)
      have wi := w_inc (n := i) (by omega)
      have we : wrapA .i64 (Int.ofNat i + Int.ofNat (escF (x.drop i)).2) = Int.ofNat (i + (escF (x.drop i)).2) := w_add (by omega)
      have app : ∀ c : UInt8, b.flatMap eB ++ [.int .u8 (Int.ofNat c.toNat)] = (b ++ [c]).flatMap eB := fun c => by rw [List.flatMap_append]; rfl
      have lapp : ∀ c : UInt8, Int.ofNat (b.length + 1) = Int.ofNat (b ++ [c]).length := fun c => by rw [List.length_append]; rfl
      refine Ends_mk ?_
      show At _ _ _ _ uqvt7
      unfold uqvt7
      refine at_node (by simp only [nA, denS_unk, f_num, f_int, f_bool, f_str, mapO, Option.bind_some, n_lss, n_eql, n_add, n_sub, n_t9, n_leq, n_t11, x_len, x_cut, x_t12, x_t10, x_seq, dl, n_beq2, q0, q1, q2] <;> exact rfl) (fun _ => ?_) (fun h => absurd (of_decide_eq_false h) (by omega))
      refine at_node (by simp only [nA, denS_unk, f_num, f_int, f_bool, f_str, mapO, Option.bind_some, n_lss, n_eql, n_add, n_sub, n_t9, n_leq, n_t11, x_len, x_cut, x_t12, x_t10, x_seq, dl, n_beq2, q0, q1, q2] <;> exact rfl) (fun h => none6 (by rw [e, if_pos (of_decide_eq_true h)]) _) (fun h64 => ?_)
      have h64 := of_decide_eq_false h64
      rw [if_neg h64] at e
      refine at_node (by simp only [nA, denS_unk, f_num, f_int, f_bool, f_str, mapO, Option.bind_some, n_lss, n_eql, n_add, n_sub, n_t9, n_leq, n_t11, x_len, x_cut, x_t12, x_t10, x_seq, dl, n_beq2, q0, q1, q2] <;> exact rfl) (fun _ => ?_) (fun h => by rw [bl hi] at h; cases h)
      refine at_node (by simp only [nA, denS_unk, f_num, f_int, f_bool, f_str, mapO, Option.bind_some, n_lss, n_eql, n_add, n_sub, n_t9, n_leq, n_t11, x_len, x_cut, x_t12, x_t10, x_seq, dl, n_beq2, q0, q1, q2, hb] <;> exact rfl) (fun h34 => ?_) (fun h34 => ?_)
      · have h34 : c.toNat = 34 := by simpa using h34
        refine at_t (by simp only [nA, denS_unk, f_num, f_int, f_bool, f_str, mapO, Option.bind_some, n_lss, n_eql, n_add, n_sub, n_t9, n_leq, n_t11, x_len, x_cut, x_t12, x_t10, x_seq, dl, n_beq2, q0, q1, q2]; rw [Nat.ble_eq.mpr (by omega)]) ?_
        rw [e, if_pos h34]
        refine ret2 ?_ ?_
        · rw [dv_sy]
          simp only [nA, denS_unk, f_num, f_int, f_bool, f_str, mapO, Option.bind_some, n_lss, n_eql, n_add, n_sub, n_t9, n_leq, n_t11, x_len, x_cut, x_t12, x_t10, x_seq, dl, n_beq2, q3, x_text]
          rfl
        · rw [dv_sy]
          simp only [nA, denS_unk, f_num, f_int, f_bool, f_str, mapO, Option.bind_some, n_lss, n_eql, n_add, n_sub, n_t9, n_leq, n_t11, x_len, x_cut, x_t12, x_t10, x_seq, dl, n_beq2, q2, wi]
          rfl
      have h34 : ¬ c.toNat = 34 := by simpa using h34
      rw [if_neg h34] at e
      refine at_node (by simp only [nA, denS_unk, f_num, f_int, f_bool, f_str, mapO, Option.bind_some, n_lss, n_eql, n_add, n_sub, n_t9, n_leq, n_t11, x_len, x_cut, x_t12, x_t10, x_seq, dl, n_beq2, q0, q1, q2, hb] <;> exact rfl) (fun h92 => ?_) (fun h92 => ?_)
      · have h92 : c.toNat = 92 := by simpa using h92
        rw [if_pos h92] at e
        refine at_t (by simp only [nA, denS_unk, f_num, f_int, f_bool, f_str, mapO, Option.bind_some, n_lss, n_eql, n_add, n_sub, n_t9, n_leq, n_t11, x_len, x_cut, x_t12, x_t10, x_seq, dl, n_beq2, q0, q1, q2]; rw [Nat.ble_eq.mpr (by omega), Nat.ble_eq.mpr (Nat.le_refl _)]; rfl) ?_
        refine at_node (by simp only [nA, denS_unk, f_num, f_int, f_bool, f_str, mapO, Option.bind_some, n_lss, n_eql, n_add, n_sub, n_t9, n_leq, n_t11, x_len, x_cut, x_t12, x_t10, x_seq, dl, n_beq2, q0, q1, q2, tkA, lu6 hU] <;> exact rfl) (fun h0 => ?_) (fun h0 => ?_)
        · have h0 : (escF (x.drop i)).2 = 0 := by simpa using h0
          exact none6 (by rw [e, if_pos h0]) _
        · have h0 : ¬ (escF (x.drop i)).2 = 0 := by simpa using h0
          rw [if_neg h0, List.drop_drop] at e
          refine at_t (by simp only [nA, denS_unk, f_num, f_int, f_bool, f_str, mapO, Option.bind_some, n_lss, n_eql, n_add, n_sub, n_t9, n_leq, n_t11, x_len, x_cut, x_t12, x_t10, x_seq, dl, n_beq2, q0, q1, q2]; rw [Nat.ble_eq.mpr (by omega)]) ?_
          rw [e, uqO_map]
          refine ih (i + (escF (x.drop i)).2) (b ++ [(escF (x.drop i)).1]) _ (by omega) (by omega) (by rw [List.length_append]; show b.length + 1 ≤ 65; omega) ((upd_s rfl).trans q0) (upd_e rfl ?_) (upd_e rfl ?_) (upd_e rfl ?_)
          · simp only [nA, denS_unk, f_num, f_int, f_bool, f_str, mapO, Option.bind_some, n_lss, n_eql, n_add, n_sub, n_t9, n_leq, n_t11, x_len, x_cut, x_t12, x_t10, x_seq, dl, n_beq2, q1, wb]; rw [List.length_append]; rfl
          · simp only [nA, denS_unk, f_num, f_int, f_bool, f_str, mapO, Option.bind_some, n_lss, n_eql, n_add, n_sub, n_t9, n_leq, n_t11, x_len, x_cut, x_t12, x_t10, x_seq, dl, n_beq2, q0, q2, tkA, lu6 hU, we]
          · simp only [nA, denS_unk, f_num, f_int, f_bool, f_str, mapO, Option.bind_some, n_lss, n_eql, n_add, n_sub, n_t9, n_leq, n_t11, x_len, x_cut, x_t12, x_t10, x_seq, dl, n_beq2, q0, q2, q3, tkA, lu5 hU, n_lit, n_cat, app]
      have h92 : ¬ c.toNat = 92 := by simpa using h92
      rw [if_neg h92] at e
      refine at_node (by simp only [nA, denS_unk, f_num, f_int, f_bool, f_str, mapO, Option.bind_some, n_lss, n_eql, n_add, n_sub, n_t9, n_leq, n_t11, x_len, x_cut, x_t12, x_t10, x_seq, dl, n_beq2, q0, q1, q2, hb] <;> exact rfl) (fun h1 => none6 (by rw [e, if_neg (by simp [plB, h1])]) _) (fun h1 => ?_)
      refine at_node (by simp only [nA, denS_unk, f_num, f_int, f_bool, f_str, mapO, Option.bind_some, n_lss, n_eql, n_add, n_sub, n_t9, n_leq, n_t11, x_len, x_cut, x_t12, x_t10, x_seq, dl, n_beq2, q0, q1, q2, hb] <;> exact rfl) (fun h2 => none6 (by rw [e, if_neg (by simp [plB, h1, h2])]) _) (fun h2 => ?_)
      have hp : plB c.toNat = true := by simp [plB, h1, h2, h34, h92]
      rw [if_pos hp] at e
      refine at_t (by simp only [nA, denS_unk, f_num, f_int, f_bool, f_str, mapO, Option.bind_some, n_lss, n_eql, n_add, n_sub, n_t9, n_leq, n_t11, x_len, x_cut, x_t12, x_t10, x_seq, dl, n_beq2, q0, q1, q2]; rw [Nat.ble_eq.mpr (by omega)]) ?_
      rw [e, uqO_map]
      refine ih (i + 1) (b ++ [c]) _ (by omega) (by omega) (by rw [List.length_append]; show b.length + 1 ≤ 65; omega) ((upd_s rfl).trans q0) (upd_e rfl ?_) (upd_e rfl ?_) (upd_e rfl ?_)
      · simp only [nA, denS_unk, f_num, f_int, f_bool, f_str, mapO, Option.bind_some, n_lss, n_eql, n_add, n_sub, n_t9, n_leq, n_t11, x_len, x_cut, x_t12, x_t10, x_seq, dl, n_beq2, q1, wb]; rw [List.length_append]; rfl
      · simp only [nA, denS_unk, f_num, f_int, f_bool, f_str, mapO, Option.bind_some, n_lss, n_eql, n_add, n_sub, n_t9, n_leq, n_t11, x_len, x_cut, x_t12, x_t10, x_seq, dl, n_beq2, q0, q2, wi]
      · simp only [nA, denS_unk, f_num, f_int, f_bool, f_str, mapO, Option.bind_some, n_lss, n_eql, n_add, n_sub, n_t9, n_leq, n_t11, x_len, x_cut, x_t12, x_t10, x_seq, dl, n_beq2, q0, q2, q3, hb, n_lit, n_cat, app]
    · have e : unqL (k + 1) (x.drop i) b = none := by rw [List.drop_of_length_le (by omega)]; rfl
      rw [e]
      refine Ends_mk ?_
      show At _ _ _ _ uqvt7
      unfold uqvt7
      refine at_node (by simp only [nA, denS_unk, f_num, f_int, f_bool, f_str, mapO, Option.bind_some, n_lss, n_eql, n_add, n_sub, n_t9, n_leq, n_t11, x_len, x_cut, x_t12, x_t10, x_seq, dl, n_beq2, q0, q1, q2] <;> exact rfl) (fun h => absurd (of_decide_eq_true h) (by omega)) (fun _ => ?_)
      exact uq6 hU _
end
end Go.Proofs.YtaepplhgeeaidaaDoor
