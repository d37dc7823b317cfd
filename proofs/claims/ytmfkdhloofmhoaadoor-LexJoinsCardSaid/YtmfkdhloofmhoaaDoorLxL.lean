import Derived.Test.YtmfkdhloofmhoaaDoorLxG
set_option linter.unusedVariables false
set_option linter.unusedSimpArgs false
set_option linter.unusedSectionVars false
set_option maxRecDepth 100000
namespace Go.Proofs.YtmfkdhloofmhoaaDoor
open Go Go.RowKit Ev
section
variable {F : B8 → Bool → Tok × Nat} {con : B8 → Bool}
theorem lexes_few {s : B8} {i : Nat} {l a : List Tok} (h : Lexes F con s i l a) : a.length ≤ l.length + (s.length - i) + 1 := by
  induction h with
  | done h => rw [List.length_append]; show _ + 1 ≤ _; omega
  | step h hn g ih =>
    rw [List.length_append] at ih
    have ih : _ ≤ _ + 1 + _ + 1 := ih
    unfold nxF at ih
    omega
theorem lexes_at {s : B8} {i : Nat} {l a : List Tok} (h : Lexes F con s i l a) (hi : i ≤ s.length) (hL : ∀ x neg, (F x neg).2 ≤ x.length) : (∀ t, t ∈ l → ∃ n, n ≤ s.length ∧ t.2.2.2 = Int.ofNat n) → ∀ t, t ∈ a → ∃ n, n ≤ s.length ∧ t.2.2.2 = Int.ofNat n := by
  induction h with
  | done h =>
    intro hl t ht
    rcases List.mem_append.1 ht with h1 | h1
    · exact hl t h1
    · rw [List.mem_singleton.1 h1]
      exact ⟨_, Nat.le_refl _, rfl⟩
  | step h hn g ih =>
    rename_i i l a
    intro hl
    have := hL (s.drop i) (negF con l)
    rw [List.length_drop] at this
    refine ih (nx_le (by omega)) (fun t ht => ?_)
    rcases List.mem_append.1 ht with h1 | h1
    · exact hl t h1
    · rw [List.mem_singleton.1 h1]
      exact ⟨i, hi, rfl⟩
theorem lexes_pre {s : B8} {i : Nat} {l a : List Tok} (h : Lexes F con s i l a) : ∃ m, a = l ++ m ∧ m ≠ [] ∧ (i < s.length → (F (s.drop i) (negF con l)).2 ≠ 0 ∧ m.head? = some (putAt (F (s.drop i) (negF con l)).1 i)) ∧ (¬ i < s.length → m = [endT s.length]) := by
  induction h with
  | done h => exact ⟨[endT s.length], rfl, by simp, fun hh => by omega, fun _ => rfl⟩
  | step h hn g ih =>
    obtain ⟨m, rfl, -, -, -⟩ := ih
    refine ⟨_ :: m, by rw [List.append_assoc]; rfl, by simp, fun _ => ⟨hn, rfl⟩, fun hh => absurd h hh⟩
end
theorem flat_take {α : Type} {enc : α → List Value} {z : Nat} (hz : ∀ a, (enc a).length = z) : ∀ (l : List α) (n : Nat), (l.flatMap enc).take (n * z) = (l.take n).flatMap enc
  | [], n => by simp
  | a :: l, 0 => by simp
  | a :: l, n + 1 => by
    rw [List.flatMap_cons, List.take_succ_cons, List.flatMap_cons, Nat.succ_mul, Nat.add_comm, List.take_append, hz, List.take_of_length_le (by rw [hz]; omega), Nat.add_sub_cancel_left, flat_take hz l n]
theorem frs_kind (x : B8) (neg : Bool) : (frsF x neg).1.1 ≠ 5 := by
  unfold frsF
  cases x with
  | nil => show (0 : Int) ≠ 5; decide
  | cons c r =>
    have w : (wordF namF (c :: r)).1.1 ≠ 5 := by
      unfold wordF
      split <;> first | decide | (show (1 : Int) ≠ 5; decide) | (show (2 : Int) ≠ 5; decide) | (show (3 : Int) ≠ 5; decide)
    have q : (textF (c :: r)).1.1 ≠ 5 := by
      unfold textF
      split
      · split <;> first | decide | (show (1 : Int) ≠ 5; decide) | (show (2 : Int) ≠ 5; decide) | (show (3 : Int) ≠ 5; decide)
      · decide
    have n : (numF valF (c :: r)).1.1 ≠ 5 := by
      unfold numF
      split
      · decide
      · split <;> first | decide | (show (1 : Int) ≠ 5; decide) | (show (2 : Int) ≠ 5; decide) | (show (3 : Int) ≠ 5; decide)
    have g : ∀ k, (signF (c :: r) k).1.1 ≠ 5 := fun k => by show (4 : Int) ≠ 5; decide
    rw [firstF_eq]
    repeat' split
    all_goals first | exact w | exact q | exact n | exact g _ | decide
theorem tks_self (b : Bool) : ∀ l, tksB b l l = true
  | [] => rfl
  | x :: l => by
    unfold tksB
    rw [tks_self b l]
    simp
theorem tx_cat (a b : B8) : tx a ++ tx b = tx (a ++ b) := by
  have h : (tx a ++ tx b).data = (tx a).data ++ (tx b).data := ByteArray.data_append
  have h2 : tl (tx a ++ tx b) = a ++ b := by
    unfold tl
    rw [h, Array.toList_append]
    rfl
  rw [← tx_tl (tx a ++ tx b), h2]
section
variable {cx : Cx} (hU : cx.U = lxU) {R : Addr → Option Value}
theorem n_catT {t : Nat} {c : Bool} {a b : B8} (h : a.length + b.length < 9223372036854775808) : uRd cx R 0 [num 0, num t, .bool c, .string (tx a), .string (tx b)] = some (.string (tx (a ++ b))) := by
  rw [uRd_op]
  show (if (((tx a).size + (tx b).size : Nat) : Int) > IntKind.i64.max then none else some (Value.string (tx a ++ tx b))) = _
  rw [if_neg, tx_cat]
  rw [tx_size, tx_size]
  simp [IntKind.max, IntKind.bits, IntKind.signed]
  omega
theorem n_take (xs : List Value) (k k' : IntKind) (n z : Nat) : uRd cx R 10 [num 9, .agg ⟨xs⟩, .int k (.ofNat n), .int k' (.ofNat z)] = some (.agg ⟨xs.take (n * z)⟩) := by rw [uRd_rd _ _ _ _ (by omega)]; rfl
theorem all_of {x y : B8} {a b : List Tok} (hx : x.length ≤ 3000) (hy : y.length ≤ 3000) (ha : allR x = (a, 0, 0)) (hb : allR y = (b, 0, 0)) (ha0 : a ≠ []) (hb0 : b ≠ [])
    (hk : ∀ t, b.head? = some t → t.1 = 5 ∨ (y.getD t.2.2.2.toNat 0).toNat ≠ 45) : allR (x ++ 10 :: y) = (a.dropLast ++ b.map (shT (x.length + 1)), 0, 0) := by
  have key : ∀ (x : B8) (a : List Tok), x.length ≤ 3000 → allR x = (a, 0, 0) → a ≠ [] → allF frsF conF x = .ok a := fun x a hx ha ha0 => by
    unfold allR at ha
    rw [if_neg (by omega)] at ha
    revert ha
    cases allF frsF conF x with
    | ok l => intro h; injection h with h; rw [h]
    | error i => intro h; injection h with h h2; injection h2 with h2; cases h2
  have h1 := key x a hx ha ha0
  have h2 := key y b hy hb hb0
  have h3 := all_joins (F := frsF) (con := conF) (s := x) (t := y) (fun x neg h => firstF_app y x neg h) (fun x neg => firstF_le x neg) h1 h2 (fun hs n m => by
    refine firstF_neg (fun c r hcr => ?_) n m
    obtain ⟨m', hm, -, hp, -⟩ := lexes_pre (lexes_of _ _ _ _ h2)
    rw [List.nil_append] at hm
    subst hm
    obtain ⟨-, hp⟩ := hp hs
    rcases hk _ hp with hk | hk
    · exact absurd hk (frs_kind _ _)
    · have : (putAt (frsF (y.drop (skipF false y)) (negF conF [])).1 (skipF false y)).2.2.2.toNat = skipF false y := rfl
      rw [this] at hk
      have e := drop_at hs
      rw [hcr] at e
      injection e with e
      rw [e]
      exact hk)
  unfold allR
  rw [if_neg (by rw [List.length_append, List.length_cons]; omega), h3]
include hU
theorem lx13 {x y : B8} {w : List Tok} (hx : x.length ≤ 3000) (hy : y.length ≤ 3000) (hw : allR (x ++ 10 :: y) = (w, 0, 0)) (hw0 : w ≠ []) (hwl : w.length ≤ 524288) {s : Nat → Value} (q0 : s 0 = .string (tx x)) (q1 : s 1 = .string (tx y)) (q2 : s 2 = .int .i64 (.ofNat w.length)) (q3 : s 3 = .agg ⟨w.flatMap eTok⟩) :
    Ev.Ends (uRd cx R) lxtab (QV cx R (.bool true)) 13 s := by
  have c1 := n_catT (cx := cx) (R := R) (t := 9) (c := true) (a := x) (b := [10]) (by simp only [List.length_cons, List.length_nil]; omega)
  have c2 := n_catT (cx := cx) (R := R) (t := 9) (c := false) (a := x ++ [10]) (b := y) (by simp only [List.length_append, List.length_cons, List.length_nil]; omega)
  have e10 : (x ++ [10]) ++ y = x ++ 10 :: y := by rw [List.append_assoc]; rfl
  rw [e10] at c2
  have h10 : (.string ⟨⟨[10]⟩⟩ : Value) = .string (tx [10]) := rfl
  have l10 : (x ++ [10]).length = x.length + 1 := by rw [List.length_append]; rfl
  have h20 := lu20 (cx := cx) (R := R) hU (x ++ 10 :: y)
  have h21 := lu21 (cx := cx) (R := R) hU (x ++ 10 :: y)
  have h22 := lu22 (cx := cx) (R := R) hU (x ++ 10 :: y)
  have h23 := lu23 (cx := cx) (R := R) hU (x ++ 10 :: y)
  rw [hw] at h20 h21 h22 h23
  have h22 : uRd cx R 38 [.string (tx (x ++ 10 :: y))] = some (.int .i64 (Int.ofNat 0)) := h22
  have h23 : uRd cx R 39 [.string (tx (x ++ 10 :: y))] = some (.int .i64 (Int.ofNat 0)) := h23
  have h20 : uRd cx R 36 [.string (tx (x ++ 10 :: y))] = some (.agg ⟨w.flatMap eTok⟩) := h20
  have h21 : uRd cx R 37 [.string (tx (x ++ 10 :: y))] = some (.int .i64 (Int.ofNat w.length)) := h21
  have hpos : 0 < w.length := List.length_pos_iff.2 hw0
  have h24 := lu24 (cx := cx) (R := R) hU w w true
  rw [tks_self] at h24
  refine Ends_mk ?_
  show At _ _ _ _ lxvt13
  unfold lxvt13
  refine at_t (by simp only [nA, denS_unk, f_num, f_int, f_bool, f_str, mapO, Option.bind_some, n_lss, n_eql, n_add, n_sub, n_t9, n_leq, n_t11, x_len, x_cut, x_t12, x_t10, x_seq, dl, n_beq2, q0]; rw [Nat.ble_eq.mpr (by omega)]) ?_
  refine at_t (by simp only [nA, denS_unk, f_num, f_int, f_bool, f_str, mapO, Option.bind_some, n_lss, n_eql, n_add, n_sub, n_t9, n_leq, n_t11, x_len, x_cut, x_t12, x_t10, x_seq, dl, n_beq2, q0, h10, c1, l10]; rw [Nat.ble_eq.mpr (by omega)]) ?_
  refine at_t (by simp only [nA, denS_unk, f_num, f_int, f_bool, f_str, mapO, Option.bind_some, n_lss, n_eql, n_add, n_sub, n_t9, n_leq, n_t11, x_len, x_cut, x_t12, x_t10, x_seq, dl, n_beq2, q1]; rw [Nat.ble_eq.mpr (by omega)]) ?_
  refine at_t (by simp only [nA, denS_unk, f_num, f_int, f_bool, f_str, mapO, Option.bind_some, n_lss, n_eql, n_add, n_sub, n_t9, n_leq, n_t11, x_len, x_cut, x_t12, x_t10, x_seq, dl, n_beq2, lxe0, q0, q1, h10, c1, c2, h21]; rw [bl hpos]) ?_
  refine at_t (by simp only [nA, denS_unk, f_num, f_int, f_bool, f_str, mapO, Option.bind_some, n_lss, n_eql, n_add, n_sub, n_t9, n_leq, n_t11, x_len, x_cut, x_t12, x_t10, x_seq, dl, n_beq2, lxe0, q0, q1, h10, c1, c2, h22]; rfl) ?_
  refine at_t (by simp only [nA, denS_unk, f_num, f_int, f_bool, f_str, mapO, Option.bind_some, n_lss, n_eql, n_add, n_sub, n_t9, n_leq, n_t11, x_len, x_cut, x_t12, x_t10, x_seq, dl, n_beq2, lxe0, q0, q1, h10, c1, c2, h23]; rfl) ?_
  refine at_t (by simp only [nA, denS_unk, f_num, f_int, f_bool, f_str, mapO, Option.bind_some, n_lss, n_eql, n_add, n_sub, n_t9, n_leq, n_t11, x_len, x_cut, x_t12, x_t10, x_seq, dl, n_beq2, lxe0, q0, q1, h10, c1, c2, h21]; rw [Nat.ble_eq.mpr (by omega)]) ?_
  refine at_t (by simp only [nA, denS_unk, f_num, f_int, f_bool, f_str, mapO, Option.bind_some, n_lss, n_eql, n_add, n_sub, n_t9, n_leq, n_t11, x_len, x_cut, x_t12, x_t10, x_seq, dl, n_beq2, q2]; rw [Nat.ble_eq.mpr (by omega)]) ?_
  show denV s (uRd cx R) 9 (sy 1 41 _) = _
  rw [dv_sy]
  simp only [nA, denS_unk, f_num, f_int, f_bool, f_str, mapO, Option.bind_some, n_lss, n_eql, n_add, n_sub, n_t9, n_leq, n_t11, x_len, x_cut, x_t12, x_t10, x_seq, dl, n_beq2, lxe0, q0, q1, q3, h10, c1, c2, h20, h24]
theorem lx12 {x y : B8} {a b : List Tok} (hx : x.length ≤ 3000) (hy : y.length ≤ 3000) (hw : allR (x ++ 10 :: y) = (a ++ b.map (shT (x.length + 1)), 0, 0)) (hb0 : b ≠ []) (hal : a.length ≤ 10000) (hbl : b.length ≤ 10000) (hat : ∀ t, t ∈ b → ∃ n, n ≤ y.length ∧ t.2.2.2 = Int.ofNat n) :
    ∀ (k i : Nat) (acc : List Tok) (s : Nat → Value), i + k = b.length → acc = a ++ (b.take i).map (shT (x.length + 1)) → s 0 = .string (tx x) → s 1 = .string (tx y) → s 2 = .int .i64 (.ofNat b.length) → s 3 = .int .i64 (.ofNat acc.length) → s 4 = .int .i64 (.ofNat i) → s 5 = .agg ⟨b.flatMap eTok⟩ → s 6 = .agg ⟨acc.flatMap eTok⟩ →
    Ev.Ends (uRd cx R) lxtab (QV cx R (.bool true)) 12 s := by
  intro k
  induction k with
  | zero =>
    intro i acc s hk hacc q0 q1 q2 q3 q4 q5 q6
    have hi : i = b.length := by omega
    subst hi
    rw [List.take_length] at hacc
    subst hacc
    refine Ends_mk ?_
    show At _ _ _ _ lxvt12
    unfold lxvt12
    refine at_node (by simp only [nA, denS_unk, f_num, f_int, f_bool, f_str, mapO, Option.bind_some, n_lss, n_eql, n_add, n_sub, n_t9, n_leq, n_t11, x_len, x_cut, x_t12, x_t10, x_seq, dl, n_beq2, q2, q4] <;> exact rfl) (fun h => absurd (of_decide_eq_true h) (by omega)) (fun _ => ?_)
    refine lx13 hU hx hy hw (by simp [hb0]) (by rw [List.length_append, List.length_map]; omega) ((upd_s rfl).trans q0) ((upd_s rfl).trans q1) (upd_e rfl (by rw [denS_unk, q3])) (upd_e rfl (by rw [denS_unk, q6]))
  | succ k ih =>
    intro i acc s hk hacc q0 q1 q2 q3 q4 q5 q6
    have hi : i < b.length := by omega
    have hlen : acc.length ≤ 20000 := by rw [hacc, List.length_append, List.length_map, List.length_take]; omega
    obtain ⟨t, ht⟩ : ∃ t, b[i]? = some t := ⟨_, List.getElem?_eq_getElem hi⟩
    have hmem : t ∈ b := List.mem_of_getElem? ht
    obtain ⟨n, hn, hn2⟩ := hat t hmem
    have g0 := flat_get eTok_len b i t ht 0 (by omega)
    have g1 := flat_get eTok_len b i t ht 1 (by omega)
    have g2 := flat_get eTok_len b i t ht 2 (by omega)
    have g3 := flat_get eTok_len b i t ht 3 (by omega)
    have g0 : (b.flatMap eTok)[i * 4 + 0]? = some (.int .i64 t.1) := g0
    have g1 : (b.flatMap eTok)[i * 4 + 1]? = some (.string (tx t.2.1)) := g1
    have g2 : (b.flatMap eTok)[i * 4 + 2]? = some (.int .i64 t.2.2.1) := g2
    have g3 : (b.flatMap eTok)[i * 4 + 3]? = some (.int .i64 t.2.2.2) := g3
    rw [hn2] at g3
    have n4 : ∀ o, uRd cx R 10 [num 0, .agg ⟨b.flatMap eTok⟩, .int .i64 (.ofNat i), num 4, num o] = (b.flatMap eTok)[i * 4 + o]? := fun o => n_cell ..
    have w1 := w_inc (n := i) (by omega)
    have w2 := w_inc (n := acc.length) (by omega)
    have w3 : wrapA .i64 (Int.ofNat n + Int.ofNat x.length) = Int.ofNat (n + x.length) := w_add (by omega)
    have w4 := w_inc (n := n + x.length) (by omega)
    have he : shT (x.length + 1) t = (t.1, t.2.1, t.2.2.1, Int.ofNat (n + x.length + 1)) := by
      unfold shT
      rw [hn2]
      rfl
    refine Ends_mk ?_
    show At _ _ _ _ lxvt12
    unfold lxvt12
    refine at_node (by simp only [nA, denS_unk, f_num, f_int, f_bool, f_str, mapO, Option.bind_some, n_lss, n_eql, n_add, n_sub, n_t9, n_leq, n_t11, x_len, x_cut, x_t12, x_t10, x_seq, dl, n_beq2, q2, q4] <;> exact rfl) (fun _ => ?_) (fun h => absurd (of_decide_eq_false h) (by omega))
    refine at_t (by simp only [nA, denS_unk, f_num, f_int, f_bool, f_str, mapO, Option.bind_some, n_lss, n_eql, n_add, n_sub, n_t9, n_leq, n_t11, x_len, x_cut, x_t12, x_t10, x_seq, dl, n_beq2, q2, q4]; rw [bl hi]) ?_
    refine at_t (by simp only [nA, denS_unk, f_num, f_int, f_bool, f_str, mapO, Option.bind_some, n_lss, n_eql, n_add, n_sub, n_t9, n_leq, n_t11, x_len, x_cut, x_t12, x_t10, x_seq, dl, n_beq2, q3]; rw [Nat.ble_eq.mpr (by omega)]) ?_
    refine ih (i + 1) (acc ++ [shT (x.length + 1) t]) _ (by omega) ?_ ((upd_s rfl).trans q0) ((upd_s rfl).trans q1) (upd_e rfl (by rw [denS_unk, q2])) (upd_e rfl ?_) (upd_e rfl ?_) (upd_e rfl (by rw [denS_unk, q5])) (upd_e rfl ?_)
    · rw [hacc, List.append_assoc, List.take_add_one, ht]
      simp
    · simp only [nA, denS_unk, f_num, f_int, f_bool, f_str, mapO, Option.bind_some, n_lss, n_eql, n_add, n_sub, n_t9, n_leq, n_t11, x_len, x_cut, x_t12, x_t10, x_seq, dl, n_beq2, q3, w2]
      rw [List.length_append]
      rfl
    · simp only [nA, denS_unk, f_num, f_int, f_bool, f_str, mapO, Option.bind_some, n_lss, n_eql, n_add, n_sub, n_t9, n_leq, n_t11, x_len, x_cut, x_t12, x_t10, x_seq, dl, n_beq2, q4, w1]
    · simp only [nA, denS_unk, f_num, f_int, f_bool, f_str, mapO, Option.bind_some, n_lss, n_eql, n_add, n_sub, n_t9, n_leq, n_t11, x_len, x_cut, x_t12, x_t10, x_seq, dl, n_beq2, q0, q4, q5, q6, n4, g0, g1, g2, g3, w3, w4, n_lit, n_cat]
      rw [List.flatMap_append, he]
      rfl
theorem lx11 {x y : B8} {a b : List Tok} (hx : x.length ≤ 3000) (hy : y.length ≤ 3000) (hw : allR (x ++ 10 :: y) = (a ++ b.map (shT (x.length + 1)), 0, 0)) (hb0 : b ≠ []) (hal : a.length ≤ 10000) (hbl : b.length ≤ 10000) (hat : ∀ t, t ∈ b → ∃ n, n ≤ y.length ∧ t.2.2.2 = Int.ofNat n)
    {s : Nat → Value} (q0 : s 0 = .string (tx x)) (q1 : s 1 = .string (tx y)) (q2 : s 2 = .int .i64 (.ofNat b.length)) (q3 : s 3 = .int .i64 (.ofNat a.length)) (q4 : s 4 = .agg ⟨b.flatMap eTok⟩) (q5 : s 5 = .agg ⟨a.flatMap eTok⟩) :
    Ev.Ends (uRd cx R) lxtab (QV cx R (.bool true)) 11 s := by
  refine Ends_mk ?_
  show Ev.Ends (uRd cx R) lxtab _ 12 _
  exact lx12 hU hx hy hw hb0 hal hbl hat b.length 0 a _ (by omega) (by simp) ((upd_s rfl).trans q0) ((upd_s rfl).trans q1) (upd_e rfl (by rw [denS_unk, q2])) (upd_e rfl (by rw [denS_unk, q3])) (upd_e rfl (denS_flat rfl)) (upd_e rfl (by rw [denS_unk, q4])) (upd_e rfl (by rw [denS_unk, q5]))
theorem lx10 {x y : B8} {a b : List Tok} (hx : x.length ≤ 3000) (hy : y.length ≤ 3000) (hw : allR (x ++ 10 :: y) = (a.dropLast ++ b.map (shT (x.length + 1)), 0, 0)) (ha0 : a ≠ []) (hb0 : b ≠ []) (hal : a.length ≤ 10000) (hbl : b.length ≤ 10000) (hat : ∀ t, t ∈ b → ∃ n, n ≤ y.length ∧ t.2.2.2 = Int.ofNat n)
    {s : Nat → Value} (q0 : s 0 = .string (tx x)) (q1 : s 1 = .string (tx y)) (q2 : s 2 = .int .i64 (.ofNat a.length)) (q3 : s 3 = .int .i64 (.ofNat b.length)) (q4 : s 4 = .agg ⟨a.flatMap eTok⟩) (q5 : s 5 = .agg ⟨b.flatMap eTok⟩) :
    Ev.Ends (uRd cx R) lxtab (QV cx R (.bool true)) 10 s := by
  have hpos : 0 < a.length := List.length_pos_iff.2 ha0
  have w := w_sub (n := a.length) (i := 1) (by omega) (by omega)
  have w0 : wrapA .i64 (Int.ofNat 0 + Int.ofNat (a.length - 1)) = Int.ofNat (a.length - 1) := by
    rw [show Int.ofNat 0 + Int.ofNat (a.length - 1) = Int.ofNat (a.length - 1) from Int.zero_add _]
    exact wA (by omega)
  have hd : (a.flatMap eTok).take ((a.length - 1) * 4) = a.dropLast.flatMap eTok := by rw [flat_take eTok_len, List.dropLast_eq_take]
  have nt : uRd cx R 10 [num 9, .agg ⟨a.flatMap eTok⟩, .int .i64 (.ofNat (a.length - 1)), num 4] = some (.agg ⟨a.dropLast.flatMap eTok⟩) := by
    rw [show (num 4 : Value) = .int .u64 (.ofNat 4) from rfl, n_take, hd]
  refine Ends_mk ?_
  show At _ _ _ _ lxvt10
  unfold lxvt10
  refine at_t (by simp only [nA, denS_unk, f_num, f_int, f_bool, f_str, mapO, Option.bind_some, n_lss, n_eql, n_add, n_sub, n_t9, n_leq, n_t11, x_len, x_cut, x_t12, x_t10, x_seq, dl, n_beq2, q2, w, n_t11K hU]; rw [show uRd cx R 8 [num 11, .int .i64 (.ofNat (a.length - 1)), .int .i64 (.ofNat a.length)] = some (.bool (Nat.ble (a.length - 1) a.length)) from by rw [n_tr]; rfl, Nat.ble_eq.mpr (by omega)]) ?_
  refine at_t (by simp only [nA, denS_unk, f_num, f_int, f_bool, f_str, mapO, Option.bind_some, n_lss, n_eql, n_add, n_sub, n_t9, n_leq, n_t11, x_len, x_cut, x_t12, x_t10, x_seq, dl, n_beq2, q2, w]; rw [Nat.ble_eq.mpr (by omega)]) ?_
  have hdl : a.dropLast.length = a.length - 1 := List.length_dropLast
  refine lx11 hU hx hy hw hb0 (by omega) hbl hat ((upd_s rfl).trans q0) ((upd_s rfl).trans q1) (upd_e rfl (by rw [denS_unk, q3])) (upd_e rfl ?_) (upd_e rfl (by rw [denS_unk, q5])) (upd_e rfl ?_)
  · simp only [nA, denS_unk, f_num, f_int, f_bool, f_str, mapO, Option.bind_some, n_lss, n_eql, n_add, n_sub, n_t9, n_leq, n_t11, x_len, x_cut, x_t12, x_t10, x_seq, dl, n_beq2, q2, w, w0]
    rw [hdl]
  · simp only [nA, denS_unk, f_num, f_int, f_bool, f_str, mapO, Option.bind_some, n_lss, n_eql, n_add, n_sub, n_t9, n_leq, n_t11, x_len, x_cut, x_t12, x_t10, x_seq, dl, n_beq2, q2, q4, w, n_lit, nt, n_cat]
    rfl
theorem lx6 {x y : B8} (hx : x.length ≤ 3000) (hy : y.length ≤ 3000) {s : Nat → Value} (q0 : s 0 = .string (tx x)) (q1 : s 1 = .string (tx y)) (q2 : s 2 = .int .i64 (.ofNat (allR x).1.length)) (q3 : s 3 = .int .i64 (.ofNat (allR y).1.length)) (q4 : s 4 = .agg ⟨(allR x).1.flatMap eTok⟩) (q5 : s 5 = .agg ⟨(allR y).1.flatMap eTok⟩) :
    Ev.Ends (uRd cx R) lxtab (QV cx R (.bool true)) 6 s := by
  have h22 := lu22 (cx := cx) (R := R) hU x
  have h23 := lu23 (cx := cx) (R := R) hU x
  have k22 := lu22 (cx := cx) (R := R) hU y
  have k23 := lu23 (cx := cx) (R := R) hU y
  have key : ∀ z : B8, z.length ≤ 3000 → (allR z).2.1 = 0 → (allR z).1 ≠ [] → ∃ l, allR z = (l, 0, 0) ∧ allF frsF conF z = .ok l ∧ l ≠ [] ∧ l.length ≤ 10000 ∧ (∀ t, t ∈ l → ∃ n, n ≤ z.length ∧ t.2.2.2 = Int.ofNat n) ∧ (∀ t, l.head? = some t → t.1 = 5 ∨ ∃ n, n < z.length ∧ t.2.2.2 = Int.ofNat n) := fun z hz he hl0 => by
    have e : allR z = outR (allF frsF conF z) := by
      unfold allR
      rw [if_neg (by omega)]
      cases allF frsF conF z <;> rfl
    cases hf : allF frsF conF z with
    | error i => rw [e, hf] at he; exact absurd (show (13 : Int) = 0 from he) (by decide)
    | ok l =>
      have e : allR z = (l, 0, 0) := by rw [e, hf]; rfl
      rw [e] at hl0
      have hL := lexes_of _ _ _ _ hf
      have hs := skip_le z false
      have fl : ∀ x neg, (frsF x neg).2 ≤ x.length := fun x neg => firstF_le x neg
      refine ⟨l, e, rfl, hl0, ?_, lexes_at hL hs fl (fun t h => by cases h), fun t ht => ?_⟩
      · have := lexes_few hL
        simp only [List.length_nil] at this
        omega
      · obtain ⟨m, hm, -, hp, hq⟩ := lexes_pre hL
        rw [List.nil_append] at hm
        subst hm
        by_cases hi : skipF false z < z.length
        · obtain ⟨-, hp⟩ := hp hi
          rw [hp] at ht
          injection ht with ht
          subst ht
          exact .inr ⟨_, hi, rfl⟩
        · rw [hq hi] at ht
          injection ht with ht
          subst ht
          exact .inl rfl
  refine Ends_mk ?_
  show At _ _ _ _ lxvt6
  unfold lxvt6
  refine at_node (by simp only [nA, denS_unk, f_num, f_int, f_bool, f_str, mapO, Option.bind_some, n_lss, n_eql, n_add, n_sub, n_t9, n_leq, n_t11, x_len, x_cut, x_t12, x_t10, x_seq, dl, n_beq2, q0, h22] <;> exact rfl) (fun e1 => ?_) (fun _ => ret_b true)
  refine at_node (by simp only [nA, denS_unk, f_num, f_int, f_bool, f_str, mapO, Option.bind_some, n_lss, n_eql, n_add, n_sub, n_t9, n_leq, n_t11, x_len, x_cut, x_t12, x_t10, x_seq, dl, n_beq2, q0, h23] <;> exact rfl) (fun e2 => ?_) (fun _ => ret_b true)
  refine at_node (by simp only [nA, denS_unk, f_num, f_int, f_bool, f_str, mapO, Option.bind_some, n_lss, n_eql, n_add, n_sub, n_t9, n_leq, n_t11, x_len, x_cut, x_t12, x_t10, x_seq, dl, n_beq2, q1, k22] <;> exact rfl) (fun e3 => ?_) (fun _ => ret_b true)
  refine at_node (by simp only [nA, denS_unk, f_num, f_int, f_bool, f_str, mapO, Option.bind_some, n_lss, n_eql, n_add, n_sub, n_t9, n_leq, n_t11, x_len, x_cut, x_t12, x_t10, x_seq, dl, n_beq2, q1, k23] <;> exact rfl) (fun e4 => ?_) (fun _ => ret_b true)
  refine at_node (by simp only [nA, denS_unk, f_num, f_int, f_bool, f_str, mapO, Option.bind_some, n_lss, n_eql, n_add, n_sub, n_t9, n_leq, n_t11, x_len, x_cut, x_t12, x_t10, x_seq, dl, n_beq2, q2] <;> exact rfl) (fun _ => ret_b true) (fun e5 => ?_)
  refine at_node (by simp only [nA, denS_unk, f_num, f_int, f_bool, f_str, mapO, Option.bind_some, n_lss, n_eql, n_add, n_sub, n_t9, n_leq, n_t11, x_len, x_cut, x_t12, x_t10, x_seq, dl, n_beq2, q3] <;> exact rfl) (fun _ => ret_b true) (fun e6 => ?_)
  have e5 : ¬ (allR x).1.length = 0 := by simpa using e5
  have e6 : ¬ (allR y).1.length = 0 := by simpa using e6
  obtain ⟨a, ha, -, ha0, hal, -, -⟩ := key x hx (by simpa using e1) (fun h => e5 (by rw [h]; rfl))
  obtain ⟨b, hb, -, hb0, hbl, hbt, hbh⟩ := key y hy (by simpa using e3) (fun h => e6 (by rw [h]; rfl))
  rw [ha] at q2 q4
  rw [hb] at q3 q5
  have hpos : 0 < b.length := List.length_pos_iff.2 hb0
  obtain ⟨t, r, rfl⟩ : ∃ t r, b = t :: r := by
    cases b with
    | nil => exact absurd rfl hb0
    | cons t r => exact ⟨t, r, rfl⟩
  have g : ∀ o, uRd cx R 10 [num 0, .agg ⟨(t :: r).flatMap eTok⟩, .int .i64 (.ofNat 0), num 4, num o] = ((t :: r).flatMap eTok)[0 * 4 + o]? := fun o => n_cell ..
  have g0 : ((t :: r).flatMap eTok)[0 * 4 + 0]? = some (.int .i64 t.1) := rfl
  have g3 : ((t :: r).flatMap eTok)[0 * 4 + 3]? = some (.int .i64 t.2.2.2) := rfl
  have go10 : (t.1 = 5 ∨ (y.getD t.2.2.2.toNat 0).toNat ≠ 45) → ∀ L', L' = [(2, 6, (unk 6 2)), (3, 6, (unk 6 3)), (4, 20, (unk 20 4)), (2, 6, (unk 6 2)), (5, 20, (unk 20 5)), (3, 6, (unk 6 3))] → Ev.Ends (uRd cx R) lxtab (QV cx R (.bool true)) 10 (upd s (uRd cx R) L') := by
    rintro hk L' rfl
    have hw := all_of hx hy ha hb ha0 hb0 (fun t' ht => by injection ht with ht; subst ht; exact hk)
    exact lx10 hU hx hy hw ha0 hb0 hal hbl hbt ((upd_s rfl).trans q0) ((upd_s rfl).trans q1) (upd_e rfl (by rw [denS_unk, q2])) (upd_e rfl (by rw [denS_unk, q3])) (upd_e rfl (by rw [denS_unk, q4])) (upd_e rfl (by rw [denS_unk, q5]))
  refine at_t (by simp only [nA, denS_unk, f_num, f_int, f_bool, f_str, mapO, Option.bind_some, n_lss, n_eql, n_add, n_sub, n_t9, n_leq, n_t11, x_len, x_cut, x_t12, x_t10, x_seq, dl, n_beq2, q3]; rw [bl hpos]) ?_
  refine at_node (by simp only [nA, denS_unk, f_num, f_int, f_bool, f_str, mapO, Option.bind_some, n_lss, n_eql, n_add, n_sub, n_t9, n_leq, n_t11, x_len, x_cut, x_t12, x_t10, x_seq, dl, n_beq2, q5, g, g0] <;> exact rfl) (fun h5 => go10 (.inl (by simpa using h5)) _ rfl) (fun h5 => ?_)
  have h5 : ¬ t.1 = 5 := by simpa using h5
  obtain ⟨n, hn, hn2⟩ : ∃ n, n < y.length ∧ t.2.2.2 = Int.ofNat n := by
    rcases hbh t rfl with h | h
    · exact absurd h h5
    · exact h
  rw [hn2] at g3
  have hby := x_byte (cx := cx) (R := R) hn .i64
  refine at_t (by simp only [nA, denS_unk, f_num, f_int, f_bool, f_str, mapO, Option.bind_some, n_lss, n_eql, n_add, n_sub, n_t9, n_leq, n_t11, x_len, x_cut, x_t12, x_t10, x_seq, dl, n_beq2, q1, q5, g, g3]; rw [bl hn]) ?_
  refine at_node (by simp only [nA, denS_unk, f_num, f_int, f_bool, f_str, mapO, Option.bind_some, n_lss, n_eql, n_add, n_sub, n_t9, n_leq, n_t11, x_len, x_cut, x_t12, x_t10, x_seq, dl, n_beq2, q1, q5, g, g3, hby] <;> exact rfl) (fun _ => ret_b true) (fun h45 => go10 (.inr ?_) _ rfl)
  rw [hn2]
  show (y.getD n 0).toNat ≠ 45
  simpa using h45
theorem lx0 {x y : B8} (hxq : QB x) (hyq : QB y) {s : Nat → Value} (q0 : s 0 = .string (tx x)) (q1 : s 1 = .string (tx y)) : Ev.Ends (uRd cx R) lxtab (QV cx R (.bool true)) 0 s := by
  have h20 := lu20 (cx := cx) (R := R) hU x
  have h21 := lu21 (cx := cx) (R := R) hU x
  have h22 := lu22 (cx := cx) (R := R) hU x
  have h23 := lu23 (cx := cx) (R := R) hU x
  have k20 := lu20 (cx := cx) (R := R) hU y
  have k21 := lu21 (cx := cx) (R := R) hU y
  have k22 := lu22 (cx := cx) (R := R) hU y
  have k23 := lu23 (cx := cx) (R := R) hU y
  refine Ends_mk ?_
  show Ev.Ends (uRd cx R) lxtab _ 1 s
  refine Ends_mk ?_
  show Ev.Ends (uRd cx R) lxtab _ 2 s
  refine Ends_mk ?_
  show At _ _ _ _ lxvt2
  unfold lxvt2
  refine at_node (by simp only [nA, denS_unk, f_num, f_int, f_bool, f_str, mapO, Option.bind_some, n_lss, n_eql, n_add, n_sub, n_t9, n_leq, n_t11, x_len, x_cut, x_t12, x_t10, x_seq, dl, n_beq2, q0] <;> exact rfl) (fun _ => ret_b true) (fun hx => ?_)
  refine at_node (by simp only [nA, denS_unk, f_num, f_int, f_bool, f_str, mapO, Option.bind_some, n_lss, n_eql, n_add, n_sub, n_t9, n_leq, n_t11, x_len, x_cut, x_t12, x_t10, x_seq, dl, n_beq2, q1] <;> exact rfl) (fun _ => ret_b true) (fun hy => ?_)
  have hx := of_decide_eq_false hx
  have hy := of_decide_eq_false hy
  refine Ends_mk ?_
  show At _ _ _ (upd s (uRd cx R) []) lxvt3
  rw [upd_nil]
  unfold lxvt3
  refine at_node (by simp only [nA, denS_unk, f_num, f_int, f_bool, f_str, mapO, Option.bind_some, n_lss, n_eql, n_add, n_sub, n_t9, n_leq, n_t11, x_len, x_cut, x_t12, x_t10, x_seq, dl, n_beq2, q0, h21] <;> exact rfl) (fun _ => ?_) (fun _ => ?_)
  · refine Ends_mk ?_
    have p0 : upd s (uRd cx R) [(2, 6, (sy 6 38 [(unk 2 0)])), (3, 20, (sy 0 37 [(unk 2 0)])), (2, 6, (sy 6 38 [(unk 2 0)]))] 0 = _ := (upd_s rfl).trans q0
    have p1 : upd s (uRd cx R) [(2, 6, (sy 6 38 [(unk 2 0)])), (3, 20, (sy 0 37 [(unk 2 0)])), (2, 6, (sy 6 38 [(unk 2 0)]))] 1 = _ := (upd_s rfl).trans q1
    have p2 : upd s (uRd cx R) [(2, 6, (sy 6 38 [(unk 2 0)])), (3, 20, (sy 0 37 [(unk 2 0)])), (2, 6, (sy 6 38 [(unk 2 0)]))] 2 = .int .i64 (.ofNat (allR x).1.length) := upd_e rfl (by simp only [nA, denS_unk, f_num, f_int, f_bool, f_str, mapO, Option.bind_some, n_lss, n_eql, n_add, n_sub, n_t9, n_leq, n_t11, x_len, x_cut, x_t12, x_t10, x_seq, dl, n_beq2, q0, h21])
    have p3 : upd s (uRd cx R) [(2, 6, (sy 6 38 [(unk 2 0)])), (3, 20, (sy 0 37 [(unk 2 0)])), (2, 6, (sy 6 38 [(unk 2 0)]))] 3 = .agg ⟨(allR x).1.flatMap eTok⟩ := upd_e rfl (by simp only [nA, denS_unk, f_num, f_int, f_bool, f_str, mapO, Option.bind_some, n_lss, n_eql, n_add, n_sub, n_t9, n_leq, n_t11, x_len, x_cut, x_t12, x_t10, x_seq, dl, n_beq2, q0, h20])
    show At _ _ _ (upd s (uRd cx R) [(2, 6, (sy 6 38 [(unk 2 0)])), (3, 20, (sy 0 37 [(unk 2 0)])), (2, 6, (sy 6 38 [(unk 2 0)]))]) lxvt4
    generalize upd s (uRd cx R) [(2, 6, (sy 6 38 [(unk 2 0)])), (3, 20, (sy 0 37 [(unk 2 0)])), (2, 6, (sy 6 38 [(unk 2 0)]))] = s1 at p0 p1 p2 p3
    unfold lxvt4
    refine at_node (by simp only [nA, denS_unk, f_num, f_int, f_bool, f_str, mapO, Option.bind_some, n_lss, n_eql, n_add, n_sub, n_t9, n_leq, n_t11, x_len, x_cut, x_t12, x_t10, x_seq, dl, n_beq2, p1, k21] <;> exact rfl) (fun _ => ?_) (fun _ => ?_)
    · refine lx6 hU (by omega) (by omega) ((upd_s rfl).trans p0) ((upd_s rfl).trans p1) (upd_e rfl (by rw [denS_unk, p2])) (upd_e rfl ?_) (upd_e rfl (by rw [denS_unk, p3])) (upd_e rfl ?_)
      · simp only [nA, denS_unk, f_num, f_int, f_bool, f_str, mapO, Option.bind_some, n_lss, n_eql, n_add, n_sub, n_t9, n_leq, n_t11, x_len, x_cut, x_t12, x_t10, x_seq, dl, n_beq2, p1, k21]
      · simp only [nA, denS_unk, f_num, f_int, f_bool, f_str, mapO, Option.bind_some, n_lss, n_eql, n_add, n_sub, n_t9, n_leq, n_t11, x_len, x_cut, x_t12, x_t10, x_seq, dl, n_beq2, p1, k20]
    · refine Ends_mk ?_
      have r0 : upd s1 (uRd cx R) [(2, 6, (unk 6 2)), (3, 20, (unk 20 3)), (2, 6, (unk 6 2))] 0 = _ := (upd_s rfl).trans p0
      have r1 : upd s1 (uRd cx R) [(2, 6, (unk 6 2)), (3, 20, (unk 20 3)), (2, 6, (unk 6 2))] 1 = _ := (upd_s rfl).trans p1
      have r2 : upd s1 (uRd cx R) [(2, 6, (unk 6 2)), (3, 20, (unk 20 3)), (2, 6, (unk 6 2))] 2 = .int .i64 (.ofNat (allR x).1.length) := upd_e rfl (by rw [denS_unk, p2])
      show At _ _ _ (upd s1 (uRd cx R) [(2, 6, (unk 6 2)), (3, 20, (unk 20 3)), (2, 6, (unk 6 2))]) lxvt7
      generalize upd s1 (uRd cx R) [(2, 6, (unk 6 2)), (3, 20, (unk 20 3)), (2, 6, (unk 6 2))] = s2 at r0 r1 r2
      unfold lxvt7
      repeat' (refine at_node (by simp only [nA, denS_unk, f_num, f_int, f_bool, f_str, mapO, Option.bind_some, n_lss, n_eql, n_add, n_sub, n_t9, n_leq, n_t11, x_len, x_cut, x_t12, x_t10, x_seq, dl, n_beq2, r0, r1, r2, h22, h23, k22, k23] <;> exact rfl) (fun h => ?_) (fun h => ?_))
      all_goals exact ret_b true
  · refine Ends_mk ?_
    show At _ _ _ (upd s (uRd cx R) []) lxvt5
    rw [upd_nil]
    unfold lxvt5
    refine at_node (by simp only [nA, denS_unk, f_num, f_int, f_bool, f_str, mapO, Option.bind_some, n_lss, n_eql, n_add, n_sub, n_t9, n_leq, n_t11, x_len, x_cut, x_t12, x_t10, x_seq, dl, n_beq2, q1, k21] <;> exact rfl) (fun _ => ?_) (fun _ => ?_)
    · refine Ends_mk ?_
      have r0 : upd s (uRd cx R) [(2, 6, (sy 6 38 [(unk 2 1)])), (3, 20, (sy 0 37 [(unk 2 1)])), (2, 6, (sy 6 38 [(unk 2 1)]))] 0 = _ := (upd_s rfl).trans q0
      have r1 : upd s (uRd cx R) [(2, 6, (sy 6 38 [(unk 2 1)])), (3, 20, (sy 0 37 [(unk 2 1)])), (2, 6, (sy 6 38 [(unk 2 1)]))] 1 = _ := (upd_s rfl).trans q1
      show At _ _ _ (upd s (uRd cx R) [(2, 6, (sy 6 38 [(unk 2 1)])), (3, 20, (sy 0 37 [(unk 2 1)])), (2, 6, (sy 6 38 [(unk 2 1)]))]) lxvt8
      generalize upd s (uRd cx R) [(2, 6, (sy 6 38 [(unk 2 1)])), (3, 20, (sy 0 37 [(unk 2 1)])), (2, 6, (sy 6 38 [(unk 2 1)]))] = s2 at r0 r1
      unfold lxvt8
      repeat' (refine at_node (by simp only [nA, denS_unk, f_num, f_int, f_bool, f_str, mapO, Option.bind_some, n_lss, n_eql, n_add, n_sub, n_t9, n_leq, n_t11, x_len, x_cut, x_t12, x_t10, x_seq, dl, n_beq2, r0, r1, h22, h23, k22, k23] <;> exact rfl) (fun h => ?_) (fun h => ?_))
      all_goals exact ret_b true
    · refine Ends_mk ?_
      show At _ _ _ (upd s (uRd cx R) []) lxvt9
      rw [upd_nil]
      unfold lxvt9
      repeat' (refine at_node (by simp only [nA, denS_unk, f_num, f_int, f_bool, f_str, mapO, Option.bind_some, n_lss, n_eql, n_add, n_sub, n_t9, n_leq, n_t11, x_len, x_cut, x_t12, x_t10, x_seq, dl, n_beq2, q0, q1, h22, h23, k22, k23] <;> exact rfl) (fun h => ?_) (fun h => ?_))
      all_goals exact ret_b true
end
end Go.Proofs.YtmfkdhloofmhoaaDoor
