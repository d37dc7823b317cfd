import Derived.Test.YtkgflcpgjdbcdaaGreatDoorBwL
set_option linter.unusedVariables false
set_option linter.unusedSimpArgs false
set_option linter.unusedSectionVars false
set_option maxRecDepth 100000
namespace Go.Proofs.YtkgflcpgjdbcdaaGreatDoor
section
open Go Go.RowKit Ev
theorem n_lit {cx : Cx} {R : Addr → Option Value} (vs : List Value) : uRd cx R 10 (num 3 :: vs) = some (.agg ⟨vs⟩) := by rw [uRd_rd _ _ _ _ (by omega)]; rfl
theorem n_app {cx : Cx} {R : Addr → Option Value} (xs ys : List Value) : uRd cx R 10 [num 2, .agg ⟨xs⟩, .agg ⟨ys⟩] = some (.agg ⟨xs ++ ys⟩) := by rw [uRd_rd _ _ _ _ (by omega)]; rfl
theorem n_min {cx : Cx} {R : Addr → Option Value} (mx : Bool) (k k' : IntKind) (x y : Int) : uRd cx R 3 [.bool mx, .int k x, .int k' y] = some (.int k (match mx with | true => (if y > x then y else x) | false => (if y < x then y else x))) := by
  unfold uRd
  rw [if_neg (by omega), if_pos (by omega)]
  rfl
theorem cp_app : ∀ l m : Ps, cp (l ++ m) = cp l ++ cp m
  | [], m => rfl
  | v :: l, m => by show _ :: _ :: _ :: cp (l ++ m) = _ :: _ :: _ :: (cp l ++ cp m); rw [cp_app l m]
noncomputable abbrev bU (R : Addr → Option Value) : Nat → List Value → Option Value := uRd (cxOf Tryz.prog bwEx [] bwTabs (bwOrc []) [] bwU) R
theorem b_U {R : Addr → Option Value} (j : Nat) (vs : List Value) : bU R (j + 16) vs = bwU j vs := n_U j vs
noncomputable def bQ (R : Addr → Option Value) : (Nat → Value) → List Value → List (Nat × AObj) → Prop := fun s vs _ => denV s (bU R) 9 (oneA vs) = some (oneA (outV [([1], false)] [.bool true]))
theorem b_true {R : Addr → Option Value} {s : Nat → Value} : bQ R s [.bool true] [] := by
  show denV s (bU R) 9 (.bool true) = some (.bool true)
  unfold denV
  exact denS_flat rfl
section
variable {R : Addr → Option Value} {l : Ps} {V : Vs} (hV : V = l.map (·.2))
include hV
theorem b_25 : bU R 41 [.agg ⟨cp l⟩] = some (.int .i64 (winV 1 V).1.1) := by
  rw [b_U 25]
  show some (Value.int .i64 (winV 1 (dec3 (cp l))).1.1) = _
  rw [dec_cp, ← hV]
theorem b_26 : bU R 42 [.agg ⟨cp l⟩] = some (.bool (winV 1 V).1.2) := by
  rw [b_U 26]
  show some (Value.bool (winV 1 (dec3 (cp l))).1.2) = _
  rw [dec_cp, ← hV]
theorem b_27 : bU R 43 [.agg ⟨cp l⟩] = some (.int .i64 (winV 2 V).1.1) := by
  rw [b_U 27]
  show some (Value.int .i64 (winV 2 (dec3 (cp l))).1.1) = _
  rw [dec_cp, ← hV]
theorem b_28 : bU R 44 [.agg ⟨cp l⟩] = some (.bool (winV 2 V).1.2) := by
  rw [b_U 28]
  show some (Value.bool (winV 2 (dec3 (cp l))).1.2) = _
  rw [dec_cp, ← hV]
theorem b_29 : bU R 45 [.agg ⟨cp l⟩] = some (.int .i64 (winV 3 V).1.1) := by
  rw [b_U 29]
  show some (Value.int .i64 (winV 3 (dec3 (cp l))).1.1) = _
  rw [dec_cp, ← hV]
theorem b_30 : bU R 46 [.agg ⟨cp l⟩] = some (.bool (winV 3 V).1.2) := by
  rw [b_U 30]
  show some (Value.bool (winV 3 (dec3 (cp l))).1.2) = _
  rw [dec_cp, ← hV]
theorem b_31 : bU R 47 [.agg ⟨cp l⟩] = some (.int .i64 (winV 4 V).1.1) := by
  rw [b_U 31]
  show some (Value.int .i64 (winV 4 (dec3 (cp l))).1.1) = _
  rw [dec_cp, ← hV]
theorem b_32 : bU R 48 [.agg ⟨cp l⟩] = some (.bool (winV 4 V).1.2) := by
  rw [b_U 32]
  show some (Value.bool (winV 4 (dec3 (cp l))).1.2) = _
  rw [dec_cp, ← hV]
theorem b_33 : bU R 49 [.agg ⟨cp l⟩] = some (.int .i64 (winV 5 V).1.1) := by
  rw [b_U 33]
  show some (Value.int .i64 (winV 5 (dec3 (cp l))).1.1) = _
  rw [dec_cp, ← hV]
theorem b_34 : bU R 50 [.agg ⟨cp l⟩] = some (.bool (winV 5 V).1.2) := by
  rw [b_U 34]
  show some (Value.bool (winV 5 (dec3 (cp l))).1.2) = _
  rw [dec_cp, ← hV]
theorem b_35 : bU R 51 [.agg ⟨cp l⟩] = some (.int .i64 (winV 6 V).1.1) := by
  rw [b_U 35]
  show some (Value.int .i64 (winV 6 (dec3 (cp l))).1.1) = _
  rw [dec_cp, ← hV]
theorem b_36 : bU R 52 [.agg ⟨cp l⟩] = some (.bool (winV 6 V).1.2) := by
  rw [b_U 36]
  show some (Value.bool (winV 6 (dec3 (cp l))).1.2) = _
  rw [dec_cp, ← hV]
end
theorem b_37 {R : Addr → Option Value} (n : Int) (b : Bool) (l : List Value) : bU R 53 [.int .i64 n, .bool b, .agg ⟨l⟩] = some (.bool (adF (n, b) 0 (dec l))) := b_U 37 _
theorem b_20 {R : Addr → Option Value} (k : Nat) (l : List Value) : bU R 36 [.int .i64 (.ofNat k), .agg ⟨l⟩] = some (.int .i64 (winV (.ofNat k) (dec3 l)).1.1) := b_U 20 _
theorem b_21 {R : Addr → Option Value} (k : Nat) (l : List Value) : bU R 37 [.int .i64 (.ofNat k), .agg ⟨l⟩] = some (.bool (winV (.ofNat k) (dec3 l)).1.2) := b_U 21 _
section
variable {R : Addr → Option Value} {x1 x2 : Addr} {l1 l2 : Ps} {c1 c2 : Nat} (D1 : PDat R x1 l1) (D2 : PDat R x2 l2) (n1 : 0 < l1.length) (n2 : 0 < l2.length) (k1 : l1.length ≤ 60) (k2 : l2.length ≤ 60)
include D1 D2 n1 n2 k1 k2
theorem bw6 {s : Nat → Value} (hN : Nov ((l1 ++ l2).map (·.2))) (h : Sh s 0 [.slice (some x1) l1.length c1, .slice (some x2) l2.length c2, .int .i64 (.ofNat (l1.length + l2.length)), .agg ⟨cp (l1 ++ l2)⟩]) : Ev.Ends (bU R) bwtab (bQ R) 6 s := by
  obtain ⟨h0, h1, h2, h3, -⟩ := h
  have hc1 := n_cont3 (cx := cxOf Tryz.prog bwEx [] bwTabs (bwOrc []) [] bwU) (c := c1) (show LstP R (some x1) l1 from D1)
  have hc2 := n_cont3 (cx := cxOf Tryz.prog bwEx [] bwTabs (bwOrc []) [] bwU) (c := c2) (show LstP R (some x2) l2 from D2)
  obtain ⟨⟨t, p, q⟩, hv⟩ : ∃ v, l1[l1.length - 1]? = some v := ⟨_, List.getElem?_eq_getElem (by omega)⟩
  obtain ⟨⟨t', p', q'⟩, hv'⟩ : ∃ v, l2[0]? = some v := ⟨_, List.getElem?_eq_getElem (by omega)⟩
  obtain ⟨⟨t'', p'', q''⟩, hv''⟩ : ∃ v, l2[l2.length - 1]? = some v := ⟨_, List.getElem?_eq_getElem (by omega)⟩
  obtain ⟨g1, g2, g3⟩ := D1.rd _ _ _ _ hv
  obtain ⟨g4, g5, g6⟩ := D2.rd _ _ _ _ hv'
  obtain ⟨g7, g8, g9⟩ := D2.rd _ _ _ _ hv''
  have g8' : R (((x2.add ((l2.length - 1) * 3)).add 1).add 0) = some (.int .i64 p'') := by rw [Deep.add_add]; exact g8
  have g9' : R (((x2.add ((l2.length - 1) * 3)).add 1).add 1) = some (.bool q'') := by rw [Deep.add_add]; exact g9
  have w1 := w_sub (n := l1.length) (i := 1) (by omega) (by omega)
  have w2 := w_sub (n := l2.length) (i := 1) (by omega) (by omega)
  have w3 := w_add (n := l1.length) (i := l2.length) (by omega)
  have hb : ∀ a b : Bool, bU R 0 [num 11, num 4, .bool false, .bool a, .bool b] = some (.bool (a == b)) := fun a b => n_beq (by decide +kernel) false a b
  obtain ⟨V, hV⟩ : ∃ V, V = (l1 ++ l2).map (·.2) := ⟨_, rfl⟩
  obtain ⟨V1, hV1⟩ : ∃ V, V = l1.map (·.2) := ⟨_, rfl⟩
  obtain ⟨V2, hV2⟩ : ∃ V, V = l2.map (·.2) := ⟨_, rfl⟩
  have hA : V = V1 ++ V2 := by rw [hV, hV1, hV2, List.map_append]
  rw [← hV, hA] at hN
  have N1 : Nov V1 := fun v hv => hN v (List.mem_append_left _ hv)
  have N2 : Nov V2 := fun v hv => hN v (List.mem_append_right _ hv)
  have e1 : V1.length = l1.length := by rw [hV1, List.length_map]
  have e2 : V2.length = l2.length := by rw [hV2, List.length_map]
  have m1 : V1 ≠ [] := fun x => by rw [x] at e1; simp at e1; omega
  have m2 : V2 ≠ [] := fun x => by rw [x] at e2; simp at e2; omega
  have hu : V1[V1.length - 1]? = some (p, q) := by rw [e1, hV1, List.getElem?_map, hv]; rfl
  have hu' : V2[0]? = some (p', q') := by rw [hV2, List.getElem?_map, hv']; rfl
  have hu'' : V2[V2.length - 1]? = some (p'', q'') := by rw [e2, hV2, List.getElem?_map, hv'']; rfl
  have r0 := bw_count N1 N2 m1 m2 (by omega) (by omega)
  have r1 := bw_min N1 N2 m1 m2 (by omega) (by omega)
  have r2 := bw_max N1 N2 m1 m2 (by omega) (by omega)
  have r3 := bw_last N1 N2 m1 m2 (by omega) (by omega) hu''
  have r4 := bw_sum N1 N2 m1 m2 (by omega) (by omega)
  have r5 := bw_inc N1 N2 m1 m2 (by omega) (by omega) hu hu'
  rw [← hA] at r0 r1 r2 r3 r4 r5
  refine Ends_mk ?_
  show At _ _ _ _ bwvt6
  unfold bwvt6
  refine at_t ?_ (at_t ?_ (at_t ?_ (at_t ?_ (at_t ?_ (at_t ?_ (at_t ?_ (at_t ?_ (at_t ?_ (at_t ?_ (at_t ?_ (at_t ?_ (at_t ?_ ?_))))))))))))
  · simp only [nA, denS_unk, f_num, f_int, f_bool, mapO, Option.bind_some, n_lss, n_eql, n_eql0, n_add, n_sub, n_len, n_rd, n_ix, n_fd, n_cell, n_over, n_t9, n_t1, n_t7, n_t11, n_lit, n_app, n_min, h0, h1, h2, h3, hc1, hc2, w1, w2, w3]
    rw [bl n1]
  · simp only [nA, denS_unk, f_num, f_int, f_bool, mapO, Option.bind_some, n_lss, n_eql, n_eql0, n_add, n_sub, n_len, n_rd, n_ix, n_fd, n_cell, n_over, n_t9, n_t1, n_t7, n_t11, n_lit, n_app, n_min, h0, h1, h2, h3, hc1, hc2, w1, w2, w3]
    rw [bl n2]
  · simp only [nA, denS_unk, f_num, f_int, f_bool, mapO, Option.bind_some, n_lss, n_eql, n_eql0, n_add, n_sub, n_len, n_rd, n_ix, n_fd, n_cell, n_over, n_t9, n_t1, n_t7, n_t11, n_lit, n_app, n_min, h0, h1, h2, h3, hc1, hc2, w1, w2, w3]
    rw [show Nat.ble (l1.length + l2.length) 5864062014634 = true from Nat.ble_eq.mpr (by omega)]
  · simp only [nA, denS_unk, f_num, f_int, f_bool, mapO, Option.bind_some, n_lss, n_eql, n_eql0, n_add, n_sub, n_len, n_rd, n_ix, n_fd, n_cell, n_over, n_t9, n_t1, n_t7, n_t11, n_lit, n_app, n_min, h0, h1, h2, h3, hc1, hc2, w1, w2, w3]
    rw [bl (by omega)]
  · simp only [nA, denS_unk, f_num, f_int, f_bool, mapO, Option.bind_some, n_lss, n_eql, n_eql0, n_add, n_sub, n_len, n_rd, n_ix, n_fd, n_cell, n_over, n_t9, n_t1, n_t7, n_t11, n_lit, n_app, n_min, h0, h1, h2, h3, hc1, hc2, w1, w2, w3]
    rw [bl (by omega)]
  · simp only [nA, denS_unk, f_num, f_int, f_bool, mapO, Option.bind_some, n_lss, n_eql, n_eql0, n_add, n_sub, n_len, n_rd, n_ix, n_fd, n_cell, n_over, n_t9, n_t1, n_t7, n_t11, n_lit, n_app, n_min, h0, h1, h2, h3, hc1, hc2, w1, w2, w3]
    rw [bl (by omega)]
  · simp only [nA, denS_unk, f_num, f_int, f_bool, mapO, Option.bind_some, n_lss, n_eql, n_eql0, n_add, n_sub, n_len, n_rd, n_ix, n_fd, n_cell, n_over, n_t9, n_t1, n_t7, n_t11, n_lit, n_app, n_min, h0, h1, h2, h3, hc1, hc2, w1, w2, w3, b_27 hV, b_27 hV1, b_27 hV2]
    rw [r0, e1, e2]
    exact congrArg (fun z => some (Value.bool z)) (beq_iff_eq.2 rfl)
  · simp only [nA, denS_unk, f_num, f_int, f_bool, mapO, Option.bind_some, n_lss, n_eql, n_eql0, n_add, n_sub, n_len, n_rd, n_ix, n_fd, n_cell, n_over, n_t9, n_t1, n_t7, n_t11, n_lit, n_app, n_min, h0, h1, h2, h3, hc1, hc2, w1, w2, w3, b_29 hV, b_29 hV1, b_29 hV2]
    rw [r1]
    refine congrArg (fun z => some (Value.bool z)) (beq_iff_eq.2 ?_)
    generalize (winV 3 V1).1.1 = a
    generalize (winV 3 V2).1.1 = b
    show min a b = if b < a then b else a
    split <;> omega
  · simp only [nA, denS_unk, f_num, f_int, f_bool, mapO, Option.bind_some, n_lss, n_eql, n_eql0, n_add, n_sub, n_len, n_rd, n_ix, n_fd, n_cell, n_over, n_t9, n_t1, n_t7, n_t11, n_lit, n_app, n_min, h0, h1, h2, h3, hc1, hc2, w1, w2, w3, b_31 hV, b_31 hV1, b_31 hV2]
    rw [r2]
    refine congrArg (fun z => some (Value.bool z)) (beq_iff_eq.2 ?_)
    generalize (winV 4 V1).1.1 = a
    generalize (winV 4 V2).1.1 = b
    show max a b = if b > a then b else a
    split <;> omega
  · simp only [nA, denS_unk, f_num, f_int, f_bool, mapO, Option.bind_some, n_lss, n_eql, n_eql0, n_add, n_sub, n_len, n_rd, n_ix, n_fd, n_cell, n_over, n_t9, n_t1, n_t7, n_t11, n_lit, n_app, n_min, h0, h1, h2, h3, hc1, hc2, w1, w2, w3]
    rw [bl (by omega)]
  · simp only [nA, denS_unk, f_num, f_int, f_bool, mapO, Option.bind_some, n_lss, n_eql, n_eql0, n_add, n_sub, n_len, n_rd, n_ix, n_fd, n_cell, n_over, n_t9, n_t1, n_t7, n_t11, n_lit, n_app, n_min, h0, h1, h2, h3, hc1, hc2, w1, w2, w3, g8', b_33 hV, b_33 hV1, b_33 hV2]
    rw [r3]
    exact congrArg (fun z => some (Value.bool z)) (beq_iff_eq.2 rfl)
  · simp only [nA, denS_unk, f_num, f_int, f_bool, mapO, Option.bind_some, n_lss, n_eql, n_eql0, n_add, n_sub, n_len, n_rd, n_ix, n_fd, n_cell, n_over, n_t9, n_t1, n_t7, n_t11, n_lit, n_app, n_min, h0, h1, h2, h3, hc1, hc2, w1, w2, w3, hb, g9', b_34 hV, b_34 hV1, b_34 hV2]
    rw [r3]
    exact congrArg (fun z => some (Value.bool z)) (beq_iff_eq.2 rfl)
  · simp only [nA, denS_unk, f_num, f_int, f_bool, mapO, Option.bind_some, n_lss, n_eql, n_eql0, n_add, n_sub, n_len, n_rd, n_ix, n_fd, n_cell, n_over, n_t9, n_t1, n_t7, n_t11, n_lit, n_app, n_min, h0, h1, h2, h3, hc1, hc2, w1, w2, w3, b_37, b_25 hV, b_25 hV1, b_25 hV2, b_26 hV, b_26 hV1, b_26 hV2]
    exact congrArg (fun z => some (Value.bool z)) r4
  · have key : denS s (bU R) (sy 1 54 [(sy 6 52 [(unk 20 3)]), (sy 1 53 [(unk 20 3)]), (sy 0 11 [(num 3), (sy 6 52 [(sy 0 10 [(num 3), (unk 0 0)])]), (sy 1 53 [(sy 0 10 [(num 3), (unk 0 0)])]), (sy 6 37 [(.int .i64 (.ofNat 6)), (sy 0 11 [(num 3), (sy 6 6 [(sy 0 8 [(sy 0 7 [(num 3), (unk 0 0), (sy 6 1 [(num 1), (num 3), (.bool true), (sy 6 5 [(unk 0 0)]), (.int .i64 (.ofNat 1))])]), (num 0)])]), (sy 6 6 [(sy 0 8 [(sy 0 7 [(num 3), (unk 0 0), (sy 6 1 [(num 1), (num 3), (.bool true), (sy 6 5 [(unk 0 0)]), (.int .i64 (.ofNat 1))])]), (num 1)])]), (sy 1 6 [(sy 0 8 [(sy 0 7 [(num 3), (unk 0 0), (sy 6 1 [(num 1), (num 3), (.bool true), (sy 6 5 [(unk 0 0)]), (.int .i64 (.ofNat 1))])]), (num 2)])]), (sy 6 6 [(sy 0 8 [(sy 0 7 [(num 3), (unk 0 1), (.int .i64 (.ofNat 0))]), (num 0)])]), (sy 6 6 [(sy 0 8 [(sy 0 7 [(num 3), (unk 0 1), (.int .i64 (.ofNat 0))]), (num 1)])]), (sy 1 6 [(sy 0 8 [(sy 0 7 [(num 3), (unk 0 1), (.int .i64 (.ofNat 0))]), (num 2)])])])]), (sy 1 38 [(.int .i64 (.ofNat 6)), (sy 0 11 [(num 3), (sy 6 6 [(sy 0 8 [(sy 0 7 [(num 3), (unk 0 0), (sy 6 1 [(num 1), (num 3), (.bool true), (sy 6 5 [(unk 0 0)]), (.int .i64 (.ofNat 1))])]), (num 0)])]), (sy 6 6 [(sy 0 8 [(sy 0 7 [(num 3), (unk 0 0), (sy 6 1 [(num 1), (num 3), (.bool true), (sy 6 5 [(unk 0 0)]), (.int .i64 (.ofNat 1))])]), (num 1)])]), (sy 1 6 [(sy 0 8 [(sy 0 7 [(num 3), (unk 0 0), (sy 6 1 [(num 1), (num 3), (.bool true), (sy 6 5 [(unk 0 0)]), (.int .i64 (.ofNat 1))])]), (num 2)])]), (sy 6 6 [(sy 0 8 [(sy 0 7 [(num 3), (unk 0 1), (.int .i64 (.ofNat 0))]), (num 0)])]), (sy 6 6 [(sy 0 8 [(sy 0 7 [(num 3), (unk 0 1), (.int .i64 (.ofNat 0))]), (num 1)])]), (sy 1 6 [(sy 0 8 [(sy 0 7 [(num 3), (unk 0 1), (.int .i64 (.ofNat 0))]), (num 2)])])])]), (sy 6 52 [(sy 0 10 [(num 3), (unk 0 1)])]), (sy 1 53 [(sy 0 10 [(num 3), (unk 0 1)])])])]) = some (.bool true) := by
      simp only [nA, denS_unk, f_num, f_int, f_bool, mapO, Option.bind_some, n_lss, n_eql, n_eql0, n_add, n_sub, n_len, n_rd, n_ix, n_fd, n_cell, n_over, n_t9, n_t1, n_t7, n_t11, n_lit, n_app, n_min, h0, h1, h2, h3, hc1, hc2, w1, w2, w3, b_37, b_20, b_21, g1, g2, g3, g4, g5, g6, b_35 hV, b_35 hV1, b_35 hV2, b_36 hV, b_36 hV1, b_36 hV2]
      exact congrArg (fun z => some (Value.bool z)) r5
    exact key
end
end
section
open Go Go.RowKit Ev
section
variable {R : Addr → Option Value} {x1 x2 : Addr} {l1 l2 : Ps} {c1 c2 : Nat} (D1 : PDat R x1 l1) (D2 : PDat R x2 l2) (n1 : 0 < l1.length) (n2 : 0 < l2.length) (k1 : l1.length ≤ 60) (k2 : l2.length ≤ 60)
include D1 D2 n1 n2 k1 k2
theorem bw5 : ∀ (k i : Nat) (s : Nat → Value), i + k = l1.length + l2.length → (∀ j, j < i → ∀ v, (l1 ++ l2)[j]? = some v → v.2.2 = false) →
    Sh s 0 [.slice (some x1) l1.length c1, .slice (some x2) l2.length c2, .int .i64 (.ofNat (l1.length + l2.length)), .int .i64 (.ofNat i), .agg ⟨cp (l1 ++ l2)⟩] → Ev.Ends (bU R) bwtab (bQ R) 5 s := by
  intro k
  induction k with
  | zero =>
    intro i s hk hi h
    obtain ⟨h0, h1, h2, h3, h4, -⟩ := h
    refine Ends_mk ?_
    show At _ _ _ _ bwvt5
    unfold bwvt5
    refine at_f ?_ (bw6 D1 D2 n1 n2 k1 k2 (fun v hv => ?_) ⟨(upd_s rfl).trans h0, (upd_s rfl).trans h1, upd_e rfl ?_, upd_e rfl ?_, trivial⟩)
    · simp only [nA, denS_unk, f_num, f_int, f_bool, mapO, Option.bind_some, n_lss, n_eql, n_eql0, n_add, n_sub, n_len, n_rd, n_ix, n_fd, n_cell, n_over, n_t9, n_t1, n_t7, n_t11, n_lit, n_app, n_min, h0, h1, h2, h3, h4]
      rw [dl]
      exact congrArg (fun z => some (Value.bool z)) (decide_eq_false (by omega))
    · obtain ⟨u, hu, rfl⟩ := List.mem_map.1 hv
      obtain ⟨j, hj⟩ := List.getElem?_of_mem hu
      have hl := (List.getElem?_eq_some_iff.1 hj).1
      rw [List.length_append] at hl
      refine ⟨hi j (by omega) u hj, ?_⟩
      rcases List.mem_append.1 hu with x | x
      · exact D1.sw u x
      · exact D2.sw u x
    · simp only [nA, denS_unk, f_num, f_int, f_bool, mapO, Option.bind_some, n_lss, n_eql, n_eql0, n_add, n_sub, n_len, n_rd, n_ix, n_fd, n_cell, n_over, n_t9, n_t1, n_t7, n_t11, n_lit, n_app, n_min, h0, h1, h2, h3, h4]
    · simp only [nA, denS_unk, f_num, f_int, f_bool, mapO, Option.bind_some, n_lss, n_eql, n_eql0, n_add, n_sub, n_len, n_rd, n_ix, n_fd, n_cell, n_over, n_t9, n_t1, n_t7, n_t11, n_lit, n_app, n_min, h0, h1, h2, h3, h4]
  | succ k ih =>
    intro i s hk hi h
    obtain ⟨h0, h1, h2, h3, h4, -⟩ := h
    obtain ⟨⟨t, p, q⟩, hv⟩ : ∃ v, (l1 ++ l2)[i]? = some v := ⟨_, List.getElem?_eq_getElem (by rw [List.length_append]; omega)⟩
    obtain ⟨-, -, g⟩ := cp_get hv
    have w := w_add (n := i) (i := 1) (by omega)
    refine Ends_mk ?_
    show At _ _ _ _ bwvt5
    unfold bwvt5
    refine at_t ?_ (at_t ?_ (at_node (b := q) ?_ (fun _ => b_true) (fun hq => ih (i + 1) _ (by omega) (fun j hj v hjv => ?_) ⟨(upd_s rfl).trans h0, (upd_s rfl).trans h1, upd_e rfl ?_, upd_e rfl ?_, upd_e rfl ?_, trivial⟩)))
    · simp only [nA, denS_unk, f_num, f_int, f_bool, mapO, Option.bind_some, n_lss, n_eql, n_eql0, n_add, n_sub, n_len, n_rd, n_ix, n_fd, n_cell, n_over, n_t9, n_t1, n_t7, n_t11, n_lit, n_app, n_min, h0, h1, h2, h3, h4]
      rw [dl]
      exact congrArg (fun z => some (Value.bool z)) (decide_eq_true (by omega))
    · simp only [nA, denS_unk, f_num, f_int, f_bool, mapO, Option.bind_some, n_lss, n_eql, n_eql0, n_add, n_sub, n_len, n_rd, n_ix, n_fd, n_cell, n_over, n_t9, n_t1, n_t7, n_t11, n_lit, n_app, n_min, h0, h1, h2, h3, h4]
      rw [bl (by omega)]
    · simp only [nA, denS_unk, f_num, f_int, f_bool, mapO, Option.bind_some, n_lss, n_eql, n_eql0, n_add, n_sub, n_len, n_rd, n_ix, n_fd, n_cell, n_over, n_t9, n_t1, n_t7, n_t11, n_lit, n_app, n_min, h0, h1, h2, h3, h4, g]
    · by_cases hji : j = i
      · subst hji
        rw [hv] at hjv
        injection hjv with hjv
        rw [← hjv]
        exact hq
      · exact hi j (by omega) v hjv
    · simp only [nA, denS_unk, f_num, f_int, f_bool, mapO, Option.bind_some, n_lss, n_eql, n_eql0, n_add, n_sub, n_len, n_rd, n_ix, n_fd, n_cell, n_over, n_t9, n_t1, n_t7, n_t11, n_lit, n_app, n_min, h0, h1, h2, h3, h4]
    · simp only [nA, denS_unk, f_num, f_int, f_bool, mapO, Option.bind_some, n_lss, n_eql, n_eql0, n_add, n_sub, n_len, n_rd, n_ix, n_fd, n_cell, n_over, n_t9, n_t1, n_t7, n_t11, n_lit, n_app, n_min, h0, h1, h2, h3, h4, w]
    · simp only [nA, denS_unk, f_num, f_int, f_bool, mapO, Option.bind_some, n_lss, n_eql, n_eql0, n_add, n_sub, n_len, n_rd, n_ix, n_fd, n_cell, n_over, n_t9, n_t1, n_t7, n_t11, n_lit, n_app, n_min, h0, h1, h2, h3, h4]
theorem bw3 {s : Nat → Value} (h : Sh s 0 [.slice (some x1) l1.length c1, .slice (some x2) l2.length c2]) : Ev.Ends (bU R) bwtab (bQ R) 3 s := by
  obtain ⟨h0, h1, -⟩ := h
  have hc1 := n_cont3 (cx := cxOf Tryz.prog bwEx [] bwTabs (bwOrc []) [] bwU) (c := c1) (show LstP R (some x1) l1 from D1)
  have hc2 := n_cont3 (cx := cxOf Tryz.prog bwEx [] bwTabs (bwOrc []) [] bwU) (c := c2) (show LstP R (some x2) l2 from D2)
  have w3 := w_add (n := l1.length) (i := l2.length) (by omega)
  refine Ends_mk ?_
  show At _ _ _ _ bwvt3
  unfold bwvt3
  refine at_t ?_ (at_t ?_ (at_t ?_ ?_))
  · simp only [nA, denS_unk, f_num, f_int, f_bool, mapO, Option.bind_some, n_lss, n_eql, n_eql0, n_add, n_sub, n_len, n_rd, n_ix, n_fd, n_cell, n_over, n_t9, n_t1, n_t7, n_t11, n_lit, n_app, n_min, h0, h1, hc1, hc2, w3]
    rw [bl n1]
  · simp only [nA, denS_unk, f_num, f_int, f_bool, mapO, Option.bind_some, n_lss, n_eql, n_eql0, n_add, n_sub, n_len, n_rd, n_ix, n_fd, n_cell, n_over, n_t9, n_t1, n_t7, n_t11, n_lit, n_app, n_min, h0, h1, hc1, hc2, w3]
    rw [show Nat.ble l1.length 524288 = true from Nat.ble_eq.mpr (by omega)]
  · simp only [nA, denS_unk, f_num, f_int, f_bool, mapO, Option.bind_some, n_lss, n_eql, n_eql0, n_add, n_sub, n_len, n_rd, n_ix, n_fd, n_cell, n_over, n_t9, n_t1, n_t7, n_t11, n_lit, n_app, n_min, h0, h1, hc1, hc2, w3]
    rw [show Nat.ble l2.length 524288 = true from Nat.ble_eq.mpr (by omega)]
  · refine Ends_mk ?_
    show Ev.Ends (bU R) bwtab (bQ R) 5 _
    refine bw5 D1 D2 n1 n2 k1 k2 (l1.length + l2.length) 0 _ (by omega) (fun j hj => by omega) ⟨(upd_s rfl).trans ((upd_s rfl).trans h0), (upd_s rfl).trans ((upd_s rfl).trans h1), upd_e rfl ?_, upd_e rfl ?_, upd_e rfl ?_, trivial⟩
    · rw [denS_unk]
      refine congrArg some (upd_e rfl ?_)
      simp only [nA, denS_unk, f_num, f_int, f_bool, mapO, Option.bind_some, n_lss, n_eql, n_eql0, n_add, n_sub, n_len, n_rd, n_ix, n_fd, n_cell, n_over, n_t9, n_t1, n_t7, n_t11, n_lit, n_app, n_min, h0, h1, hc1, hc2, w3]
    · exact denS_flat rfl
    · rw [denS_unk]
      refine congrArg some (upd_e rfl ?_)
      simp only [nA, denS_unk, f_num, f_int, f_bool, mapO, Option.bind_some, n_lss, n_eql, n_eql0, n_add, n_sub, n_len, n_rd, n_ix, n_fd, n_cell, n_over, n_t9, n_t1, n_t7, n_t11, n_lit, n_app, n_min, h0, h1, hc1, hc2, w3]
      rw [cp_app]
end
theorem bw0 {R : Addr → Option Value} {a1 a2 : Option Addr} {l1 l2 : Ps} {c1 c2 : Nat} (L1 : LstP R a1 l1) (L2 : LstP R a2 l2) {s : Nat → Value} (h0 : s 0 = .slice a1 l1.length c1) (h1 : s 1 = .slice a2 l2.length c2) : Ev.Ends (bU R) bwtab (bQ R) 0 s := by
  refine Ends_mk ?_
  show Ev.Ends (bU R) bwtab (bQ R) 1 s
  refine Ends_mk ?_
  show Ev.Ends (bU R) bwtab (bQ R) 2 s
  refine Ends_mk ?_
  show At _ _ _ _ bwvt2
  unfold bwvt2
  refine at_node (b := Int.ofNat l1.length == Int.ofNat 0) ?_ (fun _ => b_true) (fun e1 => at_node (b := Int.ofNat l2.length == Int.ofNat 0) ?_ (fun _ => b_true) (fun e2 => at_node (b := decide (60 < l1.length)) ?_ (fun _ => b_true) (fun e3 => at_node (b := decide (60 < l2.length)) ?_ (fun _ => b_true) (fun e4 => ?_))))
  · simp only [nA, denS_unk, f_num, f_int, f_bool, mapO, Option.bind_some, n_lss, n_eql, n_eql0, n_add, n_sub, n_len, n_rd, n_ix, n_fd, n_cell, n_over, n_t9, n_t1, n_t7, n_t11, n_lit, n_app, n_min, h0, h1]
  · simp only [nA, denS_unk, f_num, f_int, f_bool, mapO, Option.bind_some, n_lss, n_eql, n_eql0, n_add, n_sub, n_len, n_rd, n_ix, n_fd, n_cell, n_over, n_t9, n_t1, n_t7, n_t11, n_lit, n_app, n_min, h0, h1]
  · simp only [nA, denS_unk, f_num, f_int, f_bool, mapO, Option.bind_some, n_lss, n_eql, n_eql0, n_add, n_sub, n_len, n_rd, n_ix, n_fd, n_cell, n_over, n_t9, n_t1, n_t7, n_t11, n_lit, n_app, n_min, h0, h1]
    rw [dl]
  · simp only [nA, denS_unk, f_num, f_int, f_bool, mapO, Option.bind_some, n_lss, n_eql, n_eql0, n_add, n_sub, n_len, n_rd, n_ix, n_fd, n_cell, n_over, n_t9, n_t1, n_t7, n_t11, n_lit, n_app, n_min, h0, h1]
    rw [dl]
  · have p1 : 0 < l1.length := by
      cases hl : l1.length with
      | zero => rw [hl] at e1; cases e1
      | succ k => omega
    have p2 : 0 < l2.length := by
      cases hl : l2.length with
      | zero => rw [hl] at e2; cases e2
      | succ k => omega
    have e3 := of_decide_eq_false e3
    have e4 := of_decide_eq_false e4
    cases a1 with
    | none => have : l1 = [] := L1; rw [this] at p1; cases p1
    | some x1 =>
      cases a2 with
      | none => have : l2 = [] := L2; rw [this] at p2; cases p2
      | some x2 => exact bw3 (show PDat R x1 l1 from L1) (show PDat R x2 l2 from L2) p1 p2 (by omega) (by omega) ⟨h0, h1, trivial⟩
theorem bw_walk (w : World) (r : Reach) (b0 : Nat) (args : List Value) (hl : [22, 22].length = args.length)
    (hok : ∀ (j : Nat) t v, ([22, 22] : List TypeId)[j]? = some t → args[j]? = some v → Value.okWide Tryz.prog w r b0 t v)
    (hd : ∀ (j : Nat) t v, ([22, 22] : List TypeId)[j]? = some t → args[j]? = some v → ∃ f, Rds Tryz.prog (fun a => w.cell? a) f t (vcells v)) (hgv : GvOk bwTabs w) :
    Calls Tryz.prog 3 ⟨args⟩ w fun e w' => e = .returned (.bool true) ∧ Below w.heap.size w w' := by
  match args, hl with
  | [v0, v1], _ =>
    have o0 := hok 0 _ _ rfl rfl
    have o1 := hok 1 _ _ rfl rfl
    obtain ⟨f0, d0⟩ := hd 0 _ _ rfl rfl
    obtain ⟨f1, d1⟩ := hd 1 _ _ rfl rfl
    rw [one_cell Tryz.underlying22 o0] at d0
    rw [one_cell Tryz.underlying22 o1] at d1
    obtain ⟨a1, l1, c1, rfl, L1, cs0, r0, -⟩ := lstp_of d0
    obtain ⟨a2, l2, c2, rfl, L2, cs1, r1, -⟩ := lstp_of d1
    have hin : InsOk Tryz.prog (fun a => w.cell? a) bwargs [.slice a1 l1.length c1, .slice a2 l2.length c2] ([.agg ⟨cs0⟩] ++ ([.agg ⟨cs1⟩] ++ [])) := by
      refine ⟨_, _, rfl, ⟨⟨f0, d0⟩, ?_⟩, _, _, rfl, ⟨⟨f1, d1⟩, ?_⟩, rfl⟩
      · rw [show Tryz.prog.underlying _ = _ from Tryz.underlying22]
        exact ⟨cs0, by rw [s_pt]; exact r0, rfl⟩
      · rw [show Tryz.prog.underlying _ = _ from Tryz.underlying22]
        exact ⟨cs1, by rw [s_pt]; exact r1, rfl⟩
    have hck := bw_checked
    unfold chkF at hck
    split at hck
    case h_2 => cases hck
    rename_i fi hfi
    rw [Bool.and_eq_true] at hck
    obtain ⟨hr, hf⟩ := ins_entry (u := uRd (cxOf Tryz.prog bwEx [] bwTabs (bwOrc []) [] bwU) (fun a => w.cell? a)) (s := startS bwargs [.slice a1 l1.length c1, .slice a2 l2.length c2]) (fun vs => uRd_rd _ _ 8 vs (by omega)) bwargs _ _ 0 bw_flat hin (fun j _ => by rw [Nat.zero_add]; rfl)
    refine ts_call bw_ext bw_mixed hfi hck.1 (pls := bwpls) rfl hck.2 (old_all w) hr hf hgv (bw0 (R := fun a => w.cell? a) L1 L2 rfl rfl) (fun s vs rs m hp w' v' hs hu hq hv _ _ hb _ => ?_)
    subst hs
    have hq' : denV m.s m.u 9 (oneA vs) = some (oneA (outV [([1], false)] [.bool true])) := by rw [hu]; exact hq
    exact ⟨by rw [denV_ok 9 hv hq']; rfl, hb⟩
end
end Go.Proofs.YtkgflcpgjdbcdaaGreatDoor
