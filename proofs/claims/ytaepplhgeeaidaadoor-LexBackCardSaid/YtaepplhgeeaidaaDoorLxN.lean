import Derived.Test.YtaepplhgeeaidaaDoorChecked
import Derived.WalkKit
import Derived.WalkSpells
import Derived.Deep.OwnRows
import Derived.Handy
import Derived.Lib.Hide
import Derived.Deep.RegionHeld3
import Derived.Lib.LaidTab
import Derived.Laws.ResultCell
import Derived.BigQuiet
import Derived.Lib.ItoaNum
set_option linter.unusedVariables false
set_option linter.unusedSimpArgs false
set_option maxRecDepth 100000
namespace Go.Proofs.YtaepplhgeeaidaaDoor
open Go Go.RowKit
section
variable {W w1 : World} {t : TypeId} {v0 v1 v2 v3 : Value}
theorem four_c (hb : Below (W.alloc (.cells #[v0, v1, v2, v3] t)).heap.size (W.alloc (.cells #[v0, v1, v2, v3] t)) w1) : w1.heap[W.heap.size]? = some (.cells #[v0, v1, v2, v3] t (0, 0)) := (hb.block _ (by simp)).trans (heap_alloc_new W _)
theorem four_cells (h : w1.heap[W.heap.size]? = some (.cells #[v0, v1, v2, v3] t (0, 0))) :
    w1.cell? ⟨W.heap.size, 0, none⟩ = some v0 ∧ w1.cell? ⟨W.heap.size, 1, none⟩ = some v1 ∧ w1.cell? ⟨W.heap.size, 2, none⟩ = some v2 ∧ w1.cell? ⟨W.heap.size, 3, none⟩ = some v3 :=
  ⟨(cell_of_row w1 _ 0 _ _ _ h).trans rfl, (cell_of_row w1 _ 1 _ _ _ h).trans rfl, (cell_of_row w1 _ 2 _ _ _ h).trans rfl, (cell_of_row w1 _ 3 _ _ _ h).trans rfl⟩
theorem four_free (h : w1.heap[W.heap.size]? = some (.cells #[v0, v1, v2, v3] t (0, 0))) :
    w1.frozen? ⟨W.heap.size, 0, none⟩ = false ∧ w1.frozen? ⟨W.heap.size, 1, none⟩ = false ∧ w1.frozen? ⟨W.heap.size, 2, none⟩ = false ∧ w1.frozen? ⟨W.heap.size, 3, none⟩ = false :=
  ⟨frozen_of_row w1 _ 0 _ _ h, frozen_of_row w1 _ 1 _ _ h, frozen_of_row w1 _ 2 _ _ h, frozen_of_row w1 _ 3 _ _ h⟩
end
theorem bdn {B : Nat} {w w' : World} (h : Below B w w') (n : Nat) : Below B w (w'.drewN n) := ⟨h.os, h.tape, h.output, h.size, h.block⟩
theorem results_cell {fn : Func} {p : Tmp} {ty : TypeId} (h : fn.results = #[.cell p ty]) (tmps : Array Value) (P : Program) (w : World) :
    (results fn tmps).run P w = ((asAddr (tmps.getD p undef)).run P w).andThen fun a w₁ => (loadVar ty a).run P w₁ := by
  simp only [results, h]
  simp [Sem.run_bind, Result.andThen]
theorem ret_one {P : Program} {fn : Func} {R : Ending → World → Prop} {a : Act} {w : World} {p : Tmp} {ty : TypeId} {b : Addr} {v : Value} (h : fn.results = #[.cell p ty]) (ha : a.tmps.getD p undef = .pointer (some b))
    (hl : (loadVar ty b).run P w = .ok v w) (hd : a.defers = []) (hR : R (.returned v) w) : bodyPost P fn R .ret a w :=
  bodyPost_ret (by rw [results_cell h, ha, show (asAddr (.pointer (some b))).run P w = .ok b w from rfl, Result.andThen_ok, hl]) hd hR
theorem ret_two {P : Program} {fn : Func} {R : Ending → World → Prop} {a : Act} {w : World} {p u : Tmp} {ty : TypeId} {b : Addr} {v : Value} (h : fn.results = #[.cell p ty, .tmp u]) (ha : a.tmps.getD p undef = .pointer (some b))
    (hl : (loadVar ty b).run P w = .ok v w) (hd : a.defers = []) (hR : R (.returned (.tuple #[v, a.tmps.getD u undef])) w) : bodyPost P fn R .ret a w :=
  bodyPost_ret (by rw [results_cell_tmp h, ha, show (asAddr (.pointer (some b))).run P w = .ok b w from rfl, Result.andThen_ok, hl, Result.andThen_ok]) hd hR
theorem load_tok {w : World} {b : Nat} {v0 v1 v2 v3 : Value} {ty : TypeId} (h : w.heap[b]? = some (.cells #[v0, v1, v2, v3] ty (0, 0))) : (loadVar 33 ⟨b, 0, none⟩).run Tryd.prog w = .ok (.agg #[v0, v1, v2, v3]) w := by
  have c0 := (cell_of_row w _ 0 _ _ _ h).trans rfl
  have c1 := (cell_of_row w _ 1 _ _ _ h).trans rfl
  have c2 := (cell_of_row w _ 2 _ _ _ h).trans rfl
  have c3 := (cell_of_row w _ 3 _ _ _ h).trans rfl
  simp [loadVar, go_sem, c0, c1, c2, c3]
theorem set_tok {w : World} {b : Nat} {v0 v1 v2 v3 z0 z1 z2 z3 : Value} {ty : TypeId} (h : w.heap[b]? = some (.cells #[v0, v1, v2, v3] ty (0, 0))) :
    ((((w.setCell ⟨b, 0, none⟩ z0).setCell ⟨b, 1, none⟩ z1).setCell ⟨b, 2, none⟩ z2).setCell ⟨b, 3, none⟩ z3).heap[b]? = some (.cells #[z0, z1, z2, z3] ty (0, 0)) :=
  heap_setCell_same _ b 3 _ ty z3 (heap_setCell_same _ b 2 _ ty z2 (heap_setCell_same _ b 1 _ ty z1 (heap_setCell_same w b 0 _ ty z0 h)))
theorem letter_any (c : Nat) (w : World) : Calls Tryd.prog 26 #[.int .u8 (c : Int)] w fun e w' => e = .returned (.bool ((decide (97 ≤ c) && decide (c ≤ 122)) || c == 95)) ∧ Below w.heap.size w w' := by
  go_enter Tryd.func26, Tryd.ntmps26
  go_wp2
  all_goals go_ret
  all_goals refine ⟨?_, Below.refl _ _⟩
  all_goals show Ending.returned (Value.bool _) = _
  all_goals refine congrArg _ (congrArg _ ?_)
  all_goals rw [Bool.eq_iff_iff]; simp; omega
theorem token_any (u : ByteArray) (z : Int) (w : World) (hc : ∀ w', Below w.heap.size w w' → Calls Tryd.prog 51 #[.string u] w' fun e w2 => e = .returned (.string u) ∧ Below w'.heap.size w' w2) :
    Calls Tryd.prog 41 #[.int .i64 z, .string u] w fun e w' => e = .returned (.agg #[.int .i64 z, .string u, .int .i64 0, .int .i64 0]) ∧ Below w.heap.size w w' := by
  go_enter Tryd.func41, Tryd.ntmps41
  go_wp2_with (go_at_call 51; refine (hc _ ((Below.refl _ _).alloc (Nat.le_refl _) _)).mono ?_; rintro e w1 ⟨rfl, hb⟩; have hz := (show w.heap.size < w1.heap.size from Nat.lt_of_lt_of_le (by simp) hb.size); obtain ⟨k0, k1, k2, k3⟩ := four_cells (four_c hb); obtain ⟨f0, f1, f2, f3⟩ := four_free (four_c hb))
  refine ret_one rfl rfl (load_tok (set_tok (four_c hb))) rfl ?_
  exact ⟨rfl, (((((((Below.refl _ _).alloc (Nat.le_refl _) _).trans (hb.mono (by simp))).setCell (Nat.le_refl _) _).setCell (Nat.le_refl _) _).setCell (Nat.le_refl _) _).setCell (Nat.le_refl _) _)⟩
set_option maxHeartbeats 4000000 in
theorem nu_letter (t : ByteArray) (k : Nat) (hk : k + 1 < t.size) (h2 : t.size ≤ 1048576) (w : World)
    (hrun : ∀ w', Below w.heap.size w w' → Calls Tryd.prog 38 #[.string (t.extract 1 t.size), .func (.func 29) #[] #[]] w' fun e w2 => e = .returned (.int .i64 (k : Int)) ∧ Below w'.heap.size w' w2)
    (hl : ∀ w', Calls Tryd.prog 26 #[.int .u8 ((t[1 + k]'(by omega)).toNat : Int)] w' fun e w2 => e = .returned (.bool true) ∧ Below w'.heap.size w' w2) :
    Calls Tryd.prog 31 #[.string t] w fun e w' => e = .returned (.tuple #[.agg #[Value.int .i64 0, .string ⟨#[]⟩, .int .i64 0, .int .i64 0], .int .i64 0]) ∧ Below w.heap.size w w' := by
  go_enter Tryd.func31, Tryd.ntmps31
  go_wp2_with (first
    | (go_at_call 38; refine (hrun _ ((Below.refl _ _).alloc (Nat.le_refl _) _)).mono ?_; rintro e w1 ⟨rfl, hb1⟩; have B1 : Below w.heap.size w w1 := ((Below.refl _ _).alloc (Nat.le_refl _) _).trans (hb1.mono (by simp)); have hz1 : w.heap.size < w1.heap.size := Nat.lt_of_lt_of_le (by simp) hb1.size; have hr1 := four_c hb1; obtain ⟨k0, k1, k2, k3⟩ := four_cells hr1; obtain ⟨f0, f1, f2, f3⟩ := four_free hr1)
    | (go_at_call 26; refine (hl _).mono ?_; rintro e w2 ⟨rfl, hb2⟩; have B2 := B1.trans (hb2.mono B1.size); have hz2 : w.heap.size < w2.heap.size := Nat.lt_of_lt_of_le hz1 hb2.size; have hr2 := (hb2.block _ hz1).trans hr1; clear k0 k1 k2 k3 f0 f1 f2 f3; obtain ⟨k0, k1, k2, k3⟩ := four_cells hr2; obtain ⟨f0, f1, f2, f3⟩ := four_free hr2))
  refine ret_two rfl rfl (load_tok (set_tok hr2)) rfl ?_
  exact ⟨rfl, ((((B2.setCell (Nat.le_refl _) _).setCell (Nat.le_refl _) _).setCell (Nat.le_refl _) _).setCell (Nat.le_refl _) _)⟩
set_option maxHeartbeats 4000000 in
theorem nu_bad_l (t : ByteArray) (k : Nat) (hk : k + 1 < t.size) (h2 : t.size ≤ 1048576) (w : World)
    (hrun : ∀ w', Below w.heap.size w w' → Calls Tryd.prog 38 #[.string (t.extract 1 t.size), .func (.func 29) #[] #[]] w' fun e w2 => e = .returned (.int .i64 (k : Int)) ∧ Below w'.heap.size w' w2)
    (hl : ∀ w', Calls Tryd.prog 26 #[.int .u8 ((t[1 + k]'(by omega)).toNat : Int)] w' fun e w2 => e = .returned (.bool false) ∧ Below w'.heap.size w' w2)
    (hp : ∀ w', Below w.heap.size w w' → Calls Tryd.prog 42 #[.string (t.extract 0 (1 + k)), .int .i64 10, .int .i64 64] w' fun e w2 => ∃ x ty N, e = .returned (.tuple #[.int .i64 x, .iface ty (.pointer (some ⟨N, 0, none⟩))]) ∧ Below w'.heap.size w' w2) :
    Calls Tryd.prog 31 #[.string t] w fun e w' => e = .returned (.tuple #[.agg #[Value.int .i64 0, .string ⟨#[]⟩, .int .i64 0, .int .i64 0], .int .i64 0]) ∧ Below w.heap.size w w' := by
  go_enter Tryd.func31, Tryd.ntmps31
  go_wp2_with (first
    | (go_at_call 38; refine (hrun _ ((Below.refl _ _).alloc (Nat.le_refl _) _)).mono ?_; rintro e w1 ⟨rfl, hb1⟩; have B1 : Below w.heap.size w w1 := ((Below.refl _ _).alloc (Nat.le_refl _) _).trans (hb1.mono (by simp)); have hz1 : w.heap.size < w1.heap.size := Nat.lt_of_lt_of_le (by simp) hb1.size; have hr1 := four_c hb1; obtain ⟨k0, k1, k2, k3⟩ := four_cells hr1; obtain ⟨f0, f1, f2, f3⟩ := four_free hr1)
    | (go_at_call 26; refine (hl _).mono ?_; rintro e w2 ⟨rfl, hb2⟩; have B2 := B1.trans (hb2.mono B1.size); have hz2 : w.heap.size < w2.heap.size := Nat.lt_of_lt_of_le hz1 hb2.size; have hr2 := (hb2.block _ hz1).trans hr1; clear k0 k1 k2 k3 f0 f1 f2 f3; obtain ⟨k0, k1, k2, k3⟩ := four_cells hr2; obtain ⟨f0, f1, f2, f3⟩ := four_free hr2)
    | (go_at_call 42; refine (hp _ B2).mono ?_; rintro e w3 ⟨x, ty, N, rfl, hb3⟩; have B3 := B2.trans (hb3.mono B2.size); have hz3 : w.heap.size < w3.heap.size := Nat.lt_of_lt_of_le hz2 hb3.size; have hr3 := (hb3.block _ hz2).trans hr2; clear k0 k1 k2 k3 f0 f1 f2 f3; obtain ⟨k0, k1, k2, k3⟩ := four_cells hr3; obtain ⟨f0, f1, f2, f3⟩ := four_free hr3))
  go_quiet (fail)
  go_wp2
  refine ret_two rfl rfl (load_tok (set_tok (w := w3.drewN _) hr3)) rfl ?_
  exact ⟨rfl, (((((bdn B3 _).setCell (Nat.le_refl _) _).setCell (Nat.le_refl _) _).setCell (Nat.le_refl _) _).setCell (Nat.le_refl _) _)⟩
set_option maxHeartbeats 4000000 in
theorem nu_bad_e (t : ByteArray) (k : Nat) (hk : k + 1 = t.size) (h2 : t.size ≤ 1048576) (w : World)
    (hrun : ∀ w', Below w.heap.size w w' → Calls Tryd.prog 38 #[.string (t.extract 1 t.size), .func (.func 29) #[] #[]] w' fun e w2 => e = .returned (.int .i64 (k : Int)) ∧ Below w'.heap.size w' w2)
    (hp : ∀ w', Below w.heap.size w w' → Calls Tryd.prog 42 #[.string (t.extract 0 (1 + k)), .int .i64 10, .int .i64 64] w' fun e w2 => ∃ x ty N, e = .returned (.tuple #[.int .i64 x, .iface ty (.pointer (some ⟨N, 0, none⟩))]) ∧ Below w'.heap.size w' w2) :
    Calls Tryd.prog 31 #[.string t] w fun e w' => e = .returned (.tuple #[.agg #[Value.int .i64 0, .string ⟨#[]⟩, .int .i64 0, .int .i64 0], .int .i64 0]) ∧ Below w.heap.size w w' := by
  go_enter Tryd.func31, Tryd.ntmps31
  go_wp2_with (first
    | (go_at_call 38; refine (hrun _ ((Below.refl _ _).alloc (Nat.le_refl _) _)).mono ?_; rintro e w1 ⟨rfl, hb1⟩; have B1 : Below w.heap.size w w1 := ((Below.refl _ _).alloc (Nat.le_refl _) _).trans (hb1.mono (by simp)); have hz1 : w.heap.size < w1.heap.size := Nat.lt_of_lt_of_le (by simp) hb1.size; have hr1 := four_c hb1; obtain ⟨k0, k1, k2, k3⟩ := four_cells hr1; obtain ⟨f0, f1, f2, f3⟩ := four_free hr1)
    | (go_at_call 42; refine (hp _ B1).mono ?_; rintro e w3 ⟨x, ty, N, rfl, hb3⟩; have B3 := B1.trans (hb3.mono B1.size); have hz3 : w.heap.size < w3.heap.size := Nat.lt_of_lt_of_le hz1 hb3.size; have hr3 := (hb3.block _ hz1).trans hr1; clear k0 k1 k2 k3 f0 f1 f2 f3; obtain ⟨k0, k1, k2, k3⟩ := four_cells hr3; obtain ⟨f0, f1, f2, f3⟩ := four_free hr3))
  go_quiet (fail)
  go_wp2
  refine ret_two rfl rfl (load_tok (set_tok (w := w3.drewN _) hr3)) rfl ?_
  exact ⟨rfl, (((((bdn B3 _).setCell (Nat.le_refl _) _).setCell (Nat.le_refl _) _).setCell (Nat.le_refl _) _).setCell (Nat.le_refl _) _)⟩
set_option maxHeartbeats 4000000 in
theorem nu_other_l (t : ByteArray) (k : Nat) (hk : k + 1 < t.size) (h2 : t.size ≤ 1048576) (w : World)
    (hrun : ∀ w', Below w.heap.size w w' → Calls Tryd.prog 38 #[.string (t.extract 1 t.size), .func (.func 29) #[] #[]] w' fun e w2 => e = .returned (.int .i64 (k : Int)) ∧ Below w'.heap.size w' w2)
    (hl : ∀ w', Calls Tryd.prog 26 #[.int .u8 ((t[1 + k]'(by omega)).toNat : Int)] w' fun e w2 => e = .returned (.bool false) ∧ Below w'.heap.size w' w2)
    (v : Int) (hp : ∀ w', Below w.heap.size w w' → Calls Tryd.prog 42 #[.string (t.extract 0 (1 + k)), .int .i64 10, .int .i64 64] w' fun e w2 => e = .returned (.tuple #[.int .i64 v, .nilIface]) ∧ Below w'.heap.size w' w2)
    (hf : ∀ w', Below w.heap.size w w' → Calls Tryd.prog 20 #[.int .i64 v, .int .i64 10] w' fun e w2 => e = .returned (.string ⟨(Lib.itoa v).toArray⟩) ∧ Below w'.heap.size w' w2)
    (hne : (Lib.itoa v == (t.extract 0 (1 + k)).toList) = false) :
    Calls Tryd.prog 31 #[.string t] w fun e w' => e = .returned (.tuple #[.agg #[Value.int .i64 0, .string ⟨#[]⟩, .int .i64 0, .int .i64 0], .int .i64 0]) ∧ Below w.heap.size w w' := by
  go_enter Tryd.func31, Tryd.ntmps31
  go_wp2_with (first
    | (go_at_call 38; refine (hrun _ ((Below.refl _ _).alloc (Nat.le_refl _) _)).mono ?_; rintro e w1 ⟨rfl, hb1⟩; have B1 : Below w.heap.size w w1 := ((Below.refl _ _).alloc (Nat.le_refl _) _).trans (hb1.mono (by simp)); have hz1 : w.heap.size < w1.heap.size := Nat.lt_of_lt_of_le (by simp) hb1.size; have hr1 := four_c hb1; obtain ⟨k0, k1, k2, k3⟩ := four_cells hr1; obtain ⟨f0, f1, f2, f3⟩ := four_free hr1)
    | (go_at_call 26; refine (hl _).mono ?_; rintro e w2 ⟨rfl, hb2⟩; have B2 := B1.trans (hb2.mono B1.size); have hz2 : w.heap.size < w2.heap.size := Nat.lt_of_lt_of_le hz1 hb2.size; have hr2 := (hb2.block _ hz1).trans hr1; clear k0 k1 k2 k3 f0 f1 f2 f3; obtain ⟨k0, k1, k2, k3⟩ := four_cells hr2; obtain ⟨f0, f1, f2, f3⟩ := four_free hr2)
    | (go_at_call 42; refine (hp _ B2).mono ?_; rintro e w3 ⟨rfl, hb3⟩; have B3 := B2.trans (hb3.mono B2.size); have hz3 : w.heap.size < w3.heap.size := Nat.lt_of_lt_of_le hz2 hb3.size; have hr3 := (hb3.block _ hz2).trans hr2; clear k0 k1 k2 k3 f0 f1 f2 f3; obtain ⟨k0, k1, k2, k3⟩ := four_cells hr3; obtain ⟨f0, f1, f2, f3⟩ := four_free hr3))
  have hsl : ∀ wx : World, (Instr.slice 9 (.string t) none (some (.int .i64 (1 + (k : Int)))) none).run Tryd.prog wx = .ok (.string (t.extract 0 (1 + k))) wx := fun wx => (run_slice_string_h (P := Tryd.prog) (w := wx) (t := 9) (s := t) (ht := Tryd.underlying9) (kh := .i64) (h := 1 + (k : Int)) (h0 := by omega) (h2 := by omega)).trans (by rw [show (1 + (k : Int)).toNat = 1 + k by omega])
  have X := hf w3.drew B3.drew
  have hr3' : w3.drew.heap[w.heap.size]? = _ := hr3
  go_region_held3 (fun w' => w'.heap[w.heap.size]? = some (.cells #[.int .i64 0, .string ⟨#[]⟩, .int .i64 0, .int .i64 0] 33 (0, 0))) (assumption) (first
    | (go_at_call 20; refine X.mono ?_; rintro e w4 ⟨rfl, hb4⟩; have hr4 := (hb4.block _ (show w.heap.size < w3.drew.heap.size from hz3)).trans hr3'; have B4 := B3.drew.trans (hb4.mono (show w.heap.size ≤ w3.drew.heap.size from Nat.le_of_lt hz3)); clear k0 k1 k2 k3 f0 f1 f2 f3; obtain ⟨k0, k1, k2, k3⟩ := four_cells hr4; obtain ⟨f0, f1, f2, f3⟩ := four_free hr4))
  all_goals clear X hsl hr3' hr3 hr1 hne hp hf hrun hb1 hb3 hb4 B1 B3 hz1 hz3 hl hb2 hr2 B2 hz2
  all_goals go_wp2
  all_goals refine ret_two rfl rfl (load_tok (set_tok hr4)) rfl ?_
  all_goals exact ⟨rfl, ((((B4.setCell (Nat.le_refl _) _).setCell (Nat.le_refl _) _).setCell (Nat.le_refl _) _).setCell (Nat.le_refl _) _)⟩
set_option maxHeartbeats 4000000 in
theorem nu_other_e (t : ByteArray) (k : Nat) (hk : k + 1 = t.size) (h2 : t.size ≤ 1048576) (w : World)
    (hrun : ∀ w', Below w.heap.size w w' → Calls Tryd.prog 38 #[.string (t.extract 1 t.size), .func (.func 29) #[] #[]] w' fun e w2 => e = .returned (.int .i64 (k : Int)) ∧ Below w'.heap.size w' w2)
    (v : Int) (hp : ∀ w', Below w.heap.size w w' → Calls Tryd.prog 42 #[.string (t.extract 0 (1 + k)), .int .i64 10, .int .i64 64] w' fun e w2 => e = .returned (.tuple #[.int .i64 v, .nilIface]) ∧ Below w'.heap.size w' w2)
    (hf : ∀ w', Below w.heap.size w w' → Calls Tryd.prog 20 #[.int .i64 v, .int .i64 10] w' fun e w2 => e = .returned (.string ⟨(Lib.itoa v).toArray⟩) ∧ Below w'.heap.size w' w2)
    (hne : (Lib.itoa v == (t.extract 0 (1 + k)).toList) = false) :
    Calls Tryd.prog 31 #[.string t] w fun e w' => e = .returned (.tuple #[.agg #[Value.int .i64 0, .string ⟨#[]⟩, .int .i64 0, .int .i64 0], .int .i64 0]) ∧ Below w.heap.size w w' := by
  go_enter Tryd.func31, Tryd.ntmps31
  go_wp2_with (first
    | (go_at_call 38; refine (hrun _ ((Below.refl _ _).alloc (Nat.le_refl _) _)).mono ?_; rintro e w1 ⟨rfl, hb1⟩; have B1 : Below w.heap.size w w1 := ((Below.refl _ _).alloc (Nat.le_refl _) _).trans (hb1.mono (by simp)); have hz1 : w.heap.size < w1.heap.size := Nat.lt_of_lt_of_le (by simp) hb1.size; have hr1 := four_c hb1; obtain ⟨k0, k1, k2, k3⟩ := four_cells hr1; obtain ⟨f0, f1, f2, f3⟩ := four_free hr1)
    | (go_at_call 42; refine (hp _ B1).mono ?_; rintro e w3 ⟨rfl, hb3⟩; have B3 := B1.trans (hb3.mono B1.size); have hz3 : w.heap.size < w3.heap.size := Nat.lt_of_lt_of_le hz1 hb3.size; have hr3 := (hb3.block _ hz1).trans hr1; clear k0 k1 k2 k3 f0 f1 f2 f3; obtain ⟨k0, k1, k2, k3⟩ := four_cells hr3; obtain ⟨f0, f1, f2, f3⟩ := four_free hr3))
  have hsl : ∀ wx : World, (Instr.slice 9 (.string t) none (some (.int .i64 (1 + (k : Int)))) none).run Tryd.prog wx = .ok (.string (t.extract 0 (1 + k))) wx := fun wx => (run_slice_string_h (P := Tryd.prog) (w := wx) (t := 9) (s := t) (ht := Tryd.underlying9) (kh := .i64) (h := 1 + (k : Int)) (h0 := by omega) (h2 := by omega)).trans (by rw [show (1 + (k : Int)).toNat = 1 + k by omega])
  have X := hf w3.drew B3.drew
  have hr3' : w3.drew.heap[w.heap.size]? = _ := hr3
  go_region_held3 (fun w' => w'.heap[w.heap.size]? = some (.cells #[.int .i64 0, .string ⟨#[]⟩, .int .i64 0, .int .i64 0] 33 (0, 0))) (assumption) (first
    | (go_at_call 20; refine X.mono ?_; rintro e w4 ⟨rfl, hb4⟩; have hr4 := (hb4.block _ (show w.heap.size < w3.drew.heap.size from hz3)).trans hr3'; have B4 := B3.drew.trans (hb4.mono (show w.heap.size ≤ w3.drew.heap.size from Nat.le_of_lt hz3)); clear k0 k1 k2 k3 f0 f1 f2 f3; obtain ⟨k0, k1, k2, k3⟩ := four_cells hr4; obtain ⟨f0, f1, f2, f3⟩ := four_free hr4))
  all_goals clear X hsl hr3' hr3 hr1 hne hp hf hrun hb1 hb3 hb4 B1 B3 hz1 hz3
  all_goals go_wp2
  all_goals refine ret_two rfl rfl (load_tok (set_tok hr4)) rfl ?_
  all_goals exact ⟨rfl, ((((B4.setCell (Nat.le_refl _) _).setCell (Nat.le_refl _) _).setCell (Nat.le_refl _) _).setCell (Nat.le_refl _) _)⟩
set_option maxHeartbeats 4000000 in
theorem nu_good_l (t : ByteArray) (k : Nat) (hk : k + 1 < t.size) (h2 : t.size ≤ 1048576) (w : World)
    (hrun : ∀ w', Below w.heap.size w w' → Calls Tryd.prog 38 #[.string (t.extract 1 t.size), .func (.func 29) #[] #[]] w' fun e w2 => e = .returned (.int .i64 (k : Int)) ∧ Below w'.heap.size w' w2)
    (hl : ∀ w', Calls Tryd.prog 26 #[.int .u8 ((t[1 + k]'(by omega)).toNat : Int)] w' fun e w2 => e = .returned (.bool false) ∧ Below w'.heap.size w' w2)
    (v : Int) (hp : ∀ w', Below w.heap.size w w' → Calls Tryd.prog 42 #[.string (t.extract 0 (1 + k)), .int .i64 10, .int .i64 64] w' fun e w2 => e = .returned (.tuple #[.int .i64 v, .nilIface]) ∧ Below w'.heap.size w' w2)
    (hf : ∀ w', Below w.heap.size w w' → Calls Tryd.prog 20 #[.int .i64 v, .int .i64 10] w' fun e w2 => e = .returned (.string ⟨(Lib.itoa v).toArray⟩) ∧ Below w'.heap.size w' w2)
    (hc : ∀ w', Below w.heap.size w w' → Calls Tryd.prog 51 #[.string (t.extract 0 (1 + k))] w' fun e w2 => e = .returned (.string (t.extract 0 (1 + k))) ∧ Below w'.heap.size w' w2)
    (hne : (Lib.itoa v == (t.extract 0 (1 + k)).toList) = true) :
    Calls Tryd.prog 31 #[.string t] w fun e w' => e = .returned (.tuple #[.agg #[.int .i64 2, .string (t.extract 0 (1 + k)), .int .i64 v, .int .i64 0], .int .i64 (1 + (k : Int))]) ∧ Below w.heap.size w w' := by
  go_enter Tryd.func31, Tryd.ntmps31
  go_wp2_with (first
    | (go_at_call 38; refine (hrun _ ((Below.refl _ _).alloc (Nat.le_refl _) _)).mono ?_; rintro e w1 ⟨rfl, hb1⟩; have B1 : Below w.heap.size w w1 := ((Below.refl _ _).alloc (Nat.le_refl _) _).trans (hb1.mono (by simp)); have hz1 : w.heap.size < w1.heap.size := Nat.lt_of_lt_of_le (by simp) hb1.size; have hr1 := four_c hb1; obtain ⟨k0, k1, k2, k3⟩ := four_cells hr1; obtain ⟨f0, f1, f2, f3⟩ := four_free hr1)
    | (go_at_call 26; refine (hl _).mono ?_; rintro e w2 ⟨rfl, hb2⟩; have B2 := B1.trans (hb2.mono B1.size); have hz2 : w.heap.size < w2.heap.size := Nat.lt_of_lt_of_le hz1 hb2.size; have hr2 := (hb2.block _ hz1).trans hr1; clear k0 k1 k2 k3 f0 f1 f2 f3; obtain ⟨k0, k1, k2, k3⟩ := four_cells hr2; obtain ⟨f0, f1, f2, f3⟩ := four_free hr2)
    | (go_at_call 42; refine (hp _ B2).mono ?_; rintro e w3 ⟨rfl, hb3⟩; have B3 := B2.trans (hb3.mono B2.size); have hz3 : w.heap.size < w3.heap.size := Nat.lt_of_lt_of_le hz2 hb3.size; have hr3 := (hb3.block _ hz2).trans hr2; clear k0 k1 k2 k3 f0 f1 f2 f3; obtain ⟨k0, k1, k2, k3⟩ := four_cells hr3; obtain ⟨f0, f1, f2, f3⟩ := four_free hr3))
  have hsl : ∀ wx : World, (Instr.slice 9 (.string t) none (some (.int .i64 (1 + (k : Int)))) none).run Tryd.prog wx = .ok (.string (t.extract 0 (1 + k))) wx := fun wx => (run_slice_string_h (P := Tryd.prog) (w := wx) (t := 9) (s := t) (ht := Tryd.underlying9) (kh := .i64) (h := 1 + (k : Int)) (h0 := by omega) (h2 := by omega)).trans (by rw [show (1 + (k : Int)).toNat = 1 + k by omega])
  have X := hf w3.drew B3.drew
  have hr3' : w3.drew.heap[w.heap.size]? = _ := hr3
  go_region_held3 (fun w' => w'.heap[w.heap.size]? = some (.cells #[.int .i64 0, .string ⟨#[]⟩, .int .i64 0, .int .i64 0] 33 (0, 0))) (assumption) (first
    | (go_at_call 20; refine X.mono ?_; rintro e w4 ⟨rfl, hb4⟩; have hr4 := (hb4.block _ (show w.heap.size < w3.drew.heap.size from hz3)).trans hr3'; have B4 := B3.drew.trans (hb4.mono (show w.heap.size ≤ w3.drew.heap.size from Nat.le_of_lt hz3)); have hz4 : w.heap.size < w4.heap.size := Nat.lt_of_lt_of_le (show w.heap.size < w3.drew.heap.size from hz3) hb4.size; clear k0 k1 k2 k3 f0 f1 f2 f3; obtain ⟨k0, k1, k2, k3⟩ := four_cells hr4; obtain ⟨f0, f1, f2, f3⟩ := four_free hr4))
  all_goals clear X hsl hr3' hr3 hr1 hne hp hf hrun hb1 hb3 hb4 B1 B3 hz1 hz3 hl hb2 hr2 B2 hz2
  all_goals have HC := Lib.hid hc
  all_goals clear hc
  all_goals go_wp2_with (fail)
  all_goals (go_at_call 41; refine (token_any _ _ _ (fun w9 b9 => HC.out w9 (B4.trans (b9.mono B4.size)))).mono ?_; rintro e w5 ⟨rfl, hb5⟩; have hz5 : w.heap.size < w5.heap.size := Nat.lt_of_lt_of_le hz4 hb5.size; have hr5 := (hb5.block _ hz4).trans hr4; have B5 := B4.trans (hb5.mono B4.size); clear k0 k1 k2 k3 f0 f1 f2 f3 hr4 B4 hb5 HC hz4; obtain ⟨k0, k1, k2, k3⟩ := four_cells hr5; obtain ⟨f0, f1, f2, f3⟩ := four_free hr5)
  all_goals rename_i hH K1 A1 K0 A0
  all_goals have HR := Lib.hid (And.intro hr5 B5)
  all_goals have HA := Lib.hid A1
  all_goals clear hr5 B5 A1 hH
  all_goals go_wp2
  all_goals obtain ⟨hr5, B5⟩ := HR.out
  all_goals have hr6 := set_tok (z0 := .int .i64 2) (z1 := .string (t.extract 0 (1 + k))) (z2 := .int .i64 0) (z3 := .int .i64 0) hr5
  all_goals have B6 := ((((B5.setCell (p := ⟨w.heap.size, 0, none⟩) (Nat.le_refl _) (.int .i64 2)).setCell (p := ⟨w.heap.size, 1, none⟩) (Nat.le_refl _) (.string (t.extract 0 (1 + k)))).setCell (p := ⟨w.heap.size, 2, none⟩) (Nat.le_refl _) (.int .i64 0)).setCell (p := ⟨w.heap.size, 3, none⟩) (Nat.le_refl _) (.int .i64 0))
  all_goals clear k0 k1 k2 k3 f0 f1 f2 f3 hr5 B5 HR hz5
  all_goals revert hr6 B6
  all_goals generalize World.setCell (World.setCell (World.setCell (World.setCell w5 _ _) _ _) _ _) _ _ = w6
  all_goals intro hr6 B6
  all_goals obtain ⟨k0, k1, k2, k3⟩ := four_cells hr6
  all_goals obtain ⟨f0, f1, f2, f3⟩ := four_free hr6
  all_goals have HR := Lib.hid (And.intro hr6 B6)
  all_goals clear hr6 B6
  all_goals refine HA.out _ _ ?_
  all_goals clear HA
  all_goals go_wp2
  all_goals obtain ⟨hr6, B6⟩ := HR.out
  all_goals refine ret_two rfl rfl (load_tok (set_tok (heap_setCell_same w6 _ 2 _ _ _ hr6))) rfl ?_
  all_goals exact ⟨rfl, (((((B6.setCell (Nat.le_refl _) _).setCell (Nat.le_refl _) _).setCell (Nat.le_refl _) _).setCell (Nat.le_refl _) _).setCell (Nat.le_refl _) _)⟩
set_option maxHeartbeats 4000000 in
theorem nu_good_e (t : ByteArray) (k : Nat) (hk : k + 1 = t.size) (h2 : t.size ≤ 1048576) (w : World)
    (hrun : ∀ w', Below w.heap.size w w' → Calls Tryd.prog 38 #[.string (t.extract 1 t.size), .func (.func 29) #[] #[]] w' fun e w2 => e = .returned (.int .i64 (k : Int)) ∧ Below w'.heap.size w' w2)
    (v : Int) (hp : ∀ w', Below w.heap.size w w' → Calls Tryd.prog 42 #[.string (t.extract 0 (1 + k)), .int .i64 10, .int .i64 64] w' fun e w2 => e = .returned (.tuple #[.int .i64 v, .nilIface]) ∧ Below w'.heap.size w' w2)
    (hf : ∀ w', Below w.heap.size w w' → Calls Tryd.prog 20 #[.int .i64 v, .int .i64 10] w' fun e w2 => e = .returned (.string ⟨(Lib.itoa v).toArray⟩) ∧ Below w'.heap.size w' w2)
    (hc : ∀ w', Below w.heap.size w w' → Calls Tryd.prog 51 #[.string (t.extract 0 (1 + k))] w' fun e w2 => e = .returned (.string (t.extract 0 (1 + k))) ∧ Below w'.heap.size w' w2)
    (hne : (Lib.itoa v == (t.extract 0 (1 + k)).toList) = true) :
    Calls Tryd.prog 31 #[.string t] w fun e w' => e = .returned (.tuple #[.agg #[.int .i64 2, .string (t.extract 0 (1 + k)), .int .i64 v, .int .i64 0], .int .i64 (1 + (k : Int))]) ∧ Below w.heap.size w w' := by
  go_enter Tryd.func31, Tryd.ntmps31
  go_wp2_with (first
    | (go_at_call 38; refine (hrun _ ((Below.refl _ _).alloc (Nat.le_refl _) _)).mono ?_; rintro e w1 ⟨rfl, hb1⟩; have B1 : Below w.heap.size w w1 := ((Below.refl _ _).alloc (Nat.le_refl _) _).trans (hb1.mono (by simp)); have hz1 : w.heap.size < w1.heap.size := Nat.lt_of_lt_of_le (by simp) hb1.size; have hr1 := four_c hb1; obtain ⟨k0, k1, k2, k3⟩ := four_cells hr1; obtain ⟨f0, f1, f2, f3⟩ := four_free hr1)
    | (go_at_call 42; refine (hp _ B1).mono ?_; rintro e w3 ⟨rfl, hb3⟩; have B3 := B1.trans (hb3.mono B1.size); have hz3 : w.heap.size < w3.heap.size := Nat.lt_of_lt_of_le hz1 hb3.size; have hr3 := (hb3.block _ hz1).trans hr1; clear k0 k1 k2 k3 f0 f1 f2 f3; obtain ⟨k0, k1, k2, k3⟩ := four_cells hr3; obtain ⟨f0, f1, f2, f3⟩ := four_free hr3))
  have hsl : ∀ wx : World, (Instr.slice 9 (.string t) none (some (.int .i64 (1 + (k : Int)))) none).run Tryd.prog wx = .ok (.string (t.extract 0 (1 + k))) wx := fun wx => (run_slice_string_h (P := Tryd.prog) (w := wx) (t := 9) (s := t) (ht := Tryd.underlying9) (kh := .i64) (h := 1 + (k : Int)) (h0 := by omega) (h2 := by omega)).trans (by rw [show (1 + (k : Int)).toNat = 1 + k by omega])
  have X := hf w3.drew B3.drew
  have hr3' : w3.drew.heap[w.heap.size]? = _ := hr3
  go_region_held3 (fun w' => w'.heap[w.heap.size]? = some (.cells #[.int .i64 0, .string ⟨#[]⟩, .int .i64 0, .int .i64 0] 33 (0, 0))) (assumption) (first
    | (go_at_call 20; refine X.mono ?_; rintro e w4 ⟨rfl, hb4⟩; have hr4 := (hb4.block _ (show w.heap.size < w3.drew.heap.size from hz3)).trans hr3'; have B4 := B3.drew.trans (hb4.mono (show w.heap.size ≤ w3.drew.heap.size from Nat.le_of_lt hz3)); have hz4 : w.heap.size < w4.heap.size := Nat.lt_of_lt_of_le (show w.heap.size < w3.drew.heap.size from hz3) hb4.size; clear k0 k1 k2 k3 f0 f1 f2 f3; obtain ⟨k0, k1, k2, k3⟩ := four_cells hr4; obtain ⟨f0, f1, f2, f3⟩ := four_free hr4))
  all_goals clear X hsl hr3' hr3 hr1 hne hp hf hrun hb1 hb3 hb4 B1 B3 hz1 hz3
  all_goals have HC := Lib.hid hc
  all_goals clear hc
  all_goals go_wp2_with (fail)
  all_goals (go_at_call 41; refine (token_any _ _ _ (fun w9 b9 => HC.out w9 (B4.trans (b9.mono B4.size)))).mono ?_; rintro e w5 ⟨rfl, hb5⟩; have hz5 : w.heap.size < w5.heap.size := Nat.lt_of_lt_of_le hz4 hb5.size; have hr5 := (hb5.block _ hz4).trans hr4; have B5 := B4.trans (hb5.mono B4.size); clear k0 k1 k2 k3 f0 f1 f2 f3 hr4 B4 hb5 HC hz4; obtain ⟨k0, k1, k2, k3⟩ := four_cells hr5; obtain ⟨f0, f1, f2, f3⟩ := four_free hr5)
  all_goals rename_i hH K1 A1 K0 A0
  all_goals have HR := Lib.hid (And.intro hr5 B5)
  all_goals have HA := Lib.hid A1
  all_goals clear hr5 B5 A1 hH
  all_goals go_wp2
  all_goals obtain ⟨hr5, B5⟩ := HR.out
  all_goals have hr6 := set_tok (z0 := .int .i64 2) (z1 := .string (t.extract 0 (1 + k))) (z2 := .int .i64 0) (z3 := .int .i64 0) hr5
  all_goals have B6 := ((((B5.setCell (p := ⟨w.heap.size, 0, none⟩) (Nat.le_refl _) (.int .i64 2)).setCell (p := ⟨w.heap.size, 1, none⟩) (Nat.le_refl _) (.string (t.extract 0 (1 + k)))).setCell (p := ⟨w.heap.size, 2, none⟩) (Nat.le_refl _) (.int .i64 0)).setCell (p := ⟨w.heap.size, 3, none⟩) (Nat.le_refl _) (.int .i64 0))
  all_goals clear k0 k1 k2 k3 f0 f1 f2 f3 hr5 B5 HR hz5
  all_goals revert hr6 B6
  all_goals generalize World.setCell (World.setCell (World.setCell (World.setCell w5 _ _) _ _) _ _) _ _ = w6
  all_goals intro hr6 B6
  all_goals obtain ⟨k0, k1, k2, k3⟩ := four_cells hr6
  all_goals obtain ⟨f0, f1, f2, f3⟩ := four_free hr6
  all_goals have HR := Lib.hid (And.intro hr6 B6)
  all_goals clear hr6 B6
  all_goals refine HA.out _ _ ?_
  all_goals clear HA
  all_goals go_wp2
  all_goals obtain ⟨hr6, B6⟩ := HR.out
  all_goals refine ret_two rfl rfl (load_tok (set_tok (heap_setCell_same w6 _ 2 _ _ _ hr6))) rfl ?_
  all_goals exact ⟨rfl, (((((B6.setCell (Nat.le_refl _) _).setCell (Nat.le_refl _) _).setCell (Nat.le_refl _) _).setCell (Nat.le_refl _) _).setCell (Nat.le_refl _) _)⟩
end Go.Proofs.YtaepplhgeeaidaaDoor
