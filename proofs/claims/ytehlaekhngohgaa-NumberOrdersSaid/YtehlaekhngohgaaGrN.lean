/- Layer 2: the walk of NumberOrders. -/
import Derived.Test.YtehlaekhngohgaaGrL
import Derived.Deep.DeepCutAuto
import Derived.Test.YtehlaekhngohgaaKeep
namespace Go.Proofs.Ytehlaekhngohgaa
set_option linter.unusedVariables false
set_option linter.unusedSimpArgs false
open Go.RowKit Go.Shelf

/-- What there was is as it was. -/
theorem bsome {W w1 : World} (hb : Below W.heap.size W w1) : (∀ a : Addr, (W.cell? a).isSome = true → w1.cell? a = W.cell? a) ∧ (∀ a : Addr, (W.cell? a).isSome = true → w1.frozen? a = W.frozen? a) := by
  have k : ∀ a : Addr, (W.cell? a).isSome = true → a.block < W.heap.size := fun a h => by
    obtain ⟨v, hv⟩ := Option.isSome_iff_exists.1 h
    exact World.block_lt_of_cell? W a hv
  exact ⟨fun a h => hb.cell (k a h), fun a h => hb.frozen (k a h)⟩

theorem is_in {op v n : Int} {vo : Bool} (h4 : 4 ≤ op) (h9 : op ≤ 9) (q : chkZ v vo = 0) : isE op v vo = 0 ∧ isB op v vo n = (if vo = true then false else cmpB op v n) := by
  have h' : ¬(op < 4 ∨ 9 < op ∨ chkZ v vo = 2) := by rw [q]; omega
  unfold isE isB; rw [if_neg h', if_neg h']; exact ⟨rfl, rfl⟩

/-- The closure that asks. -/
theorem ask_f (op v k : Int) (g : Nat) (w : World) (h4 : 4 ≤ op) (h9 : op ≤ 9) (c0 : w.cell? ⟨g, 0, none⟩ = some (.int .i64 v)) (c1 : w.cell? ⟨g, 1, none⟩ = some (.bool false)) :
    Calls Try.prog 73 #[.int .i64 op, .int .i64 k, .pointer (some ⟨g, 0, none⟩)] w fun e w' => e = .returned (.bool (cmpB op v k)) ∧ Below w.heap.size w w' ∧ w'.cell? ⟨g, 0, none⟩ = some (.int .i64 v) ∧ w'.cell? ⟨g, 1, none⟩ = some (.bool false) := by
  have I := fun W => is_any op v false k W
  have e := is_in (n := k) h4 h9 (chkZ_f v)
  rw [if_neg (by decide)] at e
  simp only [e.1, e.2] at I
  clear e
  cases hc : cmpB op v k
  all_goals
    rw [hc] at I
    clear hc
    go_enter Try.func73, Try.ntmps73
    go_wp2_with (go_at_call 51; refine (I _).mono ?_; rintro e w1 ⟨rfl, hb1⟩)
    go_ret
    have l0 : g < w.heap.size := World.block_lt_of_cell? w _ c0
    exact ⟨rfl, hb1, (hb1.cell (by exact l0)).trans c0, (hb1.cell (by exact l0)).trans c1⟩
theorem ask_t (op k : Int) (g : Nat) (w : World) (h4 : 4 ≤ op) (h9 : op ≤ 9) (c0 : w.cell? ⟨g, 0, none⟩ = some (.int .i64 0)) (c1 : w.cell? ⟨g, 1, none⟩ = some (.bool true)) :
    Calls Try.prog 73 #[.int .i64 op, .int .i64 k, .pointer (some ⟨g, 0, none⟩)] w fun e w' => e = .returned (.bool false) ∧ Below w.heap.size w w' ∧ w'.cell? ⟨g, 0, none⟩ = some (.int .i64 0) ∧ w'.cell? ⟨g, 1, none⟩ = some (.bool true) := by
  have I := fun W => is_any op 0 true k W
  have e := is_in (n := k) h4 h9 (chkZ_0 true)
  rw [if_pos rfl] at e
  simp only [e.1, e.2] at I
  clear e
  go_enter Try.func73, Try.ntmps73
  go_wp2_with (go_at_call 51; refine (I _).mono ?_; rintro e w1 ⟨rfl, hb1⟩)
  go_ret
  have l0 : g < w.heap.size := World.block_lt_of_cell? w _ c0
  exact ⟨rfl, hb1, (hb1.cell (by exact l0)).trans c0, (hb1.cell (by exact l0)).trans c1⟩

theorem ask_f' (op v k : Int) (g : Nat) (w0 w : World) (h4 : 4 ≤ op) (h9 : op ≤ 9) (hb : Below w0.heap.size w0 w) (c0 : w.cell? ⟨g, 0, none⟩ = some (.int .i64 v)) (c1 : w.cell? ⟨g, 1, none⟩ = some (.bool false)) :
    Calls Try.prog 73 #[.int .i64 op, .int .i64 k, .pointer (some ⟨g, 0, none⟩)] w fun e w' => e = .returned (.bool (cmpB op v k)) ∧ Below w0.heap.size w0 w' ∧ w'.cell? ⟨g, 0, none⟩ = some (.int .i64 v) ∧ w'.cell? ⟨g, 1, none⟩ = some (.bool false) :=
  (ask_f op v k g w h4 h9 c0 c1).mono fun _ _ ⟨h1, h2, h3, h4⟩ => ⟨h1, hb.trans (h2.mono hb.size), h3, h4⟩

set_option maxHeartbeats 4000000 in
theorem orders_bad (v : Int) (vo : Bool) (n m : Int) (w : World) (q1 : chkZ v vo = 2) : Calls Try.prog 15 #[.agg #[.int .i64 v, .bool vo], .int .i64 n, .int .i64 m] w fun e w' => e = .returned (.bool true) ∧ Below w.heap.size w w' := by
  go_enter Try.func15, Try.ntmps15
  go_wp2_with fail
  refine (lives2_any _).mono ?_
  rintro e w1 ⟨rfl, hb1⟩
  have hs1 := hb1.size
  try simp at hs1
  have c1 : w1.cell? ⟨w.heap.size, 0, none⟩ = some (.int .i64 v) := (hb1.cell (by show w.heap.size < _; first | omega | (simp; done) | (simp; omega))).trans (by simp [go_sem, World.cell?_alloc_past])
  have c2 : w1.cell? ⟨w.heap.size, 1, none⟩ = some (.bool vo) := (hb1.cell (by show w.heap.size < _; first | omega | (simp; done) | (simp; omega))).trans (by simp [go_sem, World.cell?_alloc_past])
  have hz1_0 : w.heap.size < w1.heap.size := by omega
  have bb1 : Below w.heap.size w w1 := (by repeat (first | exact Below.refl _ _ | assumption | refine Below.drew ?_ | refine below_drewN ?_ _ | refine Below.setCell ?_ (by first | omega | (simp; done) | (simp; omega)) _ | refine Below.alloc ?_ (by first | omega | (simp; done) | (simp; omega)) _ | refine Below.trans ?_ (Below.mono (by assumption) (by first | omega | (simp; done) | (simp; omega)))))
  clear hb1
  go_wp2_with fail
  refine (check_any _ _ _).mono ?_
  rintro e w2 ⟨rfl, hb2⟩
  have hs2 := hb2.size
  try simp at hs2
  have c3 : w2.cell? ⟨w.heap.size, 0, none⟩ = some (.int .i64 v) := (hb2.cell (by show w.heap.size < _; first | omega | (simp; done) | (simp; omega))).trans (by first | exact c1 | exact (World.cell?_alloc_lt _ _ _ (by show w.heap.size < _; first | omega | (simp; done) | (simp; omega))).trans c1 | (simp [go_sem, World.cell?_alloc_past, *]; done))
  have c4 : w2.cell? ⟨w.heap.size, 1, none⟩ = some (.bool vo) := (hb2.cell (by show w.heap.size < _; first | omega | (simp; done) | (simp; omega))).trans (by first | exact c2 | exact (World.cell?_alloc_lt _ _ _ (by show w.heap.size < _; first | omega | (simp; done) | (simp; omega))).trans c2 | (simp [go_sem, World.cell?_alloc_past, *]; done))
  clear c1 c2
  have hz2_0 : w.heap.size < w2.heap.size := by omega
  have bb2 : Below w.heap.size w w2 := (by repeat (first | exact Below.refl _ _ | assumption | refine Below.drew ?_ | refine below_drewN ?_ _ | refine Below.setCell ?_ (by first | omega | (simp; done) | (simp; omega)) _ | refine Below.alloc ?_ (by first | omega | (simp; done) | (simp; omega)) _ | refine Below.trans ?_ (Below.mono (by assumption) (by first | omega | (simp; done) | (simp; omega)))))
  clear hb2 bb1
  go_wp2
  go_ret
  exact ⟨rfl, (by repeat (first | exact Below.refl _ _ | assumption | refine Below.drew ?_ | refine below_drewN ?_ _ | refine Below.setCell ?_ (by first | omega | (simp; done) | (simp; omega)) _ | refine Below.alloc ?_ (by first | omega | (simp; done) | (simp; omega)) _ | refine Below.trans ?_ (Below.mono (by assumption) (by first | omega | (simp; done) | (simp; omega)))))⟩

set_option maxHeartbeats 8000000 in
theorem orders_over (n m : Int) (w : World) : Calls Try.prog 15 #[.agg #[.int .i64 0, .bool true], .int .i64 n, .int .i64 m] w fun e w' => e = .returned (.bool true) ∧ Below w.heap.size w w' := by
  have q1 := chkZ_0 true
  have hmf : ∀ (fn : Fn) (first cap : Array Value) (w : World), (Instr.makeFunc fn first cap).run Try.prog w = .ok (.func fn first cap) w := fun _ _ _ _ => rfl
  go_enter Try.func15, Try.ntmps15
  go_wp2_with fail
  refine (lives2_any _).mono ?_
  rintro e w1 ⟨rfl, hb1⟩
  have hs1 := hb1.size
  try simp at hs1
  have c1 : w1.cell? ⟨w.heap.size, 0, none⟩ = some (.int .i64 0) := (hb1.cell (by show w.heap.size < _; first | omega | (simp; done) | (simp; omega))).trans (by simp [go_sem, World.cell?_alloc_past])
  have c2 : w1.cell? ⟨w.heap.size, 1, none⟩ = some (.bool true) := (hb1.cell (by show w.heap.size < _; first | omega | (simp; done) | (simp; omega))).trans (by simp [go_sem, World.cell?_alloc_past])
  have hz1_0 : w.heap.size < w1.heap.size := by omega
  have bb1 : Below w.heap.size w w1 := (by repeat (first | exact Below.refl _ _ | assumption | refine Below.drew ?_ | refine below_drewN ?_ _ | refine Below.setCell ?_ (by first | omega | (simp; done) | (simp; omega)) _ | refine Below.alloc ?_ (by first | omega | (simp; done) | (simp; omega)) _ | refine Below.trans ?_ (Below.mono (by assumption) (by first | omega | (simp; done) | (simp; omega)))))
  clear hb1
  go_wp2_with fail
  refine (check_any _ _ _).mono ?_
  rintro e w2 ⟨rfl, hb2⟩
  have hs2 := hb2.size
  try simp at hs2
  have c3 : w2.cell? ⟨w.heap.size, 0, none⟩ = some (.int .i64 0) := (hb2.cell (by show w.heap.size < _; first | omega | (simp; done) | (simp; omega))).trans (by first | exact c1 | exact (World.cell?_alloc_lt _ _ _ (by show w.heap.size < _; first | omega | (simp; done) | (simp; omega))).trans c1 | (simp [go_sem, World.cell?_alloc_past, *]; done))
  have c4 : w2.cell? ⟨w.heap.size, 1, none⟩ = some (.bool true) := (hb2.cell (by show w.heap.size < _; first | omega | (simp; done) | (simp; omega))).trans (by first | exact c2 | exact (World.cell?_alloc_lt _ _ _ (by show w.heap.size < _; first | omega | (simp; done) | (simp; omega))).trans c2 | (simp [go_sem, World.cell?_alloc_past, *]; done))
  clear c1 c2
  have hz2_0 : w.heap.size < w2.heap.size := by omega
  have bb2 : Below w.heap.size w w2 := (by repeat (first | exact Below.refl _ _ | assumption | refine Below.drew ?_ | refine below_drewN ?_ _ | refine Below.setCell ?_ (by first | omega | (simp; done) | (simp; omega)) _ | refine Below.alloc ?_ (by first | omega | (simp; done) | (simp; omega)) _ | refine Below.trans ?_ (Below.mono (by assumption) (by first | omega | (simp; done) | (simp; omega)))))
  clear hb2 bb1
  go_wp2_with (first | (go_at_call 73; refine (ask_t _ _ _ _ (by omega) (by omega) (by assumption) (by assumption)).mono ?_; rintro e w1 ⟨rfl, hb1, ca, cb⟩; have hs1 := hb1.size))
  go_ret
  exact ⟨rfl, (by repeat (first | exact Below.refl _ _ | assumption | refine Below.drew ?_ | refine below_drewN ?_ _ | refine Below.setCell ?_ (by first | omega | (simp; done) | (simp; omega)) _ | refine Below.alloc ?_ (by first | omega | (simp; done) | (simp; omega)) _ | refine Below.trans ?_ (Below.mono (by assumption) (by first | omega | (simp; done) | (simp; omega)))))⟩

/-- What the comparisons answer, below, at, above. -/
theorem cmp_lt {v n : Int} (h : v < n) : cmpB 4 v n = true ∧ cmpB 5 v n = true ∧ cmpB 6 v n = false ∧ cmpB 7 v n = false ∧ cmpB 8 v n = false ∧ cmpB 9 v n = true := by
  refine ⟨?_, ?_, ?_, ?_, ?_, ?_⟩ <;> simp [cmpB] <;> omega
theorem cmp_eq (n : Int) : cmpB 4 n n = false ∧ cmpB 5 n n = true ∧ cmpB 6 n n = false ∧ cmpB 7 n n = true ∧ cmpB 8 n n = true ∧ cmpB 9 n n = false := by
  refine ⟨?_, ?_, ?_, ?_, ?_, ?_⟩ <;> simp [cmpB]
theorem cmp_eq' {v n : Int} (h : v = n) : cmpB 4 v n = false ∧ cmpB 5 v n = true ∧ cmpB 6 v n = false ∧ cmpB 7 v n = true ∧ cmpB 8 v n = true ∧ cmpB 9 v n = false := by
  subst h; exact cmp_eq v
theorem cmp_gt {v n : Int} (h : n < v) : cmpB 4 v n = false ∧ cmpB 5 v n = false ∧ cmpB 6 v n = true ∧ cmpB 7 v n = true ∧ cmpB 8 v n = false ∧ cmpB 9 v n = true := by
  refine ⟨?_, ?_, ?_, ?_, ?_, ?_⟩ <;> simp [cmpB] <;> omega
/-- What the difference tells. -/
theorem diff_tells (v n : Int) : doB 2 v false n false = true ∨ (doB 2 v false n false = false ∧ (decide (doN 2 v false n false < 0)) = cmpB 4 v n) := by
  cases h : doB 2 v false n false with
  | true => exact .inl rfl
  | false =>
    refine .inr ⟨rfl, ?_⟩
    rw [(do_in (by omega) (by omega) (chkZ_f v) (chkZ_f n) h).2.2]
    simp [doX, cmpB]
    omega

set_option maxRecDepth 100000 in
set_option maxHeartbeats 16000000 in
theorem orders_in (v n m : Int) (w : World) (sv : SW v) (sn : SW n) : Calls Try.prog 15 #[.agg #[.int .i64 v, .bool false], .int .i64 n, .int .i64 m] w fun e w' => e = .returned (.bool true) ∧ Below w.heap.size w w' := by
  have q1 := chkZ_f v
  have hmf : ∀ (fn : Fn) (first cap : Array Value) (w : World), (Instr.makeFunc fn first cap).run Try.prog w = .ok (.func fn first cap) w := fun _ _ _ _ => rfl
  have HD := Lib.hid (diff_tells v n)
  go_enter Try.func15, Try.ntmps15
  go_wp2_with fail
  refine (lives2_any _).mono ?_
  rintro e w1 ⟨rfl, hb1⟩
  have hs1 := hb1.size
  try simp at hs1
  have c1 : w1.cell? ⟨w.heap.size, 0, none⟩ = some (.int .i64 v) := (hb1.cell (by show w.heap.size < _; first | omega | (simp; done) | (simp; omega))).trans (by simp [go_sem, World.cell?_alloc_past])
  have c2 : w1.cell? ⟨w.heap.size, 1, none⟩ = some (.bool false) := (hb1.cell (by show w.heap.size < _; first | omega | (simp; done) | (simp; omega))).trans (by simp [go_sem, World.cell?_alloc_past])
  have hz1_0 : w.heap.size < w1.heap.size := by omega
  have bb1 : Below w.heap.size w w1 := (by repeat (first | exact Below.refl _ _ | assumption | refine Below.drew ?_ | refine below_drewN ?_ _ | refine Below.setCell ?_ (by first | omega | (simp; done) | (simp; omega)) _ | refine Below.alloc ?_ (by first | omega | (simp; done) | (simp; omega)) _ | refine Below.trans ?_ (Below.mono (by assumption) (by first | omega | (simp; done) | (simp; omega)))))
  clear hb1
  go_wp2_with fail
  refine (check_any _ _ _).mono ?_
  rintro e w2 ⟨rfl, hb2⟩
  have hs2 := hb2.size
  try simp at hs2
  have c3 : w2.cell? ⟨w.heap.size, 0, none⟩ = some (.int .i64 v) := (hb2.cell (by show w.heap.size < _; first | omega | (simp; done) | (simp; omega))).trans (by first | exact c1 | exact (World.cell?_alloc_lt _ _ _ (by show w.heap.size < _; first | omega | (simp; done) | (simp; omega))).trans c1 | (simp [go_sem, World.cell?_alloc_past, *]; done))
  have c4 : w2.cell? ⟨w.heap.size, 1, none⟩ = some (.bool false) := (hb2.cell (by show w.heap.size < _; first | omega | (simp; done) | (simp; omega))).trans (by first | exact c2 | exact (World.cell?_alloc_lt _ _ _ (by show w.heap.size < _; first | omega | (simp; done) | (simp; omega))).trans c2 | (simp [go_sem, World.cell?_alloc_past, *]; done))
  clear c1 c2
  have hz2_0 : w.heap.size < w2.heap.size := by omega
  have bb2 : Below w.heap.size w w2 := (by repeat (first | exact Below.refl _ _ | assumption | refine Below.drew ?_ | refine below_drewN ?_ _ | refine Below.setCell ?_ (by first | omega | (simp; done) | (simp; omega)) _ | refine Below.alloc ?_ (by first | omega | (simp; done) | (simp; omega)) _ | refine Below.trans ?_ (Below.mono (by assumption) (by first | omega | (simp; done) | (simp; omega)))))
  clear hb2 bb1
  go_upto_region 8 with fail
  refine wp_world (fun W => W.cell? ⟨w.heap.size, 0, none⟩ = some (.int .i64 v) ∧ W.cell? ⟨w.heap.size, 1, none⟩ = some (.bool false) ∧ w.heap.size < W.heap.size ∧ Below w.heap.size w W) ⟨by first | assumption | exact (World.cell?_alloc_lt _ _ _ (by show w.heap.size < _; first | omega | (simp; done) | (simp; omega))).trans (by assumption) | simp [go_sem, World.cell?_alloc_past], by first | assumption | exact (World.cell?_alloc_lt _ _ _ (by show w.heap.size < _; first | omega | (simp; done) | (simp; omega))).trans (by assumption) | simp [go_sem, World.cell?_alloc_past], (by first | omega | (simp; done) | (simp; omega)), (by repeat (first | exact Below.refl _ _ | assumption | refine Below.drew ?_ | refine below_drewN ?_ _ | refine Below.setCell ?_ (by first | omega | (simp; done) | (simp; omega)) _ | refine Below.alloc ?_ (by first | omega | (simp; done) | (simp; omega)) _ | refine Below.trans ?_ (Below.mono (by assumption) (by first | omega | (simp; done) | (simp; omega)))))⟩ ?_
  rintro W0 ⟨c0, c1, hz0, hb0⟩
  go_cut [8] (fun v8 wx => ∃ g8 : Nat, v8 = .pointer (some ⟨g8, 0, none⟩) ∧ wx.cell? ⟨w.heap.size, 0, none⟩ = some (.int .i64 v) ∧ wx.cell? ⟨w.heap.size, 1, none⟩ = some (.bool false) ∧ wx.cell? ⟨g8, 0, none⟩ = some (.int .i64 (doN 2 v false n false)) ∧ wx.cell? ⟨g8, 1, none⟩ = some (.bool (doB 2 v false n false)) ∧ Below w.heap.size w wx)
  case first =>
    go_region_with (first | (go_at_call 72; refine (ldo_any 2 v false n false _ sv sn (by omega) (by omega) (chkZ_f v) (chkZ_f n)).mono ?_; rintro e wD ⟨rfl, hbD⟩; (try (refine (fun (x9 : wD.cell? ⟨w.heap.size, 0, none⟩ = some (.int .i64 v)) => ?_) ?_; rotate_left; (focus (refine keepc hbD ?_; all_goals (with_reducible (repeat (first | assumption | exact newc20 | exact newc21 | refine keepa ?_ | refine drewc ?_))); done)))); (try (refine (fun (x10 : wD.cell? ⟨w.heap.size, 1, none⟩ = some (.bool false)) => ?_) ?_; rotate_left; (focus (refine keepc hbD ?_; all_goals (with_reducible (repeat (first | assumption | exact newc20 | exact newc21 | refine keepa ?_ | refine drewc ?_))); done)))); (try (refine (fun (x11 : w.heap.size < wD.heap.size) => ?_) ?_; rotate_left; (focus (refine keepz hbD ?_; all_goals (with_reducible (repeat (first | assumption | exact newz | refine allocz ?_ | refine drewz ?_))); done)))); (try (refine (fun (x12 : wD.cell? ⟨W0.heap.size, 0, none⟩ = some (.int .i64 0)) => ?_) ?_; rotate_left; (focus (refine keepc hbD ?_; all_goals (with_reducible (repeat (first | assumption | exact newc20 | exact newc21 | refine keepa ?_ | refine drewc ?_))); done)))); (try (refine (fun (x13 : wD.cell? ⟨W0.heap.size, 1, none⟩ = some (.bool false)) => ?_) ?_; rotate_left; (focus (refine keepc hbD ?_; all_goals (with_reducible (repeat (first | assumption | exact newc20 | exact newc21 | refine keepa ?_ | refine drewc ?_))); done)))); (try (refine (fun (x14 : wD.frozen? ⟨W0.heap.size, 0, none⟩ = false) => ?_) ?_; rotate_left; (focus (refine keepf (v := .int .i64 0) hbD ?_ ?_; all_goals (with_reducible (repeat (first | assumption | exact newf _ | exact newc20 | exact newc21 | refine keepaf ?_ ?_ | refine drewf ?_ | refine keepa ?_ | refine drewc ?_))); done)))); (try (refine (fun (x15 : wD.frozen? ⟨W0.heap.size, 1, none⟩ = false) => ?_) ?_; rotate_left; (focus (refine keepf (v := .bool false) hbD ?_ ?_; all_goals (with_reducible (repeat (first | assumption | exact newf _ | exact newc20 | exact newc21 | refine keepaf ?_ ?_ | refine drewf ?_ | refine keepa ?_ | refine drewc ?_))); done)))); (try (refine (fun (x16 : W0.heap.size < wD.heap.size) => ?_) ?_; rotate_left; (focus (refine keepz hbD ?_; all_goals (with_reducible (repeat (first | assumption | exact newz | refine allocz ?_ | refine drewz ?_))); done)))); (try (refine (fun (x17 : wD.cell? ⟨wO.heap.size, 0, none⟩ = some (.int .i64 0)) => ?_) ?_; rotate_left; (focus (refine keepc hbD ?_; all_goals (with_reducible (repeat (first | assumption | exact newc20 | exact newc21 | refine keepa ?_ | refine drewc ?_))); done)))); (try (refine (fun (x18 : wD.cell? ⟨wO.heap.size, 1, none⟩ = some (.bool false)) => ?_) ?_; rotate_left; (focus (refine keepc hbD ?_; all_goals (with_reducible (repeat (first | assumption | exact newc20 | exact newc21 | refine keepa ?_ | refine drewc ?_))); done)))); (try (refine (fun (x19 : wD.frozen? ⟨wO.heap.size, 0, none⟩ = false) => ?_) ?_; rotate_left; (focus (refine keepf (v := .int .i64 0) hbD ?_ ?_; all_goals (with_reducible (repeat (first | assumption | exact newf _ | exact newc20 | exact newc21 | refine keepaf ?_ ?_ | refine drewf ?_ | refine keepa ?_ | refine drewc ?_))); done)))); (try (refine (fun (x20 : wD.frozen? ⟨wO.heap.size, 1, none⟩ = false) => ?_) ?_; rotate_left; (focus (refine keepf (v := .bool false) hbD ?_ ?_; all_goals (with_reducible (repeat (first | assumption | exact newf _ | exact newc20 | exact newc21 | refine keepaf ?_ ?_ | refine drewf ?_ | refine keepa ?_ | refine drewc ?_))); done)))); (try (refine (fun (x21 : wO.heap.size < wD.heap.size) => ?_) ?_; rotate_left; (focus (refine keepz hbD ?_; all_goals (with_reducible (repeat (first | assumption | exact newz | refine allocz ?_ | refine drewz ?_))); done))))) | (go_at_call 53; refine (of_any _ _).mono ?_; rintro e wO ⟨rfl, hbO⟩; (try (refine (fun (x1 : wO.cell? ⟨w.heap.size, 0, none⟩ = some (.int .i64 v)) => ?_) ?_; rotate_left; (focus (refine keepc hbO ?_; all_goals (with_reducible (repeat (first | assumption | exact newc20 | exact newc21 | refine keepa ?_ | refine drewc ?_))); done)))); (try (refine (fun (x2 : wO.cell? ⟨w.heap.size, 1, none⟩ = some (.bool false)) => ?_) ?_; rotate_left; (focus (refine keepc hbO ?_; all_goals (with_reducible (repeat (first | assumption | exact newc20 | exact newc21 | refine keepa ?_ | refine drewc ?_))); done)))); (try (refine (fun (x3 : w.heap.size < wO.heap.size) => ?_) ?_; rotate_left; (focus (refine keepz hbO ?_; all_goals (with_reducible (repeat (first | assumption | exact newz | refine allocz ?_ | refine drewz ?_))); done)))); (try (refine (fun (x4 : wO.cell? ⟨W0.heap.size, 0, none⟩ = some (.int .i64 0)) => ?_) ?_; rotate_left; (focus (refine keepc hbO ?_; all_goals (with_reducible (repeat (first | assumption | exact newc20 | exact newc21 | refine keepa ?_ | refine drewc ?_))); done)))); (try (refine (fun (x5 : wO.cell? ⟨W0.heap.size, 1, none⟩ = some (.bool false)) => ?_) ?_; rotate_left; (focus (refine keepc hbO ?_; all_goals (with_reducible (repeat (first | assumption | exact newc20 | exact newc21 | refine keepa ?_ | refine drewc ?_))); done)))); (try (refine (fun (x6 : wO.frozen? ⟨W0.heap.size, 0, none⟩ = false) => ?_) ?_; rotate_left; (focus (refine keepf (v := .int .i64 0) hbO ?_ ?_; all_goals (with_reducible (repeat (first | assumption | exact newf _ | exact newc20 | exact newc21 | refine keepaf ?_ ?_ | refine drewf ?_ | refine keepa ?_ | refine drewc ?_))); done)))); (try (refine (fun (x7 : wO.frozen? ⟨W0.heap.size, 1, none⟩ = false) => ?_) ?_; rotate_left; (focus (refine keepf (v := .bool false) hbO ?_ ?_; all_goals (with_reducible (repeat (first | assumption | exact newf _ | exact newc20 | exact newc21 | refine keepaf ?_ ?_ | refine drewf ?_ | refine keepa ?_ | refine drewc ?_))); done)))); (try (refine (fun (x8 : W0.heap.size < wO.heap.size) => ?_) ?_; rotate_left; (focus (refine keepz hbO ?_; all_goals (with_reducible (repeat (first | assumption | exact newz | refine allocz ?_ | refine drewz ?_))); done))))))
    trace "n"
    all_goals (go_wp2_with fail)
    all_goals go_meet
    all_goals (refine ⟨_, rfl, ?_, ?_, ?_, ?_, (by repeat (first | exact Below.refl _ _ | assumption | refine Below.drew ?_ | refine below_drewN ?_ _ | refine Below.setCell ?_ (by first | omega | (simp; done) | (simp; omega)) _ | refine Below.alloc ?_ (by first | omega | (simp; done) | (simp; omega)) _ | refine Below.trans ?_ (Below.mono (by assumption) (by first | omega | (simp; done) | (simp; omega)))))⟩)
    all_goals first | (simp [go_sem, World.cell?_alloc_past, *]; done) | (refine setc (setc ?_ ?_) ?_ <;> first | assumption | (simp; omega))
  case rest =>
    obtain ⟨g8, rfl, k0, k1, k2, k3, hbc⟩ := hcut
    have z0 : w.heap.size < wc.heap.size := lt_of_cell k0
    have z8 : g8 < wc.heap.size := lt_of_cell k2
    have mkS : ∀ W : World, Below wc.heap.size wc W → (W.cell? ⟨w.heap.size, 0, none⟩ = some (.int .i64 v) ∧ W.cell? ⟨w.heap.size, 1, none⟩ = some (.bool false) ∧ W.cell? ⟨g8, 0, none⟩ = some (.int .i64 (doN 2 v false n false)) ∧ W.cell? ⟨g8, 1, none⟩ = some (.bool (doB 2 v false n false)) ∧ Below wc.heap.size wc W) := fun W hb => ⟨(hb.cell (by show w.heap.size < _; omega)).trans k0, (hb.cell (by show w.heap.size < _; omega)).trans k1, (hb.cell (by show g8 < _; omega)).trans k2, (hb.cell (by show g8 < _; omega)).trans k3, hb⟩
    have unS : ∀ W : World, (W.cell? ⟨w.heap.size, 0, none⟩ = some (.int .i64 v) ∧ W.cell? ⟨w.heap.size, 1, none⟩ = some (.bool false) ∧ W.cell? ⟨g8, 0, none⟩ = some (.int .i64 (doN 2 v false n false)) ∧ W.cell? ⟨g8, 1, none⟩ = some (.bool (doB 2 v false n false)) ∧ Below wc.heap.size wc W) → Below wc.heap.size wc W := fun W h => h.2.2.2.2
    go_upto_region 9 with fail
    go_cut [66] (fun v66 wx => v66 = .bool false ∧ wx.cell? ⟨w.heap.size, 0, none⟩ = some (.int .i64 v) ∧ wx.cell? ⟨w.heap.size, 1, none⟩ = some (.bool false) ∧ Below w.heap.size w wx)
    case first =>
      rcases HD.out with hd | ⟨hd, hdd⟩
      · go_quiet (fail)
        go_wp2_with fail
        go_meet
        exact ⟨rfl, k0, k1, below_drewN hbc _⟩
      · go_region_held3 (fun w' => w'.cell? ⟨w.heap.size, 0, none⟩ = some (.int .i64 v) ∧ w'.cell? ⟨w.heap.size, 1, none⟩ = some (.bool false) ∧ w'.cell? ⟨g8, 0, none⟩ = some (.int .i64 (doN 2 v false n false)) ∧ w'.cell? ⟨g8, 1, none⟩ = some (.bool (doB 2 v false n false)) ∧ Below wc.heap.size wc w') (exact mkS _ (by repeat (first | exact Below.refl _ _ | assumption | exact unS _ (by assumption) | refine Below.drew ?_ | refine below_drewN ?_ _ | refine Below.setCell ?_ (by first | omega | (simp; done) | (simp; omega)) _ | refine Below.alloc ?_ (by first | omega | (simp; done) | (simp; omega)) _ | refine Below.trans ?_ (Below.mono (by assumption) (by first | omega | (simp; done) | (simp; omega)))))) (first | (go_at_call 73; obtain ⟨q0, q1, _⟩ := mkS _ (unS _ (by assumption)); refine (ask_f _ _ _ _ _ (by omega) (by omega) q0 q1).mono ?_; rintro e w1 ⟨rfl, hb1, ca, cb⟩; have hs1 := hb1.size; (try simp at hs1)))
        have hq := unS _ (by assumption)
        obtain ⟨ca, cb, _⟩ := mkS _ hq
        go_wp2_with fail
        go_meet
        exact ⟨rfl, ca, cb, hbc.trans (hq.mono hbc.size)⟩
    case rest =>
      obtain ⟨rfl, ca, cb, hbb⟩ := hcut
      clear k0 k1 k2 k3 hbc z0 z8 mkS unS
      rcases Int.lt_trichotomy v n with hvn | hvn | hvn
      · obtain ⟨t4, t5, t6, t7, t8, t9⟩ := cmp_lt hvn
        by_cases hnm : m < n
        · go_wp2_with (go_at_call 73; refine (ask_f' _ _ _ _ w _ (by omega) (by omega) hbb ca cb).mono ?_; clear hbb ca cb; rintro e w1 ⟨rfl, hbb, ca, cb⟩)
          go_ret
          exact ⟨rfl, hbb⟩
        · have t4m := (cmp_lt (v := v) (n := m) (by omega)).1
          go_wp2_with (go_at_call 73; refine (ask_f' _ _ _ _ w _ (by omega) (by omega) hbb ca cb).mono ?_; clear hbb ca cb; rintro e w1 ⟨rfl, hbb, ca, cb⟩)
          go_ret
          exact ⟨rfl, hbb⟩
      · obtain ⟨t4, t5, t6, t7, t8, t9⟩ := cmp_eq' hvn
        clear hvn
        by_cases hnm : m < n
        · go_wp2_with (go_at_call 73; refine (ask_f' _ _ _ _ w _ (by omega) (by omega) hbb ca cb).mono ?_; clear hbb ca cb; rintro e w1 ⟨rfl, hbb, ca, cb⟩)
          go_ret
          exact ⟨rfl, hbb⟩
        · go_wp2_with (go_at_call 73; refine (ask_f' _ _ _ _ w _ (by omega) (by omega) hbb ca cb).mono ?_; clear hbb ca cb; rintro e w1 ⟨rfl, hbb, ca, cb⟩)
          go_ret
          exact ⟨rfl, hbb⟩
      · obtain ⟨t4, t5, t6, t7, t8, t9⟩ := cmp_gt hvn
        by_cases hnm : m < n
        · go_wp2_with (go_at_call 73; refine (ask_f' _ _ _ _ w _ (by omega) (by omega) hbb ca cb).mono ?_; clear hbb ca cb; rintro e w1 ⟨rfl, hbb, ca, cb⟩)
          go_ret
          exact ⟨rfl, hbb⟩
        · go_wp2_with (go_at_call 73; refine (ask_f' _ _ _ _ w _ (by omega) (by omega) hbb ca cb).mono ?_; clear hbb ca cb; rintro e w1 ⟨rfl, hbb, ca, cb⟩)
          go_ret
          exact ⟨rfl, hbb⟩
end Go.Proofs.Ytehlaekhngohgaa
