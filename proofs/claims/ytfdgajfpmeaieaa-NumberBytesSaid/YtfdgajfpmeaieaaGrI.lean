/- Layer 2: the statements' examples (lives), and their do. -/
import Derived.Test.YtfdgajfpmeaieaaGrH
import Derived.Deep.RegionHeld3
namespace Go.Proofs.Ytfdgajfpmeaieaa
set_option linter.unusedVariables false
set_option linter.unusedSimpArgs false
open Go.RowKit Go.Shelf

theorem sw_of {n : Int} (h1 : -9223372036854775808 ≤ n) (h2 : n ≤ 9223372036854775807) : SW n := ⟨h1, h2⟩
theorem uw_of {n : Int} (h1 : 0 ≤ n) (h2 : n < 18446744073709551616) : UW n := ⟨h1, h2⟩

theorem do_l1 (w : World) : Calls Try.prog 10 #[.int .i64 3, .agg #[.int .i64 4294967296, .bool false], .agg #[.int .i64 2147483648, .bool false]] w fun e w' => e = .returned (.tuple #[.agg #[.int .i64 0, .bool true], .int .i64 0]) ∧ Below w.heap.size w w' := by
  have h := do_any 3 4294967296 false 2147483648 false w (sw_of (by omega) (by omega)) (sw_of (by omega) (by omega))
  obtain ⟨e1, e2, e3⟩ := do_ok (op := 3) (a := 4294967296) (b := 2147483648) (by omega)
  have e4 : doX 3 4294967296 2147483648 = 9223372036854775808 := by simp [doX]
  obtain ⟨e5, e6⟩ := out_t (S := 9223372036854775808) (o := 0) (by omega)
  rw [e1, e2, e3, e4, e5, e6] at h
  exact h
theorem do_l2 (w : World) : Calls Try.prog 10 #[.int .i64 3, .agg #[.int .i64 (-4294967296), .bool false], .agg #[.int .i64 2147483648, .bool false]] w fun e w' => e = .returned (.tuple #[.agg #[.int .i64 (-9223372036854775808), .bool false], .int .i64 0]) ∧ Below w.heap.size w w' := by
  have h := do_any 3 (-4294967296) false 2147483648 false w (sw_of (by omega) (by omega)) (sw_of (by omega) (by omega))
  obtain ⟨e1, e2, e3⟩ := do_ok (op := 3) (a := -4294967296) (b := 2147483648) (by omega)
  have e4 : doX 3 (-4294967296) 2147483648 = -9223372036854775808 := by simp [doX]
  obtain ⟨e5, e6⟩ := out_f (S := -9223372036854775808) (o := 0) (by omega)
  rw [e1, e2, e3, e4, e5, e6] at h
  exact h
theorem put_l1 (w : World) : Calls Try.prog 18 #[.agg #[.int .i64 0, .int .u64 0, .int .u64 0], .agg #[.int .i64 9223372036854775807, .bool false]] w fun e w' => e = .returned (.agg #[.int .i64 0, .int .u64 9223372036854775807, .int .u64 0]) ∧ Below w.heap.size w w' := by
  have h := put_any 0 0 0 9223372036854775807 false w (sw_of (by omega) (by omega)) (uw_of (by omega) (by omega)) (uw_of (by omega) (by omega)) (sw_of (by omega) (by omega))
  rw [show hiP 0 0 (oh 9223372036854775807 false) (ol 9223372036854775807 false) = 0 by decide +kernel, show loP 0 (ol 9223372036854775807 false) = 9223372036854775807 by decide +kernel, show loP 0 (oo false) = 0 by decide +kernel] at h
  exact h
theorem put_l2 (w : World) : Calls Try.prog 18 #[.agg #[.int .i64 0, .int .u64 9223372036854775807, .int .u64 0], .agg #[.int .i64 1, .bool false]] w fun e w' => e = .returned (.agg #[.int .i64 0, .int .u64 9223372036854775808, .int .u64 0]) ∧ Below w.heap.size w w' := by
  have h := put_any 0 9223372036854775807 0 1 false w (sw_of (by omega) (by omega)) (uw_of (by omega) (by omega)) (uw_of (by omega) (by omega)) (sw_of (by omega) (by omega))
  rw [show hiP 0 9223372036854775807 (oh 1 false) (ol 1 false) = 0 by decide +kernel, show loP 9223372036854775807 (ol 1 false) = 9223372036854775808 by decide +kernel, show loP 0 (oo false) = 0 by decide +kernel] at h
  exact h
theorem take_l1 (w : World) : Calls Try.prog 20 #[.agg #[.int .i64 0, .int .u64 9223372036854775808, .int .u64 0], .agg #[.int .i64 1, .bool false]] w fun e w' => e = .returned (.agg #[.int .i64 0, .int .u64 9223372036854775807, .int .u64 0]) ∧ Below w.heap.size w w' := by
  have h := take_any 0 9223372036854775808 0 1 false w (sw_of (by omega) (by omega)) (uw_of (by omega) (by omega)) (uw_of (by omega) (by omega)) (sw_of (by omega) (by omega))
  rw [show hiM 0 9223372036854775808 (oh 1 false) (ol 1 false) = 0 by decide +kernel, show loM 9223372036854775808 (ol 1 false) = 9223372036854775807 by decide +kernel, show loM 0 (oo false) = 0 by decide +kernel] at h
  exact h
theorem val_l1 (w : World) : Calls Try.prog 24 #[.agg #[.int .i64 0, .int .u64 9223372036854775808, .int .u64 0]] w fun e w' => e = .returned (.agg #[.int .i64 0, .bool true]) ∧ Below w.heap.size w w' := by
  have h := vof_any 0 9223372036854775808 0 w (sw_of (by omega) (by omega)) (uw_of (by omega) (by omega)) (uw_of (by omega) (by omega))
  rw [show outN (0 * 18446744073709551616 + 9223372036854775808) 0 = 0 by decide +kernel, show outB (0 * 18446744073709551616 + 9223372036854775808) 0 = true by decide +kernel] at h
  exact h
theorem val_l2 (w : World) : Calls Try.prog 24 #[.agg #[.int .i64 0, .int .u64 9223372036854775807, .int .u64 0]] w fun e w' => e = .returned (.agg #[.int .i64 9223372036854775807, .bool false]) ∧ Below w.heap.size w w' := by
  have h := vof_any 0 9223372036854775807 0 w (sw_of (by omega) (by omega)) (uw_of (by omega) (by omega)) (uw_of (by omega) (by omega))
  rw [show outN (0 * 18446744073709551616 + 9223372036854775807) 0 = 9223372036854775807 by decide +kernel, show outB (0 * 18446744073709551616 + 9223372036854775807) 0 = false by decide +kernel] at h
  exact h

set_option maxHeartbeats 4000000 in
theorem lives2_any (w : World) : Calls Try.prog 9 #[] w fun e w' => e = .returned (.bool true) ∧ Below w.heap.size w w' := by
  go_enter Try.func9, Try.ntmps9
  go_wp2_with fail
  refine (of_any _ _).mono ?_
  rintro e w1 ⟨rfl, hb1⟩
  have hs1 := hb1.size
  try simp at hs1
  have bb1 : Below w.heap.size w w1 := (by repeat (first | exact Below.refl _ _ | assumption | refine Below.drew ?_ | refine below_drewN ?_ _ | refine Below.setCell ?_ (by first | omega | (simp; done) | (simp; omega)) _ | refine Below.alloc ?_ (by first | omega | (simp; done) | (simp; omega)) _ | refine Below.trans ?_ (Below.mono (by assumption) (by first | omega | (simp; done) | (simp; omega)))))
  clear hb1
  go_wp2_with fail
  refine (of_any _ _).mono ?_
  rintro e w2 ⟨rfl, hb2⟩
  have hs2 := hb2.size
  try simp at hs2
  have bb2 : Below w.heap.size w w2 := (by repeat (first | exact Below.refl _ _ | assumption | refine Below.drew ?_ | refine below_drewN ?_ _ | refine Below.setCell ?_ (by first | omega | (simp; done) | (simp; omega)) _ | refine Below.alloc ?_ (by first | omega | (simp; done) | (simp; omega)) _ | refine Below.trans ?_ (Below.mono (by assumption) (by first | omega | (simp; done) | (simp; omega)))))
  clear hb2 bb1
  go_wp2_with fail
  refine (do_l1 _).mono ?_
  rintro e w3 ⟨rfl, hb3⟩
  have hs3 := hb3.size
  try simp at hs3
  have bb3 : Below w.heap.size w w3 := (by repeat (first | exact Below.refl _ _ | assumption | refine Below.drew ?_ | refine below_drewN ?_ _ | refine Below.setCell ?_ (by first | omega | (simp; done) | (simp; omega)) _ | refine Below.alloc ?_ (by first | omega | (simp; done) | (simp; omega)) _ | refine Below.trans ?_ (Below.mono (by assumption) (by first | omega | (simp; done) | (simp; omega)))))
  clear hb3 bb2
  go_wp2_with fail
  refine (of_any _ _).mono ?_
  rintro e w4 ⟨rfl, hb4⟩
  have hs4 := hb4.size
  try simp at hs4
  have c1 : w4.cell? ⟨w3.heap.size, 0, none⟩ = some (.int .i64 0) := (hb4.cell (by show w3.heap.size < _; first | omega | (simp; done) | (simp; omega))).trans (by simp [go_sem, World.cell?_alloc_past])
  have c2 : w4.cell? ⟨w3.heap.size, 1, none⟩ = some (.bool true) := (hb4.cell (by show w3.heap.size < _; first | omega | (simp; done) | (simp; omega))).trans (by simp [go_sem, World.cell?_alloc_past])
  have bb4 : Below w.heap.size w w4 := (by repeat (first | exact Below.refl _ _ | assumption | refine Below.drew ?_ | refine below_drewN ?_ _ | refine Below.setCell ?_ (by first | omega | (simp; done) | (simp; omega)) _ | refine Below.alloc ?_ (by first | omega | (simp; done) | (simp; omega)) _ | refine Below.trans ?_ (Below.mono (by assumption) (by first | omega | (simp; done) | (simp; omega)))))
  clear hb4 bb3
  go_wp2_with fail
  refine (of_any _ _).mono ?_
  rintro e w5 ⟨rfl, hb5⟩
  have hs5 := hb5.size
  try simp at hs5
  have c3 : w5.cell? ⟨w3.heap.size, 0, none⟩ = some (.int .i64 0) := (hb5.cell (by show w3.heap.size < _; first | omega | (simp; done) | (simp; omega))).trans (by first | exact c1 | exact (World.cell?_alloc_lt _ _ _ (by show w3.heap.size < _; first | omega | (simp; done) | (simp; omega))).trans c1 | (simp [go_sem, World.cell?_alloc_past, *]; done))
  have c4 : w5.cell? ⟨w3.heap.size, 1, none⟩ = some (.bool true) := (hb5.cell (by show w3.heap.size < _; first | omega | (simp; done) | (simp; omega))).trans (by first | exact c2 | exact (World.cell?_alloc_lt _ _ _ (by show w3.heap.size < _; first | omega | (simp; done) | (simp; omega))).trans c2 | (simp [go_sem, World.cell?_alloc_past, *]; done))
  clear c1 c2
  have bb5 : Below w.heap.size w w5 := (by repeat (first | exact Below.refl _ _ | assumption | refine Below.drew ?_ | refine below_drewN ?_ _ | refine Below.setCell ?_ (by first | omega | (simp; done) | (simp; omega)) _ | refine Below.alloc ?_ (by first | omega | (simp; done) | (simp; omega)) _ | refine Below.trans ?_ (Below.mono (by assumption) (by first | omega | (simp; done) | (simp; omega)))))
  clear hb5 bb4
  go_wp2_with fail
  refine (do_l2 _).mono ?_
  rintro e w6 ⟨rfl, hb6⟩
  have hs6 := hb6.size
  try simp at hs6
  have c5 : w6.cell? ⟨w3.heap.size, 0, none⟩ = some (.int .i64 0) := (hb6.cell (by show w3.heap.size < _; first | omega | (simp; done) | (simp; omega))).trans (by first | exact c3 | exact (World.cell?_alloc_lt _ _ _ (by show w3.heap.size < _; first | omega | (simp; done) | (simp; omega))).trans c3 | (simp [go_sem, World.cell?_alloc_past, *]; done))
  have c6 : w6.cell? ⟨w3.heap.size, 1, none⟩ = some (.bool true) := (hb6.cell (by show w3.heap.size < _; first | omega | (simp; done) | (simp; omega))).trans (by first | exact c4 | exact (World.cell?_alloc_lt _ _ _ (by show w3.heap.size < _; first | omega | (simp; done) | (simp; omega))).trans c4 | (simp [go_sem, World.cell?_alloc_past, *]; done))
  clear c3 c4
  have bb6 : Below w.heap.size w w6 := (by repeat (first | exact Below.refl _ _ | assumption | refine Below.drew ?_ | refine below_drewN ?_ _ | refine Below.setCell ?_ (by first | omega | (simp; done) | (simp; omega)) _ | refine Below.alloc ?_ (by first | omega | (simp; done) | (simp; omega)) _ | refine Below.trans ?_ (Below.mono (by assumption) (by first | omega | (simp; done) | (simp; omega)))))
  clear hb6 bb5
  go_wp2_with fail
  refine (of_any _ _).mono ?_
  rintro e w7 ⟨rfl, hb7⟩
  have hs7 := hb7.size
  try simp at hs7
  have c7 : w7.cell? ⟨w3.heap.size, 0, none⟩ = some (.int .i64 0) := (hb7.cell (by show w3.heap.size < _; first | omega | (simp; done) | (simp; omega))).trans (by first | exact c5 | exact (World.cell?_alloc_lt _ _ _ (by show w3.heap.size < _; first | omega | (simp; done) | (simp; omega))).trans c5 | (simp [go_sem, World.cell?_alloc_past, *]; done))
  have c8 : w7.cell? ⟨w3.heap.size, 1, none⟩ = some (.bool true) := (hb7.cell (by show w3.heap.size < _; first | omega | (simp; done) | (simp; omega))).trans (by first | exact c6 | exact (World.cell?_alloc_lt _ _ _ (by show w3.heap.size < _; first | omega | (simp; done) | (simp; omega))).trans c6 | (simp [go_sem, World.cell?_alloc_past, *]; done))
  have c9 : w7.cell? ⟨w6.heap.size, 0, none⟩ = some (.int .i64 (-9223372036854775808)) := (hb7.cell (by show w6.heap.size < _; first | omega | (simp; done) | (simp; omega))).trans (by simp [go_sem, World.cell?_alloc_past])
  have c10 : w7.cell? ⟨w6.heap.size, 1, none⟩ = some (.bool false) := (hb7.cell (by show w6.heap.size < _; first | omega | (simp; done) | (simp; omega))).trans (by simp [go_sem, World.cell?_alloc_past])
  clear c5 c6
  have bb7 : Below w.heap.size w w7 := (by repeat (first | exact Below.refl _ _ | assumption | refine Below.drew ?_ | refine below_drewN ?_ _ | refine Below.setCell ?_ (by first | omega | (simp; done) | (simp; omega)) _ | refine Below.alloc ?_ (by first | omega | (simp; done) | (simp; omega)) _ | refine Below.trans ?_ (Below.mono (by assumption) (by first | omega | (simp; done) | (simp; omega)))))
  clear hb7 bb6
  go_wp2_with fail
  refine (put_l1 _).mono ?_
  rintro e w8 ⟨rfl, hb8⟩
  have hs8 := hb8.size
  try simp at hs8
  have c11 : w8.cell? ⟨w3.heap.size, 0, none⟩ = some (.int .i64 0) := (hb8.cell (by show w3.heap.size < _; first | omega | (simp; done) | (simp; omega))).trans (by first | exact c7 | exact (World.cell?_alloc_lt _ _ _ (by show w3.heap.size < _; first | omega | (simp; done) | (simp; omega))).trans c7 | (simp [go_sem, World.cell?_alloc_past, *]; done))
  have c12 : w8.cell? ⟨w3.heap.size, 1, none⟩ = some (.bool true) := (hb8.cell (by show w3.heap.size < _; first | omega | (simp; done) | (simp; omega))).trans (by first | exact c8 | exact (World.cell?_alloc_lt _ _ _ (by show w3.heap.size < _; first | omega | (simp; done) | (simp; omega))).trans c8 | (simp [go_sem, World.cell?_alloc_past, *]; done))
  have c13 : w8.cell? ⟨w6.heap.size, 0, none⟩ = some (.int .i64 (-9223372036854775808)) := (hb8.cell (by show w6.heap.size < _; first | omega | (simp; done) | (simp; omega))).trans (by first | exact c9 | exact (World.cell?_alloc_lt _ _ _ (by show w6.heap.size < _; first | omega | (simp; done) | (simp; omega))).trans c9 | (simp [go_sem, World.cell?_alloc_past, *]; done))
  have c14 : w8.cell? ⟨w6.heap.size, 1, none⟩ = some (.bool false) := (hb8.cell (by show w6.heap.size < _; first | omega | (simp; done) | (simp; omega))).trans (by first | exact c10 | exact (World.cell?_alloc_lt _ _ _ (by show w6.heap.size < _; first | omega | (simp; done) | (simp; omega))).trans c10 | (simp [go_sem, World.cell?_alloc_past, *]; done))
  clear c7 c8 c9 c10
  have bb8 : Below w.heap.size w w8 := (by repeat (first | exact Below.refl _ _ | assumption | refine Below.drew ?_ | refine below_drewN ?_ _ | refine Below.setCell ?_ (by first | omega | (simp; done) | (simp; omega)) _ | refine Below.alloc ?_ (by first | omega | (simp; done) | (simp; omega)) _ | refine Below.trans ?_ (Below.mono (by assumption) (by first | omega | (simp; done) | (simp; omega)))))
  clear hb8 bb7
  go_wp2_with fail
  refine (of_any _ _).mono ?_
  rintro e w9 ⟨rfl, hb9⟩
  have hs9 := hb9.size
  try simp at hs9
  have c15 : w9.cell? ⟨w3.heap.size, 0, none⟩ = some (.int .i64 0) := (hb9.cell (by show w3.heap.size < _; first | omega | (simp; done) | (simp; omega))).trans (by first | exact c11 | exact (World.cell?_alloc_lt _ _ _ (by show w3.heap.size < _; first | omega | (simp; done) | (simp; omega))).trans c11 | (simp [go_sem, World.cell?_alloc_past, *]; done))
  have c16 : w9.cell? ⟨w3.heap.size, 1, none⟩ = some (.bool true) := (hb9.cell (by show w3.heap.size < _; first | omega | (simp; done) | (simp; omega))).trans (by first | exact c12 | exact (World.cell?_alloc_lt _ _ _ (by show w3.heap.size < _; first | omega | (simp; done) | (simp; omega))).trans c12 | (simp [go_sem, World.cell?_alloc_past, *]; done))
  have c17 : w9.cell? ⟨w6.heap.size, 0, none⟩ = some (.int .i64 (-9223372036854775808)) := (hb9.cell (by show w6.heap.size < _; first | omega | (simp; done) | (simp; omega))).trans (by first | exact c13 | exact (World.cell?_alloc_lt _ _ _ (by show w6.heap.size < _; first | omega | (simp; done) | (simp; omega))).trans c13 | (simp [go_sem, World.cell?_alloc_past, *]; done))
  have c18 : w9.cell? ⟨w6.heap.size, 1, none⟩ = some (.bool false) := (hb9.cell (by show w6.heap.size < _; first | omega | (simp; done) | (simp; omega))).trans (by first | exact c14 | exact (World.cell?_alloc_lt _ _ _ (by show w6.heap.size < _; first | omega | (simp; done) | (simp; omega))).trans c14 | (simp [go_sem, World.cell?_alloc_past, *]; done))
  clear c11 c12 c13 c14
  have bb9 : Below w.heap.size w w9 := (by repeat (first | exact Below.refl _ _ | assumption | refine Below.drew ?_ | refine below_drewN ?_ _ | refine Below.setCell ?_ (by first | omega | (simp; done) | (simp; omega)) _ | refine Below.alloc ?_ (by first | omega | (simp; done) | (simp; omega)) _ | refine Below.trans ?_ (Below.mono (by assumption) (by first | omega | (simp; done) | (simp; omega)))))
  clear hb9 bb8
  go_wp2_with fail
  refine (put_l2 _).mono ?_
  rintro e w10 ⟨rfl, hb10⟩
  have hs10 := hb10.size
  try simp at hs10
  have c19 : w10.cell? ⟨w3.heap.size, 0, none⟩ = some (.int .i64 0) := (hb10.cell (by show w3.heap.size < _; first | omega | (simp; done) | (simp; omega))).trans (by first | exact c15 | exact (World.cell?_alloc_lt _ _ _ (by show w3.heap.size < _; first | omega | (simp; done) | (simp; omega))).trans c15 | (simp [go_sem, World.cell?_alloc_past, *]; done))
  have c20 : w10.cell? ⟨w3.heap.size, 1, none⟩ = some (.bool true) := (hb10.cell (by show w3.heap.size < _; first | omega | (simp; done) | (simp; omega))).trans (by first | exact c16 | exact (World.cell?_alloc_lt _ _ _ (by show w3.heap.size < _; first | omega | (simp; done) | (simp; omega))).trans c16 | (simp [go_sem, World.cell?_alloc_past, *]; done))
  have c21 : w10.cell? ⟨w6.heap.size, 0, none⟩ = some (.int .i64 (-9223372036854775808)) := (hb10.cell (by show w6.heap.size < _; first | omega | (simp; done) | (simp; omega))).trans (by first | exact c17 | exact (World.cell?_alloc_lt _ _ _ (by show w6.heap.size < _; first | omega | (simp; done) | (simp; omega))).trans c17 | (simp [go_sem, World.cell?_alloc_past, *]; done))
  have c22 : w10.cell? ⟨w6.heap.size, 1, none⟩ = some (.bool false) := (hb10.cell (by show w6.heap.size < _; first | omega | (simp; done) | (simp; omega))).trans (by first | exact c18 | exact (World.cell?_alloc_lt _ _ _ (by show w6.heap.size < _; first | omega | (simp; done) | (simp; omega))).trans c18 | (simp [go_sem, World.cell?_alloc_past, *]; done))
  clear c15 c16 c17 c18
  have bb10 : Below w.heap.size w w10 := (by repeat (first | exact Below.refl _ _ | assumption | refine Below.drew ?_ | refine below_drewN ?_ _ | refine Below.setCell ?_ (by first | omega | (simp; done) | (simp; omega)) _ | refine Below.alloc ?_ (by first | omega | (simp; done) | (simp; omega)) _ | refine Below.trans ?_ (Below.mono (by assumption) (by first | omega | (simp; done) | (simp; omega)))))
  clear hb10 bb9
  go_wp2_with fail
  refine wp_world (fun W => W.cell? ⟨w3.heap.size, 0, none⟩ = some (.int .i64 0) ∧ W.cell? ⟨w3.heap.size, 1, none⟩ = some (.bool true) ∧ W.cell? ⟨w6.heap.size, 0, none⟩ = some (.int .i64 (-9223372036854775808)) ∧ W.cell? ⟨w6.heap.size, 1, none⟩ = some (.bool false) ∧ W.cell? ⟨w10.heap.size, 0, none⟩ = some (.int .i64 0) ∧ W.cell? ⟨w10.heap.size, 1, none⟩ = some (.int .u64 9223372036854775808) ∧ W.cell? ⟨w10.heap.size, 2, none⟩ = some (.int .u64 0) ∧ w10.heap.size < W.heap.size ∧ Below w.heap.size w W) ⟨by first | exact (World.cell?_alloc_lt _ _ _ (by show w3.heap.size < _; first | omega | (simp; done) | (simp; omega))).trans (by assumption) | simp [go_sem, World.cell?_alloc_past], by first | exact (World.cell?_alloc_lt _ _ _ (by show w3.heap.size < _; first | omega | (simp; done) | (simp; omega))).trans (by assumption) | simp [go_sem, World.cell?_alloc_past], by first | exact (World.cell?_alloc_lt _ _ _ (by show w6.heap.size < _; first | omega | (simp; done) | (simp; omega))).trans (by assumption) | simp [go_sem, World.cell?_alloc_past], by first | exact (World.cell?_alloc_lt _ _ _ (by show w6.heap.size < _; first | omega | (simp; done) | (simp; omega))).trans (by assumption) | simp [go_sem, World.cell?_alloc_past], by first | exact (World.cell?_alloc_lt _ _ _ (by show w10.heap.size < _; first | omega | (simp; done) | (simp; omega))).trans (by assumption) | simp [go_sem, World.cell?_alloc_past], by first | exact (World.cell?_alloc_lt _ _ _ (by show w10.heap.size < _; first | omega | (simp; done) | (simp; omega))).trans (by assumption) | simp [go_sem, World.cell?_alloc_past], by first | exact (World.cell?_alloc_lt _ _ _ (by show w10.heap.size < _; first | omega | (simp; done) | (simp; omega))).trans (by assumption) | simp [go_sem, World.cell?_alloc_past], by simp, (by repeat (first | exact Below.refl _ _ | assumption | refine Below.drew ?_ | refine below_drewN ?_ _ | refine Below.setCell ?_ (by first | omega | (simp; done) | (simp; omega)) _ | refine Below.alloc ?_ (by first | omega | (simp; done) | (simp; omega)) _ | refine Below.trans ?_ (Below.mono (by assumption) (by first | omega | (simp; done) | (simp; omega)))))⟩ ?_
  rintro W0 ⟨c0, c1, c2, c3, c4, c5, c6, hz, hb0⟩
  have mkS : ∀ W : World, Below W0.heap.size W0 W → (W.cell? ⟨w3.heap.size, 0, none⟩ = some (.int .i64 0) ∧ W.cell? ⟨w3.heap.size, 1, none⟩ = some (.bool true) ∧ W.cell? ⟨w6.heap.size, 0, none⟩ = some (.int .i64 (-9223372036854775808)) ∧ W.cell? ⟨w6.heap.size, 1, none⟩ = some (.bool false) ∧ W.cell? ⟨w10.heap.size, 0, none⟩ = some (.int .i64 0) ∧ W.cell? ⟨w10.heap.size, 1, none⟩ = some (.int .u64 9223372036854775808) ∧ W.cell? ⟨w10.heap.size, 2, none⟩ = some (.int .u64 0) ∧ Below W0.heap.size W0 W) := fun W hb => ⟨(hb.cell (by show w3.heap.size < _; omega)).trans c0, (hb.cell (by show w3.heap.size < _; omega)).trans c1, (hb.cell (by show w6.heap.size < _; omega)).trans c2, (hb.cell (by show w6.heap.size < _; omega)).trans c3, (hb.cell (by show w10.heap.size < _; omega)).trans c4, (hb.cell (by show w10.heap.size < _; omega)).trans c5, (hb.cell (by show w10.heap.size < _; omega)).trans c6, hb⟩
  have unS : ∀ W : World, (W.cell? ⟨w3.heap.size, 0, none⟩ = some (.int .i64 0) ∧ W.cell? ⟨w3.heap.size, 1, none⟩ = some (.bool true) ∧ W.cell? ⟨w6.heap.size, 0, none⟩ = some (.int .i64 (-9223372036854775808)) ∧ W.cell? ⟨w6.heap.size, 1, none⟩ = some (.bool false) ∧ W.cell? ⟨w10.heap.size, 0, none⟩ = some (.int .i64 0) ∧ W.cell? ⟨w10.heap.size, 1, none⟩ = some (.int .u64 9223372036854775808) ∧ W.cell? ⟨w10.heap.size, 2, none⟩ = some (.int .u64 0) ∧ Below W0.heap.size W0 W) → Below W0.heap.size W0 W := fun W h => h.2.2.2.2.2.2.2
  go_region_held3 (fun w' => w'.cell? ⟨w3.heap.size, 0, none⟩ = some (.int .i64 0) ∧ w'.cell? ⟨w3.heap.size, 1, none⟩ = some (.bool true) ∧ w'.cell? ⟨w6.heap.size, 0, none⟩ = some (.int .i64 (-9223372036854775808)) ∧ w'.cell? ⟨w6.heap.size, 1, none⟩ = some (.bool false) ∧ w'.cell? ⟨w10.heap.size, 0, none⟩ = some (.int .i64 0) ∧ w'.cell? ⟨w10.heap.size, 1, none⟩ = some (.int .u64 9223372036854775808) ∧ w'.cell? ⟨w10.heap.size, 2, none⟩ = some (.int .u64 0) ∧ Below W0.heap.size W0 w') (exact mkS _ (by repeat (first | exact Below.refl _ _ | assumption | exact unS _ (by assumption) | refine Below.drew ?_ | refine below_drewN ?_ _ | refine Below.setCell ?_ (by first | omega | (simp; done) | (simp; omega)) _ | refine Below.alloc ?_ (by first | omega | (simp; done) | (simp; omega)) _ | refine Below.trans ?_ (Below.mono (by assumption) (by first | omega | (simp; done) | (simp; omega))))))
    (first | (go_at_call 16; refine (of_any _ _).mono ?_; rintro e w1 ⟨rfl, hb1⟩; have hs1 := hb1.size; (try simp at hs1)) | (go_at_call 20; refine (take_l1 _).mono ?_; rintro e w1 ⟨rfl, hb1⟩; have hs1 := hb1.size; (try simp at hs1)) | (go_at_call_of 24 (9223372036854775808 : Int); refine (val_l1 _).mono ?_; rintro e w1 ⟨rfl, hb1⟩; have hs1 := hb1.size; (try simp at hs1)) | (go_at_call 24; refine (val_l2 _).mono ?_; rintro e w1 ⟨rfl, hb1⟩; have hs1 := hb1.size; (try simp at hs1)))
  all_goals go_wp2
  all_goals go_ret
  all_goals exact ⟨rfl, (by repeat (first | exact Below.refl _ _ | assumption | refine Below.drew ?_ | refine below_drewN ?_ _ | refine Below.setCell ?_ (by first | omega | (simp; done) | (simp; omega)) _ | refine Below.alloc ?_ (by first | omega | (simp; done) | (simp; omega)) _ | refine Below.trans ?_ (Below.mono (by assumption) (by first | omega | (simp; done) | (simp; omega)))))⟩
end Go.Proofs.Ytfdgajfpmeaieaa
