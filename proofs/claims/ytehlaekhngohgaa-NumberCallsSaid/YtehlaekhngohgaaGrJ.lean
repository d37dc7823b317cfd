/- Layer 2: the walk of NumberCalls. -/
import Derived.Test.YtehlaekhngohgaaGrI
namespace Go.Proofs.Ytehlaekhngohgaa
set_option linter.unusedVariables false
set_option linter.unusedSimpArgs false
open Go.RowKit Go.Shelf

set_option maxHeartbeats 4000000 in
theorem calls_walk (op a : Int) (ao : Bool) (b : Int) (bo : Bool) (n : Int) (w : World) (sa : SW a) (sb : SW b) : Calls Try.prog 10 #[.int .i64 op, .agg #[.int .i64 a, .bool ao], .agg #[.int .i64 b, .bool bo], .int .i64 n] w fun e w' => e = .returned (.bool true) ∧ Below w.heap.size w w' := by
  go_enter Try.func10, Try.ntmps10
  go_wp2_with fail
  refine (lives2_any _).mono ?_
  rintro e w1 ⟨rfl, hb1⟩
  have hs1 := hb1.size
  try simp at hs1
  have c1 : w1.cell? ⟨w.heap.size, 0, none⟩ = some (.int .i64 a) := (hb1.cell (by show w.heap.size < _; first | omega | (simp; done) | (simp; omega))).trans (by simp [go_sem, World.cell?_alloc_past])
  have c2 : w1.cell? ⟨w.heap.size, 1, none⟩ = some (.bool ao) := (hb1.cell (by show w.heap.size < _; first | omega | (simp; done) | (simp; omega))).trans (by simp [go_sem, World.cell?_alloc_past])
  have c3 : w1.cell? ⟨w.heap.size + 1, 0, none⟩ = some (.int .i64 b) := (hb1.cell (by show w.heap.size + 1 < _; first | omega | (simp; done) | (simp; omega))).trans (by simp [go_sem, World.cell?_alloc_past])
  have c4 : w1.cell? ⟨w.heap.size + 1, 1, none⟩ = some (.bool bo) := (hb1.cell (by show w.heap.size + 1 < _; first | omega | (simp; done) | (simp; omega))).trans (by simp [go_sem, World.cell?_alloc_past])
  have hz1_0 : w.heap.size < w1.heap.size := by omega
  have hz1_1 : w.heap.size + 1 < w1.heap.size := by omega
  have bb1 : Below w.heap.size w w1 := (by repeat (first | exact Below.refl _ _ | assumption | refine Below.drew ?_ | refine below_drewN ?_ _ | refine Below.setCell ?_ (by first | omega | (simp; done) | (simp; omega)) _ | refine Below.alloc ?_ (by first | omega | (simp; done) | (simp; omega)) _ | refine Below.trans ?_ (Below.mono (by assumption) (by first | omega | (simp; done) | (simp; omega)))))
  clear hb1
  go_wp2_with fail
  refine (do_any _ _ _ _ _ _ sa sb).mono ?_
  rintro e w2 ⟨rfl, hb2⟩
  have hs2 := hb2.size
  try simp at hs2
  have c5 : w2.cell? ⟨w.heap.size, 0, none⟩ = some (.int .i64 a) := (hb2.cell (by show w.heap.size < _; first | omega | (simp; done) | (simp; omega))).trans (by first | exact c1 | exact (World.cell?_alloc_lt _ _ _ (by show w.heap.size < _; first | omega | (simp; done) | (simp; omega))).trans c1 | (simp [go_sem, World.cell?_alloc_past, *]; done))
  have c6 : w2.cell? ⟨w.heap.size, 1, none⟩ = some (.bool ao) := (hb2.cell (by show w.heap.size < _; first | omega | (simp; done) | (simp; omega))).trans (by first | exact c2 | exact (World.cell?_alloc_lt _ _ _ (by show w.heap.size < _; first | omega | (simp; done) | (simp; omega))).trans c2 | (simp [go_sem, World.cell?_alloc_past, *]; done))
  have c7 : w2.cell? ⟨w.heap.size + 1, 0, none⟩ = some (.int .i64 b) := (hb2.cell (by show w.heap.size + 1 < _; first | omega | (simp; done) | (simp; omega))).trans (by first | exact c3 | exact (World.cell?_alloc_lt _ _ _ (by show w.heap.size + 1 < _; first | omega | (simp; done) | (simp; omega))).trans c3 | (simp [go_sem, World.cell?_alloc_past, *]; done))
  have c8 : w2.cell? ⟨w.heap.size + 1, 1, none⟩ = some (.bool bo) := (hb2.cell (by show w.heap.size + 1 < _; first | omega | (simp; done) | (simp; omega))).trans (by first | exact c4 | exact (World.cell?_alloc_lt _ _ _ (by show w.heap.size + 1 < _; first | omega | (simp; done) | (simp; omega))).trans c4 | (simp [go_sem, World.cell?_alloc_past, *]; done))
  clear c1 c2 c3 c4
  have hz2_0 : w.heap.size < w2.heap.size := by omega
  have hz2_1 : w.heap.size + 1 < w2.heap.size := by omega
  have bb2 : Below w.heap.size w w2 := (by repeat (first | exact Below.refl _ _ | assumption | refine Below.drew ?_ | refine below_drewN ?_ _ | refine Below.setCell ?_ (by first | omega | (simp; done) | (simp; omega)) _ | refine Below.alloc ?_ (by first | omega | (simp; done) | (simp; omega)) _ | refine Below.trans ?_ (Below.mono (by assumption) (by first | omega | (simp; done) | (simp; omega)))))
  clear hb2 bb1
  go_wp2_with fail
  refine (rdo_any _ _ _ _ _ _ sa sb).mono ?_
  rintro e w3 ⟨rfl, hb3⟩
  have hs3 := hb3.size
  try simp at hs3
  have c9 : w3.cell? ⟨w.heap.size, 0, none⟩ = some (.int .i64 a) := (hb3.cell (by show w.heap.size < _; first | omega | (simp; done) | (simp; omega))).trans (by first | exact c5 | exact (World.cell?_alloc_lt _ _ _ (by show w.heap.size < _; first | omega | (simp; done) | (simp; omega))).trans c5 | (simp [go_sem, World.cell?_alloc_past, *]; done))
  have c10 : w3.cell? ⟨w.heap.size, 1, none⟩ = some (.bool ao) := (hb3.cell (by show w.heap.size < _; first | omega | (simp; done) | (simp; omega))).trans (by first | exact c6 | exact (World.cell?_alloc_lt _ _ _ (by show w.heap.size < _; first | omega | (simp; done) | (simp; omega))).trans c6 | (simp [go_sem, World.cell?_alloc_past, *]; done))
  have c11 : w3.cell? ⟨w.heap.size + 1, 0, none⟩ = some (.int .i64 b) := (hb3.cell (by show w.heap.size + 1 < _; first | omega | (simp; done) | (simp; omega))).trans (by first | exact c7 | exact (World.cell?_alloc_lt _ _ _ (by show w.heap.size + 1 < _; first | omega | (simp; done) | (simp; omega))).trans c7 | (simp [go_sem, World.cell?_alloc_past, *]; done))
  have c12 : w3.cell? ⟨w.heap.size + 1, 1, none⟩ = some (.bool bo) := (hb3.cell (by show w.heap.size + 1 < _; first | omega | (simp; done) | (simp; omega))).trans (by first | exact c8 | exact (World.cell?_alloc_lt _ _ _ (by show w.heap.size + 1 < _; first | omega | (simp; done) | (simp; omega))).trans c8 | (simp [go_sem, World.cell?_alloc_past, *]; done))
  have c13 : w3.cell? ⟨w2.heap.size, 0, none⟩ = some (.int .i64 (doN op a ao b bo)) := (hb3.cell (by show w2.heap.size < _; first | omega | (simp; done) | (simp; omega))).trans (by simp [go_sem, World.cell?_alloc_past])
  have c14 : w3.cell? ⟨w2.heap.size, 1, none⟩ = some (.bool (doB op a ao b bo)) := (hb3.cell (by show w2.heap.size < _; first | omega | (simp; done) | (simp; omega))).trans (by simp [go_sem, World.cell?_alloc_past])
  clear c5 c6 c7 c8
  have hz3_0 : w.heap.size < w3.heap.size := by omega
  have hz3_1 : w.heap.size + 1 < w3.heap.size := by omega
  have hz3_2 : w2.heap.size < w3.heap.size := by omega
  have bb3 : Below w.heap.size w w3 := (by repeat (first | exact Below.refl _ _ | assumption | refine Below.drew ?_ | refine below_drewN ?_ _ | refine Below.setCell ?_ (by first | omega | (simp; done) | (simp; omega)) _ | refine Below.alloc ?_ (by first | omega | (simp; done) | (simp; omega)) _ | refine Below.trans ?_ (Below.mono (by assumption) (by first | omega | (simp; done) | (simp; omega)))))
  clear hb3 bb2
  go_wp2_with fail
  refine (is_any _ _ _ _ _).mono ?_
  rintro e w4 ⟨rfl, hb4⟩
  have hs4 := hb4.size
  try simp at hs4
  have c15 : w4.cell? ⟨w.heap.size, 0, none⟩ = some (.int .i64 a) := (hb4.cell (by show w.heap.size < _; first | omega | (simp; done) | (simp; omega))).trans (by first | exact c9 | exact (World.cell?_alloc_lt _ _ _ (by show w.heap.size < _; first | omega | (simp; done) | (simp; omega))).trans c9 | (simp [go_sem, World.cell?_alloc_past, *]; done))
  have c16 : w4.cell? ⟨w.heap.size, 1, none⟩ = some (.bool ao) := (hb4.cell (by show w.heap.size < _; first | omega | (simp; done) | (simp; omega))).trans (by first | exact c10 | exact (World.cell?_alloc_lt _ _ _ (by show w.heap.size < _; first | omega | (simp; done) | (simp; omega))).trans c10 | (simp [go_sem, World.cell?_alloc_past, *]; done))
  have c17 : w4.cell? ⟨w.heap.size + 1, 0, none⟩ = some (.int .i64 b) := (hb4.cell (by show w.heap.size + 1 < _; first | omega | (simp; done) | (simp; omega))).trans (by first | exact c11 | exact (World.cell?_alloc_lt _ _ _ (by show w.heap.size + 1 < _; first | omega | (simp; done) | (simp; omega))).trans c11 | (simp [go_sem, World.cell?_alloc_past, *]; done))
  have c18 : w4.cell? ⟨w.heap.size + 1, 1, none⟩ = some (.bool bo) := (hb4.cell (by show w.heap.size + 1 < _; first | omega | (simp; done) | (simp; omega))).trans (by first | exact c12 | exact (World.cell?_alloc_lt _ _ _ (by show w.heap.size + 1 < _; first | omega | (simp; done) | (simp; omega))).trans c12 | (simp [go_sem, World.cell?_alloc_past, *]; done))
  have c19 : w4.cell? ⟨w2.heap.size, 0, none⟩ = some (.int .i64 (doN op a ao b bo)) := (hb4.cell (by show w2.heap.size < _; first | omega | (simp; done) | (simp; omega))).trans (by first | exact c13 | exact (World.cell?_alloc_lt _ _ _ (by show w2.heap.size < _; first | omega | (simp; done) | (simp; omega))).trans c13 | (simp [go_sem, World.cell?_alloc_past, *]; done))
  have c20 : w4.cell? ⟨w2.heap.size, 1, none⟩ = some (.bool (doB op a ao b bo)) := (hb4.cell (by show w2.heap.size < _; first | omega | (simp; done) | (simp; omega))).trans (by first | exact c14 | exact (World.cell?_alloc_lt _ _ _ (by show w2.heap.size < _; first | omega | (simp; done) | (simp; omega))).trans c14 | (simp [go_sem, World.cell?_alloc_past, *]; done))
  have c21 : w4.cell? ⟨w3.heap.size, 0, none⟩ = some (.int .i64 (doN op a ao b bo)) := (hb4.cell (by show w3.heap.size < _; first | omega | (simp; done) | (simp; omega))).trans (by simp [go_sem, World.cell?_alloc_past])
  have c22 : w4.cell? ⟨w3.heap.size, 1, none⟩ = some (.bool (doB op a ao b bo)) := (hb4.cell (by show w3.heap.size < _; first | omega | (simp; done) | (simp; omega))).trans (by simp [go_sem, World.cell?_alloc_past])
  clear c9 c10 c11 c12 c13 c14
  have hz4_0 : w.heap.size < w4.heap.size := by omega
  have hz4_1 : w.heap.size + 1 < w4.heap.size := by omega
  have hz4_2 : w2.heap.size < w4.heap.size := by omega
  have hz4_3 : w3.heap.size < w4.heap.size := by omega
  have bb4 : Below w.heap.size w w4 := (by repeat (first | exact Below.refl _ _ | assumption | refine Below.drew ?_ | refine below_drewN ?_ _ | refine Below.setCell ?_ (by first | omega | (simp; done) | (simp; omega)) _ | refine Below.alloc ?_ (by first | omega | (simp; done) | (simp; omega)) _ | refine Below.trans ?_ (Below.mono (by assumption) (by first | omega | (simp; done) | (simp; omega)))))
  clear hb4 bb3
  go_wp2_with fail
  refine (ris_any _ _ _ _ _).mono ?_
  rintro e w5 ⟨rfl, hb5⟩
  have hs5 := hb5.size
  try simp at hs5
  have c23 : w5.cell? ⟨w.heap.size, 0, none⟩ = some (.int .i64 a) := (hb5.cell (by show w.heap.size < _; first | omega | (simp; done) | (simp; omega))).trans (by first | exact c15 | exact (World.cell?_alloc_lt _ _ _ (by show w.heap.size < _; first | omega | (simp; done) | (simp; omega))).trans c15 | (simp [go_sem, World.cell?_alloc_past, *]; done))
  have c24 : w5.cell? ⟨w.heap.size, 1, none⟩ = some (.bool ao) := (hb5.cell (by show w.heap.size < _; first | omega | (simp; done) | (simp; omega))).trans (by first | exact c16 | exact (World.cell?_alloc_lt _ _ _ (by show w.heap.size < _; first | omega | (simp; done) | (simp; omega))).trans c16 | (simp [go_sem, World.cell?_alloc_past, *]; done))
  have c25 : w5.cell? ⟨w.heap.size + 1, 0, none⟩ = some (.int .i64 b) := (hb5.cell (by show w.heap.size + 1 < _; first | omega | (simp; done) | (simp; omega))).trans (by first | exact c17 | exact (World.cell?_alloc_lt _ _ _ (by show w.heap.size + 1 < _; first | omega | (simp; done) | (simp; omega))).trans c17 | (simp [go_sem, World.cell?_alloc_past, *]; done))
  have c26 : w5.cell? ⟨w.heap.size + 1, 1, none⟩ = some (.bool bo) := (hb5.cell (by show w.heap.size + 1 < _; first | omega | (simp; done) | (simp; omega))).trans (by first | exact c18 | exact (World.cell?_alloc_lt _ _ _ (by show w.heap.size + 1 < _; first | omega | (simp; done) | (simp; omega))).trans c18 | (simp [go_sem, World.cell?_alloc_past, *]; done))
  have c27 : w5.cell? ⟨w2.heap.size, 0, none⟩ = some (.int .i64 (doN op a ao b bo)) := (hb5.cell (by show w2.heap.size < _; first | omega | (simp; done) | (simp; omega))).trans (by first | exact c19 | exact (World.cell?_alloc_lt _ _ _ (by show w2.heap.size < _; first | omega | (simp; done) | (simp; omega))).trans c19 | (simp [go_sem, World.cell?_alloc_past, *]; done))
  have c28 : w5.cell? ⟨w2.heap.size, 1, none⟩ = some (.bool (doB op a ao b bo)) := (hb5.cell (by show w2.heap.size < _; first | omega | (simp; done) | (simp; omega))).trans (by first | exact c20 | exact (World.cell?_alloc_lt _ _ _ (by show w2.heap.size < _; first | omega | (simp; done) | (simp; omega))).trans c20 | (simp [go_sem, World.cell?_alloc_past, *]; done))
  have c29 : w5.cell? ⟨w3.heap.size, 0, none⟩ = some (.int .i64 (doN op a ao b bo)) := (hb5.cell (by show w3.heap.size < _; first | omega | (simp; done) | (simp; omega))).trans (by first | exact c21 | exact (World.cell?_alloc_lt _ _ _ (by show w3.heap.size < _; first | omega | (simp; done) | (simp; omega))).trans c21 | (simp [go_sem, World.cell?_alloc_past, *]; done))
  have c30 : w5.cell? ⟨w3.heap.size, 1, none⟩ = some (.bool (doB op a ao b bo)) := (hb5.cell (by show w3.heap.size < _; first | omega | (simp; done) | (simp; omega))).trans (by first | exact c22 | exact (World.cell?_alloc_lt _ _ _ (by show w3.heap.size < _; first | omega | (simp; done) | (simp; omega))).trans c22 | (simp [go_sem, World.cell?_alloc_past, *]; done))
  clear c15 c16 c17 c18 c19 c20 c21 c22
  have hz5_0 : w.heap.size < w5.heap.size := by omega
  have hz5_1 : w.heap.size + 1 < w5.heap.size := by omega
  have hz5_2 : w2.heap.size < w5.heap.size := by omega
  have hz5_3 : w3.heap.size < w5.heap.size := by omega
  have bb5 : Below w.heap.size w w5 := (by repeat (first | exact Below.refl _ _ | assumption | refine Below.drew ?_ | refine below_drewN ?_ _ | refine Below.setCell ?_ (by first | omega | (simp; done) | (simp; omega)) _ | refine Below.alloc ?_ (by first | omega | (simp; done) | (simp; omega)) _ | refine Below.trans ?_ (Below.mono (by assumption) (by first | omega | (simp; done) | (simp; omega)))))
  clear hb5 bb4
  go_wp2_with fail
  refine wp_world (fun W => W.cell? ⟨w.heap.size, 0, none⟩ = some (.int .i64 a) ∧ W.cell? ⟨w.heap.size, 1, none⟩ = some (.bool ao) ∧ W.cell? ⟨w.heap.size + 1, 0, none⟩ = some (.int .i64 b) ∧ W.cell? ⟨w.heap.size + 1, 1, none⟩ = some (.bool bo) ∧ W.cell? ⟨w2.heap.size, 0, none⟩ = some (.int .i64 (doN op a ao b bo)) ∧ W.cell? ⟨w2.heap.size, 1, none⟩ = some (.bool (doB op a ao b bo)) ∧ W.cell? ⟨w3.heap.size, 0, none⟩ = some (.int .i64 (doN op a ao b bo)) ∧ W.cell? ⟨w3.heap.size, 1, none⟩ = some (.bool (doB op a ao b bo)) ∧ w3.heap.size < W.heap.size ∧ Below w.heap.size w W) ⟨by first | assumption | exact (World.cell?_alloc_lt _ _ _ (by show w.heap.size < _; first | omega | (simp; done) | (simp; omega))).trans (by assumption) | simp [go_sem, World.cell?_alloc_past], by first | assumption | exact (World.cell?_alloc_lt _ _ _ (by show w.heap.size < _; first | omega | (simp; done) | (simp; omega))).trans (by assumption) | simp [go_sem, World.cell?_alloc_past], by first | assumption | exact (World.cell?_alloc_lt _ _ _ (by show w.heap.size + 1 < _; first | omega | (simp; done) | (simp; omega))).trans (by assumption) | simp [go_sem, World.cell?_alloc_past], by first | assumption | exact (World.cell?_alloc_lt _ _ _ (by show w.heap.size + 1 < _; first | omega | (simp; done) | (simp; omega))).trans (by assumption) | simp [go_sem, World.cell?_alloc_past], by first | assumption | exact (World.cell?_alloc_lt _ _ _ (by show w2.heap.size < _; first | omega | (simp; done) | (simp; omega))).trans (by assumption) | simp [go_sem, World.cell?_alloc_past], by first | assumption | exact (World.cell?_alloc_lt _ _ _ (by show w2.heap.size < _; first | omega | (simp; done) | (simp; omega))).trans (by assumption) | simp [go_sem, World.cell?_alloc_past], by first | assumption | exact (World.cell?_alloc_lt _ _ _ (by show w3.heap.size < _; first | omega | (simp; done) | (simp; omega))).trans (by assumption) | simp [go_sem, World.cell?_alloc_past], by first | assumption | exact (World.cell?_alloc_lt _ _ _ (by show w3.heap.size < _; first | omega | (simp; done) | (simp; omega))).trans (by assumption) | simp [go_sem, World.cell?_alloc_past], (by first | omega | (simp; done) | (simp; omega)), (by repeat (first | exact Below.refl _ _ | assumption | refine Below.drew ?_ | refine below_drewN ?_ _ | refine Below.setCell ?_ (by first | omega | (simp; done) | (simp; omega)) _ | refine Below.alloc ?_ (by first | omega | (simp; done) | (simp; omega)) _ | refine Below.trans ?_ (Below.mono (by assumption) (by first | omega | (simp; done) | (simp; omega)))))⟩ ?_
  rintro W0 ⟨c0, c1, c2, c3, c4, c5, c6, c7, hz0, hb0⟩
  have mkS : ∀ W : World, Below W0.heap.size W0 W → (W.cell? ⟨w.heap.size, 0, none⟩ = some (.int .i64 a) ∧ W.cell? ⟨w.heap.size, 1, none⟩ = some (.bool ao) ∧ W.cell? ⟨w.heap.size + 1, 0, none⟩ = some (.int .i64 b) ∧ W.cell? ⟨w.heap.size + 1, 1, none⟩ = some (.bool bo) ∧ W.cell? ⟨w2.heap.size, 0, none⟩ = some (.int .i64 (doN op a ao b bo)) ∧ W.cell? ⟨w2.heap.size, 1, none⟩ = some (.bool (doB op a ao b bo)) ∧ W.cell? ⟨w3.heap.size, 0, none⟩ = some (.int .i64 (doN op a ao b bo)) ∧ W.cell? ⟨w3.heap.size, 1, none⟩ = some (.bool (doB op a ao b bo)) ∧ Below W0.heap.size W0 W) := fun W hb => ⟨(hb.cell (by show w.heap.size < _; omega)).trans c0, (hb.cell (by show w.heap.size < _; omega)).trans c1, (hb.cell (by show w.heap.size + 1 < _; omega)).trans c2, (hb.cell (by show w.heap.size + 1 < _; omega)).trans c3, (hb.cell (by show w2.heap.size < _; omega)).trans c4, (hb.cell (by show w2.heap.size < _; omega)).trans c5, (hb.cell (by show w3.heap.size < _; omega)).trans c6, (hb.cell (by show w3.heap.size < _; omega)).trans c7, hb⟩
  have unS : ∀ W : World, (W.cell? ⟨w.heap.size, 0, none⟩ = some (.int .i64 a) ∧ W.cell? ⟨w.heap.size, 1, none⟩ = some (.bool ao) ∧ W.cell? ⟨w.heap.size + 1, 0, none⟩ = some (.int .i64 b) ∧ W.cell? ⟨w.heap.size + 1, 1, none⟩ = some (.bool bo) ∧ W.cell? ⟨w2.heap.size, 0, none⟩ = some (.int .i64 (doN op a ao b bo)) ∧ W.cell? ⟨w2.heap.size, 1, none⟩ = some (.bool (doB op a ao b bo)) ∧ W.cell? ⟨w3.heap.size, 0, none⟩ = some (.int .i64 (doN op a ao b bo)) ∧ W.cell? ⟨w3.heap.size, 1, none⟩ = some (.bool (doB op a ao b bo)) ∧ Below W0.heap.size W0 W) → Below W0.heap.size W0 W := fun W h => h.2.2.2.2.2.2.2.2
  go_region_held3 (fun w' => w'.cell? ⟨w.heap.size, 0, none⟩ = some (.int .i64 a) ∧ w'.cell? ⟨w.heap.size, 1, none⟩ = some (.bool ao) ∧ w'.cell? ⟨w.heap.size + 1, 0, none⟩ = some (.int .i64 b) ∧ w'.cell? ⟨w.heap.size + 1, 1, none⟩ = some (.bool bo) ∧ w'.cell? ⟨w2.heap.size, 0, none⟩ = some (.int .i64 (doN op a ao b bo)) ∧ w'.cell? ⟨w2.heap.size, 1, none⟩ = some (.bool (doB op a ao b bo)) ∧ w'.cell? ⟨w3.heap.size, 0, none⟩ = some (.int .i64 (doN op a ao b bo)) ∧ w'.cell? ⟨w3.heap.size, 1, none⟩ = some (.bool (doB op a ao b bo)) ∧ Below W0.heap.size W0 w') (exact mkS _ (by repeat (first | exact Below.refl _ _ | assumption | exact unS _ (by assumption) | refine Below.drew ?_ | refine below_drewN ?_ _ | refine Below.setCell ?_ (by first | omega | (simp; done) | (simp; omega)) _ | refine Below.alloc ?_ (by first | omega | (simp; done) | (simp; omega)) _ | refine Below.trans ?_ (Below.mono (by assumption) (by first | omega | (simp; done) | (simp; omega))))))
    (first | (go_at_call 55; refine (check_any _ _ _).mono ?_; rintro e w1 ⟨rfl, hb1⟩; have hs1 := hb1.size; (try simp at hs1)) | (go_at_call 59; refine (rcheck_any _ _ _).mono ?_; rintro e w1 ⟨rfl, hb1⟩; have hs1 := hb1.size; (try simp at hs1)) | (go_at_call 53; refine (of_any _ _).mono ?_; rintro e w1 ⟨rfl, hb1⟩; have hs1 := hb1.size; (try simp at hs1)) | (go_at_call 60; refine (rof_any _ _).mono ?_; rintro e w1 ⟨rfl, hb1⟩; have hs1 := hb1.size; (try simp at hs1)))
  all_goals go_wp2
  all_goals go_ret
  all_goals exact ⟨rfl, (by repeat (first | exact Below.refl _ _ | assumption | refine Below.drew ?_ | refine below_drewN ?_ _ | refine Below.setCell ?_ (by first | omega | (simp; done) | (simp; omega)) _ | refine Below.alloc ?_ (by first | omega | (simp; done) | (simp; omega)) _ | refine Below.trans ?_ (Below.mono (by assumption) (by first | omega | (simp; done) | (simp; omega)))))⟩
end Go.Proofs.Ytehlaekhngohgaa
