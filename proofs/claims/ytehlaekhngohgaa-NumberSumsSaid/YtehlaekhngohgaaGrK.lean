/- Layer 2: the walk of NumberSums. -/
import Derived.Test.YtehlaekhngohgaaGrI
namespace Go.Proofs.Ytehlaekhngohgaa
set_option linter.unusedVariables false
set_option linter.unusedSimpArgs false
open Go.RowKit Go.Shelf

set_option maxHeartbeats 4000000 in
theorem sums_walk (g1 g2 g3 h1 h2 h3 v : Int) (vo : Bool) (w : World) (sg1 : SW g1) (sg2 : UW g2) (sg3 : UW g3) (sh1 : SW h1) (sh2 : UW h2) (sh3 : UW h3) (sv : SW v) : Calls Try.prog 11 #[.agg #[.int .i64 g1, .int .u64 g2, .int .u64 g3], .agg #[.int .i64 h1, .int .u64 h2, .int .u64 h3], .agg #[.int .i64 v, .bool vo]] w fun e w' => e = .returned (.bool true) ∧ Below w.heap.size w w' := by
  rcases chkZ_02 v vo with q1 | q1
  case inr =>
    go_enter Try.func11, Try.ntmps11
    go_wp2_with fail
    refine (lives2_any _).mono ?_
    rintro e w1 ⟨rfl, hb1⟩
    have hs1 := hb1.size
    try simp at hs1
    have c1 : w1.cell? ⟨w.heap.size, 0, none⟩ = some (.int .i64 g1) := (hb1.cell (by show w.heap.size < _; first | omega | (simp; done) | (simp; omega))).trans (by simp [go_sem, World.cell?_alloc_past])
    have c2 : w1.cell? ⟨w.heap.size, 1, none⟩ = some (.int .u64 g2) := (hb1.cell (by show w.heap.size < _; first | omega | (simp; done) | (simp; omega))).trans (by simp [go_sem, World.cell?_alloc_past])
    have c3 : w1.cell? ⟨w.heap.size, 2, none⟩ = some (.int .u64 g3) := (hb1.cell (by show w.heap.size < _; first | omega | (simp; done) | (simp; omega))).trans (by simp [go_sem, World.cell?_alloc_past])
    have c4 : w1.cell? ⟨w.heap.size + 1, 0, none⟩ = some (.int .i64 h1) := (hb1.cell (by show w.heap.size + 1 < _; first | omega | (simp; done) | (simp; omega))).trans (by simp [go_sem, World.cell?_alloc_past])
    have c5 : w1.cell? ⟨w.heap.size + 1, 1, none⟩ = some (.int .u64 h2) := (hb1.cell (by show w.heap.size + 1 < _; first | omega | (simp; done) | (simp; omega))).trans (by simp [go_sem, World.cell?_alloc_past])
    have c6 : w1.cell? ⟨w.heap.size + 1, 2, none⟩ = some (.int .u64 h3) := (hb1.cell (by show w.heap.size + 1 < _; first | omega | (simp; done) | (simp; omega))).trans (by simp [go_sem, World.cell?_alloc_past])
    have c7 : w1.cell? ⟨w.heap.size + 1 + 1, 0, none⟩ = some (.int .i64 v) := (hb1.cell (by show w.heap.size + 1 + 1 < _; first | omega | (simp; done) | (simp; omega))).trans (by simp [go_sem, World.cell?_alloc_past])
    have c8 : w1.cell? ⟨w.heap.size + 1 + 1, 1, none⟩ = some (.bool vo) := (hb1.cell (by show w.heap.size + 1 + 1 < _; first | omega | (simp; done) | (simp; omega))).trans (by simp [go_sem, World.cell?_alloc_past])
    have hz1_0 : w.heap.size < w1.heap.size := by omega
    have hz1_1 : w.heap.size + 1 < w1.heap.size := by omega
    have hz1_2 : w.heap.size + 1 + 1 < w1.heap.size := by omega
    have bb1 : Below w.heap.size w w1 := (by repeat (first | exact Below.refl _ _ | assumption | refine Below.drew ?_ | refine below_drewN ?_ _ | refine Below.setCell ?_ (by first | omega | (simp; done) | (simp; omega)) _ | refine Below.alloc ?_ (by first | omega | (simp; done) | (simp; omega)) _ | refine Below.trans ?_ (Below.mono (by assumption) (by first | omega | (simp; done) | (simp; omega)))))
    clear hb1
    go_wp2_with fail
    refine (check_any _ _ _).mono ?_
    rintro e w2 ⟨rfl, hb2⟩
    have hs2 := hb2.size
    try simp at hs2
    have c9 : w2.cell? ⟨w.heap.size, 0, none⟩ = some (.int .i64 g1) := (hb2.cell (by show w.heap.size < _; first | omega | (simp; done) | (simp; omega))).trans (by first | exact c1 | exact (World.cell?_alloc_lt _ _ _ (by show w.heap.size < _; first | omega | (simp; done) | (simp; omega))).trans c1 | (simp [go_sem, World.cell?_alloc_past, *]; done))
    have c10 : w2.cell? ⟨w.heap.size, 1, none⟩ = some (.int .u64 g2) := (hb2.cell (by show w.heap.size < _; first | omega | (simp; done) | (simp; omega))).trans (by first | exact c2 | exact (World.cell?_alloc_lt _ _ _ (by show w.heap.size < _; first | omega | (simp; done) | (simp; omega))).trans c2 | (simp [go_sem, World.cell?_alloc_past, *]; done))
    have c11 : w2.cell? ⟨w.heap.size, 2, none⟩ = some (.int .u64 g3) := (hb2.cell (by show w.heap.size < _; first | omega | (simp; done) | (simp; omega))).trans (by first | exact c3 | exact (World.cell?_alloc_lt _ _ _ (by show w.heap.size < _; first | omega | (simp; done) | (simp; omega))).trans c3 | (simp [go_sem, World.cell?_alloc_past, *]; done))
    have c12 : w2.cell? ⟨w.heap.size + 1, 0, none⟩ = some (.int .i64 h1) := (hb2.cell (by show w.heap.size + 1 < _; first | omega | (simp; done) | (simp; omega))).trans (by first | exact c4 | exact (World.cell?_alloc_lt _ _ _ (by show w.heap.size + 1 < _; first | omega | (simp; done) | (simp; omega))).trans c4 | (simp [go_sem, World.cell?_alloc_past, *]; done))
    have c13 : w2.cell? ⟨w.heap.size + 1, 1, none⟩ = some (.int .u64 h2) := (hb2.cell (by show w.heap.size + 1 < _; first | omega | (simp; done) | (simp; omega))).trans (by first | exact c5 | exact (World.cell?_alloc_lt _ _ _ (by show w.heap.size + 1 < _; first | omega | (simp; done) | (simp; omega))).trans c5 | (simp [go_sem, World.cell?_alloc_past, *]; done))
    have c14 : w2.cell? ⟨w.heap.size + 1, 2, none⟩ = some (.int .u64 h3) := (hb2.cell (by show w.heap.size + 1 < _; first | omega | (simp; done) | (simp; omega))).trans (by first | exact c6 | exact (World.cell?_alloc_lt _ _ _ (by show w.heap.size + 1 < _; first | omega | (simp; done) | (simp; omega))).trans c6 | (simp [go_sem, World.cell?_alloc_past, *]; done))
    have c15 : w2.cell? ⟨w.heap.size + 1 + 1, 0, none⟩ = some (.int .i64 v) := (hb2.cell (by show w.heap.size + 1 + 1 < _; first | omega | (simp; done) | (simp; omega))).trans (by first | exact c7 | exact (World.cell?_alloc_lt _ _ _ (by show w.heap.size + 1 + 1 < _; first | omega | (simp; done) | (simp; omega))).trans c7 | (simp [go_sem, World.cell?_alloc_past, *]; done))
    have c16 : w2.cell? ⟨w.heap.size + 1 + 1, 1, none⟩ = some (.bool vo) := (hb2.cell (by show w.heap.size + 1 + 1 < _; first | omega | (simp; done) | (simp; omega))).trans (by first | exact c8 | exact (World.cell?_alloc_lt _ _ _ (by show w.heap.size + 1 + 1 < _; first | omega | (simp; done) | (simp; omega))).trans c8 | (simp [go_sem, World.cell?_alloc_past, *]; done))
    clear c1 c2 c3 c4 c5 c6 c7 c8
    have hz2_0 : w.heap.size < w2.heap.size := by omega
    have hz2_1 : w.heap.size + 1 < w2.heap.size := by omega
    have hz2_2 : w.heap.size + 1 + 1 < w2.heap.size := by omega
    have bb2 : Below w.heap.size w w2 := (by repeat (first | exact Below.refl _ _ | assumption | refine Below.drew ?_ | refine below_drewN ?_ _ | refine Below.setCell ?_ (by first | omega | (simp; done) | (simp; omega)) _ | refine Below.alloc ?_ (by first | omega | (simp; done) | (simp; omega)) _ | refine Below.trans ?_ (Below.mono (by assumption) (by first | omega | (simp; done) | (simp; omega)))))
    clear hb2 bb1
    go_wp2
    go_ret
    exact ⟨rfl, (by repeat (first | exact Below.refl _ _ | assumption | refine Below.drew ?_ | refine below_drewN ?_ _ | refine Below.setCell ?_ (by first | omega | (simp; done) | (simp; omega)) _ | refine Below.alloc ?_ (by first | omega | (simp; done) | (simp; omega)) _ | refine Below.trans ?_ (Below.mono (by assumption) (by first | omega | (simp; done) | (simp; omega)))))⟩
  go_enter Try.func11, Try.ntmps11
  go_wp2_with fail
  refine (lives2_any _).mono ?_
  rintro e w1 ⟨rfl, hb1⟩
  have hs1 := hb1.size
  try simp at hs1
  have c1 : w1.cell? ⟨w.heap.size, 0, none⟩ = some (.int .i64 g1) := (hb1.cell (by show w.heap.size < _; first | omega | (simp; done) | (simp; omega))).trans (by simp [go_sem, World.cell?_alloc_past])
  have c2 : w1.cell? ⟨w.heap.size, 1, none⟩ = some (.int .u64 g2) := (hb1.cell (by show w.heap.size < _; first | omega | (simp; done) | (simp; omega))).trans (by simp [go_sem, World.cell?_alloc_past])
  have c3 : w1.cell? ⟨w.heap.size, 2, none⟩ = some (.int .u64 g3) := (hb1.cell (by show w.heap.size < _; first | omega | (simp; done) | (simp; omega))).trans (by simp [go_sem, World.cell?_alloc_past])
  have c4 : w1.cell? ⟨w.heap.size + 1, 0, none⟩ = some (.int .i64 h1) := (hb1.cell (by show w.heap.size + 1 < _; first | omega | (simp; done) | (simp; omega))).trans (by simp [go_sem, World.cell?_alloc_past])
  have c5 : w1.cell? ⟨w.heap.size + 1, 1, none⟩ = some (.int .u64 h2) := (hb1.cell (by show w.heap.size + 1 < _; first | omega | (simp; done) | (simp; omega))).trans (by simp [go_sem, World.cell?_alloc_past])
  have c6 : w1.cell? ⟨w.heap.size + 1, 2, none⟩ = some (.int .u64 h3) := (hb1.cell (by show w.heap.size + 1 < _; first | omega | (simp; done) | (simp; omega))).trans (by simp [go_sem, World.cell?_alloc_past])
  have c7 : w1.cell? ⟨w.heap.size + 1 + 1, 0, none⟩ = some (.int .i64 v) := (hb1.cell (by show w.heap.size + 1 + 1 < _; first | omega | (simp; done) | (simp; omega))).trans (by simp [go_sem, World.cell?_alloc_past])
  have c8 : w1.cell? ⟨w.heap.size + 1 + 1, 1, none⟩ = some (.bool vo) := (hb1.cell (by show w.heap.size + 1 + 1 < _; first | omega | (simp; done) | (simp; omega))).trans (by simp [go_sem, World.cell?_alloc_past])
  have hz1_0 : w.heap.size < w1.heap.size := by omega
  have hz1_1 : w.heap.size + 1 < w1.heap.size := by omega
  have hz1_2 : w.heap.size + 1 + 1 < w1.heap.size := by omega
  have bb1 : Below w.heap.size w w1 := (by repeat (first | exact Below.refl _ _ | assumption | refine Below.drew ?_ | refine below_drewN ?_ _ | refine Below.setCell ?_ (by first | omega | (simp; done) | (simp; omega)) _ | refine Below.alloc ?_ (by first | omega | (simp; done) | (simp; omega)) _ | refine Below.trans ?_ (Below.mono (by assumption) (by first | omega | (simp; done) | (simp; omega)))))
  clear hb1
  go_wp2_with fail
  refine (check_any _ _ _).mono ?_
  rintro e w2 ⟨rfl, hb2⟩
  have hs2 := hb2.size
  try simp at hs2
  have c9 : w2.cell? ⟨w.heap.size, 0, none⟩ = some (.int .i64 g1) := (hb2.cell (by show w.heap.size < _; first | omega | (simp; done) | (simp; omega))).trans (by first | exact c1 | exact (World.cell?_alloc_lt _ _ _ (by show w.heap.size < _; first | omega | (simp; done) | (simp; omega))).trans c1 | (simp [go_sem, World.cell?_alloc_past, *]; done))
  have c10 : w2.cell? ⟨w.heap.size, 1, none⟩ = some (.int .u64 g2) := (hb2.cell (by show w.heap.size < _; first | omega | (simp; done) | (simp; omega))).trans (by first | exact c2 | exact (World.cell?_alloc_lt _ _ _ (by show w.heap.size < _; first | omega | (simp; done) | (simp; omega))).trans c2 | (simp [go_sem, World.cell?_alloc_past, *]; done))
  have c11 : w2.cell? ⟨w.heap.size, 2, none⟩ = some (.int .u64 g3) := (hb2.cell (by show w.heap.size < _; first | omega | (simp; done) | (simp; omega))).trans (by first | exact c3 | exact (World.cell?_alloc_lt _ _ _ (by show w.heap.size < _; first | omega | (simp; done) | (simp; omega))).trans c3 | (simp [go_sem, World.cell?_alloc_past, *]; done))
  have c12 : w2.cell? ⟨w.heap.size + 1, 0, none⟩ = some (.int .i64 h1) := (hb2.cell (by show w.heap.size + 1 < _; first | omega | (simp; done) | (simp; omega))).trans (by first | exact c4 | exact (World.cell?_alloc_lt _ _ _ (by show w.heap.size + 1 < _; first | omega | (simp; done) | (simp; omega))).trans c4 | (simp [go_sem, World.cell?_alloc_past, *]; done))
  have c13 : w2.cell? ⟨w.heap.size + 1, 1, none⟩ = some (.int .u64 h2) := (hb2.cell (by show w.heap.size + 1 < _; first | omega | (simp; done) | (simp; omega))).trans (by first | exact c5 | exact (World.cell?_alloc_lt _ _ _ (by show w.heap.size + 1 < _; first | omega | (simp; done) | (simp; omega))).trans c5 | (simp [go_sem, World.cell?_alloc_past, *]; done))
  have c14 : w2.cell? ⟨w.heap.size + 1, 2, none⟩ = some (.int .u64 h3) := (hb2.cell (by show w.heap.size + 1 < _; first | omega | (simp; done) | (simp; omega))).trans (by first | exact c6 | exact (World.cell?_alloc_lt _ _ _ (by show w.heap.size + 1 < _; first | omega | (simp; done) | (simp; omega))).trans c6 | (simp [go_sem, World.cell?_alloc_past, *]; done))
  have c15 : w2.cell? ⟨w.heap.size + 1 + 1, 0, none⟩ = some (.int .i64 v) := (hb2.cell (by show w.heap.size + 1 + 1 < _; first | omega | (simp; done) | (simp; omega))).trans (by first | exact c7 | exact (World.cell?_alloc_lt _ _ _ (by show w.heap.size + 1 + 1 < _; first | omega | (simp; done) | (simp; omega))).trans c7 | (simp [go_sem, World.cell?_alloc_past, *]; done))
  have c16 : w2.cell? ⟨w.heap.size + 1 + 1, 1, none⟩ = some (.bool vo) := (hb2.cell (by show w.heap.size + 1 + 1 < _; first | omega | (simp; done) | (simp; omega))).trans (by first | exact c8 | exact (World.cell?_alloc_lt _ _ _ (by show w.heap.size + 1 + 1 < _; first | omega | (simp; done) | (simp; omega))).trans c8 | (simp [go_sem, World.cell?_alloc_past, *]; done))
  clear c1 c2 c3 c4 c5 c6 c7 c8
  have hz2_0 : w.heap.size < w2.heap.size := by omega
  have hz2_1 : w.heap.size + 1 < w2.heap.size := by omega
  have hz2_2 : w.heap.size + 1 + 1 < w2.heap.size := by omega
  have bb2 : Below w.heap.size w w2 := (by repeat (first | exact Below.refl _ _ | assumption | refine Below.drew ?_ | refine below_drewN ?_ _ | refine Below.setCell ?_ (by first | omega | (simp; done) | (simp; omega)) _ | refine Below.alloc ?_ (by first | omega | (simp; done) | (simp; omega)) _ | refine Below.trans ?_ (Below.mono (by assumption) (by first | omega | (simp; done) | (simp; omega)))))
  clear hb2 bb1
  go_wp2_with fail
  refine wp_world (fun W => W.cell? ⟨w.heap.size, 0, none⟩ = some (.int .i64 g1) ∧ W.cell? ⟨w.heap.size, 1, none⟩ = some (.int .u64 g2) ∧ W.cell? ⟨w.heap.size, 2, none⟩ = some (.int .u64 g3) ∧ W.cell? ⟨w.heap.size + 1, 0, none⟩ = some (.int .i64 h1) ∧ W.cell? ⟨w.heap.size + 1, 1, none⟩ = some (.int .u64 h2) ∧ W.cell? ⟨w.heap.size + 1, 2, none⟩ = some (.int .u64 h3) ∧ W.cell? ⟨w.heap.size + 1 + 1, 0, none⟩ = some (.int .i64 v) ∧ W.cell? ⟨w.heap.size + 1 + 1, 1, none⟩ = some (.bool vo) ∧ w.heap.size + 1 + 1 < W.heap.size ∧ Below w.heap.size w W) ⟨by first | assumption | exact (World.cell?_alloc_lt _ _ _ (by show w.heap.size < _; first | omega | (simp; done) | (simp; omega))).trans (by assumption) | simp [go_sem, World.cell?_alloc_past], by first | assumption | exact (World.cell?_alloc_lt _ _ _ (by show w.heap.size < _; first | omega | (simp; done) | (simp; omega))).trans (by assumption) | simp [go_sem, World.cell?_alloc_past], by first | assumption | exact (World.cell?_alloc_lt _ _ _ (by show w.heap.size < _; first | omega | (simp; done) | (simp; omega))).trans (by assumption) | simp [go_sem, World.cell?_alloc_past], by first | assumption | exact (World.cell?_alloc_lt _ _ _ (by show w.heap.size + 1 < _; first | omega | (simp; done) | (simp; omega))).trans (by assumption) | simp [go_sem, World.cell?_alloc_past], by first | assumption | exact (World.cell?_alloc_lt _ _ _ (by show w.heap.size + 1 < _; first | omega | (simp; done) | (simp; omega))).trans (by assumption) | simp [go_sem, World.cell?_alloc_past], by first | assumption | exact (World.cell?_alloc_lt _ _ _ (by show w.heap.size + 1 < _; first | omega | (simp; done) | (simp; omega))).trans (by assumption) | simp [go_sem, World.cell?_alloc_past], by first | assumption | exact (World.cell?_alloc_lt _ _ _ (by show w.heap.size + 1 + 1 < _; first | omega | (simp; done) | (simp; omega))).trans (by assumption) | simp [go_sem, World.cell?_alloc_past], by first | assumption | exact (World.cell?_alloc_lt _ _ _ (by show w.heap.size + 1 + 1 < _; first | omega | (simp; done) | (simp; omega))).trans (by assumption) | simp [go_sem, World.cell?_alloc_past], (by first | omega | (simp; done) | (simp; omega)), (by repeat (first | exact Below.refl _ _ | assumption | refine Below.drew ?_ | refine below_drewN ?_ _ | refine Below.setCell ?_ (by first | omega | (simp; done) | (simp; omega)) _ | refine Below.alloc ?_ (by first | omega | (simp; done) | (simp; omega)) _ | refine Below.trans ?_ (Below.mono (by assumption) (by first | omega | (simp; done) | (simp; omega)))))⟩ ?_
  rintro W0 ⟨c0, c1, c2, c3, c4, c5, c6, c7, hz0, hb0⟩
  have mkS : ∀ W : World, Below W0.heap.size W0 W → (W.cell? ⟨w.heap.size, 0, none⟩ = some (.int .i64 g1) ∧ W.cell? ⟨w.heap.size, 1, none⟩ = some (.int .u64 g2) ∧ W.cell? ⟨w.heap.size, 2, none⟩ = some (.int .u64 g3) ∧ W.cell? ⟨w.heap.size + 1, 0, none⟩ = some (.int .i64 h1) ∧ W.cell? ⟨w.heap.size + 1, 1, none⟩ = some (.int .u64 h2) ∧ W.cell? ⟨w.heap.size + 1, 2, none⟩ = some (.int .u64 h3) ∧ W.cell? ⟨w.heap.size + 1 + 1, 0, none⟩ = some (.int .i64 v) ∧ W.cell? ⟨w.heap.size + 1 + 1, 1, none⟩ = some (.bool vo) ∧ Below W0.heap.size W0 W) := fun W hb => ⟨(hb.cell (by show w.heap.size < _; omega)).trans c0, (hb.cell (by show w.heap.size < _; omega)).trans c1, (hb.cell (by show w.heap.size < _; omega)).trans c2, (hb.cell (by show w.heap.size + 1 < _; omega)).trans c3, (hb.cell (by show w.heap.size + 1 < _; omega)).trans c4, (hb.cell (by show w.heap.size + 1 < _; omega)).trans c5, (hb.cell (by show w.heap.size + 1 + 1 < _; omega)).trans c6, (hb.cell (by show w.heap.size + 1 + 1 < _; omega)).trans c7, hb⟩
  have unS : ∀ W : World, (W.cell? ⟨w.heap.size, 0, none⟩ = some (.int .i64 g1) ∧ W.cell? ⟨w.heap.size, 1, none⟩ = some (.int .u64 g2) ∧ W.cell? ⟨w.heap.size, 2, none⟩ = some (.int .u64 g3) ∧ W.cell? ⟨w.heap.size + 1, 0, none⟩ = some (.int .i64 h1) ∧ W.cell? ⟨w.heap.size + 1, 1, none⟩ = some (.int .u64 h2) ∧ W.cell? ⟨w.heap.size + 1, 2, none⟩ = some (.int .u64 h3) ∧ W.cell? ⟨w.heap.size + 1 + 1, 0, none⟩ = some (.int .i64 v) ∧ W.cell? ⟨w.heap.size + 1 + 1, 1, none⟩ = some (.bool vo) ∧ Below W0.heap.size W0 W) → Below W0.heap.size W0 W := fun W h => h.2.2.2.2.2.2.2.2
  go_region_held3 (fun w' => w'.cell? ⟨w.heap.size, 0, none⟩ = some (.int .i64 g1) ∧ w'.cell? ⟨w.heap.size, 1, none⟩ = some (.int .u64 g2) ∧ w'.cell? ⟨w.heap.size, 2, none⟩ = some (.int .u64 g3) ∧ w'.cell? ⟨w.heap.size + 1, 0, none⟩ = some (.int .i64 h1) ∧ w'.cell? ⟨w.heap.size + 1, 1, none⟩ = some (.int .u64 h2) ∧ w'.cell? ⟨w.heap.size + 1, 2, none⟩ = some (.int .u64 h3) ∧ w'.cell? ⟨w.heap.size + 1 + 1, 0, none⟩ = some (.int .i64 v) ∧ w'.cell? ⟨w.heap.size + 1 + 1, 1, none⟩ = some (.bool vo) ∧ Below W0.heap.size W0 w') (exact mkS _ (by repeat (first | exact Below.refl _ _ | assumption | exact unS _ (by assumption) | refine Below.drew ?_ | refine below_drewN ?_ _ | refine Below.setCell ?_ (by first | omega | (simp; done) | (simp; omega)) _ | refine Below.alloc ?_ (by first | omega | (simp; done) | (simp; omega)) _ | refine Below.trans ?_ (Below.mono (by assumption) (by first | omega | (simp; done) | (simp; omega))))))
    (first | (go_at_call 61; refine (put_any _ _ _ _ _ _ sg1 sg2 sg3 sv).mono ?_; rintro e w1 ⟨rfl, hb1⟩; have hs1 := hb1.size; (try simp at hs1)) | (go_at_call 62; refine (rput_any _ _ _ _ _ _ sg1 sg2 sg3 sv).mono ?_; rintro e w1 ⟨rfl, hb1⟩; have hs1 := hb1.size; (try simp at hs1)) | (go_at_call 63; refine (take_any _ _ _ _ _ _ sg1 sg2 sg3 sv).mono ?_; rintro e w1 ⟨rfl, hb1⟩; have hs1 := hb1.size; (try simp at hs1)) | (go_at_call 64; refine (rtake_any _ _ _ _ _ _ sg1 sg2 sg3 sv).mono ?_; rintro e w1 ⟨rfl, hb1⟩; have hs1 := hb1.size; (try simp at hs1)) | (go_at_call 65; refine (both_any _ _ _ _ _ _ _ sg1 sg2 sg3 sh1 sh2 sh3).mono ?_; rintro e w1 ⟨rfl, hb1⟩; have hs1 := hb1.size; (try simp at hs1)) | (go_at_call 66; refine (rboth_any _ _ _ _ _ _ _ sg1 sg2 sg3 sh1 sh2 sh3).mono ?_; rintro e w1 ⟨rfl, hb1⟩; have hs1 := hb1.size; (try simp at hs1)) | (go_at_call 67; refine (vof_any _ _ _ _ sg1 sg2 sg3).mono ?_; rintro e w1 ⟨rfl, hb1⟩; have hs1 := hb1.size; (try simp at hs1)) | (go_at_call 68; refine (rvof_any _ _ _ _ sg1 sg2 sg3).mono ?_; rintro e w1 ⟨rfl, hb1⟩; have hs1 := hb1.size; (try simp at hs1)))
  all_goals go_wp2
  all_goals go_ret
  all_goals exact ⟨rfl, (by repeat (first | exact Below.refl _ _ | assumption | refine Below.drew ?_ | refine below_drewN ?_ _ | refine Below.setCell ?_ (by first | omega | (simp; done) | (simp; omega)) _ | refine Below.alloc ?_ (by first | omega | (simp; done) | (simp; omega)) _ | refine Below.trans ?_ (Below.mono (by assumption) (by first | omega | (simp; done) | (simp; omega)))))⟩
end Go.Proofs.Ytehlaekhngohgaa
