/- Layer 2: the statements' do; plain facts on it; the walk of NumberRing. -/
import Derived.Test.YtblddomiecjhiaaGrI
namespace Go.Proofs.Ytblddomiecjhiaa
set_option linter.unusedVariables false
set_option linter.unusedSimpArgs false
open Go.RowKit Go.Shelf

theorem do_cases (op a : Int) (ao : Bool) (b : Int) (bo : Bool) :
    (doN op a ao b bo = 0 ∧ doB op a ao b bo = false) ∨ (doN op a ao b bo = 0 ∧ doB op a ao b bo = true) ∨ (ao = false ∧ bo = false ∧ doN op a ao b bo = outN (doX op a b) 0 ∧ doB op a ao b bo = outB (doX op a b) 0) := by
  by_cases h : op < 1 ∨ 3 < op ∨ chkZ a ao = 2 ∨ chkZ b bo = 2
  · exact .inl (do_bad h).2
  by_cases g : ao = true ∨ bo = true
  · exact .inr (.inl (do_over h g).2)
  · obtain rfl : ao = false := by simp_all
    obtain rfl : bo = false := by simp_all
    exact .inr (.inr ⟨rfl, rfl, (do_ok (by omega)).2⟩)
theorem do_chk (op a : Int) (ao : Bool) (b : Int) (bo : Bool) : chkZ (doN op a ao b bo) (doB op a ao b bo) = 0 := by
  rcases do_cases op a ao b bo with ⟨h1, h2⟩ | ⟨h1, h2⟩ | ⟨_, _, h1, h2⟩
  · rw [h1, h2]; decide
  · rw [h1, h2]; decide
  · rw [h1, h2]
    by_cases h : (0 : Int) ≠ 0 ∨ doX op a b < -9223372036854775808 ∨ 9223372036854775807 < doX op a b
    · rw [(out_t h).2]; exact chkZ_0 _
    · rw [(out_f h).1]; exact chkZ_f _
theorem do_sw (op a : Int) (ao : Bool) (b : Int) (bo : Bool) : SW (doN op a ao b bo) := by
  rcases do_cases op a ao b bo with ⟨h1, h2⟩ | ⟨h1, h2⟩ | ⟨_, _, h1, h2⟩
  · rw [h1]; unfold SW; omega
  · rw [h1]; unfold SW; omega
  · rw [h1]
    by_cases h : (0 : Int) ≠ 0 ∨ doX op a b < -9223372036854775808 ∨ 9223372036854775807 < doX op a b
    · rw [(out_t h).2]; unfold SW; omega
    · rw [(out_f h).2]; unfold SW; omega
/-- What is not over is the sum, the difference, the product. -/
theorem do_in {op a b : Int} {ao bo : Bool} (h1 : 1 ≤ op) (h3 : op ≤ 3) (qa : chkZ a ao = 0) (qb : chkZ b bo = 0) (h : doB op a ao b bo = false) : ao = false ∧ bo = false ∧ doN op a ao b bo = doX op a b := by
  have nb : ¬(op < 1 ∨ 3 < op ∨ chkZ a ao = 2 ∨ chkZ b bo = 2) := by rw [qa, qb]; omega
  by_cases g : ao = true ∨ bo = true
  · rw [(do_over nb g).2.2] at h; cases h
  · obtain rfl : ao = false := by simp_all
    obtain rfl : bo = false := by simp_all
    obtain ⟨_, e2, e3⟩ := do_ok (op := op) (a := a) (b := b) (by omega)
    refine ⟨rfl, rfl, ?_⟩
    by_cases g2 : (0 : Int) ≠ 0 ∨ doX op a b < -9223372036854775808 ∨ 9223372036854775807 < doX op a b
    · rw [e3, (out_t g2).1] at h; cases h
    · rw [e2, (out_f g2).2]
theorem do_e0 {op a b : Int} {ao bo : Bool} (h1 : 1 ≤ op) (h3 : op ≤ 3) (qa : chkZ a ao = 0) (qb : chkZ b bo = 0) : doE op a ao b bo = 0 := by
  unfold doE; rw [if_neg (by rw [qa, qb]; omega)]
theorem do_ov {op a b : Int} {ao bo : Bool} (h1 : 1 ≤ op) (h3 : op ≤ 3) (qa : chkZ a ao = 0) (qb : chkZ b bo = 0) (h : ao = true ∨ bo = true) : doB op a ao b bo = true :=
  (do_over (by rw [qa, qb]; omega) h).2.2

/-- Brackets, of sums and of products. -/
theorem ring_assoc {op a b c : Int} {ao bo co : Bool} (hop : op = 1 ∨ op = 3) (qa : chkZ a ao = 0) (qb : chkZ b bo = 0) (qc : chkZ c co = 0) :
    doB op (doN op a ao b bo) (doB op a ao b bo) c co = true ∨ (doB op (doN op a ao b bo) (doB op a ao b bo) c co = false ∧ doB op a ao (doN op b bo c co) (doB op b bo c co) = true) ∨
    (doB op (doN op a ao b bo) (doB op a ao b bo) c co = false ∧ doB op a ao (doN op b bo c co) (doB op b bo c co) = false ∧ doN op (doN op a ao b bo) (doB op a ao b bo) c co = doN op a ao (doN op b bo c co) (doB op b bo c co)) := by
  have h1 : 1 ≤ op := by omega
  have h3 : op ≤ 3 := by omega
  cases hx : doB op (doN op a ao b bo) (doB op a ao b bo) c co with
  | true => exact .inl rfl
  | false =>
    cases hy : doB op a ao (doN op b bo c co) (doB op b bo c co) with
    | true => exact .inr (.inl ⟨rfl, rfl⟩)
    | false =>
      refine .inr (.inr ⟨rfl, rfl, ?_⟩)
      obtain ⟨x1, _, x3⟩ := do_in h1 h3 (do_chk _ _ _ _ _) qc hx
      obtain ⟨_, y2, y3⟩ := do_in h1 h3 qa (do_chk _ _ _ _ _) hy
      obtain ⟨_, _, z3⟩ := do_in h1 h3 qa qb x1
      obtain ⟨_, _, u3⟩ := do_in h1 h3 qb qc y2
      rw [x3, y3, z3, u3]
      rcases hop with rfl | rfl
      · simp [doX]; omega
      · simp [doX, Int.mul_assoc]
theorem ring_dist {a b c : Int} {ao bo co : Bool} (qa : chkZ a ao = 0) (qb : chkZ b bo = 0) (qc : chkZ c co = 0) :
    doB 3 a ao (doN 1 b bo c co) (doB 1 b bo c co) = true ∨ (doB 3 a ao (doN 1 b bo c co) (doB 1 b bo c co) = false ∧ doB 1 (doN 3 a ao b bo) (doB 3 a ao b bo) (doN 3 a ao c co) (doB 3 a ao c co) = true) ∨
    (doB 3 a ao (doN 1 b bo c co) (doB 1 b bo c co) = false ∧ doB 1 (doN 3 a ao b bo) (doB 3 a ao b bo) (doN 3 a ao c co) (doB 3 a ao c co) = false ∧ doN 3 a ao (doN 1 b bo c co) (doB 1 b bo c co) = doN 1 (doN 3 a ao b bo) (doB 3 a ao b bo) (doN 3 a ao c co) (doB 3 a ao c co)) := by
  cases hx : doB 3 a ao (doN 1 b bo c co) (doB 1 b bo c co) with
  | true => exact .inl rfl
  | false =>
    cases hy : doB 1 (doN 3 a ao b bo) (doB 3 a ao b bo) (doN 3 a ao c co) (doB 3 a ao c co) with
    | true => exact .inr (.inl ⟨rfl, rfl⟩)
    | false =>
      refine .inr (.inr ⟨rfl, rfl, ?_⟩)
      obtain ⟨_, x2, x3⟩ := do_in (by omega) (by omega) qa (do_chk _ _ _ _ _) hx
      obtain ⟨y1, y2, y3⟩ := do_in (by omega) (by omega) (do_chk _ _ _ _ _) (do_chk _ _ _ _ _) hy
      obtain ⟨_, _, z3⟩ := do_in (by omega) (by omega) qb qc x2
      obtain ⟨_, _, u3⟩ := do_in (by omega) (by omega) qa qb y1
      obtain ⟨_, _, v3⟩ := do_in (by omega) (by omega) qa qc y2
      rw [x3, y3, z3, u3, v3]
      simp [doX, Int.mul_add]
theorem ring_over {a b c : Int} {ao bo co : Bool} (qa : chkZ a ao = 0) (qb : chkZ b bo = 0) (qc : chkZ c co = 0) (h : ao = true ∨ bo = true ∨ co = true) :
    doB 3 a ao (doN 1 b bo c co) (doB 1 b bo c co) = true ∧ doB 1 (doN 3 a ao b bo) (doB 3 a ao b bo) (doN 3 a ao c co) (doB 3 a ao c co) = true := by
  constructor
  · refine do_ov (by omega) (by omega) qa (do_chk _ _ _ _ _) ?_
    rcases h with h | h | h
    · exact .inl h
    · exact .inr (do_ov (by omega) (by omega) qb qc (.inl h))
    · exact .inr (do_ov (by omega) (by omega) qb qc (.inr h))
  · refine do_ov (by omega) (by omega) (do_chk _ _ _ _ _) (do_chk _ _ _ _ _) ?_
    rcases h with h | h | h
    · exact .inl (do_ov (by omega) (by omega) qa qb (.inl h))
    · exact .inl (do_ov (by omega) (by omega) qa qb (.inr h))
    · exact .inr (do_ov (by omega) (by omega) qa qc (.inr h))

theorem ldo_any (op a : Int) (ao : Bool) (b : Int) (bo : Bool) (w : World) (sa : SW a) (sb : SW b) (h1 : 1 ≤ op) (h3 : op ≤ 3) (qa : chkZ a ao = 0) (qb : chkZ b bo = 0) : Calls Try.prog 38 #[.int .i64 op, .agg #[.int .i64 a, .bool ao], .agg #[.int .i64 b, .bool bo]] w fun e w' =>
    e = .returned (.agg #[.int .i64 (doN op a ao b bo), .bool (doB op a ao b bo)]) ∧ Below w.heap.size w w' := by
  have D := fun W => do_any op a ao b bo W sa sb
  simp only [do_e0 h1 h3 qa qb] at D
  clear qa qb
  have K : ∀ W w1 : World, Below W.heap.size W w1 → (W.cell? ⟨w.heap.size, 0, none⟩ = some (.int .i64 a) ∧ W.cell? ⟨w.heap.size, 1, none⟩ = some (.bool ao) ∧ W.cell? ⟨w.heap.size + 1, 0, none⟩ = some (.int .i64 b) ∧ W.cell? ⟨w.heap.size + 1, 1, none⟩ = some (.bool bo) ∧ W.cell? ⟨w.heap.size + 1 + 1, 0, none⟩ = some (.int .i64 0) ∧ W.cell? ⟨w.heap.size + 1 + 1, 1, none⟩ = some (.bool false) ∧ W.frozen? ⟨w.heap.size + 1 + 1, 0, none⟩ = false ∧ W.frozen? ⟨w.heap.size + 1 + 1, 1, none⟩ = false ∧ w.heap.size + 1 + 1 < W.heap.size ∧ Below w.heap.size w W) → (w1.cell? ⟨w.heap.size, 0, none⟩ = some (.int .i64 a) ∧ w1.cell? ⟨w.heap.size, 1, none⟩ = some (.bool ao) ∧ w1.cell? ⟨w.heap.size + 1, 0, none⟩ = some (.int .i64 b) ∧ w1.cell? ⟨w.heap.size + 1, 1, none⟩ = some (.bool bo) ∧ w1.cell? ⟨w.heap.size + 1 + 1, 0, none⟩ = some (.int .i64 0) ∧ w1.cell? ⟨w.heap.size + 1 + 1, 1, none⟩ = some (.bool false) ∧ w1.frozen? ⟨w.heap.size + 1 + 1, 0, none⟩ = false ∧ w1.frozen? ⟨w.heap.size + 1 + 1, 1, none⟩ = false ∧ w.heap.size + 1 + 1 < w1.heap.size ∧ Below w.heap.size w w1) := by
    rintro W w1 hb1 ⟨s0, s1, s2, s3, s4, s5, f0, f1, hz, hb⟩
    have hs := hb1.size
    exact ⟨(hb1.cell (by show w.heap.size < _; omega)).trans s0, (hb1.cell (by show w.heap.size < _; omega)).trans s1, (hb1.cell (by show w.heap.size + 1 < _; omega)).trans s2, (hb1.cell (by show w.heap.size + 1 < _; omega)).trans s3, (hb1.cell (by show w.heap.size + 1 + 1 < _; omega)).trans s4, (hb1.cell (by show w.heap.size + 1 + 1 < _; omega)).trans s5, (hb1.frozen (by show w.heap.size + 1 + 1 < _; omega)).trans f0, (hb1.frozen (by show w.heap.size + 1 + 1 < _; omega)).trans f1, by omega, hb.trans (hb1.mono (by omega))⟩
  go_enter Try.func38, Try.ntmps38
  go_wp2_with (go_at_call 11; refine (D _).mono ?_; rintro e w1 ⟨rfl, hb1⟩; obtain ⟨s0, s1, s2, s3, s4, s5, f0, f1, hz, hb⟩ := K _ _ hb1 (by first | exact ⟨s0, s1, s2, s3, s4, s5, f0, f1, hz, hb⟩ | exact ⟨s0, s1, s2, s3, s4, s5, f0, f1, hz, hb.drew⟩ | exact ⟨s0, s1, s2, s3, s4, s5, f0, f1, hz, below_drewN hb _⟩ | exact ⟨by simp [go_sem, World.cell?_alloc_past], by simp [go_sem, World.cell?_alloc_past], by simp [go_sem, World.cell?_alloc_past], by simp [go_sem, World.cell?_alloc_past], by simp [go_sem, World.cell?_alloc_past], by simp [go_sem, World.cell?_alloc_past], by simp [go_sem, World.cell?_alloc_past], by simp [go_sem, World.cell?_alloc_past], by simp [go_sem, World.cell?_alloc_past], (by repeat (first | exact Below.refl _ _ | assumption | refine Below.drew ?_ | refine below_drewN ?_ _ | refine Below.setCell ?_ (by first | omega | (simp; done) | (simp; omega)) _ | refine Below.alloc ?_ (by first | omega | (simp; done) | (simp; omega)) _ | refine Below.trans ?_ (Below.mono (by assumption) (by first | omega | (simp; done) | (simp; omega)))))⟩))
  exact bodyPost_ret (v := .agg #[.int .i64 (doN op a ao b bo), .bool (doB op a ao b bo)]) (by simp [results, Try.results38, go_sem, *]) rfl ⟨rfl, (by repeat (first | exact Below.refl _ _ | assumption | refine Below.drew ?_ | refine below_drewN ?_ _ | refine Below.setCell ?_ (by first | omega | (simp; done) | (simp; omega)) _ | refine Below.alloc ?_ (by first | omega | (simp; done) | (simp; omega)) _ | refine Below.trans ?_ (Below.mono (by assumption) (by first | omega | (simp; done) | (simp; omega)))))⟩
end Go.Proofs.Ytblddomiecjhiaa
