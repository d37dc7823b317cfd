/- Layer 2: the document's product, Do, and both Is. -/
import Derived.Test.YtfdgajfpmeaieaaGrF
namespace Go.Proofs.Ytfdgajfpmeaieaa
set_option linter.unusedVariables false
set_option linter.unusedSimpArgs false
open Go.RowKit Go.Shelf

theorem times_c (a b : Int) : wrap64 (IntKind.u64.wrap (IntKind.u64.wrap a * IntKind.u64.wrap b)) = wrap64 (a * b) := by
  simp only [wrap_u64']
  rw [← Int.mul_emod]
  unfold wrap64
  omega

theorem wrap64_k (x : Int) : ∃ k, wrap64 x = x - 18446744073709551616 * k ∧ (k = 0 ↔ -9223372036854775808 ≤ x ∧ x ≤ 9223372036854775807) := ⟨(x + 9223372036854775808) / 18446744073709551616, by unfold wrap64; omega, by omega⟩

theorem times_test (a b : Int) (sa : SW a) (sb : SW b) (hb0 : b ≠ 0) (hb1 : b ≠ -1) : (wrap64 ((wrap64 (a * b)).tdiv b) == a) = !outB (a * b) 0 := by
  obtain ⟨a1, a2⟩ := sa
  obtain ⟨b1, b2⟩ := sb
  have c1 : -9223372036854775808 ≤ wrap64 (a * b) := by unfold wrap64; omega
  have c2 : wrap64 (a * b) ≤ 9223372036854775807 := by unfold wrap64; omega
  obtain ⟨k, hk, hk0⟩ := wrap64_k (a * b)
  have hd := Int.mul_tdiv_add_tmod (wrap64 (a * b)) b
  have hr : ((wrap64 (a * b)).tmod b).natAbs < b.natAbs := by rw [Int.natAbs_tmod]; exact Nat.mod_lt _ (by omega)
  have hq : -9223372036854775808 ≤ (wrap64 (a * b)).tdiv b ∧ (wrap64 (a * b)).tdiv b ≤ 9223372036854775807 := by
    have h1 : ((wrap64 (a * b)).tdiv b).natAbs = (wrap64 (a * b)).natAbs / b.natAbs := Int.natAbs_tdiv _ _
    by_cases h2 : b = 1
    · have h3 : (wrap64 (a * b)).tdiv b = wrap64 (a * b) := by rw [h2, Int.tdiv_one]
      omega
    · have h3 : (wrap64 (a * b)).natAbs / b.natAbs ≤ (wrap64 (a * b)).natAbs / 2 := Nat.div_le_div_left (by omega) (by omega)
      omega
  have hw : wrap64 ((wrap64 (a * b)).tdiv b) = (wrap64 (a * b)).tdiv b := IntWalk.wrap64_in _ hq
  rw [hw]
  by_cases hs : -9223372036854775808 ≤ a * b ∧ a * b ≤ 9223372036854775807
  · have hk' := hk0.2 hs
    have e1 : wrap64 (a * b) = a * b := by rw [hk, hk']; omega
    have e2 : outB (a * b) 0 = false := (out_f (by omega)).1
    rw [e1, e2, Int.mul_tdiv_cancel _ hb0]
    simp
  · have e2 : outB (a * b) 0 = true := (out_t (by omega)).1
    rw [e2]
    have hk' : k ≠ 0 := fun e => hs (hk0.1 e)
    simp only [Bool.not_true, beq_eq_false_iff_ne, ne_eq]
    intro e
    rw [e, Int.mul_comm] at hd
    omega


theorem times_any (a b : Int) (w : World) (sa : SW a) (sb : SW b) : Calls Try.prog 71 #[.int .i64 a, .int .i64 b] w fun e w' =>
    e = .returned (.tuple #[.int .i64 (wrap64 (a * b)), .bool (!outB (a * b) 0)]) ∧ Below w.heap.size w w' := by
  by_cases ha : a = 0
  · subst ha
    have e1 : wrap64 (0 * b) = 0 := by simp [wrap64]
    have e2 : outB (0 * b) 0 = false := (out_f (by simp)).1
    rw [e1, e2]
    go_enter Try.func71, Try.ntmps71
    go_wp2
    go_ret2
    exact ⟨rfl, Below.refl _ _⟩
  by_cases hb : b = 0
  · subst hb
    have e1 : wrap64 (a * 0) = 0 := by simp [wrap64]
    have e2 : outB (a * 0) 0 = false := (out_f (by simp)).1
    have g1 : (a == 0) = false := by simpa using ha
    rw [e1, e2]
    go_enter Try.func71, Try.ntmps71
    go_wp2
    go_ret2
    exact ⟨rfl, Below.refl _ _⟩
  have g1 : (a == 0) = false := by simpa using ha
  have g2 : (b == 0) = false := by simpa using hb
  by_cases ha1 : a = -1
  · subst ha1
    have e2 : (!outB (-1 * b) 0) = (b != -9223372036854775808) := by
      obtain ⟨b1, b2⟩ := sb
      by_cases h : b = -9223372036854775808
      · subst h
        rw [(out_t (by omega)).1]; rfl
      · rw [(out_f (by omega)).1]; simpa using h
    rw [e2, ← times_c]
    clear e2
    obtain ⟨b1, b2⟩ := sb
    go_enter Try.func71, Try.ntmps71
    go_wp2
    go_ret2
    exact ⟨rfl, Below.refl _ _⟩
  have g3 : (a == -1) = false := by simpa using ha1
  by_cases hb1 : b = -1
  · subst hb1
    have e2 : (!outB (a * -1) 0) = (a != -9223372036854775808) := by
      obtain ⟨b1, b2⟩ := sa
      by_cases h : a = -9223372036854775808
      · subst h
        rw [(out_t (by omega)).1]; rfl
      · rw [(out_f (by omega)).1]; simpa using h
    rw [e2, ← times_c]
    clear e2
    obtain ⟨b1, b2⟩ := sa
    go_enter Try.func71, Try.ntmps71
    go_wp2
    go_ret2
    exact ⟨rfl, Below.refl _ _⟩
  have g4 : (b == -1) = false := by simpa using hb1
  rw [← times_test a b sa sb hb hb1, ← times_c]
  obtain ⟨a1, a2⟩ := sa
  obtain ⟨b1, b2⟩ := sb
  clear ha ha1 hb1
  go_enter Try.func71, Try.ntmps71
  go_wp2
  go_quiet (fail)
  go_wp2
  go_ret2
  exact ⟨rfl, below_drewN (Below.refl _ _) _⟩

set_option maxHeartbeats 4000000 in
theorem rdo_any (op a : Int) (ao : Bool) (b : Int) (bo : Bool) (w : World) (sa : SW a) (sb : SW b) : Calls Try.prog 11 #[.int .i64 op, .agg #[.int .i64 a, .bool ao], .agg #[.int .i64 b, .bool bo]] w fun e w' =>
    e = .returned (.tuple #[.agg #[.int .i64 (doN op a ao b bo), .bool (doB op a ao b bo)], .int .i64 (doE op a ao b bo)]) ∧ Below w.heap.size w w' := by
  by_cases g1 : op < 1
  · obtain ⟨e1, e2, e3⟩ := do_bad (op := op) (a := a) (ao := ao) (b := b) (bo := bo) (.inl g1)
    rw [e1, e2, e3]
    clear e1 e2 e3
    go_enter Try.func11, Try.ntmps11
    go_wp2
    exact bodyPost_ret (v := .tuple #[.agg #[.int .i64 0, .bool false], .int .i64 2]) (by simp [results, Try.results11, go_sem, *]) rfl ⟨rfl, (by repeat (first | exact Below.refl _ _ | refine Below.drew ?_ | refine below_drewN ?_ _ | refine Below.setCell ?_ (by simp; try omega) _ | refine Below.alloc ?_ (by simp; try omega) _ | refine Below.trans ?_ (Below.mono (by assumption) (by simp; try omega))))⟩
  by_cases g2 : 3 < op
  · obtain ⟨e1, e2, e3⟩ := do_bad (op := op) (a := a) (ao := ao) (b := b) (bo := bo) (.inr (.inl g2))
    rw [e1, e2, e3]
    clear e1 e2 e3
    go_enter Try.func11, Try.ntmps11
    go_wp2
    exact bodyPost_ret (v := .tuple #[.agg #[.int .i64 0, .bool false], .int .i64 2]) (by simp [results, Try.results11, go_sem, *]) rfl ⟨rfl, (by repeat (first | exact Below.refl _ _ | refine Below.drew ?_ | refine below_drewN ?_ _ | refine Below.setCell ?_ (by simp; try omega) _ | refine Below.alloc ?_ (by simp; try omega) _ | refine Below.trans ?_ (Below.mono (by assumption) (by simp; try omega))))⟩
  have K : ∀ W w1 : World, Below W.heap.size W w1 → (W.cell? ⟨w.heap.size, 0, none⟩ = some (.int .i64 a) ∧ W.cell? ⟨w.heap.size, 1, none⟩ = some (.bool ao) ∧ W.cell? ⟨w.heap.size + 1, 0, none⟩ = some (.int .i64 b) ∧ W.cell? ⟨w.heap.size + 1, 1, none⟩ = some (.bool bo) ∧ W.cell? ⟨w.heap.size + 1 + 1, 0, none⟩ = some (.int .i64 0) ∧ W.cell? ⟨w.heap.size + 1 + 1, 1, none⟩ = some (.bool false) ∧ W.frozen? ⟨w.heap.size + 1 + 1, 0, none⟩ = false ∧ W.frozen? ⟨w.heap.size + 1 + 1, 1, none⟩ = false ∧ w.heap.size + 1 + 1 < W.heap.size ∧ Below w.heap.size w W) → (w1.cell? ⟨w.heap.size, 0, none⟩ = some (.int .i64 a) ∧ w1.cell? ⟨w.heap.size, 1, none⟩ = some (.bool ao) ∧ w1.cell? ⟨w.heap.size + 1, 0, none⟩ = some (.int .i64 b) ∧ w1.cell? ⟨w.heap.size + 1, 1, none⟩ = some (.bool bo) ∧ w1.cell? ⟨w.heap.size + 1 + 1, 0, none⟩ = some (.int .i64 0) ∧ w1.cell? ⟨w.heap.size + 1 + 1, 1, none⟩ = some (.bool false) ∧ w1.frozen? ⟨w.heap.size + 1 + 1, 0, none⟩ = false ∧ w1.frozen? ⟨w.heap.size + 1 + 1, 1, none⟩ = false ∧ w.heap.size + 1 + 1 < w1.heap.size ∧ Below w.heap.size w w1) := by
    rintro W w1 hb1 ⟨s0, s1, s2, s3, s4, s5, f0, f1, hz, hb⟩
    have hs := hb1.size
    exact ⟨(hb1.cell (by show w.heap.size < _; omega)).trans s0, (hb1.cell (by show w.heap.size < _; omega)).trans s1, (hb1.cell (by show w.heap.size + 1 < _; omega)).trans s2, (hb1.cell (by show w.heap.size + 1 < _; omega)).trans s3, (hb1.cell (by show w.heap.size + 1 + 1 < _; omega)).trans s4, (hb1.cell (by show w.heap.size + 1 + 1 < _; omega)).trans s5, (hb1.frozen (by show w.heap.size + 1 + 1 < _; omega)).trans f0, (hb1.frozen (by show w.heap.size + 1 + 1 < _; omega)).trans f1, by omega, hb.trans (hb1.mono (by omega))⟩
  rcases chkZ_02 a ao with q1 | q1
  case inr =>
    obtain ⟨e1, e2, e3⟩ := do_bad (op := op) (a := a) (ao := ao) (b := b) (bo := bo) (.inr (.inr (.inl q1)))
    rw [e1, e2, e3]
    clear e1 e2 e3
    go_enter Try.func11, Try.ntmps11
    go_wp2_with (go_at_call 15; refine (rcheck_any _ _ _).mono ?_; rintro e w1 ⟨rfl, hb1⟩; obtain ⟨s0, s1, s2, s3, s4, s5, f0, f1, hz, hb⟩ := K _ _ hb1 (by first | exact ⟨s0, s1, s2, s3, s4, s5, f0, f1, hz, hb⟩ | exact ⟨s0, s1, s2, s3, s4, s5, f0, f1, hz, hb.drew⟩ | exact ⟨s0, s1, s2, s3, s4, s5, f0, f1, hz, below_drewN hb _⟩ | exact ⟨by simp [go_sem, World.cell?_alloc_past], by simp [go_sem, World.cell?_alloc_past], by simp [go_sem, World.cell?_alloc_past], by simp [go_sem, World.cell?_alloc_past], by simp [go_sem, World.cell?_alloc_past], by simp [go_sem, World.cell?_alloc_past], by simp [go_sem, World.cell?_alloc_past], by simp [go_sem, World.cell?_alloc_past], by simp [go_sem, World.cell?_alloc_past], (by repeat (first | exact Below.refl _ _ | refine Below.drew ?_ | refine below_drewN ?_ _ | refine Below.setCell ?_ (by simp; try omega) _ | refine Below.alloc ?_ (by simp; try omega) _ | refine Below.trans ?_ (Below.mono (by assumption) (by simp; try omega))))⟩))
    exact bodyPost_ret (v := .tuple #[.agg #[.int .i64 0, .bool false], .int .i64 2]) (by simp [results, Try.results11, go_sem, *]) rfl ⟨rfl, (by repeat (first | assumption | refine Below.drew ?_ | refine below_drewN ?_ _ | refine Below.setCell ?_ (by simp; try omega) _ | refine Below.alloc ?_ (by simp; try omega) _))⟩
  rcases chkZ_02 b bo with q2 | q2
  case inr =>
    obtain ⟨e1, e2, e3⟩ := do_bad (op := op) (a := a) (ao := ao) (b := b) (bo := bo) (.inr (.inr (.inr q2)))
    rw [e1, e2, e3]
    clear e1 e2 e3
    go_enter Try.func11, Try.ntmps11
    go_wp2_with (go_at_call 15; refine (rcheck_any _ _ _).mono ?_; rintro e w1 ⟨rfl, hb1⟩; obtain ⟨s0, s1, s2, s3, s4, s5, f0, f1, hz, hb⟩ := K _ _ hb1 (by first | exact ⟨s0, s1, s2, s3, s4, s5, f0, f1, hz, hb⟩ | exact ⟨s0, s1, s2, s3, s4, s5, f0, f1, hz, hb.drew⟩ | exact ⟨s0, s1, s2, s3, s4, s5, f0, f1, hz, below_drewN hb _⟩ | exact ⟨by simp [go_sem, World.cell?_alloc_past], by simp [go_sem, World.cell?_alloc_past], by simp [go_sem, World.cell?_alloc_past], by simp [go_sem, World.cell?_alloc_past], by simp [go_sem, World.cell?_alloc_past], by simp [go_sem, World.cell?_alloc_past], by simp [go_sem, World.cell?_alloc_past], by simp [go_sem, World.cell?_alloc_past], by simp [go_sem, World.cell?_alloc_past], (by repeat (first | exact Below.refl _ _ | refine Below.drew ?_ | refine below_drewN ?_ _ | refine Below.setCell ?_ (by simp; try omega) _ | refine Below.alloc ?_ (by simp; try omega) _ | refine Below.trans ?_ (Below.mono (by assumption) (by simp; try omega))))⟩))
    exact bodyPost_ret (v := .tuple #[.agg #[.int .i64 0, .bool false], .int .i64 2]) (by simp [results, Try.results11, go_sem, *]) rfl ⟨rfl, (by repeat (first | assumption | refine Below.drew ?_ | refine below_drewN ?_ _ | refine Below.setCell ?_ (by simp; try omega) _ | refine Below.alloc ?_ (by simp; try omega) _))⟩
  have nb : ¬(op < 1 ∨ 3 < op ∨ chkZ a ao = 2 ∨ chkZ b bo = 2) := by rw [q1, q2]; omega
  by_cases g3 : ao = true
  · obtain ⟨e1, e2, e3⟩ := do_over nb (.inl g3)
    rw [e1, e2, e3]
    clear e1 e2 e3 nb
    subst g3
    go_enter Try.func11, Try.ntmps11
    go_wp2_with (first | (go_at_call 15; refine (rcheck_any _ _ _).mono ?_; rintro e w1 ⟨rfl, hb1⟩; obtain ⟨s0, s1, s2, s3, s4, s5, f0, f1, hz, hb⟩ := K _ _ hb1 (by first | exact ⟨s0, s1, s2, s3, s4, s5, f0, f1, hz, hb⟩ | exact ⟨s0, s1, s2, s3, s4, s5, f0, f1, hz, hb.drew⟩ | exact ⟨s0, s1, s2, s3, s4, s5, f0, f1, hz, below_drewN hb _⟩ | exact ⟨by simp [go_sem, World.cell?_alloc_past], by simp [go_sem, World.cell?_alloc_past], by simp [go_sem, World.cell?_alloc_past], by simp [go_sem, World.cell?_alloc_past], by simp [go_sem, World.cell?_alloc_past], by simp [go_sem, World.cell?_alloc_past], by simp [go_sem, World.cell?_alloc_past], by simp [go_sem, World.cell?_alloc_past], by simp [go_sem, World.cell?_alloc_past], (by repeat (first | exact Below.refl _ _ | refine Below.drew ?_ | refine below_drewN ?_ _ | refine Below.setCell ?_ (by simp; try omega) _ | refine Below.alloc ?_ (by simp; try omega) _ | refine Below.trans ?_ (Below.mono (by assumption) (by simp; try omega))))⟩)) | (go_at_call 70; refine (rover_any _).mono ?_; rintro e w1 ⟨rfl, hb1⟩; obtain ⟨s0, s1, s2, s3, s4, s5, f0, f1, hz, hb⟩ := K _ _ hb1 (by first | exact ⟨s0, s1, s2, s3, s4, s5, f0, f1, hz, hb⟩ | exact ⟨s0, s1, s2, s3, s4, s5, f0, f1, hz, hb.drew⟩ | exact ⟨s0, s1, s2, s3, s4, s5, f0, f1, hz, below_drewN hb _⟩ | exact ⟨by simp [go_sem, World.cell?_alloc_past], by simp [go_sem, World.cell?_alloc_past], by simp [go_sem, World.cell?_alloc_past], by simp [go_sem, World.cell?_alloc_past], by simp [go_sem, World.cell?_alloc_past], by simp [go_sem, World.cell?_alloc_past], by simp [go_sem, World.cell?_alloc_past], by simp [go_sem, World.cell?_alloc_past], by simp [go_sem, World.cell?_alloc_past], (by repeat (first | exact Below.refl _ _ | refine Below.drew ?_ | refine below_drewN ?_ _ | refine Below.setCell ?_ (by simp; try omega) _ | refine Below.alloc ?_ (by simp; try omega) _ | refine Below.trans ?_ (Below.mono (by assumption) (by simp; try omega))))⟩)))
    exact bodyPost_ret (v := .tuple #[.agg #[.int .i64 0, .bool true], .int .i64 0]) (by simp [results, Try.results11, go_sem, *]) rfl ⟨rfl, (by repeat (first | assumption | refine Below.drew ?_ | refine below_drewN ?_ _ | refine Below.setCell ?_ (by simp; try omega) _ | refine Below.alloc ?_ (by simp; try omega) _))⟩
  by_cases g4 : bo = true
  · obtain ⟨e1, e2, e3⟩ := do_over nb (.inr g4)
    rw [e1, e2, e3]
    clear e1 e2 e3 nb
    subst g4
    obtain rfl : ao = false := by simpa using g3
    clear g3
    go_enter Try.func11, Try.ntmps11
    go_wp2_with (first | (go_at_call 15; refine (rcheck_any _ _ _).mono ?_; rintro e w1 ⟨rfl, hb1⟩; obtain ⟨s0, s1, s2, s3, s4, s5, f0, f1, hz, hb⟩ := K _ _ hb1 (by first | exact ⟨s0, s1, s2, s3, s4, s5, f0, f1, hz, hb⟩ | exact ⟨s0, s1, s2, s3, s4, s5, f0, f1, hz, hb.drew⟩ | exact ⟨s0, s1, s2, s3, s4, s5, f0, f1, hz, below_drewN hb _⟩ | exact ⟨by simp [go_sem, World.cell?_alloc_past], by simp [go_sem, World.cell?_alloc_past], by simp [go_sem, World.cell?_alloc_past], by simp [go_sem, World.cell?_alloc_past], by simp [go_sem, World.cell?_alloc_past], by simp [go_sem, World.cell?_alloc_past], by simp [go_sem, World.cell?_alloc_past], by simp [go_sem, World.cell?_alloc_past], by simp [go_sem, World.cell?_alloc_past], (by repeat (first | exact Below.refl _ _ | refine Below.drew ?_ | refine below_drewN ?_ _ | refine Below.setCell ?_ (by simp; try omega) _ | refine Below.alloc ?_ (by simp; try omega) _ | refine Below.trans ?_ (Below.mono (by assumption) (by simp; try omega))))⟩)) | (go_at_call 70; refine (rover_any _).mono ?_; rintro e w1 ⟨rfl, hb1⟩; obtain ⟨s0, s1, s2, s3, s4, s5, f0, f1, hz, hb⟩ := K _ _ hb1 (by first | exact ⟨s0, s1, s2, s3, s4, s5, f0, f1, hz, hb⟩ | exact ⟨s0, s1, s2, s3, s4, s5, f0, f1, hz, hb.drew⟩ | exact ⟨s0, s1, s2, s3, s4, s5, f0, f1, hz, below_drewN hb _⟩ | exact ⟨by simp [go_sem, World.cell?_alloc_past], by simp [go_sem, World.cell?_alloc_past], by simp [go_sem, World.cell?_alloc_past], by simp [go_sem, World.cell?_alloc_past], by simp [go_sem, World.cell?_alloc_past], by simp [go_sem, World.cell?_alloc_past], by simp [go_sem, World.cell?_alloc_past], by simp [go_sem, World.cell?_alloc_past], by simp [go_sem, World.cell?_alloc_past], (by repeat (first | exact Below.refl _ _ | refine Below.drew ?_ | refine below_drewN ?_ _ | refine Below.setCell ?_ (by simp; try omega) _ | refine Below.alloc ?_ (by simp; try omega) _ | refine Below.trans ?_ (Below.mono (by assumption) (by simp; try omega))))⟩)))
    exact bodyPost_ret (v := .tuple #[.agg #[.int .i64 0, .bool true], .int .i64 0]) (by simp [results, Try.results11, go_sem, *]) rfl ⟨rfl, (by repeat (first | assumption | refine Below.drew ?_ | refine below_drewN ?_ _ | refine Below.setCell ?_ (by simp; try omega) _ | refine Below.alloc ?_ (by simp; try omega) _))⟩
  obtain rfl : ao = false := by simpa using g3
  obtain rfl : bo = false := by simpa using g4
  obtain ⟨e1, e2, e3⟩ := do_ok (op := op) (a := a) (b := b) (by omega)
  rw [e1, e2, e3]
  clear e1 e2 e3 nb g3 g4
  by_cases h1 : op = 1
  · subst h1
    rw [show doX 1 a b = a + b by simp [doX]]
    obtain ⟨a1, a2⟩ := sa
    obtain ⟨b1, b2⟩ := sb
    by_cases p : 0 < b
    · by_cases q : -9223372036854775808 ≤ a + b ∧ a + b ≤ 9223372036854775807
      · obtain ⟨q3, q4⟩ := q
        have e2 := out_f (S := a + b) (o := 0) (by omega)
        rw [e2.1, e2.2]
        clear e2
        go_enter Try.func11, Try.ntmps11
        go_wp2_with (go_at_call 15; refine (rcheck_any _ _ _).mono ?_; rintro e w1 ⟨rfl, hb1⟩; obtain ⟨s0, s1, s2, s3, s4, s5, f0, f1, hz, hb⟩ := K _ _ hb1 (by first | exact ⟨s0, s1, s2, s3, s4, s5, f0, f1, hz, hb⟩ | exact ⟨s0, s1, s2, s3, s4, s5, f0, f1, hz, hb.drew⟩ | exact ⟨s0, s1, s2, s3, s4, s5, f0, f1, hz, below_drewN hb _⟩ | exact ⟨by simp [go_sem, World.cell?_alloc_past], by simp [go_sem, World.cell?_alloc_past], by simp [go_sem, World.cell?_alloc_past], by simp [go_sem, World.cell?_alloc_past], by simp [go_sem, World.cell?_alloc_past], by simp [go_sem, World.cell?_alloc_past], by simp [go_sem, World.cell?_alloc_past], by simp [go_sem, World.cell?_alloc_past], by simp [go_sem, World.cell?_alloc_past], (by repeat (first | exact Below.refl _ _ | refine Below.drew ?_ | refine below_drewN ?_ _ | refine Below.setCell ?_ (by simp; try omega) _ | refine Below.alloc ?_ (by simp; try omega) _ | refine Below.trans ?_ (Below.mono (by assumption) (by simp; try omega))))⟩))
        go_quiet (fail)
        go_wp2_with (go_at_call 17; refine (rof_any _ _).mono ?_; rintro e w1 ⟨rfl, hb1⟩; obtain ⟨s0, s1, s2, s3, s4, s5, f0, f1, hz, hb⟩ := K _ _ hb1 (by first | exact ⟨s0, s1, s2, s3, s4, s5, f0, f1, hz, hb⟩ | exact ⟨s0, s1, s2, s3, s4, s5, f0, f1, hz, hb.drew⟩ | exact ⟨s0, s1, s2, s3, s4, s5, f0, f1, hz, below_drewN hb _⟩ | exact ⟨by simp [go_sem, World.cell?_alloc_past], by simp [go_sem, World.cell?_alloc_past], by simp [go_sem, World.cell?_alloc_past], by simp [go_sem, World.cell?_alloc_past], by simp [go_sem, World.cell?_alloc_past], by simp [go_sem, World.cell?_alloc_past], by simp [go_sem, World.cell?_alloc_past], by simp [go_sem, World.cell?_alloc_past], by simp [go_sem, World.cell?_alloc_past], (by repeat (first | exact Below.refl _ _ | refine Below.drew ?_ | refine below_drewN ?_ _ | refine Below.setCell ?_ (by simp; try omega) _ | refine Below.alloc ?_ (by simp; try omega) _ | refine Below.trans ?_ (Below.mono (by assumption) (by simp; try omega))))⟩))
        exact bodyPost_ret (v := .tuple #[.agg #[.int .i64 (a + b), .bool false], .int .i64 0]) (by simp [results, Try.results11, go_sem, *]) rfl ⟨rfl, (by repeat (first | assumption | refine Below.drew ?_ | refine below_drewN ?_ _ | refine Below.setCell ?_ (by simp; try omega) _ | refine Below.alloc ?_ (by simp; try omega) _))⟩
      · have e2 := out_t (S := a + b) (o := 0) (by omega)
        rw [e2.1, e2.2]
        clear e2
        have q5 : 9223372036854775807 < a + b := by omega
        clear q
        go_enter Try.func11, Try.ntmps11
        go_wp2_with (go_at_call 15; refine (rcheck_any _ _ _).mono ?_; rintro e w1 ⟨rfl, hb1⟩; obtain ⟨s0, s1, s2, s3, s4, s5, f0, f1, hz, hb⟩ := K _ _ hb1 (by first | exact ⟨s0, s1, s2, s3, s4, s5, f0, f1, hz, hb⟩ | exact ⟨s0, s1, s2, s3, s4, s5, f0, f1, hz, hb.drew⟩ | exact ⟨s0, s1, s2, s3, s4, s5, f0, f1, hz, below_drewN hb _⟩ | exact ⟨by simp [go_sem, World.cell?_alloc_past], by simp [go_sem, World.cell?_alloc_past], by simp [go_sem, World.cell?_alloc_past], by simp [go_sem, World.cell?_alloc_past], by simp [go_sem, World.cell?_alloc_past], by simp [go_sem, World.cell?_alloc_past], by simp [go_sem, World.cell?_alloc_past], by simp [go_sem, World.cell?_alloc_past], by simp [go_sem, World.cell?_alloc_past], (by repeat (first | exact Below.refl _ _ | refine Below.drew ?_ | refine below_drewN ?_ _ | refine Below.setCell ?_ (by simp; try omega) _ | refine Below.alloc ?_ (by simp; try omega) _ | refine Below.trans ?_ (Below.mono (by assumption) (by simp; try omega))))⟩))
        go_quiet (fail)
        go_wp2_with (go_at_call 70; refine (rover_any _).mono ?_; rintro e w1 ⟨rfl, hb1⟩; obtain ⟨s0, s1, s2, s3, s4, s5, f0, f1, hz, hb⟩ := K _ _ hb1 (by first | exact ⟨s0, s1, s2, s3, s4, s5, f0, f1, hz, hb⟩ | exact ⟨s0, s1, s2, s3, s4, s5, f0, f1, hz, hb.drew⟩ | exact ⟨s0, s1, s2, s3, s4, s5, f0, f1, hz, below_drewN hb _⟩ | exact ⟨by simp [go_sem, World.cell?_alloc_past], by simp [go_sem, World.cell?_alloc_past], by simp [go_sem, World.cell?_alloc_past], by simp [go_sem, World.cell?_alloc_past], by simp [go_sem, World.cell?_alloc_past], by simp [go_sem, World.cell?_alloc_past], by simp [go_sem, World.cell?_alloc_past], by simp [go_sem, World.cell?_alloc_past], by simp [go_sem, World.cell?_alloc_past], (by repeat (first | exact Below.refl _ _ | refine Below.drew ?_ | refine below_drewN ?_ _ | refine Below.setCell ?_ (by simp; try omega) _ | refine Below.alloc ?_ (by simp; try omega) _ | refine Below.trans ?_ (Below.mono (by assumption) (by simp; try omega))))⟩))
        exact bodyPost_ret (v := .tuple #[.agg #[.int .i64 0, .bool true], .int .i64 0]) (by simp [results, Try.results11, go_sem, *]) rfl ⟨rfl, (by repeat (first | assumption | refine Below.drew ?_ | refine below_drewN ?_ _ | refine Below.setCell ?_ (by simp; try omega) _ | refine Below.alloc ?_ (by simp; try omega) _))⟩
    by_cases n : b < 0
    · by_cases q : -9223372036854775808 ≤ a + b ∧ a + b ≤ 9223372036854775807
      · obtain ⟨q3, q4⟩ := q
        have e2 := out_f (S := a + b) (o := 0) (by omega)
        rw [e2.1, e2.2]
        clear e2
        go_enter Try.func11, Try.ntmps11
        go_wp2_with (go_at_call 15; refine (rcheck_any _ _ _).mono ?_; rintro e w1 ⟨rfl, hb1⟩; obtain ⟨s0, s1, s2, s3, s4, s5, f0, f1, hz, hb⟩ := K _ _ hb1 (by first | exact ⟨s0, s1, s2, s3, s4, s5, f0, f1, hz, hb⟩ | exact ⟨s0, s1, s2, s3, s4, s5, f0, f1, hz, hb.drew⟩ | exact ⟨s0, s1, s2, s3, s4, s5, f0, f1, hz, below_drewN hb _⟩ | exact ⟨by simp [go_sem, World.cell?_alloc_past], by simp [go_sem, World.cell?_alloc_past], by simp [go_sem, World.cell?_alloc_past], by simp [go_sem, World.cell?_alloc_past], by simp [go_sem, World.cell?_alloc_past], by simp [go_sem, World.cell?_alloc_past], by simp [go_sem, World.cell?_alloc_past], by simp [go_sem, World.cell?_alloc_past], by simp [go_sem, World.cell?_alloc_past], (by repeat (first | exact Below.refl _ _ | refine Below.drew ?_ | refine below_drewN ?_ _ | refine Below.setCell ?_ (by simp; try omega) _ | refine Below.alloc ?_ (by simp; try omega) _ | refine Below.trans ?_ (Below.mono (by assumption) (by simp; try omega))))⟩))
        go_quiet (fail)
        go_wp2_with (go_at_call 17; refine (rof_any _ _).mono ?_; rintro e w1 ⟨rfl, hb1⟩; obtain ⟨s0, s1, s2, s3, s4, s5, f0, f1, hz, hb⟩ := K _ _ hb1 (by first | exact ⟨s0, s1, s2, s3, s4, s5, f0, f1, hz, hb⟩ | exact ⟨s0, s1, s2, s3, s4, s5, f0, f1, hz, hb.drew⟩ | exact ⟨s0, s1, s2, s3, s4, s5, f0, f1, hz, below_drewN hb _⟩ | exact ⟨by simp [go_sem, World.cell?_alloc_past], by simp [go_sem, World.cell?_alloc_past], by simp [go_sem, World.cell?_alloc_past], by simp [go_sem, World.cell?_alloc_past], by simp [go_sem, World.cell?_alloc_past], by simp [go_sem, World.cell?_alloc_past], by simp [go_sem, World.cell?_alloc_past], by simp [go_sem, World.cell?_alloc_past], by simp [go_sem, World.cell?_alloc_past], (by repeat (first | exact Below.refl _ _ | refine Below.drew ?_ | refine below_drewN ?_ _ | refine Below.setCell ?_ (by simp; try omega) _ | refine Below.alloc ?_ (by simp; try omega) _ | refine Below.trans ?_ (Below.mono (by assumption) (by simp; try omega))))⟩))
        exact bodyPost_ret (v := .tuple #[.agg #[.int .i64 (a + b), .bool false], .int .i64 0]) (by simp [results, Try.results11, go_sem, *]) rfl ⟨rfl, (by repeat (first | assumption | refine Below.drew ?_ | refine below_drewN ?_ _ | refine Below.setCell ?_ (by simp; try omega) _ | refine Below.alloc ?_ (by simp; try omega) _))⟩
      · have e2 := out_t (S := a + b) (o := 0) (by omega)
        rw [e2.1, e2.2]
        clear e2
        have q5 : a + b < -9223372036854775808 := by omega
        clear q
        go_enter Try.func11, Try.ntmps11
        go_wp2_with (go_at_call 15; refine (rcheck_any _ _ _).mono ?_; rintro e w1 ⟨rfl, hb1⟩; obtain ⟨s0, s1, s2, s3, s4, s5, f0, f1, hz, hb⟩ := K _ _ hb1 (by first | exact ⟨s0, s1, s2, s3, s4, s5, f0, f1, hz, hb⟩ | exact ⟨s0, s1, s2, s3, s4, s5, f0, f1, hz, hb.drew⟩ | exact ⟨s0, s1, s2, s3, s4, s5, f0, f1, hz, below_drewN hb _⟩ | exact ⟨by simp [go_sem, World.cell?_alloc_past], by simp [go_sem, World.cell?_alloc_past], by simp [go_sem, World.cell?_alloc_past], by simp [go_sem, World.cell?_alloc_past], by simp [go_sem, World.cell?_alloc_past], by simp [go_sem, World.cell?_alloc_past], by simp [go_sem, World.cell?_alloc_past], by simp [go_sem, World.cell?_alloc_past], by simp [go_sem, World.cell?_alloc_past], (by repeat (first | exact Below.refl _ _ | refine Below.drew ?_ | refine below_drewN ?_ _ | refine Below.setCell ?_ (by simp; try omega) _ | refine Below.alloc ?_ (by simp; try omega) _ | refine Below.trans ?_ (Below.mono (by assumption) (by simp; try omega))))⟩))
        go_quiet (fail)
        go_wp2_with (go_at_call 70; refine (rover_any _).mono ?_; rintro e w1 ⟨rfl, hb1⟩; obtain ⟨s0, s1, s2, s3, s4, s5, f0, f1, hz, hb⟩ := K _ _ hb1 (by first | exact ⟨s0, s1, s2, s3, s4, s5, f0, f1, hz, hb⟩ | exact ⟨s0, s1, s2, s3, s4, s5, f0, f1, hz, hb.drew⟩ | exact ⟨s0, s1, s2, s3, s4, s5, f0, f1, hz, below_drewN hb _⟩ | exact ⟨by simp [go_sem, World.cell?_alloc_past], by simp [go_sem, World.cell?_alloc_past], by simp [go_sem, World.cell?_alloc_past], by simp [go_sem, World.cell?_alloc_past], by simp [go_sem, World.cell?_alloc_past], by simp [go_sem, World.cell?_alloc_past], by simp [go_sem, World.cell?_alloc_past], by simp [go_sem, World.cell?_alloc_past], by simp [go_sem, World.cell?_alloc_past], (by repeat (first | exact Below.refl _ _ | refine Below.drew ?_ | refine below_drewN ?_ _ | refine Below.setCell ?_ (by simp; try omega) _ | refine Below.alloc ?_ (by simp; try omega) _ | refine Below.trans ?_ (Below.mono (by assumption) (by simp; try omega))))⟩))
        exact bodyPost_ret (v := .tuple #[.agg #[.int .i64 0, .bool true], .int .i64 0]) (by simp [results, Try.results11, go_sem, *]) rfl ⟨rfl, (by repeat (first | assumption | refine Below.drew ?_ | refine below_drewN ?_ _ | refine Below.setCell ?_ (by simp; try omega) _ | refine Below.alloc ?_ (by simp; try omega) _))⟩
    by_cases z : b = 0
    · subst z
      by_cases q : -9223372036854775808 ≤ a + 0 ∧ a + 0 ≤ 9223372036854775807
      · obtain ⟨q3, q4⟩ := q
        have e2 := out_f (S := a + 0) (o := 0) (by omega)
        rw [e2.1, e2.2]
        clear e2
        rw [show a + 0 = a by omega]
        go_enter Try.func11, Try.ntmps11
        go_wp2_with (go_at_call 15; refine (rcheck_any _ _ _).mono ?_; rintro e w1 ⟨rfl, hb1⟩; obtain ⟨s0, s1, s2, s3, s4, s5, f0, f1, hz, hb⟩ := K _ _ hb1 (by first | exact ⟨s0, s1, s2, s3, s4, s5, f0, f1, hz, hb⟩ | exact ⟨s0, s1, s2, s3, s4, s5, f0, f1, hz, hb.drew⟩ | exact ⟨s0, s1, s2, s3, s4, s5, f0, f1, hz, below_drewN hb _⟩ | exact ⟨by simp [go_sem, World.cell?_alloc_past], by simp [go_sem, World.cell?_alloc_past], by simp [go_sem, World.cell?_alloc_past], by simp [go_sem, World.cell?_alloc_past], by simp [go_sem, World.cell?_alloc_past], by simp [go_sem, World.cell?_alloc_past], by simp [go_sem, World.cell?_alloc_past], by simp [go_sem, World.cell?_alloc_past], by simp [go_sem, World.cell?_alloc_past], (by repeat (first | exact Below.refl _ _ | refine Below.drew ?_ | refine below_drewN ?_ _ | refine Below.setCell ?_ (by simp; try omega) _ | refine Below.alloc ?_ (by simp; try omega) _ | refine Below.trans ?_ (Below.mono (by assumption) (by simp; try omega))))⟩))
        go_quiet (fail)
        go_wp2_with (go_at_call 17; refine (rof_any _ _).mono ?_; rintro e w1 ⟨rfl, hb1⟩; obtain ⟨s0, s1, s2, s3, s4, s5, f0, f1, hz, hb⟩ := K _ _ hb1 (by first | exact ⟨s0, s1, s2, s3, s4, s5, f0, f1, hz, hb⟩ | exact ⟨s0, s1, s2, s3, s4, s5, f0, f1, hz, hb.drew⟩ | exact ⟨s0, s1, s2, s3, s4, s5, f0, f1, hz, below_drewN hb _⟩ | exact ⟨by simp [go_sem, World.cell?_alloc_past], by simp [go_sem, World.cell?_alloc_past], by simp [go_sem, World.cell?_alloc_past], by simp [go_sem, World.cell?_alloc_past], by simp [go_sem, World.cell?_alloc_past], by simp [go_sem, World.cell?_alloc_past], by simp [go_sem, World.cell?_alloc_past], by simp [go_sem, World.cell?_alloc_past], by simp [go_sem, World.cell?_alloc_past], (by repeat (first | exact Below.refl _ _ | refine Below.drew ?_ | refine below_drewN ?_ _ | refine Below.setCell ?_ (by simp; try omega) _ | refine Below.alloc ?_ (by simp; try omega) _ | refine Below.trans ?_ (Below.mono (by assumption) (by simp; try omega))))⟩))
        exact bodyPost_ret (v := .tuple #[.agg #[.int .i64 (a), .bool false], .int .i64 0]) (by simp [results, Try.results11, go_sem, *]) rfl ⟨rfl, (by repeat (first | assumption | refine Below.drew ?_ | refine below_drewN ?_ _ | refine Below.setCell ?_ (by simp; try omega) _ | refine Below.alloc ?_ (by simp; try omega) _))⟩
      · have e2 := out_t (S := a + 0) (o := 0) (by omega)
        rw [e2.1, e2.2]
        clear e2
        omega
    omega
  by_cases h2 : op = 2
  · subst h2
    rw [show doX 2 a b = a - b by simp [doX]]
    obtain ⟨a1, a2⟩ := sa
    obtain ⟨b1, b2⟩ := sb
    have z1 : ((2 : Int) == 1) = false := by decide
    by_cases p : 0 < b
    · by_cases q : -9223372036854775808 ≤ a - b ∧ a - b ≤ 9223372036854775807
      · obtain ⟨q3, q4⟩ := q
        have e2 := out_f (S := a - b) (o := 0) (by omega)
        rw [e2.1, e2.2]
        clear e2
        go_enter Try.func11, Try.ntmps11
        go_wp2_with (go_at_call 15; refine (rcheck_any _ _ _).mono ?_; rintro e w1 ⟨rfl, hb1⟩; obtain ⟨s0, s1, s2, s3, s4, s5, f0, f1, hz, hb⟩ := K _ _ hb1 (by first | exact ⟨s0, s1, s2, s3, s4, s5, f0, f1, hz, hb⟩ | exact ⟨s0, s1, s2, s3, s4, s5, f0, f1, hz, hb.drew⟩ | exact ⟨s0, s1, s2, s3, s4, s5, f0, f1, hz, below_drewN hb _⟩ | exact ⟨by simp [go_sem, World.cell?_alloc_past], by simp [go_sem, World.cell?_alloc_past], by simp [go_sem, World.cell?_alloc_past], by simp [go_sem, World.cell?_alloc_past], by simp [go_sem, World.cell?_alloc_past], by simp [go_sem, World.cell?_alloc_past], by simp [go_sem, World.cell?_alloc_past], by simp [go_sem, World.cell?_alloc_past], by simp [go_sem, World.cell?_alloc_past], (by repeat (first | exact Below.refl _ _ | refine Below.drew ?_ | refine below_drewN ?_ _ | refine Below.setCell ?_ (by simp; try omega) _ | refine Below.alloc ?_ (by simp; try omega) _ | refine Below.trans ?_ (Below.mono (by assumption) (by simp; try omega))))⟩))
        go_quiet (fail)
        go_wp2_with (go_at_call 17; refine (rof_any _ _).mono ?_; rintro e w1 ⟨rfl, hb1⟩; obtain ⟨s0, s1, s2, s3, s4, s5, f0, f1, hz, hb⟩ := K _ _ hb1 (by first | exact ⟨s0, s1, s2, s3, s4, s5, f0, f1, hz, hb⟩ | exact ⟨s0, s1, s2, s3, s4, s5, f0, f1, hz, hb.drew⟩ | exact ⟨s0, s1, s2, s3, s4, s5, f0, f1, hz, below_drewN hb _⟩ | exact ⟨by simp [go_sem, World.cell?_alloc_past], by simp [go_sem, World.cell?_alloc_past], by simp [go_sem, World.cell?_alloc_past], by simp [go_sem, World.cell?_alloc_past], by simp [go_sem, World.cell?_alloc_past], by simp [go_sem, World.cell?_alloc_past], by simp [go_sem, World.cell?_alloc_past], by simp [go_sem, World.cell?_alloc_past], by simp [go_sem, World.cell?_alloc_past], (by repeat (first | exact Below.refl _ _ | refine Below.drew ?_ | refine below_drewN ?_ _ | refine Below.setCell ?_ (by simp; try omega) _ | refine Below.alloc ?_ (by simp; try omega) _ | refine Below.trans ?_ (Below.mono (by assumption) (by simp; try omega))))⟩))
        exact bodyPost_ret (v := .tuple #[.agg #[.int .i64 (a - b), .bool false], .int .i64 0]) (by simp [results, Try.results11, go_sem, *]) rfl ⟨rfl, (by repeat (first | assumption | refine Below.drew ?_ | refine below_drewN ?_ _ | refine Below.setCell ?_ (by simp; try omega) _ | refine Below.alloc ?_ (by simp; try omega) _))⟩
      · have e2 := out_t (S := a - b) (o := 0) (by omega)
        rw [e2.1, e2.2]
        clear e2
        have q5 : a - b < -9223372036854775808 := by omega
        clear q
        go_enter Try.func11, Try.ntmps11
        go_wp2_with (go_at_call 15; refine (rcheck_any _ _ _).mono ?_; rintro e w1 ⟨rfl, hb1⟩; obtain ⟨s0, s1, s2, s3, s4, s5, f0, f1, hz, hb⟩ := K _ _ hb1 (by first | exact ⟨s0, s1, s2, s3, s4, s5, f0, f1, hz, hb⟩ | exact ⟨s0, s1, s2, s3, s4, s5, f0, f1, hz, hb.drew⟩ | exact ⟨s0, s1, s2, s3, s4, s5, f0, f1, hz, below_drewN hb _⟩ | exact ⟨by simp [go_sem, World.cell?_alloc_past], by simp [go_sem, World.cell?_alloc_past], by simp [go_sem, World.cell?_alloc_past], by simp [go_sem, World.cell?_alloc_past], by simp [go_sem, World.cell?_alloc_past], by simp [go_sem, World.cell?_alloc_past], by simp [go_sem, World.cell?_alloc_past], by simp [go_sem, World.cell?_alloc_past], by simp [go_sem, World.cell?_alloc_past], (by repeat (first | exact Below.refl _ _ | refine Below.drew ?_ | refine below_drewN ?_ _ | refine Below.setCell ?_ (by simp; try omega) _ | refine Below.alloc ?_ (by simp; try omega) _ | refine Below.trans ?_ (Below.mono (by assumption) (by simp; try omega))))⟩))
        go_quiet (fail)
        go_wp2_with (go_at_call 70; refine (rover_any _).mono ?_; rintro e w1 ⟨rfl, hb1⟩; obtain ⟨s0, s1, s2, s3, s4, s5, f0, f1, hz, hb⟩ := K _ _ hb1 (by first | exact ⟨s0, s1, s2, s3, s4, s5, f0, f1, hz, hb⟩ | exact ⟨s0, s1, s2, s3, s4, s5, f0, f1, hz, hb.drew⟩ | exact ⟨s0, s1, s2, s3, s4, s5, f0, f1, hz, below_drewN hb _⟩ | exact ⟨by simp [go_sem, World.cell?_alloc_past], by simp [go_sem, World.cell?_alloc_past], by simp [go_sem, World.cell?_alloc_past], by simp [go_sem, World.cell?_alloc_past], by simp [go_sem, World.cell?_alloc_past], by simp [go_sem, World.cell?_alloc_past], by simp [go_sem, World.cell?_alloc_past], by simp [go_sem, World.cell?_alloc_past], by simp [go_sem, World.cell?_alloc_past], (by repeat (first | exact Below.refl _ _ | refine Below.drew ?_ | refine below_drewN ?_ _ | refine Below.setCell ?_ (by simp; try omega) _ | refine Below.alloc ?_ (by simp; try omega) _ | refine Below.trans ?_ (Below.mono (by assumption) (by simp; try omega))))⟩))
        exact bodyPost_ret (v := .tuple #[.agg #[.int .i64 0, .bool true], .int .i64 0]) (by simp [results, Try.results11, go_sem, *]) rfl ⟨rfl, (by repeat (first | assumption | refine Below.drew ?_ | refine below_drewN ?_ _ | refine Below.setCell ?_ (by simp; try omega) _ | refine Below.alloc ?_ (by simp; try omega) _))⟩
    by_cases n : b < 0
    · by_cases q : -9223372036854775808 ≤ a - b ∧ a - b ≤ 9223372036854775807
      · obtain ⟨q3, q4⟩ := q
        have e2 := out_f (S := a - b) (o := 0) (by omega)
        rw [e2.1, e2.2]
        clear e2
        go_enter Try.func11, Try.ntmps11
        go_wp2_with (go_at_call 15; refine (rcheck_any _ _ _).mono ?_; rintro e w1 ⟨rfl, hb1⟩; obtain ⟨s0, s1, s2, s3, s4, s5, f0, f1, hz, hb⟩ := K _ _ hb1 (by first | exact ⟨s0, s1, s2, s3, s4, s5, f0, f1, hz, hb⟩ | exact ⟨s0, s1, s2, s3, s4, s5, f0, f1, hz, hb.drew⟩ | exact ⟨s0, s1, s2, s3, s4, s5, f0, f1, hz, below_drewN hb _⟩ | exact ⟨by simp [go_sem, World.cell?_alloc_past], by simp [go_sem, World.cell?_alloc_past], by simp [go_sem, World.cell?_alloc_past], by simp [go_sem, World.cell?_alloc_past], by simp [go_sem, World.cell?_alloc_past], by simp [go_sem, World.cell?_alloc_past], by simp [go_sem, World.cell?_alloc_past], by simp [go_sem, World.cell?_alloc_past], by simp [go_sem, World.cell?_alloc_past], (by repeat (first | exact Below.refl _ _ | refine Below.drew ?_ | refine below_drewN ?_ _ | refine Below.setCell ?_ (by simp; try omega) _ | refine Below.alloc ?_ (by simp; try omega) _ | refine Below.trans ?_ (Below.mono (by assumption) (by simp; try omega))))⟩))
        go_quiet (fail)
        go_wp2_with (go_at_call 17; refine (rof_any _ _).mono ?_; rintro e w1 ⟨rfl, hb1⟩; obtain ⟨s0, s1, s2, s3, s4, s5, f0, f1, hz, hb⟩ := K _ _ hb1 (by first | exact ⟨s0, s1, s2, s3, s4, s5, f0, f1, hz, hb⟩ | exact ⟨s0, s1, s2, s3, s4, s5, f0, f1, hz, hb.drew⟩ | exact ⟨s0, s1, s2, s3, s4, s5, f0, f1, hz, below_drewN hb _⟩ | exact ⟨by simp [go_sem, World.cell?_alloc_past], by simp [go_sem, World.cell?_alloc_past], by simp [go_sem, World.cell?_alloc_past], by simp [go_sem, World.cell?_alloc_past], by simp [go_sem, World.cell?_alloc_past], by simp [go_sem, World.cell?_alloc_past], by simp [go_sem, World.cell?_alloc_past], by simp [go_sem, World.cell?_alloc_past], by simp [go_sem, World.cell?_alloc_past], (by repeat (first | exact Below.refl _ _ | refine Below.drew ?_ | refine below_drewN ?_ _ | refine Below.setCell ?_ (by simp; try omega) _ | refine Below.alloc ?_ (by simp; try omega) _ | refine Below.trans ?_ (Below.mono (by assumption) (by simp; try omega))))⟩))
        exact bodyPost_ret (v := .tuple #[.agg #[.int .i64 (a - b), .bool false], .int .i64 0]) (by simp [results, Try.results11, go_sem, *]) rfl ⟨rfl, (by repeat (first | assumption | refine Below.drew ?_ | refine below_drewN ?_ _ | refine Below.setCell ?_ (by simp; try omega) _ | refine Below.alloc ?_ (by simp; try omega) _))⟩
      · have e2 := out_t (S := a - b) (o := 0) (by omega)
        rw [e2.1, e2.2]
        clear e2
        have q5 : 9223372036854775807 < a - b := by omega
        clear q
        go_enter Try.func11, Try.ntmps11
        go_wp2_with (go_at_call 15; refine (rcheck_any _ _ _).mono ?_; rintro e w1 ⟨rfl, hb1⟩; obtain ⟨s0, s1, s2, s3, s4, s5, f0, f1, hz, hb⟩ := K _ _ hb1 (by first | exact ⟨s0, s1, s2, s3, s4, s5, f0, f1, hz, hb⟩ | exact ⟨s0, s1, s2, s3, s4, s5, f0, f1, hz, hb.drew⟩ | exact ⟨s0, s1, s2, s3, s4, s5, f0, f1, hz, below_drewN hb _⟩ | exact ⟨by simp [go_sem, World.cell?_alloc_past], by simp [go_sem, World.cell?_alloc_past], by simp [go_sem, World.cell?_alloc_past], by simp [go_sem, World.cell?_alloc_past], by simp [go_sem, World.cell?_alloc_past], by simp [go_sem, World.cell?_alloc_past], by simp [go_sem, World.cell?_alloc_past], by simp [go_sem, World.cell?_alloc_past], by simp [go_sem, World.cell?_alloc_past], (by repeat (first | exact Below.refl _ _ | refine Below.drew ?_ | refine below_drewN ?_ _ | refine Below.setCell ?_ (by simp; try omega) _ | refine Below.alloc ?_ (by simp; try omega) _ | refine Below.trans ?_ (Below.mono (by assumption) (by simp; try omega))))⟩))
        go_quiet (fail)
        go_wp2_with (go_at_call 70; refine (rover_any _).mono ?_; rintro e w1 ⟨rfl, hb1⟩; obtain ⟨s0, s1, s2, s3, s4, s5, f0, f1, hz, hb⟩ := K _ _ hb1 (by first | exact ⟨s0, s1, s2, s3, s4, s5, f0, f1, hz, hb⟩ | exact ⟨s0, s1, s2, s3, s4, s5, f0, f1, hz, hb.drew⟩ | exact ⟨s0, s1, s2, s3, s4, s5, f0, f1, hz, below_drewN hb _⟩ | exact ⟨by simp [go_sem, World.cell?_alloc_past], by simp [go_sem, World.cell?_alloc_past], by simp [go_sem, World.cell?_alloc_past], by simp [go_sem, World.cell?_alloc_past], by simp [go_sem, World.cell?_alloc_past], by simp [go_sem, World.cell?_alloc_past], by simp [go_sem, World.cell?_alloc_past], by simp [go_sem, World.cell?_alloc_past], by simp [go_sem, World.cell?_alloc_past], (by repeat (first | exact Below.refl _ _ | refine Below.drew ?_ | refine below_drewN ?_ _ | refine Below.setCell ?_ (by simp; try omega) _ | refine Below.alloc ?_ (by simp; try omega) _ | refine Below.trans ?_ (Below.mono (by assumption) (by simp; try omega))))⟩))
        exact bodyPost_ret (v := .tuple #[.agg #[.int .i64 0, .bool true], .int .i64 0]) (by simp [results, Try.results11, go_sem, *]) rfl ⟨rfl, (by repeat (first | assumption | refine Below.drew ?_ | refine below_drewN ?_ _ | refine Below.setCell ?_ (by simp; try omega) _ | refine Below.alloc ?_ (by simp; try omega) _))⟩
    by_cases z : b = 0
    · subst z
      by_cases q : -9223372036854775808 ≤ a - 0 ∧ a - 0 ≤ 9223372036854775807
      · obtain ⟨q3, q4⟩ := q
        have e2 := out_f (S := a - 0) (o := 0) (by omega)
        rw [e2.1, e2.2]
        clear e2
        rw [show a - 0 = a by omega]
        go_enter Try.func11, Try.ntmps11
        go_wp2_with (go_at_call 15; refine (rcheck_any _ _ _).mono ?_; rintro e w1 ⟨rfl, hb1⟩; obtain ⟨s0, s1, s2, s3, s4, s5, f0, f1, hz, hb⟩ := K _ _ hb1 (by first | exact ⟨s0, s1, s2, s3, s4, s5, f0, f1, hz, hb⟩ | exact ⟨s0, s1, s2, s3, s4, s5, f0, f1, hz, hb.drew⟩ | exact ⟨s0, s1, s2, s3, s4, s5, f0, f1, hz, below_drewN hb _⟩ | exact ⟨by simp [go_sem, World.cell?_alloc_past], by simp [go_sem, World.cell?_alloc_past], by simp [go_sem, World.cell?_alloc_past], by simp [go_sem, World.cell?_alloc_past], by simp [go_sem, World.cell?_alloc_past], by simp [go_sem, World.cell?_alloc_past], by simp [go_sem, World.cell?_alloc_past], by simp [go_sem, World.cell?_alloc_past], by simp [go_sem, World.cell?_alloc_past], (by repeat (first | exact Below.refl _ _ | refine Below.drew ?_ | refine below_drewN ?_ _ | refine Below.setCell ?_ (by simp; try omega) _ | refine Below.alloc ?_ (by simp; try omega) _ | refine Below.trans ?_ (Below.mono (by assumption) (by simp; try omega))))⟩))
        go_quiet (fail)
        go_wp2_with (go_at_call 17; refine (rof_any _ _).mono ?_; rintro e w1 ⟨rfl, hb1⟩; obtain ⟨s0, s1, s2, s3, s4, s5, f0, f1, hz, hb⟩ := K _ _ hb1 (by first | exact ⟨s0, s1, s2, s3, s4, s5, f0, f1, hz, hb⟩ | exact ⟨s0, s1, s2, s3, s4, s5, f0, f1, hz, hb.drew⟩ | exact ⟨s0, s1, s2, s3, s4, s5, f0, f1, hz, below_drewN hb _⟩ | exact ⟨by simp [go_sem, World.cell?_alloc_past], by simp [go_sem, World.cell?_alloc_past], by simp [go_sem, World.cell?_alloc_past], by simp [go_sem, World.cell?_alloc_past], by simp [go_sem, World.cell?_alloc_past], by simp [go_sem, World.cell?_alloc_past], by simp [go_sem, World.cell?_alloc_past], by simp [go_sem, World.cell?_alloc_past], by simp [go_sem, World.cell?_alloc_past], (by repeat (first | exact Below.refl _ _ | refine Below.drew ?_ | refine below_drewN ?_ _ | refine Below.setCell ?_ (by simp; try omega) _ | refine Below.alloc ?_ (by simp; try omega) _ | refine Below.trans ?_ (Below.mono (by assumption) (by simp; try omega))))⟩))
        exact bodyPost_ret (v := .tuple #[.agg #[.int .i64 (a), .bool false], .int .i64 0]) (by simp [results, Try.results11, go_sem, *]) rfl ⟨rfl, (by repeat (first | assumption | refine Below.drew ?_ | refine below_drewN ?_ _ | refine Below.setCell ?_ (by simp; try omega) _ | refine Below.alloc ?_ (by simp; try omega) _))⟩
      · have e2 := out_t (S := a - 0) (o := 0) (by omega)
        rw [e2.1, e2.2]
        clear e2
        omega
    omega
  have e1 : doX op a b = a * b := by simp [doX, h1, h2]
  have z1 : (op == 1) = false := by simpa using h1
  have z2 : (op == 2) = false := by simpa using h2
  rw [e1]
  clear e1 h1 h2
  by_cases q : -9223372036854775808 ≤ a * b ∧ a * b ≤ 9223372036854775807
  · have e2 := out_f (S := a * b) (o := 0) (by omega)
    have e3 : (!outB (a * b) 0) = true := by rw [e2.1]; rfl
    rw [e2.1, e2.2, show a * b = wrap64 (a * b) by unfold wrap64; omega]
    have T := fun W => times_any a b W sa sb
    rw [e3] at T
    clear e2 e3 q
    go_enter Try.func11, Try.ntmps11
    go_wp2_with (go_at_call 15; refine (rcheck_any _ _ _).mono ?_; rintro e w1 ⟨rfl, hb1⟩; obtain ⟨s0, s1, s2, s3, s4, s5, f0, f1, hz, hb⟩ := K _ _ hb1 (by first | exact ⟨s0, s1, s2, s3, s4, s5, f0, f1, hz, hb⟩ | exact ⟨s0, s1, s2, s3, s4, s5, f0, f1, hz, hb.drew⟩ | exact ⟨s0, s1, s2, s3, s4, s5, f0, f1, hz, below_drewN hb _⟩ | exact ⟨by simp [go_sem, World.cell?_alloc_past], by simp [go_sem, World.cell?_alloc_past], by simp [go_sem, World.cell?_alloc_past], by simp [go_sem, World.cell?_alloc_past], by simp [go_sem, World.cell?_alloc_past], by simp [go_sem, World.cell?_alloc_past], by simp [go_sem, World.cell?_alloc_past], by simp [go_sem, World.cell?_alloc_past], by simp [go_sem, World.cell?_alloc_past], (by repeat (first | exact Below.refl _ _ | refine Below.drew ?_ | refine below_drewN ?_ _ | refine Below.setCell ?_ (by simp; try omega) _ | refine Below.alloc ?_ (by simp; try omega) _ | refine Below.trans ?_ (Below.mono (by assumption) (by simp; try omega))))⟩))
    go_quiet (fail)
    go_wp2_with (first | (go_at_call 71; refine (T _).mono ?_; rintro e w1 ⟨rfl, hb1⟩; obtain ⟨s0, s1, s2, s3, s4, s5, f0, f1, hz, hb⟩ := K _ _ hb1 (by first | exact ⟨s0, s1, s2, s3, s4, s5, f0, f1, hz, hb⟩ | exact ⟨s0, s1, s2, s3, s4, s5, f0, f1, hz, hb.drew⟩ | exact ⟨s0, s1, s2, s3, s4, s5, f0, f1, hz, below_drewN hb _⟩ | exact ⟨by simp [go_sem, World.cell?_alloc_past], by simp [go_sem, World.cell?_alloc_past], by simp [go_sem, World.cell?_alloc_past], by simp [go_sem, World.cell?_alloc_past], by simp [go_sem, World.cell?_alloc_past], by simp [go_sem, World.cell?_alloc_past], by simp [go_sem, World.cell?_alloc_past], by simp [go_sem, World.cell?_alloc_past], by simp [go_sem, World.cell?_alloc_past], (by repeat (first | exact Below.refl _ _ | refine Below.drew ?_ | refine below_drewN ?_ _ | refine Below.setCell ?_ (by simp; try omega) _ | refine Below.alloc ?_ (by simp; try omega) _ | refine Below.trans ?_ (Below.mono (by assumption) (by simp; try omega))))⟩)) | (go_at_call 17; refine (rof_any _ _).mono ?_; rintro e w1 ⟨rfl, hb1⟩; obtain ⟨s0, s1, s2, s3, s4, s5, f0, f1, hz, hb⟩ := K _ _ hb1 (by first | exact ⟨s0, s1, s2, s3, s4, s5, f0, f1, hz, hb⟩ | exact ⟨s0, s1, s2, s3, s4, s5, f0, f1, hz, hb.drew⟩ | exact ⟨s0, s1, s2, s3, s4, s5, f0, f1, hz, below_drewN hb _⟩ | exact ⟨by simp [go_sem, World.cell?_alloc_past], by simp [go_sem, World.cell?_alloc_past], by simp [go_sem, World.cell?_alloc_past], by simp [go_sem, World.cell?_alloc_past], by simp [go_sem, World.cell?_alloc_past], by simp [go_sem, World.cell?_alloc_past], by simp [go_sem, World.cell?_alloc_past], by simp [go_sem, World.cell?_alloc_past], by simp [go_sem, World.cell?_alloc_past], (by repeat (first | exact Below.refl _ _ | refine Below.drew ?_ | refine below_drewN ?_ _ | refine Below.setCell ?_ (by simp; try omega) _ | refine Below.alloc ?_ (by simp; try omega) _ | refine Below.trans ?_ (Below.mono (by assumption) (by simp; try omega))))⟩)))
    exact bodyPost_ret (v := .tuple #[.agg #[.int .i64 (wrap64 (a * b)), .bool false], .int .i64 0]) (by simp [results, Try.results11, go_sem, *]) rfl ⟨rfl, (by repeat (first | assumption | refine Below.drew ?_ | refine below_drewN ?_ _ | refine Below.setCell ?_ (by simp; try omega) _ | refine Below.alloc ?_ (by simp; try omega) _))⟩
  · have e2 := out_t (S := a * b) (o := 0) (by omega)
    have e3 : (!outB (a * b) 0) = false := by rw [e2.1]; rfl
    rw [e2.1, e2.2]
    have T := fun W => times_any a b W sa sb
    rw [e3] at T
    clear e2 e3 q
    go_enter Try.func11, Try.ntmps11
    go_wp2_with (go_at_call 15; refine (rcheck_any _ _ _).mono ?_; rintro e w1 ⟨rfl, hb1⟩; obtain ⟨s0, s1, s2, s3, s4, s5, f0, f1, hz, hb⟩ := K _ _ hb1 (by first | exact ⟨s0, s1, s2, s3, s4, s5, f0, f1, hz, hb⟩ | exact ⟨s0, s1, s2, s3, s4, s5, f0, f1, hz, hb.drew⟩ | exact ⟨s0, s1, s2, s3, s4, s5, f0, f1, hz, below_drewN hb _⟩ | exact ⟨by simp [go_sem, World.cell?_alloc_past], by simp [go_sem, World.cell?_alloc_past], by simp [go_sem, World.cell?_alloc_past], by simp [go_sem, World.cell?_alloc_past], by simp [go_sem, World.cell?_alloc_past], by simp [go_sem, World.cell?_alloc_past], by simp [go_sem, World.cell?_alloc_past], by simp [go_sem, World.cell?_alloc_past], by simp [go_sem, World.cell?_alloc_past], (by repeat (first | exact Below.refl _ _ | refine Below.drew ?_ | refine below_drewN ?_ _ | refine Below.setCell ?_ (by simp; try omega) _ | refine Below.alloc ?_ (by simp; try omega) _ | refine Below.trans ?_ (Below.mono (by assumption) (by simp; try omega))))⟩))
    go_quiet (fail)
    go_wp2_with (first | (go_at_call 71; refine (T _).mono ?_; rintro e w1 ⟨rfl, hb1⟩; obtain ⟨s0, s1, s2, s3, s4, s5, f0, f1, hz, hb⟩ := K _ _ hb1 (by first | exact ⟨s0, s1, s2, s3, s4, s5, f0, f1, hz, hb⟩ | exact ⟨s0, s1, s2, s3, s4, s5, f0, f1, hz, hb.drew⟩ | exact ⟨s0, s1, s2, s3, s4, s5, f0, f1, hz, below_drewN hb _⟩ | exact ⟨by simp [go_sem, World.cell?_alloc_past], by simp [go_sem, World.cell?_alloc_past], by simp [go_sem, World.cell?_alloc_past], by simp [go_sem, World.cell?_alloc_past], by simp [go_sem, World.cell?_alloc_past], by simp [go_sem, World.cell?_alloc_past], by simp [go_sem, World.cell?_alloc_past], by simp [go_sem, World.cell?_alloc_past], by simp [go_sem, World.cell?_alloc_past], (by repeat (first | exact Below.refl _ _ | refine Below.drew ?_ | refine below_drewN ?_ _ | refine Below.setCell ?_ (by simp; try omega) _ | refine Below.alloc ?_ (by simp; try omega) _ | refine Below.trans ?_ (Below.mono (by assumption) (by simp; try omega))))⟩)) | (go_at_call 70; refine (rover_any _).mono ?_; rintro e w1 ⟨rfl, hb1⟩; obtain ⟨s0, s1, s2, s3, s4, s5, f0, f1, hz, hb⟩ := K _ _ hb1 (by first | exact ⟨s0, s1, s2, s3, s4, s5, f0, f1, hz, hb⟩ | exact ⟨s0, s1, s2, s3, s4, s5, f0, f1, hz, hb.drew⟩ | exact ⟨s0, s1, s2, s3, s4, s5, f0, f1, hz, below_drewN hb _⟩ | exact ⟨by simp [go_sem, World.cell?_alloc_past], by simp [go_sem, World.cell?_alloc_past], by simp [go_sem, World.cell?_alloc_past], by simp [go_sem, World.cell?_alloc_past], by simp [go_sem, World.cell?_alloc_past], by simp [go_sem, World.cell?_alloc_past], by simp [go_sem, World.cell?_alloc_past], by simp [go_sem, World.cell?_alloc_past], by simp [go_sem, World.cell?_alloc_past], (by repeat (first | exact Below.refl _ _ | refine Below.drew ?_ | refine below_drewN ?_ _ | refine Below.setCell ?_ (by simp; try omega) _ | refine Below.alloc ?_ (by simp; try omega) _ | refine Below.trans ?_ (Below.mono (by assumption) (by simp; try omega))))⟩)))
    exact bodyPost_ret (v := .tuple #[.agg #[.int .i64 0, .bool true], .int .i64 0]) (by simp [results, Try.results11, go_sem, *]) rfl ⟨rfl, (by repeat (first | assumption | refine Below.drew ?_ | refine below_drewN ?_ _ | refine Below.setCell ?_ (by simp; try omega) _ | refine Below.alloc ?_ (by simp; try omega) _))⟩
end Go.Proofs.Ytfdgajfpmeaieaa
