/- Layer 2: Do and Is, of the program and of the document's answers. -/
import Derived.Test.YteafoajpieablaaGrE
namespace Go.Proofs.Yteafoajpieablaa
set_option linter.unusedVariables false
set_option linter.unusedSimpArgs false
open Go.RowKit Go.Shelf

def doE (op a : Int) (ao : Bool) (b : Int) (bo : Bool) : Int := if op < 1 ∨ 3 < op ∨ chkZ a ao = 2 ∨ chkZ b bo = 2 then 2 else 0
def doX (op a b : Int) : Int := if op = 1 then a + b else if op = 2 then a - b else a * b
def doB (op a : Int) (ao : Bool) (b : Int) (bo : Bool) : Bool := if doE op a ao b bo = 2 then false else if ao = true ∨ bo = true then true else outB (doX op a b) 0
def doN (op a : Int) (ao : Bool) (b : Int) (bo : Bool) : Int := if doE op a ao b bo = 2 then 0 else if ao = true ∨ bo = true then 0 else outN (doX op a b) 0
theorem do_bad {op a : Int} {ao : Bool} {b : Int} {bo : Bool} (h : op < 1 ∨ 3 < op ∨ chkZ a ao = 2 ∨ chkZ b bo = 2) : doE op a ao b bo = 2 ∧ doN op a ao b bo = 0 ∧ doB op a ao b bo = false := by
  have e : doE op a ao b bo = 2 := by unfold doE; rw [if_pos h]
  exact ⟨e, by unfold doN; rw [if_pos e], by unfold doB; rw [if_pos e]⟩
theorem do_over {op a : Int} {ao : Bool} {b : Int} {bo : Bool} (h : ¬(op < 1 ∨ 3 < op ∨ chkZ a ao = 2 ∨ chkZ b bo = 2)) (g : ao = true ∨ bo = true) : doE op a ao b bo = 0 ∧ doN op a ao b bo = 0 ∧ doB op a ao b bo = true := by
  have e : doE op a ao b bo = 0 := by unfold doE; rw [if_neg h]
  have e' : ¬ doE op a ao b bo = 2 := by rw [e]; decide
  exact ⟨e, by unfold doN; rw [if_neg e', if_pos g], by unfold doB; rw [if_neg e', if_pos g]⟩
theorem do_ok {op a b : Int} (h : ¬(op < 1 ∨ 3 < op)) : doE op a false b false = 0 ∧ doN op a false b false = outN (doX op a b) 0 ∧ doB op a false b false = outB (doX op a b) 0 := by
  have e : doE op a false b false = 0 := by unfold doE; rw [if_neg (by rw [chkZ_f, chkZ_f]; omega)]
  have e' : ¬ doE op a false b false = 2 := by rw [e]; decide
  exact ⟨e, by unfold doN; rw [if_neg e', if_neg (by simp)], by unfold doB; rw [if_neg e', if_neg (by simp)]⟩
theorem chkZ_02 (n : Int) (o : Bool) : chkZ n o = 0 ∨ chkZ n o = 2 := by
  unfold chkZ; split
  · exact .inr rfl
  · exact .inl rfl

theorem sgn_split (a : Int) (h : SW a) : (a / 9223372036854775808 = -1 ∧ a % 18446744073709551616 = a + 18446744073709551616) ∨ (a / 9223372036854775808 = 0 ∧ a % 18446744073709551616 = a) := by
  obtain ⟨a1, a2⟩ := h; omega
theorem add_val (a b : Int) (ha : SW a) (hb : SW b) : hiP (a / 9223372036854775808) (a % 18446744073709551616) (b / 9223372036854775808) (b % 18446744073709551616) * 18446744073709551616 + loP (a % 18446744073709551616) (b % 18446744073709551616) = a + b := by
  rcases sgn_split a ha with ⟨e1, e2⟩ | ⟨e1, e2⟩ <;> rcases sgn_split b hb with ⟨e3, e4⟩ | ⟨e3, e4⟩ <;> rw [e1, e2, e3, e4] <;> obtain ⟨a1, a2⟩ := ha <;> obtain ⟨b1, b2⟩ := hb <;> unfold hiP loP wrap64 <;> omega
theorem sub_val (a b : Int) (ha : SW a) (hb : SW b) : hiM (a / 9223372036854775808) (a % 18446744073709551616) (b / 9223372036854775808) (b % 18446744073709551616) * 18446744073709551616 + loM (a % 18446744073709551616) (b % 18446744073709551616) = a - b := by
  rcases sgn_split a ha with ⟨e1, e2⟩ | ⟨e1, e2⟩ <;> rcases sgn_split b hb with ⟨e3, e4⟩ | ⟨e3, e4⟩ <;> rw [e1, e2, e3, e4] <;> obtain ⟨a1, a2⟩ := ha <;> obtain ⟨b1, b2⟩ := hb <;> unfold hiM loM wrap64 <;> omega

set_option maxHeartbeats 4000000 in
theorem do_any (op a : Int) (ao : Bool) (b : Int) (bo : Bool) (w : World) (sa : SW a) (sb : SW b) : Calls Try.prog 7 #[.int .i64 op, .agg #[.int .i64 a, .bool ao], .agg #[.int .i64 b, .bool bo]] w fun e w' =>
    e = .returned (.tuple #[.agg #[.int .i64 (doN op a ao b bo), .bool (doB op a ao b bo)], .int .i64 (doE op a ao b bo)]) ∧ Below w.heap.size w w' := by
  by_cases g1 : op < 1
  · obtain ⟨e1, e2, e3⟩ := do_bad (op := op) (a := a) (ao := ao) (b := b) (bo := bo) (.inl g1)
    rw [e1, e2, e3]
    clear e1 e2 e3
    go_enter Try.func7, Try.ntmps7
    go_wp2
    exact bodyPost_ret (v := .tuple #[.agg #[.int .i64 0, .bool false], .int .i64 2]) (by simp [results, Try.results7, go_sem, *]) rfl ⟨rfl, (by repeat (first | exact Below.refl _ _ | refine Below.drew ?_ | refine below_drewN ?_ _ | refine Below.setCell ?_ (by simp; try omega) _ | refine Below.alloc ?_ (by simp; try omega) _ | refine Below.trans ?_ (Below.mono (by assumption) (by simp; try omega))))⟩
  by_cases g2 : 3 < op
  · obtain ⟨e1, e2, e3⟩ := do_bad (op := op) (a := a) (ao := ao) (b := b) (bo := bo) (.inr (.inl g2))
    rw [e1, e2, e3]
    clear e1 e2 e3
    go_enter Try.func7, Try.ntmps7
    go_wp2
    exact bodyPost_ret (v := .tuple #[.agg #[.int .i64 0, .bool false], .int .i64 2]) (by simp [results, Try.results7, go_sem, *]) rfl ⟨rfl, (by repeat (first | exact Below.refl _ _ | refine Below.drew ?_ | refine below_drewN ?_ _ | refine Below.setCell ?_ (by simp; try omega) _ | refine Below.alloc ?_ (by simp; try omega) _ | refine Below.trans ?_ (Below.mono (by assumption) (by simp; try omega))))⟩
  have K : ∀ W w1 : World, Below W.heap.size W w1 → (W.cell? ⟨w.heap.size, 0, none⟩ = some (.int .i64 a) ∧ W.cell? ⟨w.heap.size, 1, none⟩ = some (.bool ao) ∧ W.cell? ⟨w.heap.size + 1, 0, none⟩ = some (.int .i64 b) ∧ W.cell? ⟨w.heap.size + 1, 1, none⟩ = some (.bool bo) ∧ W.cell? ⟨w.heap.size + 1 + 1, 0, none⟩ = some (.int .i64 0) ∧ W.cell? ⟨w.heap.size + 1 + 1, 1, none⟩ = some (.bool false) ∧ W.frozen? ⟨w.heap.size + 1 + 1, 0, none⟩ = false ∧ W.frozen? ⟨w.heap.size + 1 + 1, 1, none⟩ = false ∧ w.heap.size + 1 + 1 < W.heap.size ∧ Below w.heap.size w W) → (w1.cell? ⟨w.heap.size, 0, none⟩ = some (.int .i64 a) ∧ w1.cell? ⟨w.heap.size, 1, none⟩ = some (.bool ao) ∧ w1.cell? ⟨w.heap.size + 1, 0, none⟩ = some (.int .i64 b) ∧ w1.cell? ⟨w.heap.size + 1, 1, none⟩ = some (.bool bo) ∧ w1.cell? ⟨w.heap.size + 1 + 1, 0, none⟩ = some (.int .i64 0) ∧ w1.cell? ⟨w.heap.size + 1 + 1, 1, none⟩ = some (.bool false) ∧ w1.frozen? ⟨w.heap.size + 1 + 1, 0, none⟩ = false ∧ w1.frozen? ⟨w.heap.size + 1 + 1, 1, none⟩ = false ∧ w.heap.size + 1 + 1 < w1.heap.size ∧ Below w.heap.size w w1) := by
    rintro W w1 hb1 ⟨s0, s1, s2, s3, s4, s5, f0, f1, hz, hb⟩
    have hs := hb1.size
    exact ⟨(hb1.cell (by show w.heap.size < _; omega)).trans s0, (hb1.cell (by show w.heap.size < _; omega)).trans s1, (hb1.cell (by show w.heap.size + 1 < _; omega)).trans s2, (hb1.cell (by show w.heap.size + 1 < _; omega)).trans s3, (hb1.cell (by show w.heap.size + 1 + 1 < _; omega)).trans s4, (hb1.cell (by show w.heap.size + 1 + 1 < _; omega)).trans s5, (hb1.frozen (by show w.heap.size + 1 + 1 < _; omega)).trans f0, (hb1.frozen (by show w.heap.size + 1 + 1 < _; omega)).trans f1, by omega, hb.trans (hb1.mono (by omega))⟩
  rcases chkZ_02 a ao with q1 | q1
  case inr =>
    obtain ⟨e1, e2, e3⟩ := do_bad (op := op) (a := a) (ao := ao) (b := b) (bo := bo) (.inr (.inr (.inl q1)))
    rw [e1, e2, e3]
    clear e1 e2 e3
    go_enter Try.func7, Try.ntmps7
    go_wp2_with (go_at_call 11; refine (check_any _ _ _).mono ?_; rintro e w1 ⟨rfl, hb1⟩; obtain ⟨s0, s1, s2, s3, s4, s5, f0, f1, hz, hb⟩ := K _ _ hb1 (by first | exact ⟨s0, s1, s2, s3, s4, s5, f0, f1, hz, hb⟩ | exact ⟨s0, s1, s2, s3, s4, s5, f0, f1, hz, hb.drew⟩ | exact ⟨by simp [go_sem, World.cell?_alloc_past], by simp [go_sem, World.cell?_alloc_past], by simp [go_sem, World.cell?_alloc_past], by simp [go_sem, World.cell?_alloc_past], by simp [go_sem, World.cell?_alloc_past], by simp [go_sem, World.cell?_alloc_past], by simp [go_sem, World.cell?_alloc_past], by simp [go_sem, World.cell?_alloc_past], by simp [go_sem, World.cell?_alloc_past], (by repeat (first | exact Below.refl _ _ | refine Below.drew ?_ | refine below_drewN ?_ _ | refine Below.setCell ?_ (by simp; try omega) _ | refine Below.alloc ?_ (by simp; try omega) _ | refine Below.trans ?_ (Below.mono (by assumption) (by simp; try omega))))⟩))
    exact bodyPost_ret (v := .tuple #[.agg #[.int .i64 0, .bool false], .int .i64 2]) (by simp [results, Try.results7, go_sem, *]) rfl ⟨rfl, (by repeat (first | assumption | refine Below.drew ?_ | refine below_drewN ?_ _ | refine Below.setCell ?_ (by simp; try omega) _ | refine Below.alloc ?_ (by simp; try omega) _))⟩
  rcases chkZ_02 b bo with q2 | q2
  case inr =>
    obtain ⟨e1, e2, e3⟩ := do_bad (op := op) (a := a) (ao := ao) (b := b) (bo := bo) (.inr (.inr (.inr q2)))
    rw [e1, e2, e3]
    clear e1 e2 e3
    go_enter Try.func7, Try.ntmps7
    go_wp2_with (go_at_call 11; refine (check_any _ _ _).mono ?_; rintro e w1 ⟨rfl, hb1⟩; obtain ⟨s0, s1, s2, s3, s4, s5, f0, f1, hz, hb⟩ := K _ _ hb1 (by first | exact ⟨s0, s1, s2, s3, s4, s5, f0, f1, hz, hb⟩ | exact ⟨s0, s1, s2, s3, s4, s5, f0, f1, hz, hb.drew⟩ | exact ⟨by simp [go_sem, World.cell?_alloc_past], by simp [go_sem, World.cell?_alloc_past], by simp [go_sem, World.cell?_alloc_past], by simp [go_sem, World.cell?_alloc_past], by simp [go_sem, World.cell?_alloc_past], by simp [go_sem, World.cell?_alloc_past], by simp [go_sem, World.cell?_alloc_past], by simp [go_sem, World.cell?_alloc_past], by simp [go_sem, World.cell?_alloc_past], (by repeat (first | exact Below.refl _ _ | refine Below.drew ?_ | refine below_drewN ?_ _ | refine Below.setCell ?_ (by simp; try omega) _ | refine Below.alloc ?_ (by simp; try omega) _ | refine Below.trans ?_ (Below.mono (by assumption) (by simp; try omega))))⟩))
    exact bodyPost_ret (v := .tuple #[.agg #[.int .i64 0, .bool false], .int .i64 2]) (by simp [results, Try.results7, go_sem, *]) rfl ⟨rfl, (by repeat (first | assumption | refine Below.drew ?_ | refine below_drewN ?_ _ | refine Below.setCell ?_ (by simp; try omega) _ | refine Below.alloc ?_ (by simp; try omega) _))⟩
  have nb : ¬(op < 1 ∨ 3 < op ∨ chkZ a ao = 2 ∨ chkZ b bo = 2) := by rw [q1, q2]; omega
  by_cases g3 : ao = true
  · obtain ⟨e1, e2, e3⟩ := do_over nb (.inl g3)
    rw [e1, e2, e3]
    clear e1 e2 e3 nb
    subst g3
    go_enter Try.func7, Try.ntmps7
    go_wp2_with (first | (go_at_call 11; refine (check_any _ _ _).mono ?_; rintro e w1 ⟨rfl, hb1⟩; obtain ⟨s0, s1, s2, s3, s4, s5, f0, f1, hz, hb⟩ := K _ _ hb1 (by first | exact ⟨s0, s1, s2, s3, s4, s5, f0, f1, hz, hb⟩ | exact ⟨s0, s1, s2, s3, s4, s5, f0, f1, hz, hb.drew⟩ | exact ⟨by simp [go_sem, World.cell?_alloc_past], by simp [go_sem, World.cell?_alloc_past], by simp [go_sem, World.cell?_alloc_past], by simp [go_sem, World.cell?_alloc_past], by simp [go_sem, World.cell?_alloc_past], by simp [go_sem, World.cell?_alloc_past], by simp [go_sem, World.cell?_alloc_past], by simp [go_sem, World.cell?_alloc_past], by simp [go_sem, World.cell?_alloc_past], (by repeat (first | exact Below.refl _ _ | refine Below.drew ?_ | refine below_drewN ?_ _ | refine Below.setCell ?_ (by simp; try omega) _ | refine Below.alloc ?_ (by simp; try omega) _ | refine Below.trans ?_ (Below.mono (by assumption) (by simp; try omega))))⟩)) | (go_at_call 24; refine (over_any _).mono ?_; rintro e w1 ⟨rfl, hb1⟩; obtain ⟨s0, s1, s2, s3, s4, s5, f0, f1, hz, hb⟩ := K _ _ hb1 (by first | exact ⟨s0, s1, s2, s3, s4, s5, f0, f1, hz, hb⟩ | exact ⟨s0, s1, s2, s3, s4, s5, f0, f1, hz, hb.drew⟩ | exact ⟨by simp [go_sem, World.cell?_alloc_past], by simp [go_sem, World.cell?_alloc_past], by simp [go_sem, World.cell?_alloc_past], by simp [go_sem, World.cell?_alloc_past], by simp [go_sem, World.cell?_alloc_past], by simp [go_sem, World.cell?_alloc_past], by simp [go_sem, World.cell?_alloc_past], by simp [go_sem, World.cell?_alloc_past], by simp [go_sem, World.cell?_alloc_past], (by repeat (first | exact Below.refl _ _ | refine Below.drew ?_ | refine below_drewN ?_ _ | refine Below.setCell ?_ (by simp; try omega) _ | refine Below.alloc ?_ (by simp; try omega) _ | refine Below.trans ?_ (Below.mono (by assumption) (by simp; try omega))))⟩)))
    exact bodyPost_ret (v := .tuple #[.agg #[.int .i64 0, .bool true], .int .i64 0]) (by simp [results, Try.results7, go_sem, *]) rfl ⟨rfl, (by repeat (first | assumption | refine Below.drew ?_ | refine below_drewN ?_ _ | refine Below.setCell ?_ (by simp; try omega) _ | refine Below.alloc ?_ (by simp; try omega) _))⟩
  by_cases g4 : bo = true
  · obtain ⟨e1, e2, e3⟩ := do_over nb (.inr g4)
    rw [e1, e2, e3]
    clear e1 e2 e3 nb
    subst g4
    obtain rfl : ao = false := by simpa using g3
    clear g3
    go_enter Try.func7, Try.ntmps7
    go_wp2_with (first | (go_at_call 11; refine (check_any _ _ _).mono ?_; rintro e w1 ⟨rfl, hb1⟩; obtain ⟨s0, s1, s2, s3, s4, s5, f0, f1, hz, hb⟩ := K _ _ hb1 (by first | exact ⟨s0, s1, s2, s3, s4, s5, f0, f1, hz, hb⟩ | exact ⟨s0, s1, s2, s3, s4, s5, f0, f1, hz, hb.drew⟩ | exact ⟨by simp [go_sem, World.cell?_alloc_past], by simp [go_sem, World.cell?_alloc_past], by simp [go_sem, World.cell?_alloc_past], by simp [go_sem, World.cell?_alloc_past], by simp [go_sem, World.cell?_alloc_past], by simp [go_sem, World.cell?_alloc_past], by simp [go_sem, World.cell?_alloc_past], by simp [go_sem, World.cell?_alloc_past], by simp [go_sem, World.cell?_alloc_past], (by repeat (first | exact Below.refl _ _ | refine Below.drew ?_ | refine below_drewN ?_ _ | refine Below.setCell ?_ (by simp; try omega) _ | refine Below.alloc ?_ (by simp; try omega) _ | refine Below.trans ?_ (Below.mono (by assumption) (by simp; try omega))))⟩)) | (go_at_call 24; refine (over_any _).mono ?_; rintro e w1 ⟨rfl, hb1⟩; obtain ⟨s0, s1, s2, s3, s4, s5, f0, f1, hz, hb⟩ := K _ _ hb1 (by first | exact ⟨s0, s1, s2, s3, s4, s5, f0, f1, hz, hb⟩ | exact ⟨s0, s1, s2, s3, s4, s5, f0, f1, hz, hb.drew⟩ | exact ⟨by simp [go_sem, World.cell?_alloc_past], by simp [go_sem, World.cell?_alloc_past], by simp [go_sem, World.cell?_alloc_past], by simp [go_sem, World.cell?_alloc_past], by simp [go_sem, World.cell?_alloc_past], by simp [go_sem, World.cell?_alloc_past], by simp [go_sem, World.cell?_alloc_past], by simp [go_sem, World.cell?_alloc_past], by simp [go_sem, World.cell?_alloc_past], (by repeat (first | exact Below.refl _ _ | refine Below.drew ?_ | refine below_drewN ?_ _ | refine Below.setCell ?_ (by simp; try omega) _ | refine Below.alloc ?_ (by simp; try omega) _ | refine Below.trans ?_ (Below.mono (by assumption) (by simp; try omega))))⟩)))
    exact bodyPost_ret (v := .tuple #[.agg #[.int .i64 0, .bool true], .int .i64 0]) (by simp [results, Try.results7, go_sem, *]) rfl ⟨rfl, (by repeat (first | assumption | refine Below.drew ?_ | refine below_drewN ?_ _ | refine Below.setCell ?_ (by simp; try omega) _ | refine Below.alloc ?_ (by simp; try omega) _))⟩
  obtain rfl : ao = false := by simpa using g3
  obtain rfl : bo = false := by simpa using g4
  obtain ⟨e1, e2, e3⟩ := do_ok (op := op) (a := a) (b := b) (by omega)
  rw [e1, e2, e3]
  clear e1 e2 e3 nb g3 g4
  by_cases h1 : op = 1
  · subst h1
    have e0 : loP 0 0 = 0 := by unfold loP; omega
    have e1 : doX 1 a b = (hiP (a / 9223372036854775808) (a % 18446744073709551616) (b / 9223372036854775808) (b % 18446744073709551616)) * 18446744073709551616 + (loP (a % 18446744073709551616) (b % 18446744073709551616)) := Eq.trans (by simp [doX]) (add_val a b sa sb).symm
    rw [e1]
    have za : UW (a % 18446744073709551616) := by unfold UW; omega
    have zb : UW (b % 18446744073709551616) := by unfold UW; omega
    have z0 : UW 0 := by unfold UW; omega
    have ya : SW (a / 9223372036854775808) := by obtain ⟨h1, h2⟩ := sa; unfold SW; omega
    have yb : SW (b / 9223372036854775808) := by obtain ⟨h1, h2⟩ := sb; unfold SW; omega
    have HP := fun W => plus_any (a / 9223372036854775808) (a % 18446744073709551616) 0 (b / 9223372036854775808) (b % 18446744073709551616) 0 W ya za z0 yb zb z0
    simp only [e0] at HP
    have HV := fun W => value_any (hiP (a / 9223372036854775808) (a % 18446744073709551616) (b / 9223372036854775808) (b % 18446744073709551616)) (loP (a % 18446744073709551616) (b % 18446744073709551616)) 0 W (hiP_sw _ _ _ _) (loP_uw _ _) z0
    clear e0 e1
    go_enter Try.func7, Try.ntmps7
    go_wp2_with (go_at_call 11; refine (check_any _ _ _).mono ?_; rintro e w1 ⟨rfl, hb1⟩; obtain ⟨s0, s1, s2, s3, s4, s5, f0, f1, hz, hb⟩ := K _ _ hb1 (by first | exact ⟨s0, s1, s2, s3, s4, s5, f0, f1, hz, hb⟩ | exact ⟨s0, s1, s2, s3, s4, s5, f0, f1, hz, hb.drew⟩ | exact ⟨by simp [go_sem, World.cell?_alloc_past], by simp [go_sem, World.cell?_alloc_past], by simp [go_sem, World.cell?_alloc_past], by simp [go_sem, World.cell?_alloc_past], by simp [go_sem, World.cell?_alloc_past], by simp [go_sem, World.cell?_alloc_past], by simp [go_sem, World.cell?_alloc_past], by simp [go_sem, World.cell?_alloc_past], by simp [go_sem, World.cell?_alloc_past], (by repeat (first | exact Below.refl _ _ | refine Below.drew ?_ | refine below_drewN ?_ _ | refine Below.setCell ?_ (by simp; try omega) _ | refine Below.alloc ?_ (by simp; try omega) _ | refine Below.trans ?_ (Below.mono (by assumption) (by simp; try omega))))⟩))
    go_region_with (first | (go_at_call 25; refine (only_f _ _ (by first | exact sa.1 | exact sb.1) (by first | exact sa.2 | exact sb.2)).mono ?_; rintro e w1 ⟨rfl, hb1⟩; obtain ⟨s0, s1, s2, s3, s4, s5, f0, f1, hz, hb⟩ := K _ _ hb1 (by first | exact ⟨s0, s1, s2, s3, s4, s5, f0, f1, hz, hb⟩ | exact ⟨s0, s1, s2, s3, s4, s5, f0, f1, hz, hb.drew⟩ | exact ⟨by simp [go_sem, World.cell?_alloc_past], by simp [go_sem, World.cell?_alloc_past], by simp [go_sem, World.cell?_alloc_past], by simp [go_sem, World.cell?_alloc_past], by simp [go_sem, World.cell?_alloc_past], by simp [go_sem, World.cell?_alloc_past], by simp [go_sem, World.cell?_alloc_past], by simp [go_sem, World.cell?_alloc_past], by simp [go_sem, World.cell?_alloc_past], (by repeat (first | exact Below.refl _ _ | refine Below.drew ?_ | refine below_drewN ?_ _ | refine Below.setCell ?_ (by simp; try omega) _ | refine Below.alloc ?_ (by simp; try omega) _ | refine Below.trans ?_ (Below.mono (by assumption) (by simp; try omega))))⟩)) | (go_at_call 26; refine (HP _).mono ?_; rintro e w1 ⟨rfl, hb1⟩; obtain ⟨s0, s1, s2, s3, s4, s5, f0, f1, hz, hb⟩ := K _ _ hb1 (by first | exact ⟨s0, s1, s2, s3, s4, s5, f0, f1, hz, hb⟩ | exact ⟨s0, s1, s2, s3, s4, s5, f0, f1, hz, hb.drew⟩ | exact ⟨by simp [go_sem, World.cell?_alloc_past], by simp [go_sem, World.cell?_alloc_past], by simp [go_sem, World.cell?_alloc_past], by simp [go_sem, World.cell?_alloc_past], by simp [go_sem, World.cell?_alloc_past], by simp [go_sem, World.cell?_alloc_past], by simp [go_sem, World.cell?_alloc_past], by simp [go_sem, World.cell?_alloc_past], by simp [go_sem, World.cell?_alloc_past], (by repeat (first | exact Below.refl _ _ | refine Below.drew ?_ | refine below_drewN ?_ _ | refine Below.setCell ?_ (by simp; try omega) _ | refine Below.alloc ?_ (by simp; try omega) _ | refine Below.trans ?_ (Below.mono (by assumption) (by simp; try omega))))⟩)) | (go_at_call 27; refine (HV _).mono ?_; rintro e w1 ⟨rfl, hb1⟩; obtain ⟨s0, s1, s2, s3, s4, s5, f0, f1, hz, hb⟩ := K _ _ hb1 (by first | exact ⟨s0, s1, s2, s3, s4, s5, f0, f1, hz, hb⟩ | exact ⟨s0, s1, s2, s3, s4, s5, f0, f1, hz, hb.drew⟩ | exact ⟨by simp [go_sem, World.cell?_alloc_past], by simp [go_sem, World.cell?_alloc_past], by simp [go_sem, World.cell?_alloc_past], by simp [go_sem, World.cell?_alloc_past], by simp [go_sem, World.cell?_alloc_past], by simp [go_sem, World.cell?_alloc_past], by simp [go_sem, World.cell?_alloc_past], by simp [go_sem, World.cell?_alloc_past], by simp [go_sem, World.cell?_alloc_past], (by repeat (first | exact Below.refl _ _ | refine Below.drew ?_ | refine below_drewN ?_ _ | refine Below.setCell ?_ (by simp; try omega) _ | refine Below.alloc ?_ (by simp; try omega) _ | refine Below.trans ?_ (Below.mono (by assumption) (by simp; try omega))))⟩)))
    all_goals go_wp2
    all_goals exact bodyPost_ret (v := .tuple #[.agg #[.int .i64 (outN ((hiP (a / 9223372036854775808) (a % 18446744073709551616) (b / 9223372036854775808) (b % 18446744073709551616)) * 18446744073709551616 + (loP (a % 18446744073709551616) (b % 18446744073709551616))) 0), .bool (outB ((hiP (a / 9223372036854775808) (a % 18446744073709551616) (b / 9223372036854775808) (b % 18446744073709551616)) * 18446744073709551616 + (loP (a % 18446744073709551616) (b % 18446744073709551616))) 0)], .int .i64 0]) (by simp [results, Try.results7, go_sem, *]) rfl ⟨rfl, (by repeat (first | assumption | refine Below.drew ?_ | refine below_drewN ?_ _ | refine Below.setCell ?_ (by simp; try omega) _ | refine Below.alloc ?_ (by simp; try omega) _))⟩
  by_cases h2 : op = 2
  · subst h2
    have e0 : loM 0 0 = 0 := by unfold loM; omega
    have e1 : doX 2 a b = (hiM (a / 9223372036854775808) (a % 18446744073709551616) (b / 9223372036854775808) (b % 18446744073709551616)) * 18446744073709551616 + (loM (a % 18446744073709551616) (b % 18446744073709551616)) := Eq.trans (by simp [doX]) (sub_val a b sa sb).symm
    rw [e1]
    have za : UW (a % 18446744073709551616) := by unfold UW; omega
    have zb : UW (b % 18446744073709551616) := by unfold UW; omega
    have z0 : UW 0 := by unfold UW; omega
    have ya : SW (a / 9223372036854775808) := by obtain ⟨h1, h2⟩ := sa; unfold SW; omega
    have yb : SW (b / 9223372036854775808) := by obtain ⟨h1, h2⟩ := sb; unfold SW; omega
    have HP := fun W => minus_any (a / 9223372036854775808) (a % 18446744073709551616) 0 (b / 9223372036854775808) (b % 18446744073709551616) 0 W ya za z0 yb zb z0
    simp only [e0] at HP
    have HV := fun W => value_any (hiM (a / 9223372036854775808) (a % 18446744073709551616) (b / 9223372036854775808) (b % 18446744073709551616)) (loM (a % 18446744073709551616) (b % 18446744073709551616)) 0 W (hiM_sw _ _ _ _) (loM_uw _ _) z0
    clear e0 e1
    go_enter Try.func7, Try.ntmps7
    go_wp2_with (go_at_call 11; refine (check_any _ _ _).mono ?_; rintro e w1 ⟨rfl, hb1⟩; obtain ⟨s0, s1, s2, s3, s4, s5, f0, f1, hz, hb⟩ := K _ _ hb1 (by first | exact ⟨s0, s1, s2, s3, s4, s5, f0, f1, hz, hb⟩ | exact ⟨s0, s1, s2, s3, s4, s5, f0, f1, hz, hb.drew⟩ | exact ⟨by simp [go_sem, World.cell?_alloc_past], by simp [go_sem, World.cell?_alloc_past], by simp [go_sem, World.cell?_alloc_past], by simp [go_sem, World.cell?_alloc_past], by simp [go_sem, World.cell?_alloc_past], by simp [go_sem, World.cell?_alloc_past], by simp [go_sem, World.cell?_alloc_past], by simp [go_sem, World.cell?_alloc_past], by simp [go_sem, World.cell?_alloc_past], (by repeat (first | exact Below.refl _ _ | refine Below.drew ?_ | refine below_drewN ?_ _ | refine Below.setCell ?_ (by simp; try omega) _ | refine Below.alloc ?_ (by simp; try omega) _ | refine Below.trans ?_ (Below.mono (by assumption) (by simp; try omega))))⟩))
    go_region_with (first | (go_at_call 25; refine (only_f _ _ (by first | exact sa.1 | exact sb.1) (by first | exact sa.2 | exact sb.2)).mono ?_; rintro e w1 ⟨rfl, hb1⟩; obtain ⟨s0, s1, s2, s3, s4, s5, f0, f1, hz, hb⟩ := K _ _ hb1 (by first | exact ⟨s0, s1, s2, s3, s4, s5, f0, f1, hz, hb⟩ | exact ⟨s0, s1, s2, s3, s4, s5, f0, f1, hz, hb.drew⟩ | exact ⟨by simp [go_sem, World.cell?_alloc_past], by simp [go_sem, World.cell?_alloc_past], by simp [go_sem, World.cell?_alloc_past], by simp [go_sem, World.cell?_alloc_past], by simp [go_sem, World.cell?_alloc_past], by simp [go_sem, World.cell?_alloc_past], by simp [go_sem, World.cell?_alloc_past], by simp [go_sem, World.cell?_alloc_past], by simp [go_sem, World.cell?_alloc_past], (by repeat (first | exact Below.refl _ _ | refine Below.drew ?_ | refine below_drewN ?_ _ | refine Below.setCell ?_ (by simp; try omega) _ | refine Below.alloc ?_ (by simp; try omega) _ | refine Below.trans ?_ (Below.mono (by assumption) (by simp; try omega))))⟩)) | (go_at_call 28; refine (HP _).mono ?_; rintro e w1 ⟨rfl, hb1⟩; obtain ⟨s0, s1, s2, s3, s4, s5, f0, f1, hz, hb⟩ := K _ _ hb1 (by first | exact ⟨s0, s1, s2, s3, s4, s5, f0, f1, hz, hb⟩ | exact ⟨s0, s1, s2, s3, s4, s5, f0, f1, hz, hb.drew⟩ | exact ⟨by simp [go_sem, World.cell?_alloc_past], by simp [go_sem, World.cell?_alloc_past], by simp [go_sem, World.cell?_alloc_past], by simp [go_sem, World.cell?_alloc_past], by simp [go_sem, World.cell?_alloc_past], by simp [go_sem, World.cell?_alloc_past], by simp [go_sem, World.cell?_alloc_past], by simp [go_sem, World.cell?_alloc_past], by simp [go_sem, World.cell?_alloc_past], (by repeat (first | exact Below.refl _ _ | refine Below.drew ?_ | refine below_drewN ?_ _ | refine Below.setCell ?_ (by simp; try omega) _ | refine Below.alloc ?_ (by simp; try omega) _ | refine Below.trans ?_ (Below.mono (by assumption) (by simp; try omega))))⟩)) | (go_at_call 27; refine (HV _).mono ?_; rintro e w1 ⟨rfl, hb1⟩; obtain ⟨s0, s1, s2, s3, s4, s5, f0, f1, hz, hb⟩ := K _ _ hb1 (by first | exact ⟨s0, s1, s2, s3, s4, s5, f0, f1, hz, hb⟩ | exact ⟨s0, s1, s2, s3, s4, s5, f0, f1, hz, hb.drew⟩ | exact ⟨by simp [go_sem, World.cell?_alloc_past], by simp [go_sem, World.cell?_alloc_past], by simp [go_sem, World.cell?_alloc_past], by simp [go_sem, World.cell?_alloc_past], by simp [go_sem, World.cell?_alloc_past], by simp [go_sem, World.cell?_alloc_past], by simp [go_sem, World.cell?_alloc_past], by simp [go_sem, World.cell?_alloc_past], by simp [go_sem, World.cell?_alloc_past], (by repeat (first | exact Below.refl _ _ | refine Below.drew ?_ | refine below_drewN ?_ _ | refine Below.setCell ?_ (by simp; try omega) _ | refine Below.alloc ?_ (by simp; try omega) _ | refine Below.trans ?_ (Below.mono (by assumption) (by simp; try omega))))⟩)))
    all_goals go_wp2
    all_goals exact bodyPost_ret (v := .tuple #[.agg #[.int .i64 (outN ((hiM (a / 9223372036854775808) (a % 18446744073709551616) (b / 9223372036854775808) (b % 18446744073709551616)) * 18446744073709551616 + (loM (a % 18446744073709551616) (b % 18446744073709551616))) 0), .bool (outB ((hiM (a / 9223372036854775808) (a % 18446744073709551616) (b / 9223372036854775808) (b % 18446744073709551616)) * 18446744073709551616 + (loM (a % 18446744073709551616) (b % 18446744073709551616))) 0)], .int .i64 0]) (by simp [results, Try.results7, go_sem, *]) rfl ⟨rfl, (by repeat (first | assumption | refine Below.drew ?_ | refine below_drewN ?_ _ | refine Below.setCell ?_ (by simp; try omega) _ | refine Below.alloc ?_ (by simp; try omega) _))⟩
  have e1 : doX op a b = a * b := by simp [doX, h1, h2]
  have z1 : (op == 1) = false := by simpa using h1
  have z2 : (op == 2) = false := by simpa using h2
  rw [e1]
  clear e1 h1 h2
  go_enter Try.func7, Try.ntmps7
  go_wp2_with (first | (go_at_call 11; refine (check_any _ _ _).mono ?_; rintro e w1 ⟨rfl, hb1⟩; obtain ⟨s0, s1, s2, s3, s4, s5, f0, f1, hz, hb⟩ := K _ _ hb1 (by first | exact ⟨s0, s1, s2, s3, s4, s5, f0, f1, hz, hb⟩ | exact ⟨s0, s1, s2, s3, s4, s5, f0, f1, hz, hb.drew⟩ | exact ⟨by simp [go_sem, World.cell?_alloc_past], by simp [go_sem, World.cell?_alloc_past], by simp [go_sem, World.cell?_alloc_past], by simp [go_sem, World.cell?_alloc_past], by simp [go_sem, World.cell?_alloc_past], by simp [go_sem, World.cell?_alloc_past], by simp [go_sem, World.cell?_alloc_past], by simp [go_sem, World.cell?_alloc_past], by simp [go_sem, World.cell?_alloc_past], (by repeat (first | exact Below.refl _ _ | refine Below.drew ?_ | refine below_drewN ?_ _ | refine Below.setCell ?_ (by simp; try omega) _ | refine Below.alloc ?_ (by simp; try omega) _ | refine Below.trans ?_ (Below.mono (by assumption) (by simp; try omega))))⟩)) | (go_at_call 29; refine (product_any a b _ sa sb).mono ?_; rintro e w1 ⟨rfl, hb1⟩; obtain ⟨s0, s1, s2, s3, s4, s5, f0, f1, hz, hb⟩ := K _ _ hb1 (by first | exact ⟨s0, s1, s2, s3, s4, s5, f0, f1, hz, hb⟩ | exact ⟨s0, s1, s2, s3, s4, s5, f0, f1, hz, hb.drew⟩ | exact ⟨by simp [go_sem, World.cell?_alloc_past], by simp [go_sem, World.cell?_alloc_past], by simp [go_sem, World.cell?_alloc_past], by simp [go_sem, World.cell?_alloc_past], by simp [go_sem, World.cell?_alloc_past], by simp [go_sem, World.cell?_alloc_past], by simp [go_sem, World.cell?_alloc_past], by simp [go_sem, World.cell?_alloc_past], by simp [go_sem, World.cell?_alloc_past], (by repeat (first | exact Below.refl _ _ | refine Below.drew ?_ | refine below_drewN ?_ _ | refine Below.setCell ?_ (by simp; try omega) _ | refine Below.alloc ?_ (by simp; try omega) _ | refine Below.trans ?_ (Below.mono (by assumption) (by simp; try omega))))⟩)))
  exact bodyPost_ret (v := .tuple #[.agg #[.int .i64 (outN (a * b) 0), .bool (outB (a * b) 0)], .int .i64 0]) (by simp [results, Try.results7, go_sem, *]) rfl ⟨rfl, (by repeat (first | assumption | refine Below.drew ?_ | refine below_drewN ?_ _ | refine Below.setCell ?_ (by simp; try omega) _ | refine Below.alloc ?_ (by simp; try omega) _))⟩
end Go.Proofs.Yteafoajpieablaa
