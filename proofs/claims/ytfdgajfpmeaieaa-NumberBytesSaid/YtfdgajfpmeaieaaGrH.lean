/- Layer 2: Is, of the program and of the document's answers. -/
import Derived.Test.YtfdgajfpmeaieaaGrG
namespace Go.Proofs.Ytfdgajfpmeaieaa
set_option linter.unusedVariables false
set_option linter.unusedSimpArgs false
open Go.RowKit Go.Shelf

def isE (op v : Int) (vo : Bool) : Int := if op < 4 ∨ 9 < op ∨ chkZ v vo = 2 then 2 else 0
def isB (op v : Int) (vo : Bool) (n : Int) : Bool := if op < 4 ∨ 9 < op ∨ chkZ v vo = 2 then false else if vo = true then false else cmpB op v n
theorem is_bad {op v n : Int} {vo : Bool} (h : op < 4 ∨ 9 < op ∨ chkZ v vo = 2) : isE op v vo = 2 ∧ isB op v vo n = false := by
  unfold isE isB; rw [if_pos h, if_pos h]; exact ⟨rfl, rfl⟩
theorem is_over {op v n : Int} {vo : Bool} (h : ¬(op < 4 ∨ 9 < op ∨ chkZ v vo = 2)) (g : vo = true) : isE op v vo = 0 ∧ isB op v vo n = false := by
  unfold isE isB; rw [if_neg h, if_neg h, if_pos g]; exact ⟨rfl, rfl⟩
theorem is_ok {op v n : Int} (h : ¬(op < 4 ∨ 9 < op)) : isE op v false = 0 ∧ isB op v false n = cmpB op v n := by
  have h' : ¬(op < 4 ∨ 9 < op ∨ chkZ v false = 2) := by rw [chkZ_f]; omega
  unfold isE isB; rw [if_neg h', if_neg h', if_neg (by decide)]; exact ⟨rfl, rfl⟩

set_option maxHeartbeats 4000000 in
theorem is_any (op v : Int) (vo : Bool) (n : Int) (w : World) : Calls Try.prog 12 #[.int .i64 op, .agg #[.int .i64 v, .bool vo], .int .i64 n] w fun e w' =>
    e = .returned (.tuple #[.bool (isB op v vo n), .int .i64 (isE op v vo)]) ∧ Below w.heap.size w w' := by
  by_cases g1 : op < 4
  · obtain ⟨e1, e2⟩ := is_bad (n := n) (op := op) (v := v) (vo := vo) (.inl g1)
    rw [e1, e2]
    clear e1 e2
    go_enter Try.func12, Try.ntmps12
    go_wp2
    go_ret2
    exact ⟨rfl, (by repeat (first | exact Below.refl _ _ | refine Below.drew ?_ | refine below_drewN ?_ _ | refine Below.setCell ?_ (by simp; try omega) _ | refine Below.alloc ?_ (by simp; try omega) _ | refine Below.trans ?_ (Below.mono (by assumption) (by simp; try omega))))⟩
  by_cases g2 : 9 < op
  · obtain ⟨e1, e2⟩ := is_bad (n := n) (op := op) (v := v) (vo := vo) (.inr (.inl g2))
    rw [e1, e2]
    clear e1 e2
    go_enter Try.func12, Try.ntmps12
    go_wp2
    go_ret2
    exact ⟨rfl, (by repeat (first | exact Below.refl _ _ | refine Below.drew ?_ | refine below_drewN ?_ _ | refine Below.setCell ?_ (by simp; try omega) _ | refine Below.alloc ?_ (by simp; try omega) _ | refine Below.trans ?_ (Below.mono (by assumption) (by simp; try omega))))⟩
  have K : ∀ W w1 : World, Below W.heap.size W w1 → (W.cell? ⟨w.heap.size, 0, none⟩ = some (.int .i64 v) ∧ W.cell? ⟨w.heap.size, 1, none⟩ = some (.bool vo) ∧ w.heap.size < W.heap.size ∧ Below w.heap.size w W) → (w1.cell? ⟨w.heap.size, 0, none⟩ = some (.int .i64 v) ∧ w1.cell? ⟨w.heap.size, 1, none⟩ = some (.bool vo) ∧ w.heap.size < w1.heap.size ∧ Below w.heap.size w w1) := by
    rintro W w1 hb1 ⟨s0, s1, hz, hb⟩
    have hs := hb1.size
    exact ⟨(hb1.cell (by show w.heap.size < _; omega)).trans s0, (hb1.cell (by show w.heap.size < _; omega)).trans s1, by omega, hb.trans (hb1.mono (by omega))⟩
  rcases chkZ_02 v vo with q1 | q1
  case inr =>
    obtain ⟨e1, e2⟩ := is_bad (n := n) (op := op) (v := v) (vo := vo) (.inr (.inr q1))
    rw [e1, e2]
    clear e1 e2
    go_enter Try.func12, Try.ntmps12
    go_wp2_with (go_at_call 14; refine (check_any _ _ _).mono ?_; rintro e w1 ⟨rfl, hb1⟩; obtain ⟨s0, s1, hz, hb⟩ := K _ _ hb1 (by first | exact ⟨s0, s1, hz, hb⟩ | exact ⟨s0, s1, hz, hb.drew⟩ | exact ⟨s0, s1, hz, below_drewN hb _⟩ | exact ⟨by simp [go_sem, World.cell?_alloc_past], by simp [go_sem, World.cell?_alloc_past], by simp [go_sem, World.cell?_alloc_past], (by repeat (first | exact Below.refl _ _ | refine Below.drew ?_ | refine below_drewN ?_ _ | refine Below.setCell ?_ (by simp; try omega) _ | refine Below.alloc ?_ (by simp; try omega) _ | refine Below.trans ?_ (Below.mono (by assumption) (by simp; try omega))))⟩))
    go_ret2
    exact ⟨rfl, (by repeat (first | assumption | refine Below.drew ?_ | refine below_drewN ?_ _ | refine Below.setCell ?_ (by simp; try omega) _ | refine Below.alloc ?_ (by simp; try omega) _))⟩
  have nb : ¬(op < 4 ∨ 9 < op ∨ chkZ v vo = 2) := by rw [q1]; omega
  by_cases g3 : vo = true
  · obtain ⟨e1, e2⟩ := is_over (n := n) nb g3
    rw [e1, e2]
    clear e1 e2 nb
    subst g3
    go_enter Try.func12, Try.ntmps12
    go_wp2_with (first | (go_at_call 14; refine (check_any _ _ _).mono ?_; rintro e w1 ⟨rfl, hb1⟩; obtain ⟨s0, s1, hz, hb⟩ := K _ _ hb1 (by first | exact ⟨s0, s1, hz, hb⟩ | exact ⟨s0, s1, hz, hb.drew⟩ | exact ⟨s0, s1, hz, below_drewN hb _⟩ | exact ⟨by simp [go_sem, World.cell?_alloc_past], by simp [go_sem, World.cell?_alloc_past], by simp [go_sem, World.cell?_alloc_past], (by repeat (first | exact Below.refl _ _ | refine Below.drew ?_ | refine below_drewN ?_ _ | refine Below.setCell ?_ (by simp; try omega) _ | refine Below.alloc ?_ (by simp; try omega) _ | refine Below.trans ?_ (Below.mono (by assumption) (by simp; try omega))))⟩)))
    go_ret2
    exact ⟨rfl, (by repeat (first | assumption | refine Below.drew ?_ | refine below_drewN ?_ _ | refine Below.setCell ?_ (by simp; try omega) _ | refine Below.alloc ?_ (by simp; try omega) _))⟩
  obtain rfl : vo = false := by simpa using g3
  obtain ⟨e1, e2⟩ := is_ok (n := n) (op := op) (v := v) (by omega)
  rw [e1, e2]
  clear e1 e2 nb g3
  go_enter Try.func12, Try.ntmps12
  go_wp2_with (first | (go_at_call 14; refine (check_any _ _ _).mono ?_; rintro e w1 ⟨rfl, hb1⟩; obtain ⟨s0, s1, hz, hb⟩ := K _ _ hb1 (by first | exact ⟨s0, s1, hz, hb⟩ | exact ⟨s0, s1, hz, hb.drew⟩ | exact ⟨s0, s1, hz, below_drewN hb _⟩ | exact ⟨by simp [go_sem, World.cell?_alloc_past], by simp [go_sem, World.cell?_alloc_past], by simp [go_sem, World.cell?_alloc_past], (by repeat (first | exact Below.refl _ _ | refine Below.drew ?_ | refine below_drewN ?_ _ | refine Below.setCell ?_ (by simp; try omega) _ | refine Below.alloc ?_ (by simp; try omega) _ | refine Below.trans ?_ (Below.mono (by assumption) (by simp; try omega))))⟩)) | (go_at_call 72; refine (compare_any _ _ _ _).mono ?_; rintro e w' ⟨rfl, rfl⟩))
  go_ret2
  exact ⟨rfl, (by repeat (first | assumption | refine Below.drew ?_ | refine below_drewN ?_ _ | refine Below.setCell ?_ (by simp; try omega) _ | refine Below.alloc ?_ (by simp; try omega) _))⟩

set_option maxHeartbeats 4000000 in
theorem ris_any (op v : Int) (vo : Bool) (n : Int) (w : World) : Calls Try.prog 13 #[.int .i64 op, .agg #[.int .i64 v, .bool vo], .int .i64 n] w fun e w' =>
    e = .returned (.tuple #[.bool (isB op v vo n), .int .i64 (isE op v vo)]) ∧ Below w.heap.size w w' := by
  by_cases g1 : op < 4
  · obtain ⟨e1, e2⟩ := is_bad (n := n) (op := op) (v := v) (vo := vo) (.inl g1)
    rw [e1, e2]
    clear e1 e2
    go_enter Try.func13, Try.ntmps13
    go_wp2
    go_ret2
    exact ⟨rfl, (by repeat (first | exact Below.refl _ _ | refine Below.drew ?_ | refine below_drewN ?_ _ | refine Below.setCell ?_ (by simp; try omega) _ | refine Below.alloc ?_ (by simp; try omega) _ | refine Below.trans ?_ (Below.mono (by assumption) (by simp; try omega))))⟩
  by_cases g2 : 9 < op
  · obtain ⟨e1, e2⟩ := is_bad (n := n) (op := op) (v := v) (vo := vo) (.inr (.inl g2))
    rw [e1, e2]
    clear e1 e2
    go_enter Try.func13, Try.ntmps13
    go_wp2
    go_ret2
    exact ⟨rfl, (by repeat (first | exact Below.refl _ _ | refine Below.drew ?_ | refine below_drewN ?_ _ | refine Below.setCell ?_ (by simp; try omega) _ | refine Below.alloc ?_ (by simp; try omega) _ | refine Below.trans ?_ (Below.mono (by assumption) (by simp; try omega))))⟩
  have K : ∀ W w1 : World, Below W.heap.size W w1 → (W.cell? ⟨w.heap.size, 0, none⟩ = some (.int .i64 v) ∧ W.cell? ⟨w.heap.size, 1, none⟩ = some (.bool vo) ∧ w.heap.size < W.heap.size ∧ Below w.heap.size w W) → (w1.cell? ⟨w.heap.size, 0, none⟩ = some (.int .i64 v) ∧ w1.cell? ⟨w.heap.size, 1, none⟩ = some (.bool vo) ∧ w.heap.size < w1.heap.size ∧ Below w.heap.size w w1) := by
    rintro W w1 hb1 ⟨s0, s1, hz, hb⟩
    have hs := hb1.size
    exact ⟨(hb1.cell (by show w.heap.size < _; omega)).trans s0, (hb1.cell (by show w.heap.size < _; omega)).trans s1, by omega, hb.trans (hb1.mono (by omega))⟩
  rcases chkZ_02 v vo with q1 | q1
  case inr =>
    obtain ⟨e1, e2⟩ := is_bad (n := n) (op := op) (v := v) (vo := vo) (.inr (.inr q1))
    rw [e1, e2]
    clear e1 e2
    go_enter Try.func13, Try.ntmps13
    go_wp2_with (go_at_call 15; refine (rcheck_any _ _ _).mono ?_; rintro e w1 ⟨rfl, hb1⟩; obtain ⟨s0, s1, hz, hb⟩ := K _ _ hb1 (by first | exact ⟨s0, s1, hz, hb⟩ | exact ⟨s0, s1, hz, hb.drew⟩ | exact ⟨s0, s1, hz, below_drewN hb _⟩ | exact ⟨by simp [go_sem, World.cell?_alloc_past], by simp [go_sem, World.cell?_alloc_past], by simp [go_sem, World.cell?_alloc_past], (by repeat (first | exact Below.refl _ _ | refine Below.drew ?_ | refine below_drewN ?_ _ | refine Below.setCell ?_ (by simp; try omega) _ | refine Below.alloc ?_ (by simp; try omega) _ | refine Below.trans ?_ (Below.mono (by assumption) (by simp; try omega))))⟩))
    go_ret2
    exact ⟨rfl, (by repeat (first | assumption | refine Below.drew ?_ | refine below_drewN ?_ _ | refine Below.setCell ?_ (by simp; try omega) _ | refine Below.alloc ?_ (by simp; try omega) _))⟩
  have nb : ¬(op < 4 ∨ 9 < op ∨ chkZ v vo = 2) := by rw [q1]; omega
  by_cases g3 : vo = true
  · obtain ⟨e1, e2⟩ := is_over (n := n) nb g3
    rw [e1, e2]
    clear e1 e2 nb
    subst g3
    go_enter Try.func13, Try.ntmps13
    go_wp2_with (first | (go_at_call 15; refine (rcheck_any _ _ _).mono ?_; rintro e w1 ⟨rfl, hb1⟩; obtain ⟨s0, s1, hz, hb⟩ := K _ _ hb1 (by first | exact ⟨s0, s1, hz, hb⟩ | exact ⟨s0, s1, hz, hb.drew⟩ | exact ⟨s0, s1, hz, below_drewN hb _⟩ | exact ⟨by simp [go_sem, World.cell?_alloc_past], by simp [go_sem, World.cell?_alloc_past], by simp [go_sem, World.cell?_alloc_past], (by repeat (first | exact Below.refl _ _ | refine Below.drew ?_ | refine below_drewN ?_ _ | refine Below.setCell ?_ (by simp; try omega) _ | refine Below.alloc ?_ (by simp; try omega) _ | refine Below.trans ?_ (Below.mono (by assumption) (by simp; try omega))))⟩)))
    go_ret2
    exact ⟨rfl, (by repeat (first | assumption | refine Below.drew ?_ | refine below_drewN ?_ _ | refine Below.setCell ?_ (by simp; try omega) _ | refine Below.alloc ?_ (by simp; try omega) _))⟩
  obtain rfl : vo = false := by simpa using g3
  obtain ⟨e1, e2⟩ := is_ok (n := n) (op := op) (v := v) (by omega)
  rw [e1, e2]
  clear e1 e2 nb g3
  by_cases h4 : op = 4
  · subst h4
    go_enter Try.func13, Try.ntmps13
    go_wp2_with (first | (go_at_call 15; refine (rcheck_any _ _ _).mono ?_; rintro e w1 ⟨rfl, hb1⟩; obtain ⟨s0, s1, hz, hb⟩ := K _ _ hb1 (by first | exact ⟨s0, s1, hz, hb⟩ | exact ⟨s0, s1, hz, hb.drew⟩ | exact ⟨s0, s1, hz, below_drewN hb _⟩ | exact ⟨by simp [go_sem, World.cell?_alloc_past], by simp [go_sem, World.cell?_alloc_past], by simp [go_sem, World.cell?_alloc_past], (by repeat (first | exact Below.refl _ _ | refine Below.drew ?_ | refine below_drewN ?_ _ | refine Below.setCell ?_ (by simp; try omega) _ | refine Below.alloc ?_ (by simp; try omega) _ | refine Below.trans ?_ (Below.mono (by assumption) (by simp; try omega))))⟩)))
    go_ret2
    exact ⟨by simp [cmpB], (by repeat (first | assumption | refine Below.drew ?_ | refine below_drewN ?_ _ | refine Below.setCell ?_ (by simp; try omega) _ | refine Below.alloc ?_ (by simp; try omega) _))⟩
  have z4 : (op == 4) = false := by simpa using h4
  by_cases h5 : op = 5
  · subst h5
    go_enter Try.func13, Try.ntmps13
    go_wp2_with (first | (go_at_call 15; refine (rcheck_any _ _ _).mono ?_; rintro e w1 ⟨rfl, hb1⟩; obtain ⟨s0, s1, hz, hb⟩ := K _ _ hb1 (by first | exact ⟨s0, s1, hz, hb⟩ | exact ⟨s0, s1, hz, hb.drew⟩ | exact ⟨s0, s1, hz, below_drewN hb _⟩ | exact ⟨by simp [go_sem, World.cell?_alloc_past], by simp [go_sem, World.cell?_alloc_past], by simp [go_sem, World.cell?_alloc_past], (by repeat (first | exact Below.refl _ _ | refine Below.drew ?_ | refine below_drewN ?_ _ | refine Below.setCell ?_ (by simp; try omega) _ | refine Below.alloc ?_ (by simp; try omega) _ | refine Below.trans ?_ (Below.mono (by assumption) (by simp; try omega))))⟩)))
    go_ret2
    exact ⟨by simp [cmpB], (by repeat (first | assumption | refine Below.drew ?_ | refine below_drewN ?_ _ | refine Below.setCell ?_ (by simp; try omega) _ | refine Below.alloc ?_ (by simp; try omega) _))⟩
  have z5 : (op == 5) = false := by simpa using h5
  by_cases h6 : op = 6
  · subst h6
    go_enter Try.func13, Try.ntmps13
    go_wp2_with (first | (go_at_call 15; refine (rcheck_any _ _ _).mono ?_; rintro e w1 ⟨rfl, hb1⟩; obtain ⟨s0, s1, hz, hb⟩ := K _ _ hb1 (by first | exact ⟨s0, s1, hz, hb⟩ | exact ⟨s0, s1, hz, hb.drew⟩ | exact ⟨s0, s1, hz, below_drewN hb _⟩ | exact ⟨by simp [go_sem, World.cell?_alloc_past], by simp [go_sem, World.cell?_alloc_past], by simp [go_sem, World.cell?_alloc_past], (by repeat (first | exact Below.refl _ _ | refine Below.drew ?_ | refine below_drewN ?_ _ | refine Below.setCell ?_ (by simp; try omega) _ | refine Below.alloc ?_ (by simp; try omega) _ | refine Below.trans ?_ (Below.mono (by assumption) (by simp; try omega))))⟩)))
    go_ret2
    exact ⟨by simp [cmpB], (by repeat (first | assumption | refine Below.drew ?_ | refine below_drewN ?_ _ | refine Below.setCell ?_ (by simp; try omega) _ | refine Below.alloc ?_ (by simp; try omega) _))⟩
  have z6 : (op == 6) = false := by simpa using h6
  by_cases h7 : op = 7
  · subst h7
    go_enter Try.func13, Try.ntmps13
    go_wp2_with (first | (go_at_call 15; refine (rcheck_any _ _ _).mono ?_; rintro e w1 ⟨rfl, hb1⟩; obtain ⟨s0, s1, hz, hb⟩ := K _ _ hb1 (by first | exact ⟨s0, s1, hz, hb⟩ | exact ⟨s0, s1, hz, hb.drew⟩ | exact ⟨s0, s1, hz, below_drewN hb _⟩ | exact ⟨by simp [go_sem, World.cell?_alloc_past], by simp [go_sem, World.cell?_alloc_past], by simp [go_sem, World.cell?_alloc_past], (by repeat (first | exact Below.refl _ _ | refine Below.drew ?_ | refine below_drewN ?_ _ | refine Below.setCell ?_ (by simp; try omega) _ | refine Below.alloc ?_ (by simp; try omega) _ | refine Below.trans ?_ (Below.mono (by assumption) (by simp; try omega))))⟩)))
    go_ret2
    exact ⟨by simp [cmpB], (by repeat (first | assumption | refine Below.drew ?_ | refine below_drewN ?_ _ | refine Below.setCell ?_ (by simp; try omega) _ | refine Below.alloc ?_ (by simp; try omega) _))⟩
  have z7 : (op == 7) = false := by simpa using h7
  by_cases h8 : op = 8
  · subst h8
    go_enter Try.func13, Try.ntmps13
    go_wp2_with (first | (go_at_call 15; refine (rcheck_any _ _ _).mono ?_; rintro e w1 ⟨rfl, hb1⟩; obtain ⟨s0, s1, hz, hb⟩ := K _ _ hb1 (by first | exact ⟨s0, s1, hz, hb⟩ | exact ⟨s0, s1, hz, hb.drew⟩ | exact ⟨s0, s1, hz, below_drewN hb _⟩ | exact ⟨by simp [go_sem, World.cell?_alloc_past], by simp [go_sem, World.cell?_alloc_past], by simp [go_sem, World.cell?_alloc_past], (by repeat (first | exact Below.refl _ _ | refine Below.drew ?_ | refine below_drewN ?_ _ | refine Below.setCell ?_ (by simp; try omega) _ | refine Below.alloc ?_ (by simp; try omega) _ | refine Below.trans ?_ (Below.mono (by assumption) (by simp; try omega))))⟩)))
    go_ret2
    exact ⟨by simp [cmpB], (by repeat (first | assumption | refine Below.drew ?_ | refine below_drewN ?_ _ | refine Below.setCell ?_ (by simp; try omega) _ | refine Below.alloc ?_ (by simp; try omega) _))⟩
  have z8 : (op == 8) = false := by simpa using h8
  rw [show cmpB op v n = (v != n) by simp [cmpB, h4, h5, h6, h7, h8]]
  clear h4 h5 h6 h7 h8
  go_enter Try.func13, Try.ntmps13
  go_wp2_with (first | (go_at_call 15; refine (rcheck_any _ _ _).mono ?_; rintro e w1 ⟨rfl, hb1⟩; obtain ⟨s0, s1, hz, hb⟩ := K _ _ hb1 (by first | exact ⟨s0, s1, hz, hb⟩ | exact ⟨s0, s1, hz, hb.drew⟩ | exact ⟨s0, s1, hz, below_drewN hb _⟩ | exact ⟨by simp [go_sem, World.cell?_alloc_past], by simp [go_sem, World.cell?_alloc_past], by simp [go_sem, World.cell?_alloc_past], (by repeat (first | exact Below.refl _ _ | refine Below.drew ?_ | refine below_drewN ?_ _ | refine Below.setCell ?_ (by simp; try omega) _ | refine Below.alloc ?_ (by simp; try omega) _ | refine Below.trans ?_ (Below.mono (by assumption) (by simp; try omega))))⟩)))
  go_ret2
  exact ⟨rfl, (by repeat (first | assumption | refine Below.drew ?_ | refine below_drewN ?_ _ | refine Below.setCell ?_ (by simp; try omega) _ | refine Below.alloc ?_ (by simp; try omega) _))⟩
end Go.Proofs.Ytfdgajfpmeaieaa
