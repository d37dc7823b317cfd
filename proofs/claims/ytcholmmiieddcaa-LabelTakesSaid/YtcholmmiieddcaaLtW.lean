/- LabelTakes: from place to place: the law itself. -/
import Derived.Test.YtcholmmiieddcaaLtR
set_option linter.unusedVariables false
set_option linter.unusedSimpArgs false
set_option linter.unusedSectionVars false
set_option maxRecDepth 100000
namespace Go.Proofs.Ytcholmmiieddcaa
open Go Go.RowKit Ev
theorem pick_nil (ns : List T) (b : Bool) : pickL [] ns b = [] := by unfold pickL; split <;> rfl
theorem blt00 : Nat.blt 0 0 = false := rfl
theorem blt_no {l : List Lab} (h : Nat.blt 0 l.length = false) : l = [] := by
  cases l with
  | nil => rfl
  | cons a l => rw [show Nat.blt 0 (a :: l).length = true from Nat.blt_eq.mpr (by simp)] at h; cases h
theorem lab_l (l : List Lab) : labB l [] = !(Nat.blt 0 l.length) := by
  cases l with
  | nil => rfl
  | cons a l => rw [show Nat.blt 0 (a :: l).length = true from Nat.blt_eq.mpr (by simp)]; rfl
theorem lab_r (l : List Lab) : labB [] l = !(Nat.blt 0 l.length) := by
  cases l with
  | nil => rfl
  | cons a l => rw [show Nat.blt 0 (a :: l).length = true from Nat.blt_eq.mpr (by simp)]; rfl
theorem ble_few {l : List Lab} (h : chkL l = 0) : Nat.ble l.length 4398046510976 = true := Nat.ble_eq.mpr (by have := chk_few h; omega)
theorem blt_pos {l : List Lab} (h : ¬ l = []) : Nat.blt 0 l.length = true := by
  cases l with
  | nil => exact absurd rfl h
  | cons a l => exact Nat.blt_eq.mpr (by simp)
theorem flip_one {m : List Mat} {i : Nat} {a : Mat} (h : m.drop i = a :: m.drop (i + 1)) : (m.drop i).take (i + 1 - i) = [a] := by
  rw [h, show i + 1 - i = 1 by omega]
  rfl
section
variable {cx : Cx} (hU : cx.U = ltU) {R : Addr → Option Value} {l : List Lab} {m n : List Mat} {as bs : List T} {al am an aa ab : Option Addr} {cl cm cn ca cb : Nat} {s : Nat → Value}
  (L : LstG eL 2 32 QL R al l) (M : LstG eM 3 40 QM R am m) (N : LstG eM 3 40 QM R an n) (A : LstG eT 1 16 QT R aa as) (B : LstG eT 1 16 QT R ab bs)
include hU
section
variable (q0 : s 0 = .slice al l.length cl) (q3 : s 3 = .slice aa as.length ca) (q4 : s 4 = .slice ab bs.length cb)
include L A B q0 q3 q4
theorem lw0 : denS s (uRd cx R) (sy 1 33 [lte13, lte22]) = some (.bool (takB [] l)) := by
  have hl := n_contG (cx := cx) (c := cl) L
  have ha := n_contG (cx := cx) (c := ca) A
  have hb := n_contG (cx := cx) (c := cb) B
  simp only [lte13, lte22, nA, denS_unk, f_num, f_int, f_bool, mapO, Option.bind_some, n_t9, n_t11, q0, q3, q4, hl, ha, hb, n_lit0 eM, u14 hU, u15 hU, u11 hU, u16 hU]
theorem lw1 : denS s (uRd cx R) (sy 1 9 [(num 9), (sy 6 32 [lte22, (sy 0 10 [(num 1), (unk 0 3)]), (.bool true)]), (.int .i64 (.ofNat 0))]) = some (.bool (Nat.blt 0 (pickL l as true).length)) := by
  have hl := n_contG (cx := cx) (c := cl) L
  have ha := n_contG (cx := cx) (c := ca) A
  have hb := n_contG (cx := cx) (c := cb) B
  simp only [lte22, nA, denS_unk, f_num, f_int, f_bool, mapO, Option.bind_some, n_t9, n_t11, q0, q3, q4, hl, ha, hb, n_lit0 eL, u14 hU, u15 hU, u11 hU]
theorem lw2 : denS s (uRd cx R) (sy 1 9 [(num 11), (sy 6 32 [lte22, (sy 0 10 [(num 1), (unk 0 3)]), (.bool true)]), (num 4398046510976)]) = some (.bool (Nat.ble (pickL l as true).length 4398046510976)) := by
  have hl := n_contG (cx := cx) (c := cl) L
  have ha := n_contG (cx := cx) (c := ca) A
  have hb := n_contG (cx := cx) (c := cb) B
  simp only [lte22, nA, denS_unk, f_num, f_int, f_bool, mapO, Option.bind_some, n_t9, n_t11, q0, q3, q4, hl, ha, hb, n_lit0 eL, u14 hU, u15 hU, u11 hU]
theorem lw3 : denS s (uRd cx R) (sy 1 9 [(num 9), (sy 6 32 [lte6, lte5, (.bool true)]), (.int .i64 (.ofNat 0))]) = some (.bool (Nat.blt 0 (pickL (pickL l as true) bs true).length)) := by
  have hl := n_contG (cx := cx) (c := cl) L
  have ha := n_contG (cx := cx) (c := ca) A
  have hb := n_contG (cx := cx) (c := cb) B
  simp only [lte22, lte5, lte6, nA, denS_unk, f_num, f_int, f_bool, mapO, Option.bind_some, n_t9, n_t11, q0, q3, q4, hl, ha, hb, n_lit0 eL, u14 hU, u15 hU, u11 hU]
theorem lw4 : denS s (uRd cx R) (sy 1 9 [(num 9), (sy 6 32 [lte22, lte5, (.bool true)]), (.int .i64 (.ofNat 0))]) = some (.bool (Nat.blt 0 (pickL l bs true).length)) := by
  have hl := n_contG (cx := cx) (c := cl) L
  have ha := n_contG (cx := cx) (c := ca) A
  have hb := n_contG (cx := cx) (c := cb) B
  simp only [lte22, lte5, nA, denS_unk, f_num, f_int, f_bool, mapO, Option.bind_some, n_t9, n_t11, q0, q3, q4, hl, ha, hb, n_lit0 eL, u14 hU, u15 hU, u11 hU]
theorem lw5 : denS s (uRd cx R) (sy 1 9 [(num 11), (sy 6 32 [lte22, lte5, (.bool true)]), (num 4398046510976)]) = some (.bool (Nat.ble (pickL l bs true).length 4398046510976)) := by
  have hl := n_contG (cx := cx) (c := cl) L
  have ha := n_contG (cx := cx) (c := ca) A
  have hb := n_contG (cx := cx) (c := cb) B
  simp only [lte22, lte5, nA, denS_unk, f_num, f_int, f_bool, mapO, Option.bind_some, n_t9, n_t11, q0, q3, q4, hl, ha, hb, n_lit0 eL, u14 hU, u15 hU, u11 hU]
theorem lw6 : denS s (uRd cx R) (sy 1 9 [(num 9), lte26, (.int .i64 (.ofNat 0))]) = some (.bool (Nat.blt 0 (pickL (pickL l bs true) as true).length)) := by
  have hl := n_contG (cx := cx) (c := cl) L
  have ha := n_contG (cx := cx) (c := ca) A
  have hb := n_contG (cx := cx) (c := cb) B
  simp only [lte22, lte26, lte5, nA, denS_unk, f_num, f_int, f_bool, mapO, Option.bind_some, n_t9, n_t11, q0, q3, q4, hl, ha, hb, n_lit0 eL, u14 hU, u15 hU, u11 hU]
theorem lw7 : denS s (uRd cx R) (sy 1 9 [(num 11), (sy 6 32 [lte6, lte5, (.bool true)]), (num 4398046510976)]) = some (.bool (Nat.ble (pickL (pickL l as true) bs true).length 4398046510976)) := by
  have hl := n_contG (cx := cx) (c := cl) L
  have ha := n_contG (cx := cx) (c := ca) A
  have hb := n_contG (cx := cx) (c := cb) B
  simp only [lte22, lte5, lte6, nA, denS_unk, f_num, f_int, f_bool, mapO, Option.bind_some, n_t9, n_t11, q0, q3, q4, hl, ha, hb, n_lit0 eL, u14 hU, u15 hU, u11 hU]
theorem lw8 : denS s (uRd cx R) (sy 1 9 [(num 11), lte26, (num 4398046510976)]) = some (.bool (Nat.ble (pickL (pickL l bs true) as true).length 4398046510976)) := by
  have hl := n_contG (cx := cx) (c := cl) L
  have ha := n_contG (cx := cx) (c := ca) A
  have hb := n_contG (cx := cx) (c := cb) B
  simp only [lte22, lte26, lte5, nA, denS_unk, f_num, f_int, f_bool, mapO, Option.bind_some, n_t9, n_t11, q0, q3, q4, hl, ha, hb, n_lit0 eL, u14 hU, u15 hU, u11 hU]
theorem lw9 : denS s (uRd cx R) (sy 1 28 [(sy 0 31 [lte6, lte5, (.bool true)]), (sy 0 31 [(sy 0 31 [lte22, lte5, (.bool true)]), (sy 0 10 [(num 1), (unk 0 3)]), (.bool true)])]) = some (.bool (labB (pickL (pickL l as true) bs true) (pickL (pickL l bs true) as true))) := by
  have hl := n_contG (cx := cx) (c := cl) L
  have ha := n_contG (cx := cx) (c := ca) A
  have hb := n_contG (cx := cx) (c := cb) B
  simp only [lte22, lte5, lte6, nA, denS_unk, f_num, f_int, f_bool, mapO, Option.bind_some, n_t9, n_t11, q0, q3, q4, hl, ha, hb, n_lit0 eL, u14 hU, u15 hU, u11 hU]
theorem lw10 : denS s (uRd cx R) lte28 = some (.bool (Nat.blt 0 (pickL (pickL l as true) bs false).length)) := by
  have hl := n_contG (cx := cx) (c := cl) L
  have ha := n_contG (cx := cx) (c := ca) A
  have hb := n_contG (cx := cx) (c := cb) B
  simp only [lte22, lte28, lte5, lte6, nA, denS_unk, f_num, f_int, f_bool, mapO, Option.bind_some, n_t9, n_t11, q0, q3, q4, hl, ha, hb, n_lit0 eL, u14 hU, u15 hU, u11 hU]
theorem lw11 : denS s (uRd cx R) lte18 = some (.bool (Nat.blt 0 (pickL l bs false).length)) := by
  have hl := n_contG (cx := cx) (c := cl) L
  have ha := n_contG (cx := cx) (c := ca) A
  have hb := n_contG (cx := cx) (c := cb) B
  simp only [lte11, lte18, lte22, lte5, nA, denS_unk, f_num, f_int, f_bool, mapO, Option.bind_some, n_t9, n_t11, q0, q3, q4, hl, ha, hb, n_lit0 eL, u14 hU, u15 hU, u11 hU]
theorem lw12 : denS s (uRd cx R) lte20 = some (.bool (Nat.ble (pickL l bs false).length 4398046510976)) := by
  have hl := n_contG (cx := cx) (c := cl) L
  have ha := n_contG (cx := cx) (c := ca) A
  have hb := n_contG (cx := cx) (c := cb) B
  simp only [lte11, lte20, lte22, lte5, nA, denS_unk, f_num, f_int, f_bool, mapO, Option.bind_some, n_t9, n_t11, q0, q3, q4, hl, ha, hb, n_lit0 eL, u14 hU, u15 hU, u11 hU]
theorem lw13 : denS s (uRd cx R) lte19 = some (.bool (Nat.blt 0 (pickL (pickL l bs false) as true).length)) := by
  have hl := n_contG (cx := cx) (c := cl) L
  have ha := n_contG (cx := cx) (c := ca) A
  have hb := n_contG (cx := cx) (c := cb) B
  simp only [lte19, lte22, lte3, lte5, nA, denS_unk, f_num, f_int, f_bool, mapO, Option.bind_some, n_t9, n_t11, q0, q3, q4, hl, ha, hb, n_lit0 eL, u14 hU, u15 hU, u11 hU]
theorem lw14 : denS s (uRd cx R) lte16 = some (.bool (Nat.ble (pickL (pickL l as true) bs false).length 4398046510976)) := by
  have hl := n_contG (cx := cx) (c := cl) L
  have ha := n_contG (cx := cx) (c := ca) A
  have hb := n_contG (cx := cx) (c := cb) B
  simp only [lte16, lte22, lte5, lte6, nA, denS_unk, f_num, f_int, f_bool, mapO, Option.bind_some, n_t9, n_t11, q0, q3, q4, hl, ha, hb, n_lit0 eL, u14 hU, u15 hU, u11 hU]
theorem lw15 : denS s (uRd cx R) lte21 = some (.bool (Nat.ble (pickL (pickL l bs false) as true).length 4398046510976)) := by
  have hl := n_contG (cx := cx) (c := cl) L
  have ha := n_contG (cx := cx) (c := ca) A
  have hb := n_contG (cx := cx) (c := cb) B
  simp only [lte21, lte22, lte3, lte5, nA, denS_unk, f_num, f_int, f_bool, mapO, Option.bind_some, n_t9, n_t11, q0, q3, q4, hl, ha, hb, n_lit0 eL, u14 hU, u15 hU, u11 hU]
theorem lw16 : denS s (uRd cx R) (sy 1 28 [lte24, lte12]) = some (.bool (labB (pickL (pickL l as true) bs false) (pickL (pickL l bs false) as true))) := by
  have hl := n_contG (cx := cx) (c := cl) L
  have ha := n_contG (cx := cx) (c := ca) A
  have hb := n_contG (cx := cx) (c := cb) B
  simp only [lte12, lte22, lte24, lte5, lte6, nA, denS_unk, f_num, f_int, f_bool, mapO, Option.bind_some, n_t9, n_t11, q0, q3, q4, hl, ha, hb, n_lit0 eL, u14 hU, u15 hU, u11 hU]
theorem lw17 : denS s (uRd cx R) lte8 = some (.bool (Nat.blt 0 (pickL l as false).length)) := by
  have hl := n_contG (cx := cx) (c := cl) L
  have ha := n_contG (cx := cx) (c := ca) A
  have hb := n_contG (cx := cx) (c := cb) B
  simp only [lte1, lte22, lte8, nA, denS_unk, f_num, f_int, f_bool, mapO, Option.bind_some, n_t9, n_t11, q0, q3, q4, hl, ha, hb, n_lit0 eL, u14 hU, u15 hU, u11 hU]
theorem lw18 : denS s (uRd cx R) lte10 = some (.bool (Nat.ble (pickL l as false).length 4398046510976)) := by
  have hl := n_contG (cx := cx) (c := cl) L
  have ha := n_contG (cx := cx) (c := ca) A
  have hb := n_contG (cx := cx) (c := cb) B
  simp only [lte1, lte10, lte22, nA, denS_unk, f_num, f_int, f_bool, mapO, Option.bind_some, n_t9, n_t11, q0, q3, q4, hl, ha, hb, n_lit0 eL, u14 hU, u15 hU, u11 hU]
theorem lw19 : denS s (uRd cx R) lte9 = some (.bool (Nat.blt 0 (pickL (pickL l as false) as true).length)) := by
  have hl := n_contG (cx := cx) (c := cl) L
  have ha := n_contG (cx := cx) (c := ca) A
  have hb := n_contG (cx := cx) (c := cb) B
  simp only [lte0, lte22, lte9, nA, denS_unk, f_num, f_int, f_bool, mapO, Option.bind_some, n_t9, n_t11, q0, q3, q4, hl, ha, hb, n_lit0 eL, u14 hU, u15 hU, u11 hU]
theorem lw20 : denS s (uRd cx R) lte14 = some (.bool (Nat.blt 0 (pickL [] as true).length)) := by
  have hl := n_contG (cx := cx) (c := cl) L
  have ha := n_contG (cx := cx) (c := ca) A
  have hb := n_contG (cx := cx) (c := cb) B
  simp only [lte13, lte14, lte2, nA, denS_unk, f_num, f_int, f_bool, mapO, Option.bind_some, n_t9, n_t11, q0, q3, q4, hl, ha, hb, n_lit0 eL, u14 hU, u15 hU, u11 hU]
theorem lw21 : denS s (uRd cx R) lte29 = some (.bool (labB [] [])) := by
  have hl := n_contG (cx := cx) (c := cl) L
  have ha := n_contG (cx := cx) (c := ca) A
  have hb := n_contG (cx := cx) (c := cb) B
  simp only [lte13, lte29, nA, denS_unk, f_num, f_int, f_bool, mapO, Option.bind_some, n_t9, n_t11, q0, q3, q4, hl, ha, hb, n_lit0 eL, u14 hU, u15 hU, u11 hU]
theorem lw22 : denS s (uRd cx R) (sy 1 9 [(num 9), (sy 6 32 [lte13, lte5, (.bool true)]), (.int .i64 (.ofNat 0))]) = some (.bool (Nat.blt 0 (pickL [] bs true).length)) := by
  have hl := n_contG (cx := cx) (c := cl) L
  have ha := n_contG (cx := cx) (c := ca) A
  have hb := n_contG (cx := cx) (c := cb) B
  simp only [lte13, lte5, nA, denS_unk, f_num, f_int, f_bool, mapO, Option.bind_some, n_t9, n_t11, q0, q3, q4, hl, ha, hb, n_lit0 eL, u14 hU, u15 hU, u11 hU]
theorem lw23 : denS s (uRd cx R) lte27 = some (.bool (Nat.blt 0 (pickL [] bs false).length)) := by
  have hl := n_contG (cx := cx) (c := cl) L
  have ha := n_contG (cx := cx) (c := ca) A
  have hb := n_contG (cx := cx) (c := cb) B
  simp only [lte13, lte27, lte5, nA, denS_unk, f_num, f_int, f_bool, mapO, Option.bind_some, n_t9, n_t11, q0, q3, q4, hl, ha, hb, n_lit0 eL, u14 hU, u15 hU, u11 hU]
end
/-- The tests, by what is empty. -/
def ltT (b1 b2 b3 b4 b5 b6 : Bool) : List (Value × Bool) := [((sy 1 33 [lte13, lte22]), true), ((sy 1 9 [(num 9), (sy 6 32 [lte22, (sy 0 10 [(num 1), (unk 0 3)]), (.bool true)]), (.int .i64 (.ofNat 0))]), b1), ((sy 1 9 [(num 11), (sy 6 32 [lte22, (sy 0 10 [(num 1), (unk 0 3)]), (.bool true)]), (num 4398046510976)]), true), ((sy 1 9 [(num 9), (sy 6 32 [lte6, lte5, (.bool true)]), (.int .i64 (.ofNat 0))]), b2), ((sy 1 9 [(num 9), (sy 6 32 [lte22, lte5, (.bool true)]), (.int .i64 (.ofNat 0))]), b3), ((sy 1 9 [(num 11), (sy 6 32 [lte22, lte5, (.bool true)]), (num 4398046510976)]), true), ((sy 1 9 [(num 9), lte26, (.int .i64 (.ofNat 0))]), b2), ((sy 1 9 [(num 11), (sy 6 32 [lte6, lte5, (.bool true)]), (num 4398046510976)]), true), ((sy 1 9 [(num 11), lte26, (num 4398046510976)]), true), ((sy 1 28 [(sy 0 31 [lte6, lte5, (.bool true)]), (sy 0 31 [(sy 0 31 [lte22, lte5, (.bool true)]), (sy 0 10 [(num 1), (unk 0 3)]), (.bool true)])]), true), (lte28, b4), (lte18, b5), (lte20, true), (lte19, b4), (lte16, true), (lte21, true), ((sy 1 28 [lte24, lte12]), true), (lte8, b6), (lte10, true), (lte9, false), (lte14, false), (lte29, true), ((sy 1 9 [(num 9), (sy 6 32 [lte13, lte5, (.bool true)]), (.int .i64 (.ofNat 0))]), false), (lte27, false)]
omit hU in
theorem lt_paths : ∀ b1 b2 b3 b4 b5 b6 : Bool, (((!b1 && (b2 || b4)) || (!b3 && b2)) || ((!b5 && b4) || okT (ltT b1 b2 b3 b4 b5 b6) ltvt6)) = true := by
  intro b1 b2 b3 b4 b5 b6
  cases b1 <;> cases b2 <;> cases b3 <;> cases b4 <;> cases b5 <;> cases b6 <;> decide +kernel
section
variable (q0 : s 0 = .slice al l.length cl) (q3 : s 3 = .slice aa as.length ca) (q4 : s 4 = .slice ab bs.length cb)
include L A B q0 q3 q4
theorem lt6 (hl : chkL l = 0) : Ev.Ends (uRd cx R) lttab (QV cx R (.bool true)) 6 s := by
  have x1 := pick_chk hl as true
  have x3 := pick_chk hl bs true
  have y3 := pick_chk hl bs false
  have z1 := pick_chk hl as false
  have x2 := pick_chk x1 bs true
  have y2 := pick_chk x1 bs false
  have e1 : pickL (pickL l bs true) as true = pickL (pickL l as true) bs true := pick_turn hl bs as true true
  have e2 : pickL (pickL l bs false) as true = pickL (pickL l as true) bs false := pick_turn hl bs as false true
  have e3 := pick_none hl as
  have k1 := ble_few x1
  have k2 := ble_few x2
  have k3 := ble_few x3
  have k4 := ble_few y2
  have k5 := ble_few y3
  have k6 := ble_few z1
  have k7 : Nat.ble 0 4398046510976 = true := rfl
  have tn := tak_nil hl
  refine Ends_mk ?_
  show At _ _ _ _ ltvt6
  have hT : AllT s (uRd cx R) (ltT (Nat.blt 0 (pickL l as true).length) (Nat.blt 0 (pickL (pickL l as true) bs true).length) (Nat.blt 0 (pickL l bs true).length) (Nat.blt 0 (pickL (pickL l as true) bs false).length) (Nat.blt 0 (pickL l bs false).length) (Nat.blt 0 (pickL l as false).length)) := by
    unfold ltT
    simp only [AllT, lw0 hU L A B q0 q3 q4, lw1 hU L A B q0 q3 q4, lw2 hU L A B q0 q3 q4, lw3 hU L A B q0 q3 q4, lw4 hU L A B q0 q3 q4, lw5 hU L A B q0 q3 q4, lw6 hU L A B q0 q3 q4, lw7 hU L A B q0 q3 q4, lw8 hU L A B q0 q3 q4, lw9 hU L A B q0 q3 q4, lw10 hU L A B q0 q3 q4, lw11 hU L A B q0 q3 q4, lw12 hU L A B q0 q3 q4, lw13 hU L A B q0 q3 q4, lw14 hU L A B q0 q3 q4, lw15 hU L A B q0 q3 q4, lw16 hU L A B q0 q3 q4, lw17 hU L A B q0 q3 q4, lw18 hU L A B q0 q3 q4, lw19 hU L A B q0 q3 q4, lw20 hU L A B q0 q3 q4, lw21 hU L A B q0 q3 q4, lw22 hU L A B q0 q3 q4, lw23 hU L A B q0 q3 q4, pick_nil, e1, e2, e3, List.length_nil, blt00, k1, k2, k3, k4, k5, k6, k7, tn, labB_self, lab_l, lab_r, and_self]
  have c1 : Nat.blt 0 (pickL l as true).length = false → pickL l as true = [] := blt_no
  have c3 : Nat.blt 0 (pickL l bs true).length = false → pickL l bs true = [] := blt_no
  have c5 : Nat.blt 0 (pickL l bs false).length = false → pickL l bs false = [] := blt_no
  have n2 : Nat.blt 0 (pickL l as true).length = false → Nat.blt 0 (pickL (pickL l as true) bs true).length = false := fun h => by rw [c1 h, pick_nil]; rfl
  have n4 : Nat.blt 0 (pickL l as true).length = false → Nat.blt 0 (pickL (pickL l as true) bs false).length = false := fun h => by rw [c1 h, pick_nil]; rfl
  have m2 : Nat.blt 0 (pickL l bs true).length = false → Nat.blt 0 (pickL (pickL l as true) bs true).length = false := fun h => by rw [← e1, c3 h, pick_nil]; rfl
  have m4 : Nat.blt 0 (pickL l bs false).length = false → Nat.blt 0 (pickL (pickL l as true) bs false).length = false := fun h => by rw [← e2, c5 h, pick_nil]; rfl
  have hP := lt_paths (Nat.blt 0 (pickL l as true).length) (Nat.blt 0 (pickL (pickL l as true) bs true).length) (Nat.blt 0 (pickL l bs true).length) (Nat.blt 0 (pickL (pickL l as true) bs false).length) (Nat.blt 0 (pickL l bs false).length) (Nat.blt 0 (pickL l as false).length)
  generalize Nat.blt 0 (pickL l as true).length = b1 at *
  generalize Nat.blt 0 (pickL (pickL l as true) bs true).length = b2 at *
  generalize Nat.blt 0 (pickL l bs true).length = b3 at *
  generalize Nat.blt 0 (pickL (pickL l as true) bs false).length = b4 at *
  generalize Nat.blt 0 (pickL l bs false).length = b5 at *
  generalize Nat.blt 0 (pickL l as false).length = b6 at *
  refine okT_at hT ?_ (ret_b true)
  have p1 : (!b1 && (b2 || b4)) = false := by cases b1 with
    | true => rfl
    | false => rw [n2 rfl, n4 rfl]; rfl
  have p2 : (!b3 && b2) = false := by cases b3 with
    | true => rfl
    | false => rw [m2 rfl]; rfl
  have p3 : (!b5 && b4) = false := by cases b5 with
    | true => rfl
    | false => rw [m4 rfl]; rfl
  rw [p1, p2, p3] at hP
  exact hP
end
end
end Go.Proofs.Ytcholmmiieddcaa