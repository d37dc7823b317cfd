import Derived.Test.YtkgflcpgjdbcdaaGreatDoorGrB
import Derived.Shelf.Bits.Mul64
namespace Go.Proofs.YtkgflcpgjdbcdaaGreatDoor
set_option linter.unusedVariables false
set_option linter.unusedSimpArgs false
open Go.RowKit Go.Shelf
def cmpB (op a b : Int) : Bool :=
  if op = 4 then decide (a < b) else if op = 5 then decide (a ≤ b) else if op = 6 then decide (b < a) else if op = 7 then decide (b ≤ a) else if op = 8 then a == b else a != b
theorem compare_any (op a b : Int) (w : World) : Calls Tryz.prog 102 #[.int .i64 op, .int .i64 a, .int .i64 b] w fun e w' => e = .returned (.bool (cmpB op a b)) ∧ w = w' := by
  by_cases h4 : op = 4
  · subst h4
    go_enter Tryz.func102, Tryz.ntmps102
    go_wp2
    go_ret
    exact ⟨ret_bool (by simp [cmpB]), rfl⟩
  by_cases h5 : op = 5
  · subst h5
    go_enter Tryz.func102, Tryz.ntmps102
    go_wp2
    go_ret
    exact ⟨ret_bool (by simp [cmpB]), rfl⟩
  by_cases h6 : op = 6
  · subst h6
    go_enter Tryz.func102, Tryz.ntmps102
    go_wp2
    go_ret
    exact ⟨ret_bool (by simp [cmpB]), rfl⟩
  by_cases h7 : op = 7
  · subst h7
    go_enter Tryz.func102, Tryz.ntmps102
    go_wp2
    go_ret
    exact ⟨ret_bool (by simp [cmpB]), rfl⟩
  by_cases h8 : op = 8
  · subst h8
    go_enter Tryz.func102, Tryz.ntmps102
    go_wp2
    go_ret
    exact ⟨ret_bool (by simp [cmpB]), rfl⟩
  · have hb : cmpB op a b = (a != b) := by simp [cmpB, h4, h5, h6, h7, h8]
    have g4 : (op == 4) = false := by simpa using h4
    have g5 : (op == 5) = false := by simpa using h5
    have g6 : (op == 6) = false := by simpa using h6
    have g7 : (op == 7) = false := by simpa using h7
    have g8 : (op == 8) = false := by simpa using h8
    rw [hb]
    clear h4 h5 h6 h7 h8 hb
    go_enter Tryz.func102, Tryz.ntmps102
    go_wp2
    go_ret
    exact ⟨rfl, rfl⟩
def mulRen : Go.Shelf.Ren := ⟨fun | 264 => 139 | n => n, fun | 53 => 60 | 46 => 138 | n => n, fun | n => n⟩
theorem mulLays : Go.Proofs.Lays.n264 Tryz.prog mulRen := {
  mixed := by kernel_rfl
  f264 := Tryz.func139.trans (congrArg some (by kernel_rfl))
  t46 := Tryz.underlying138
  a46 := Tryz.isAgg138
  z46 := Tryz.sizeOf138
  v46 := Tryz.zeroValue138
  t53 := Tryz.underlying60
  a53 := Tryz.isAgg60
  z53 := Tryz.sizeOf60
  v53 := Tryz.zeroValue60 }
theorem mul64_any (x y : Nat) (w : World) (hx : x < 18446744073709551616) (hy : y < 18446744073709551616) :
    Calls Tryz.prog 139 #[.int .u64 (x : Int), .int .u64 (y : Int)] w fun e w' => e = .returned (.tuple #[.int .u64 ((x * y / 18446744073709551616 : Nat) : Int), .int .u64 ((x * y % 18446744073709551616 : Nat) : Int)]) ∧ w = w' :=
  (Any.bits_Mul64 mulLays x y hx hy w).mono fun _ _ ⟨he, hw⟩ => ⟨he, hw.symm⟩
theorem mul_sign (a b : Int) : a * b = (if decide (a < 0) != decide (b < 0) then -((a.natAbs * b.natAbs : Nat) : Int) else ((a.natAbs * b.natAbs : Nat) : Int)) := by
  obtain ⟨m, rfl | rfl⟩ := Int.eq_nat_or_neg a <;> obtain ⟨n, rfl | rfl⟩ := Int.eq_nat_or_neg b
  · simp; intro h; omega
  · by_cases hn : n = 0
    · subst hn; simp
    · have h1 : (-(n : Int) < 0) := by omega
      have h2 : ¬ ((m : Int) < 0) := by omega
      simp [h1, h2, Int.mul_neg]
      intro h; omega
  · by_cases hn : m = 0
    · subst hn; simp
    · have h1 : (-(m : Int) < 0) := by omega
      have h2 : ¬ ((n : Int) < 0) := by omega
      simp [h1, h2, Int.neg_mul]
      intro h; omega
  · by_cases hn : m = 0
    · subst hn; simp
    by_cases hm : n = 0
    · subst hm; simp
    have h1 : (-(m : Int) < 0) := by omega
    have h2 : (-(n : Int) < 0) := by omega
    simp [h1, h2, Int.neg_mul_neg]
    intro h; omega
set_option maxHeartbeats 1000000 in
theorem product_any (a b : Int) (w : World) (ha : SW a) (hb : SW b) : Calls Tryz.prog 101 #[.int .i64 a, .int .i64 b] w fun e w' => e = .returned (.agg #[.int .i64 (outN (a * b) 0), .bool (outB (a * b) 0)]) ∧ Below w.heap.size w w' := by
  obtain ⟨a1, a2⟩ := ha; obtain ⟨b1, b2⟩ := hb
  have k1 : a.natAbs < 18446744073709551616 := by omega
  have k2 : b.natAbs < 18446744073709551616 := by omega
  have hm := mul_sign a b
  generalize hP : a.natAbs * b.natAbs = P at hm
  have MU : ∀ W, Calls Tryz.prog 139 #[.int .u64 (a.natAbs : Nat), .int .u64 (b.natAbs : Nat)] W fun e w' => e = .returned (.tuple #[.int .u64 ((P / 18446744073709551616 : Nat) : Int), .int .u64 ((P % 18446744073709551616 : Nat) : Int)]) ∧ W = w' := by
    intro W
    rw [← hP]
    exact mul64_any a.natAbs b.natAbs W k1 k2
  clear hP
  by_cases hh : 18446744073709551616 ≤ P
  · have hs : (0 : Int) ≠ 0 ∨ a * b < -9223372036854775808 ∨ 9223372036854775807 < a * b := by
      rw [hm]; split <;> omega
    obtain ⟨e1, e2⟩ := out_t hs
    rw [e1, e2]
    clear e1 e2 hs hm
    have g : (((P : Int) / 18446744073709551616) != 0) = true := by simp; omega
    go_enter Tryz.func101, Tryz.ntmps101
    go_wp2_with (first | (go_at_call 140; refine (size_any _ _ (by assumption) (by assumption)).mono ?_; rintro e w' ⟨rfl, rfl⟩) | (go_at_call 139; refine (MU _).mono ?_; rintro e w' ⟨rfl, rfl⟩) | (go_at_call 57; refine (over_any _).mono ?_; rintro e w1 ⟨rfl, hb⟩; have hs := hb.size; obtain ⟨hc, hf⟩ := bcell hb; simp at hs))
    exact bodyPost_ret (v := .agg #[.int .i64 0, .bool true]) (by simp [results, Tryz.results101, go_sem, hc]) rfl ⟨rfl, (by repeat (first | exact Below.refl _ _ | refine Below.drew ?_ | refine below_drewN ?_ _ | refine Below.setCell ?_ (by simp; try omega) _ | refine Below.alloc ?_ (by simp; try omega) _ | refine Below.trans ?_ (Below.mono (by assumption) (by simp; try omega))))⟩
  · have MU' : ∀ W, Calls Tryz.prog 139 #[.int .u64 (a.natAbs : Nat), .int .u64 (b.natAbs : Nat)] W fun e w' => e = .returned (.tuple #[.int .u64 0, .int .u64 (P : Int)]) ∧ W = w' := by
      intro W
      have e1 : P / 18446744073709551616 = 0 := by omega
      have e2 : P % 18446744073709551616 = P := by omega
      have h := MU W
      rw [e1, e2] at h
      exact h
    clear MU
    by_cases g00 : 0 ≤ a ∧ 0 ≤ b
    · obtain ⟨ga, gb⟩ := g00
      have hm' : a * b = (P : Int) := by rw [hm]; simp [show ¬ a < 0 by omega, show ¬ b < 0 by omega]
      clear hm
      by_cases hl : P ≤ 9223372036854775807
      · have hs : ¬((0 : Int) ≠ 0 ∨ a * b < -9223372036854775808 ∨ 9223372036854775807 < a * b) := by omega
        obtain ⟨e1, e2⟩ := out_f hs
        rw [e1, e2, hm']
        clear e1 e2 hs hm'
        go_enter Tryz.func101, Tryz.ntmps101
        go_wp2_with (first | (go_at_call 140; refine (size_any _ _ (by assumption) (by assumption)).mono ?_; rintro e w' ⟨rfl, rfl⟩) | (go_at_call 139; refine (MU' _).mono ?_; rintro e w' ⟨rfl, rfl⟩) | (go_at_call 27; refine (of_any _ _).mono ?_; rintro e w1 ⟨rfl, hb⟩; have hs := hb.size; obtain ⟨hc, hf⟩ := bcell hb; simp at hs))
        exact bodyPost_ret (v := .agg #[.int .i64 (P : Int), .bool false]) (by simp [results, Tryz.results101, go_sem, hc]) rfl ⟨rfl, (by repeat (first | exact Below.refl _ _ | refine Below.drew ?_ | refine below_drewN ?_ _ | refine Below.setCell ?_ (by simp; try omega) _ | refine Below.alloc ?_ (by simp; try omega) _ | refine Below.trans ?_ (Below.mono (by assumption) (by simp; try omega))))⟩
      · have hs : ((0 : Int) ≠ 0 ∨ a * b < -9223372036854775808 ∨ 9223372036854775807 < a * b) := by omega
        obtain ⟨e1, e2⟩ := out_t hs
        rw [e1, e2]
        clear e1 e2 hs hm'
        go_enter Tryz.func101, Tryz.ntmps101
        go_wp2_with (first | (go_at_call 140; refine (size_any _ _ (by assumption) (by assumption)).mono ?_; rintro e w' ⟨rfl, rfl⟩) | (go_at_call 139; refine (MU' _).mono ?_; rintro e w' ⟨rfl, rfl⟩) | (go_at_call 57; refine (over_any _).mono ?_; rintro e w1 ⟨rfl, hb⟩; have hs := hb.size; obtain ⟨hc, hf⟩ := bcell hb; simp at hs))
        exact bodyPost_ret (v := .agg #[.int .i64 0, .bool true]) (by simp [results, Tryz.results101, go_sem, hc]) rfl ⟨rfl, (by repeat (first | exact Below.refl _ _ | refine Below.drew ?_ | refine below_drewN ?_ _ | refine Below.setCell ?_ (by simp; try omega) _ | refine Below.alloc ?_ (by simp; try omega) _ | refine Below.trans ?_ (Below.mono (by assumption) (by simp; try omega))))⟩
    by_cases g01 : 0 ≤ a ∧ b < 0
    · obtain ⟨ga, gb⟩ := g01
      have hm' : a * b = -(P : Int) := by rw [hm]; simp [show ¬ a < 0 by omega, gb]
      clear hm
      by_cases hl : P ≤ 9223372036854775808
      · have hs : ¬((0 : Int) ≠ 0 ∨ a * b < -9223372036854775808 ∨ 9223372036854775807 < a * b) := by omega
        obtain ⟨e1, e2⟩ := out_f hs
        rw [e1, e2, hm']
        clear e1 e2 hs hm'
        have e3 : wrap64 (IntKind.u64.wrap (-(P : Int))) = -(P : Int) := by rw [wrap_u64']; unfold wrap64; omega
        rw [← e3]
        clear e3
        go_enter Tryz.func101, Tryz.ntmps101
        go_wp2_with (first | (go_at_call 140; refine (size_any _ _ (by assumption) (by assumption)).mono ?_; rintro e w' ⟨rfl, rfl⟩) | (go_at_call 139; refine (MU' _).mono ?_; rintro e w' ⟨rfl, rfl⟩) | (go_at_call 27; refine (of_any _ _).mono ?_; rintro e w1 ⟨rfl, hb⟩; have hs := hb.size; obtain ⟨hc, hf⟩ := bcell hb; simp at hs))
        exact bodyPost_ret (v := .agg #[.int .i64 (wrap64 (IntKind.u64.wrap (-(P : Int)))), .bool false]) (by simp [results, Tryz.results101, go_sem, hc]) rfl ⟨rfl, (by repeat (first | exact Below.refl _ _ | refine Below.drew ?_ | refine below_drewN ?_ _ | refine Below.setCell ?_ (by simp; try omega) _ | refine Below.alloc ?_ (by simp; try omega) _ | refine Below.trans ?_ (Below.mono (by assumption) (by simp; try omega))))⟩
      · have hs : ((0 : Int) ≠ 0 ∨ a * b < -9223372036854775808 ∨ 9223372036854775807 < a * b) := by omega
        obtain ⟨e1, e2⟩ := out_t hs
        rw [e1, e2]
        clear e1 e2 hs hm'
        go_enter Tryz.func101, Tryz.ntmps101
        go_wp2_with (first | (go_at_call 140; refine (size_any _ _ (by assumption) (by assumption)).mono ?_; rintro e w' ⟨rfl, rfl⟩) | (go_at_call 139; refine (MU' _).mono ?_; rintro e w' ⟨rfl, rfl⟩) | (go_at_call 57; refine (over_any _).mono ?_; rintro e w1 ⟨rfl, hb⟩; have hs := hb.size; obtain ⟨hc, hf⟩ := bcell hb; simp at hs))
        exact bodyPost_ret (v := .agg #[.int .i64 0, .bool true]) (by simp [results, Tryz.results101, go_sem, hc]) rfl ⟨rfl, (by repeat (first | exact Below.refl _ _ | refine Below.drew ?_ | refine below_drewN ?_ _ | refine Below.setCell ?_ (by simp; try omega) _ | refine Below.alloc ?_ (by simp; try omega) _ | refine Below.trans ?_ (Below.mono (by assumption) (by simp; try omega))))⟩
    by_cases g10 : a < 0 ∧ 0 ≤ b
    · obtain ⟨ga, gb⟩ := g10
      have hm' : a * b = -(P : Int) := by rw [hm]; simp [ga, show ¬ b < 0 by omega]
      clear hm
      by_cases hl : P ≤ 9223372036854775808
      · have hs : ¬((0 : Int) ≠ 0 ∨ a * b < -9223372036854775808 ∨ 9223372036854775807 < a * b) := by omega
        obtain ⟨e1, e2⟩ := out_f hs
        rw [e1, e2, hm']
        clear e1 e2 hs hm'
        have e3 : wrap64 (IntKind.u64.wrap (-(P : Int))) = -(P : Int) := by rw [wrap_u64']; unfold wrap64; omega
        rw [← e3]
        clear e3
        go_enter Tryz.func101, Tryz.ntmps101
        go_wp2_with (first | (go_at_call 140; refine (size_any _ _ (by assumption) (by assumption)).mono ?_; rintro e w' ⟨rfl, rfl⟩) | (go_at_call 139; refine (MU' _).mono ?_; rintro e w' ⟨rfl, rfl⟩) | (go_at_call 27; refine (of_any _ _).mono ?_; rintro e w1 ⟨rfl, hb⟩; have hs := hb.size; obtain ⟨hc, hf⟩ := bcell hb; simp at hs))
        exact bodyPost_ret (v := .agg #[.int .i64 (wrap64 (IntKind.u64.wrap (-(P : Int)))), .bool false]) (by simp [results, Tryz.results101, go_sem, hc]) rfl ⟨rfl, (by repeat (first | exact Below.refl _ _ | refine Below.drew ?_ | refine below_drewN ?_ _ | refine Below.setCell ?_ (by simp; try omega) _ | refine Below.alloc ?_ (by simp; try omega) _ | refine Below.trans ?_ (Below.mono (by assumption) (by simp; try omega))))⟩
      · have hs : ((0 : Int) ≠ 0 ∨ a * b < -9223372036854775808 ∨ 9223372036854775807 < a * b) := by omega
        obtain ⟨e1, e2⟩ := out_t hs
        rw [e1, e2]
        clear e1 e2 hs hm'
        go_enter Tryz.func101, Tryz.ntmps101
        go_wp2_with (first | (go_at_call 140; refine (size_any _ _ (by assumption) (by assumption)).mono ?_; rintro e w' ⟨rfl, rfl⟩) | (go_at_call 139; refine (MU' _).mono ?_; rintro e w' ⟨rfl, rfl⟩) | (go_at_call 57; refine (over_any _).mono ?_; rintro e w1 ⟨rfl, hb⟩; have hs := hb.size; obtain ⟨hc, hf⟩ := bcell hb; simp at hs))
        exact bodyPost_ret (v := .agg #[.int .i64 0, .bool true]) (by simp [results, Tryz.results101, go_sem, hc]) rfl ⟨rfl, (by repeat (first | exact Below.refl _ _ | refine Below.drew ?_ | refine below_drewN ?_ _ | refine Below.setCell ?_ (by simp; try omega) _ | refine Below.alloc ?_ (by simp; try omega) _ | refine Below.trans ?_ (Below.mono (by assumption) (by simp; try omega))))⟩
    by_cases g11 : a < 0 ∧ b < 0
    · obtain ⟨ga, gb⟩ := g11
      have hm' : a * b = (P : Int) := by rw [hm]; simp [ga, gb]
      clear hm
      by_cases hl : P ≤ 9223372036854775807
      · have hs : ¬((0 : Int) ≠ 0 ∨ a * b < -9223372036854775808 ∨ 9223372036854775807 < a * b) := by omega
        obtain ⟨e1, e2⟩ := out_f hs
        rw [e1, e2, hm']
        clear e1 e2 hs hm'
        go_enter Tryz.func101, Tryz.ntmps101
        go_wp2_with (first | (go_at_call 140; refine (size_any _ _ (by assumption) (by assumption)).mono ?_; rintro e w' ⟨rfl, rfl⟩) | (go_at_call 139; refine (MU' _).mono ?_; rintro e w' ⟨rfl, rfl⟩) | (go_at_call 27; refine (of_any _ _).mono ?_; rintro e w1 ⟨rfl, hb⟩; have hs := hb.size; obtain ⟨hc, hf⟩ := bcell hb; simp at hs))
        exact bodyPost_ret (v := .agg #[.int .i64 (P : Int), .bool false]) (by simp [results, Tryz.results101, go_sem, hc]) rfl ⟨rfl, (by repeat (first | exact Below.refl _ _ | refine Below.drew ?_ | refine below_drewN ?_ _ | refine Below.setCell ?_ (by simp; try omega) _ | refine Below.alloc ?_ (by simp; try omega) _ | refine Below.trans ?_ (Below.mono (by assumption) (by simp; try omega))))⟩
      · have hs : ((0 : Int) ≠ 0 ∨ a * b < -9223372036854775808 ∨ 9223372036854775807 < a * b) := by omega
        obtain ⟨e1, e2⟩ := out_t hs
        rw [e1, e2]
        clear e1 e2 hs hm'
        go_enter Tryz.func101, Tryz.ntmps101
        go_wp2_with (first | (go_at_call 140; refine (size_any _ _ (by assumption) (by assumption)).mono ?_; rintro e w' ⟨rfl, rfl⟩) | (go_at_call 139; refine (MU' _).mono ?_; rintro e w' ⟨rfl, rfl⟩) | (go_at_call 57; refine (over_any _).mono ?_; rintro e w1 ⟨rfl, hb⟩; have hs := hb.size; obtain ⟨hc, hf⟩ := bcell hb; simp at hs))
        exact bodyPost_ret (v := .agg #[.int .i64 0, .bool true]) (by simp [results, Tryz.results101, go_sem, hc]) rfl ⟨rfl, (by repeat (first | exact Below.refl _ _ | refine Below.drew ?_ | refine below_drewN ?_ _ | refine Below.setCell ?_ (by simp; try omega) _ | refine Below.alloc ?_ (by simp; try omega) _ | refine Below.trans ?_ (Below.mono (by assumption) (by simp; try omega))))⟩
    exact absurd trivial (by omega)
end Go.Proofs.YtkgflcpgjdbcdaaGreatDoor
