import Derived.WalkKit
import Derived.WalkSpells
import Derived.Laws.StructEq
import Derived.Shelf.Spec.BitsCarry
import Derived.Deep.QuietTactic
import Derived.BigQuiet
import Derived.StillTailTactics
import Derived.Lib.Hide
import Derived.Deep.RegionWith
import Derived.Test.YtkgflcpgjdbcdaaGreatDoorMem
import Derived.Test.YtkgflcpgjdbcdaaGreatDoorChecked
namespace Go.Proofs.YtkgflcpgjdbcdaaGreatDoor
set_option linter.unusedVariables false
set_option linter.unusedSimpArgs false
open Go.RowKit Go.Shelf
theorem wrap_u64' (x : Int) : IntKind.u64.wrap x = x % 18446744073709551616 := IntKind.wrap_u64 x
theorem over_any (w : World) : Calls Tryz.prog 57 #[] w fun e w' => e = .returned (.agg #[.int .i64 0, .bool true]) ∧ Below w.heap.size w w' := by
  go_enter Tryz.func57, Tryz.ntmps57
  go_wp2
  exact bodyPost_ret (v := .agg #[.int .i64 0, .bool true]) (by simp [results, Tryz.results57, go_sem]) rfl ⟨rfl, ((Below.refl _ _).alloc (Nat.le_refl _) _)⟩
theorem of_any (n : Int) (w : World) : Calls Tryz.prog 27 #[.int .i64 n] w fun e w' => e = .returned (.agg #[.int .i64 n, .bool false]) ∧ Below w.heap.size w w' := by
  go_enter Tryz.func27, Tryz.ntmps27
  go_wp2
  exact bodyPost_ret (v := .agg #[.int .i64 n, .bool false]) (by simp [results, Tryz.results27, go_sem]) rfl ⟨rfl, ((Below.refl _ _).alloc (Nat.le_refl _) _)⟩
theorem signs_any (n : Int) (w : World) (h1 : -9223372036854775808 ≤ n) (h2 : n ≤ 9223372036854775807) : Calls Tryz.prog 56 #[.int .i64 n] w fun e w' => e = .returned (.int .i64 (n / 9223372036854775808)) ∧ w = w' := by
  go_enter Tryz.func56, Tryz.ntmps56
  go_wp2
  go_ret
  exact ⟨rfl, rfl⟩
def chkZ (n : Int) (o : Bool) : Int := if o = true ∧ n ≠ 0 then 2 else 0
theorem chkZ_f (n : Int) : chkZ n false = 0 := by simp [chkZ]
theorem chkZ_0 (o : Bool) : chkZ 0 o = 0 := by simp [chkZ]
theorem chkZ_t (n : Int) (h : n ≠ 0) : chkZ n true = 2 := by simp [chkZ, h]
theorem check_any (n : Int) (o : Bool) (w : World) : Calls Tryz.prog 24 #[.agg #[.int .i64 n, .bool o]] w fun e w' => e = .returned (.int .i64 (chkZ n o)) ∧ Below w.heap.size w w' := by
  cases o
  · rw [chkZ_f]
    go_enter Tryz.func24, Tryz.ntmps24
    go_wp2
    go_ret
    exact ⟨rfl, ((Below.refl _ _).alloc (Nat.le_refl _) _)⟩
  · by_cases h : n = 0
    · subst h
      rw [chkZ_0]
      go_enter Tryz.func24, Tryz.ntmps24
      go_wp2
      go_ret
      exact ⟨rfl, ((Below.refl _ _).alloc (Nat.le_refl _) _)⟩
    · rw [chkZ_t n h]
      have h' : (n != 0) = true := by simpa using h
      clear h
      go_enter Tryz.func24, Tryz.ntmps24
      go_wp2
      go_ret
      exact ⟨rfl, ((Below.refl _ _).alloc (Nat.le_refl _) _)⟩
theorem great_any (a b c : Int) (w : World) : Calls Tryz.prog 40 #[.agg #[.int .i64 a, .int .u64 b, .int .u64 c]] w fun e w' => e = .returned (.agg #[.int .i64 a, .int .u64 b, .int .u64 c]) ∧ Below w.heap.size w w' := by
  go_enter Tryz.func40, Tryz.ntmps40
  go_wp2
  exact bodyPost_ret (v := .agg #[.int .i64 a, .int .u64 b, .int .u64 c]) (by simp [results, Tryz.results40, go_sem]) rfl ⟨rfl, ((Below.refl _ _).alloc (Nat.le_refl _) _).alloc (by simp) _⟩
theorem only_f (n : Int) (w : World) (h1 : -9223372036854775808 ≤ n) (h2 : n ≤ 9223372036854775807) : Calls Tryz.prog 39 #[.agg #[.int .i64 n, .bool false]] w fun e w' => e = .returned (.agg #[.int .i64 (n / 9223372036854775808), .int .u64 (n % 18446744073709551616), .int .u64 0]) ∧ Below w.heap.size w w' := by
  have hw := wrap_u64' n
  go_enter Tryz.func39, Tryz.ntmps39
  go_wp2
  go_region_with (first | (go_at_call 56; refine (signs_any n _ h1 h2).mono ?_; rintro e w' ⟨rfl, rfl⟩))
  all_goals go_wp2
  all_goals exact bodyPost_ret (v := .agg #[.int .i64 (n / 9223372036854775808), .int .u64 (n % 18446744073709551616), .int .u64 0]) (by simp [results, Tryz.results39, go_sem]) rfl ⟨rfl, by repeat (first | exact Below.refl _ _ | refine Below.drew ?_ | refine Below.setCell ?_ (by simp) _ | refine Below.alloc ?_ (by simp) _)⟩
theorem only_t (n : Int) (w : World) : Calls Tryz.prog 39 #[.agg #[.int .i64 n, .bool true]] w fun e w' => e = .returned (.agg #[.int .i64 0, .int .u64 0, .int .u64 1]) ∧ Below w.heap.size w w' := by
  go_enter Tryz.func39, Tryz.ntmps39
  go_wp2
  exact bodyPost_ret (v := .agg #[.int .i64 0, .int .u64 0, .int .u64 1]) (by simp [results, Tryz.results39, go_sem]) rfl ⟨rfl, ((Below.refl _ _).alloc (Nat.le_refl _) _).alloc (by simp) _⟩
theorem size_any (n : Int) (w : World) (h1 : -9223372036854775808 ≤ n) (h2 : n ≤ 9223372036854775807) : Calls Tryz.prog 140 #[.int .i64 n] w fun e w' => e = .returned (.int .u64 (n.natAbs : Nat)) ∧ w = w' := by
  by_cases h : n < 0
  · have e1 : (n.natAbs : Int) = -n := by omega
    rw [e1]
    clear e1
    go_enter Tryz.func140, Tryz.ntmps140
    go_wp2
    go_ret
    exact ⟨ret_int (by simp only [wrap_u64']; omega), rfl⟩
  · have e1 : (n.natAbs : Int) = n := by omega
    rw [e1]
    clear e1
    go_enter Tryz.func140, Tryz.ntmps140
    go_wp2
    go_ret
    exact ⟨ret_int (by omega), rfl⟩
def loP (a b : Int) : Int := (a + b) % 18446744073709551616
def hiP (h1 l1 h2 l2 : Int) : Int := wrap64 (h1 + h2 + (l1 + l2) / 18446744073709551616)
def loM (a b : Int) : Int := (a - b) % 18446744073709551616
def hiM (h1 l1 h2 l2 : Int) : Int := wrap64 (h1 - h2 + (l1 - l2) / 18446744073709551616)
theorem add64 (x y c : Int) (hx : 0 ≤ x) (hy : 0 ≤ y) (hc0 : 0 ≤ c) (hc : c ≤ 1) (w : World) : (callFunc 55 #[.int .u64 x, .int .u64 y, .int .u64 c]).run Tryz.prog w =
    .ok (.value (.tuple #[.int .u64 ((x + y + c) % 18446744073709551616), .int .u64 ((x + y + c) / 18446744073709551616)])) w := by
  obtain ⟨x, rfl⟩ := Int.eq_ofNat_of_zero_le hx
  obtain ⟨y, rfl⟩ := Int.eq_ofNat_of_zero_le hy
  obtain ⟨c, rfl⟩ := Int.eq_ofNat_of_zero_le hc0
  rw [run_callFunc_extern Tryz.func55 (by kernel_rfl) (by kernel_rfl) (by kernel_rfl) (e := add64Entry) (by kernel_rfl), run_add64 x y c (by omega) (by omega) (by omega) (by omega)]
  simp only [Result.andThen]
theorem sub64 (x y b : Int) (hx : 0 ≤ x) (hx' : x < 18446744073709551616) (hy : 0 ≤ y) (hy' : y < 18446744073709551616) (hb0 : 0 ≤ b) (hb : b ≤ 1) (w : World) : (callFunc 59 #[.int .u64 x, .int .u64 y, .int .u64 b]).run Tryz.prog w =
    .ok (.value (.tuple #[.int .u64 ((x - y - b) % 18446744073709551616), .int .u64 (-((x - y - b) / 18446744073709551616))])) w := by
  obtain ⟨x, rfl⟩ := Int.eq_ofNat_of_zero_le hx
  obtain ⟨y, rfl⟩ := Int.eq_ofNat_of_zero_le hy
  obtain ⟨b, rfl⟩ := Int.eq_ofNat_of_zero_le hb0
  have e1 : (((x + 18446744073709551616 - y - b) % 18446744073709551616 : Nat) : Int) = ((x : Int) - y - b) % 18446744073709551616 := by omega
  have e2 : ((if x < y + b then 1 else 0 : Nat) : Int) = -(((x : Int) - y - b) / 18446744073709551616) := by split <;> omega
  rw [← e1, ← e2, run_callFunc_extern Tryz.func59 (by kernel_rfl) (by kernel_rfl) (by kernel_rfl) (e := sub64Entry) (by kernel_rfl), run_sub64 x y b (by omega)]
  simp only [Result.andThen]
theorem add64_0 (x y : Int) (hx : 0 ≤ x) (hy : 0 ≤ y) (w : World) : (callFunc 55 #[.int .u64 x, .int .u64 y, .int .u64 0]).run Tryz.prog w =
    .ok (.value (.tuple #[.int .u64 ((x + y) % 18446744073709551616), .int .u64 ((x + y) / 18446744073709551616)])) w := by
  simpa using add64 x y 0 hx hy (Int.le_refl 0) (by decide) w
theorem sub64_0 (x y : Int) (hx : 0 ≤ x) (hx' : x < 18446744073709551616) (hy : 0 ≤ y) (hy' : y < 18446744073709551616) (w : World) : (callFunc 59 #[.int .u64 x, .int .u64 y, .int .u64 0]).run Tryz.prog w =
    .ok (.value (.tuple #[.int .u64 ((x - y) % 18446744073709551616), .int .u64 (-((x - y) / 18446744073709551616))])) w := by
  simpa using sub64 x y 0 hx hx' hy hy' (Int.le_refl 0) (by decide) w
def SW (x : Int) : Prop := -9223372036854775808 ≤ x ∧ x ≤ 9223372036854775807
def UW (x : Int) : Prop := 0 ≤ x ∧ x < 18446744073709551616
theorem hiP_w (a b a' b' : Int) : hiP a b a' b' = wrap64 ((a % 18446744073709551616 + a' % 18446744073709551616 + (b + b') / 18446744073709551616) % 18446744073709551616) := by unfold hiP wrap64; omega
theorem hiM_w (a b a' b' : Int) : hiM a b a' b' = wrap64 ((a % 18446744073709551616 - a' % 18446744073709551616 - -((b - b') / 18446744073709551616)) % 18446744073709551616) := by unfold hiM wrap64; omega
theorem loP_w (a b : Int) : loP a b = IntKind.u64.wrap (a + b) := by rw [wrap_u64']; rfl
theorem loM_w (a b : Int) : loM a b = IntKind.u64.wrap (a - b) := by rw [wrap_u64']; rfl
theorem plus_any (a b c a' b' c' : Int) (w : World) (ha : SW a) (hb : UW b) (hc : UW c) (ha' : SW a') (hb' : UW b') (hc' : UW c') :
    Calls Tryz.prog 38 #[.agg #[.int .i64 a, .int .u64 b, .int .u64 c], .agg #[.int .i64 a', .int .u64 b', .int .u64 c']] w fun e w' =>
      e = .returned (.agg #[.int .i64 (hiP a b a' b'), .int .u64 (loP b b'), .int .u64 (loP c c')]) ∧ Below w.heap.size w w' := by
  obtain ⟨a1, a2⟩ := ha; obtain ⟨b1, b2⟩ := hb; obtain ⟨c1, c2⟩ := hc
  obtain ⟨a1', a2'⟩ := ha'; obtain ⟨b1', b2'⟩ := hb'; obtain ⟨c1', c2'⟩ := hc'
  have k0 : 0 ≤ (b + b') / 18446744073709551616 := by omega
  have k1 : (b + b') / 18446744073709551616 ≤ 1 := by omega
  rw [hiP_w, loP_w c c', show loP b b' = (b + b') % 18446744073709551616 from rfl]
  go_enter Tryz.func38, Tryz.ntmps38
  go_wp2_with (first | simp only [add64_0 b b' b1 b1'] | (simp only [wrap_u64']; simp only [add64 (a % 18446744073709551616) (a' % 18446744073709551616) _ (by omega) (by omega) k0 k1]))
  exact bodyPost_ret (v := .agg #[.int .i64 (wrap64 ((a % 18446744073709551616 + a' % 18446744073709551616 + (b + b') / 18446744073709551616) % 18446744073709551616)), .int .u64 ((b + b') % 18446744073709551616), .int .u64 (IntKind.u64.wrap (c + c'))]) (by simp [results, Tryz.results38, go_sem]) rfl
    ⟨rfl, ((((Below.refl _ _).alloc (Nat.le_refl _) _).alloc (by simp) _).alloc (by simp; omega) _)⟩
theorem minus_any (a b c a' b' c' : Int) (w : World) (ha : SW a) (hb : UW b) (hc : UW c) (ha' : SW a') (hb' : UW b') (hc' : UW c') :
    Calls Tryz.prog 44 #[.agg #[.int .i64 a, .int .u64 b, .int .u64 c], .agg #[.int .i64 a', .int .u64 b', .int .u64 c']] w fun e w' =>
      e = .returned (.agg #[.int .i64 (hiM a b a' b'), .int .u64 (loM b b'), .int .u64 (loM c c')]) ∧ Below w.heap.size w w' := by
  obtain ⟨a1, a2⟩ := ha; obtain ⟨b1, b2⟩ := hb; obtain ⟨c1, c2⟩ := hc
  obtain ⟨a1', a2'⟩ := ha'; obtain ⟨b1', b2'⟩ := hb'; obtain ⟨c1', c2'⟩ := hc'
  have k0 : 0 ≤ -((b - b') / 18446744073709551616) := by omega
  have k1 : -((b - b') / 18446744073709551616) ≤ 1 := by omega
  rw [hiM_w, loM_w c c', show loM b b' = (b - b') % 18446744073709551616 from rfl]
  go_enter Tryz.func44, Tryz.ntmps44
  go_wp2_with (first | simp only [sub64_0 b b' b1 b2 b1' b2'] | (simp only [wrap_u64']; simp only [sub64 (a % 18446744073709551616) (a' % 18446744073709551616) _ (by omega) (by omega) (by omega) (by omega) k0 k1]))
  exact bodyPost_ret (v := .agg #[.int .i64 (wrap64 ((a % 18446744073709551616 - a' % 18446744073709551616 - -((b - b') / 18446744073709551616)) % 18446744073709551616)), .int .u64 ((b - b') % 18446744073709551616), .int .u64 (IntKind.u64.wrap (c - c'))]) (by simp [results, Tryz.results44, go_sem]) rfl
    ⟨rfl, ((((Below.refl _ _).alloc (Nat.le_refl _) _).alloc (by simp) _).alloc (by simp; omega) _)⟩
end Go.Proofs.YtkgflcpgjdbcdaaGreatDoor
