/- math/bits.Len64: how many bits a number has. -/
import Derived.Test.YtbllafhfofnijaaProg
import Derived.Test.YtbllafhfofnijaaMem
import Derived.KernelRfl
import Derived.Lib.BitFns
import Derived.Shelf.Strconv.Itoa0
namespace Go.Proofs.Ytbllafhfofnijaa
open Go.RowKit

/-- How many bits x has. -/
def bl (x : Nat) : Nat := if x = 0 then 0 else x.log2 + 1
theorem bl_lt (x : Nat) : x < 2 ^ bl x := by
  unfold bl
  split
  · subst_vars; decide
  · exact Nat.lt_log2_self
theorem bl_le (x : Nat) (h : 0 < bl x) : 2 ^ (bl x - 1) ≤ x := by
  unfold bl at h ⊢
  split
  · subst_vars; simp at h
  · exact Nat.log2_self_le (by assumption)
theorem bl_unique (x n : Nat) (h1 : x < 2 ^ n) (h2 : 0 < n → 2 ^ (n - 1) ≤ x) : bl x = n := by
  have a := bl_lt x
  have b := bl_le x
  rcases Nat.lt_trichotomy (bl x) n with h | h | h
  · have := h2 (by omega)
    have := Nat.pow_le_pow_right (n := 2) (by omega) (show bl x ≤ n - 1 by omega)
    omega
  · exact h
  · have := b (by omega)
    have := Nat.pow_le_pow_right (n := 2) (by omega) (show n ≤ bl x - 1 by omega)
    omega
theorem bl_div (x k : Nat) (h : 2 ^ k ≤ x) : bl x = bl (x / 2 ^ k) + k := by
  have hk := Nat.two_pow_pos k
  have hpos : 0 < x / 2 ^ k := Nat.div_pos h hk
  have h1 := bl_lt (x / 2 ^ k)
  have hb : 0 < bl (x / 2 ^ k) := by
    rcases Nat.eq_zero_or_pos (bl (x / 2 ^ k)) with e | e
    · rw [e] at h1; omega
    · exact e
  have h2 := bl_le (x / 2 ^ k) hb
  refine bl_unique _ _ ?_ fun _ => ?_
  · rw [Nat.pow_add]
    exact (Nat.div_lt_iff_lt_mul hk).1 h1
  · rw [show bl (x / 2 ^ k) + k - 1 = (bl (x / 2 ^ k) - 1) + k by omega, Nat.pow_add]
    exact (Nat.le_div_iff_mul_le hk).1 h2
theorem bl_small : ∀ y : Fin 256, bl y.val ≤ 8 := by decide +kernel
theorem bl_le_of (x n : Nat) (h : x < 2 ^ n) : bl x ≤ n := by
  rcases Nat.lt_or_ge n (bl x) with hlt | hge
  · have := bl_le x (by omega)
    have := Nat.pow_le_pow_right (n := 2) (by omega) (show n ≤ bl x - 1 by omega)
    omega
  · exact hge

/-- How many bytes x has. -/
def sz (x : Nat) : Nat := (bl x + 7) / 8
theorem sz_zero : sz 0 = 0 := by decide
theorem sz_pos (x : Nat) (h : 0 < x) : sz x = sz (x / 256) + 1 := by
  unfold sz
  by_cases h8 : 256 ≤ x
  · rw [bl_div x 8 h8]
    show (bl (x / 256) + 8 + 7) / 8 = _
    omega
  · have hx : x / 256 = 0 := by omega
    have h0 : bl 0 = 0 := by decide
    rw [hx, h0]
    have h1 := bl_le_of x 8 (by omega)
    have h2 := bl_lt x
    have h3 : 0 < bl x := by
      rcases Nat.eq_zero_or_pos (bl x) with e | e
      · rw [e] at h2; omega
      · exact e
    omega
theorem sz_le (x : Nat) (h : x < 18446744073709551616) : sz x ≤ 8 := by
  have := bl_le_of x 64 (by omega)
  unfold sz
  omega
theorem sz_lt (x : Nat) : x < 256 ^ sz x := by
  have h := bl_lt x
  have h2 : 2 ^ bl x ≤ 2 ^ (8 * sz x) := Nat.pow_le_pow_right (by omega) (by unfold sz; omega)
  rw [Nat.pow_mul] at h2
  exact Nat.lt_of_lt_of_le h h2
theorem sz_ge (x : Nat) (h : 0 < sz x) : 256 ^ (sz x - 1) ≤ x := by
  have hb : 0 < bl x := by unfold sz at h; omega
  have h1 := bl_le x hb
  have h2 : 2 ^ (8 * (sz x - 1)) ≤ 2 ^ (bl x - 1) := Nat.pow_le_pow_right (by omega) (by unfold sz; omega)
  rw [Nat.pow_mul] at h2
  exact Nat.le_trans h2 h1

/-! The library's function by its contract off the shelf: the numbers that it has in this program, and one fact a field. -/
def lenRen : Go.Shelf.Ren := ⟨fun | 129 => 46 | n => n, fun | 53 => 23 | 3 => 3 | 4 => 4 | 46 => 65 | 5 => 5 | 9 => 9 | n => n, fun | n => n⟩
theorem lenLays : Go.Proofs.Lays.n129 Try.prog lenRen := {
  mixed := by kernel_rfl
  f129 := Try.func46.trans (congrArg some (by kernel_rfl))
  t3 := Try.underlying3
  a3 := Try.isAgg3
  z3 := Try.sizeOf3
  v3 := Try.zeroValue3
  t4 := Try.underlying4
  a4 := Try.isAgg4
  z4 := Try.sizeOf4
  v4 := Try.zeroValue4
  t5 := Try.underlying5
  a5 := Try.isAgg5
  z5 := Try.sizeOf5
  v5 := Try.zeroValue5
  t9 := Try.underlying9
  a9 := Try.isAgg9
  z9 := Try.sizeOf9
  v9 := Try.zeroValue9
  t46 := Try.underlying65
  a46 := Try.isAgg65
  z46 := Try.sizeOf65
  v46 := Try.zeroValue65
  t53 := Try.underlying23
  a53 := Try.isAgg23
  z53 := Try.sizeOf23
  v53 := Try.zeroValue23 }

theorem bl_bitLen (x : Nat) (h : x < 2 ^ 64) : Lib.bitLen x = bl x := by
  induction x using Nat.strongRecOn with
  | _ x ih =>
    by_cases h0 : x = 0
    · subst h0
      decide
    · have e : bl x = bl (x / 2) + 1 := by
        by_cases h1 : x = 1
        · subst h1
          decide
        · exact bl_div x 1 (by simp; omega)
      rw [Lib.bitLen_half x h0 h, ih (x / 2) (by omega) (by omega), e]
      omega

theorem len64_any (x : Nat) (w : World) (hx : x < 18446744073709551616) :
    Calls Try.prog 46 #[.int .u64 (x : Int)] w fun e w' => e = .returned (.int .i64 (bl x : Int)) ∧ w = w' := by
  refine (Any.bits_Len64 lenLays (x : Int) w (by omega) (by omega)).mono ?_
  rintro e w' ⟨rfl, rfl⟩
  rw [Int.toNat_natCast, bl_bitLen x hx]
  exact ⟨rfl, rfl⟩
end Go.Proofs.Ytbllafhfofnijaa
