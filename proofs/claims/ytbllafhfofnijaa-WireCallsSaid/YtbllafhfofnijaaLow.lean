/- wire.lowest: the lowest bytes of a number, in a row of the call's own. -/
import Derived.Test.YtbllafhfofnijaaProg
import Derived.Test.YtbllafhfofnijaaMem
import Derived.KernelRfl
namespace Go.Proofs.Ytbllafhfofnijaa
open Go.RowKit

theorem madeCells_one (z : Value) (hz : z.cells = #[z]) (n : Nat) : (madeCells z.cells (n * 1)).toList = List.replicate n z := by
  rw [hz, Nat.mul_one]
  exact toList_madeCells_one z n

theorem info_u8 : (Try.prog.info? 5).map (fun i => (i.zero, i.size, i.bytes)) = some (some (.int .u8 0), 1, 1) := by kernel_rfl

theorem lowest_any (x n : Nat) (w : World) (hx : x < 18446744073709551616) (hn : n ≤ 100) :
    Calls Try.prog 42 #[.int .u64 (x : Int), .int .i64 (n : Int)] w (Made w n (lowB x n)) := by
  obtain ⟨i0, hi, hz0, hz1, hz2⟩ := info_parts info_u8
  go_enter Try.func42, Try.ntmps42
  go_wp2_with (first | (at_make; refine wpList_make_full _ rfl (.tmp 7) (.tmp 7) 22 rfl w.heap.size 5 i0 (.int .u8 0) 1 Try.underlying22 hi hz0 hz1 .i64 .i64 _ _ n rfl rfl rfl rfl (by rw [hz2]; omega) (by unfold maxLen; omega) (Nat.le_refl _) ?_; intro w1 hown1 hgr1))
  go_loopw [0, 11] (fun X i wr => ∃ k y : Nat, k ≤ n ∧ y < 18446744073709551616 ∧ Hid (y = x / 256 ^ k) ∧ i = .int .i64 k ∧ X = .int .u64 (y : Int) ∧
      wr.ownsRow w.heap.size 5 1 (.slice (some ⟨w.heap.size, 0, none⟩) n n) n (u8s (lowRow x n k)) ∧ Below w.heap.size w wr)
    (fun _ i _ => n - (intOf i).toNat)
  case atStart =>
    refine ⟨0, x, Nat.zero_le _, hx, Lib.hid (by simp), rfl, rfl, ?_, (Below.refl _ _).grown hgr1 (Nat.le_refl _) (by simp)⟩
    rw [lowRow_zero]
    rw [madeCells_one _ rfl] at hown1
    exact hown1
  case round =>
    obtain ⟨k, y, hk, hy, Hy, rfl, rfl, hown, hb⟩ := hrel
    by_cases hlt : k < n
    · have hcell := hown.cellAt k (by omega)
      rw [u8s_get _ k (by rw [lowRow_length]; exact hlt)] at hcell
      have hfr := hown.frozenAt k
      go_wp2
      go_roundw
      case rel =>
        have hst := (hown.stored k (.int .u8 ((y % 256 : Nat) : Int))).1
        rw [Hy.out, lowRow_set x n k hlt, ← Hy.out] at hst
        exact ⟨k + 1, y / 256, by omega, by omega, Lib.hid (by rw [Hy.out, Nat.pow_succ, Nat.div_div_eq_div_mul]), by go_num, by go_num, hst, hb.setCell (Nat.le_refl _) _⟩
      case measure => simp [intOf]; omega
    · have hkn : k = n := by omega
      subst hkn
      go_wp2
      go_ret
      rw [lowRow_full] at hown
      exact Made.mk hown hb
end Go.Proofs.Ytbllafhfofnijaa
