/- What is written is read again, and no other bytes tell it. Plain mathematics. -/
import Derived.Test.YtfdgajfpmeaieaaRead
namespace Go.Proofs.Ytfdgajfpmeaieaa
open Go.RowKit

theorem lowB_succ (x n : Nat) : lowB x (n + 1) = UInt8.ofNat x :: lowB (x / 256) n := by
  unfold lowB
  rw [List.range_succ_eq_map, List.map_cons, List.map_map]
  congr 1
  · simp
  · apply List.map_congr_left
    intro i _
    simp only [Function.comp, Nat.pow_succ]
    rw [Nat.mul_comm (256 ^ i) 256, Nat.div_div_eq_div_mul]
theorem valN_lowB (n x : Nat) : valN (lowB x n) = x % 256 ^ n := by
  induction n generalizing x with
  | zero => simp [lowB, valN, Nat.mod_one]
  | succ n ih =>
    rw [lowB_succ, valN, ih, UInt8.toNat_ofNat']
    show x % 256 + 256 * (x / 256 % 256 ^ n) = _
    rw [Nat.pow_succ, Nat.mul_comm (256 ^ n) 256, Nat.mod_mul]
theorem lowB_valN (l : List UInt8) : lowB (valN l) l.length = l := by
  induction l with
  | nil => rfl
  | cons c l ih =>
    have hc := c.toNat_lt
    rw [List.length_cons, lowB_succ, valN]
    have h1 : (c.toNat + 256 * valN l) / 256 = valN l := by omega
    have h2 : UInt8.ofNat (c.toNat + 256 * valN l) = c := by
      apply UInt8.toNat_inj.1
      rw [UInt8.toNat_ofNat']
      omega
    rw [h1, h2, ih]
/-- The last byte that is told of a number isn't nought. -/
theorem lowB_last (x n : Nat) (h1 : 256 ^ n ≤ x) (h2 : x < 256 ^ (n + 1)) : (lowB x (n + 1))[n]? ≠ some 0 := by
  have hp : 0 < 256 ^ n := Nat.pow_pos (by omega)
  have hd : x / 256 ^ n < 256 := by rw [Nat.div_lt_iff_lt_mul hp, Nat.mul_comm, ← Nat.pow_succ]; exact h2
  have h0 : 0 < x / 256 ^ n := Nat.div_pos h1 hp
  intro h
  simp only [lowB, List.getElem?_map, List.getElem?_range (show n < n + 1 by omega), Option.map_some, Option.some.injEq] at h
  have := congrArg UInt8.toNat h
  rw [UInt8.toNat_ofNat', Nat.mod_eq_of_lt hd] at this
  simp at this
  omega

/-- What is written is read again. -/
theorem numR_back (x : Nat) (rest : List UInt8) (m : Nat) (hx : x < 18446744073709551616) (hm : x ≤ m) : numR (numB x ++ rest) m = (x, (numB x).length, 0) := by
  have h8 := sz_le x hx
  have hlt := sz_lt x
  have hge := sz_ge x
  have hc : (UInt8.ofNat (sz x)).toNat = sz x := by rw [UInt8.toNat_ofNat', Nat.mod_eq_of_lt (by omega)]
  have hl := lowB_length x (sz x)
  have ht : (lowB x (sz x) ++ rest).take (sz x) = lowB x (sz x) := by
    rw [List.take_append_of_le_length (by omega), List.take_of_length_le (by omega)]
  have hv : valN (lowB x (sz x)) = x := by rw [valN_lowB, Nat.mod_eq_of_lt hlt]
  have hz : ¬ (0 < sz x ∧ (lowB x (sz x) ++ rest)[sz x - 1]? = some 0) := by
    rintro ⟨hp, h⟩
    obtain ⟨k, hk⟩ : ∃ k, sz x = k + 1 := ⟨sz x - 1, by omega⟩
    rw [hk] at h hlt hl
    rw [hk, Nat.add_sub_cancel] at hge
    rw [Nat.add_sub_cancel, List.getElem?_append_left (by omega)] at h
    exact lowB_last x k (hge (by omega)) hlt h
  have e : numB x ++ rest = UInt8.ofNat (sz x) :: (lowB x (sz x) ++ rest) := rfl
  rw [e, numB_length]
  simp only [numR, hc, ht, hv]
  rw [if_neg (by omega), if_neg (by rw [List.length_append]; omega), if_neg hz, if_neg (by omega)]

theorem att_back (x : Nat) (rest : List UInt8) (m : Nat) (hx : x < 18446744073709551616) (hm : x ≤ m) : att numR m (numB x ++ rest) 0 = ((x, numB x), (rest, 0)) := by
  rw [att, if_neg (by simp), numR_back x rest m hx hm]
  simp

theorem unfold_fold (x : Int) (h1 : -9223372036854775808 ≤ x) (h2 : x ≤ 9223372036854775807) : unfoldN (foldN x) = x := by
  unfold foldN unfoldN
  split <;> split <;> omega
theorem fold_unfold (x : Nat) : foldN (unfoldN x) = x := by
  unfold foldN unfoldN
  split <;> split <;> omega

theorem sz_unique (y k : Nat) (h1 : y < 256 ^ k) (h2 : 0 < k → 256 ^ (k - 1) ≤ y) : sz y = k := by
  have a := sz_lt y
  have b := sz_ge y
  rcases Nat.lt_trichotomy (sz y) k with h | h | h
  · have := h2 (by omega)
    have := Nat.pow_le_pow_right (n := 256) (by omega) (show sz y ≤ k - 1 by omega)
    omega
  · exact h
  · have := b (by omega)
    have := Nat.pow_le_pow_right (n := 256) (by omega) (show k ≤ sz y - 1 by omega)
    omega
theorem valN_ge (l : List UInt8) (k : Nat) (hl : l.length = k + 1) (h : l[k]? ≠ some 0) : 256 ^ k ≤ valN l := by
  have hk : k < l.length := by omega
  have e : l = l.take k ++ [l[k]] := by
    rw [← List.take_succ_eq_append_getElem hk, List.take_of_length_le (by omega)]
  have h0 : 0 < l[k].toNat := by
    rcases Nat.eq_zero_or_pos l[k].toNat with h' | h'
    · exfalso
      apply h
      rw [List.getElem?_eq_getElem hk]
      exact congrArg some (UInt8.toNat_inj.1 h')
    · exact h'
  rw [e, valN_append, List.length_take, Nat.min_eq_left (by omega)]
  simp only [valN]
  have := Nat.mul_le_mul_left (256 ^ k) (show 1 ≤ l[k].toNat + 256 * 0 by omega)
  omega

/-- No other bytes tell a number. -/
theorem numR_only (l : List UInt8) (m : Nat) (h : (numR l m).2.2 = 0) : l.take (numR l m).2.1 = numB (numR l m).1 := by
  cases l with
  | nil => simp [numR] at h
  | cons c t =>
    unfold numR at h ⊢
    simp only at h ⊢
    by_cases h8 : 8 < c.toNat
    · rw [if_pos h8] at h; simp at h
    rw [if_neg h8] at h ⊢
    by_cases h5 : t.length < c.toNat
    · rw [if_pos h5] at h; simp at h
    rw [if_neg h5] at h ⊢
    by_cases hz : 0 < c.toNat ∧ t[c.toNat - 1]? = some 0
    · rw [if_pos hz] at h; simp at h
    rw [if_neg hz] at h ⊢
    by_cases hm : m < valN (t.take c.toNat)
    · rw [if_pos hm] at h; simp at h
    rw [if_neg hm]
    simp only [List.take_succ_cons]
    have hl : (t.take c.toNat).length = c.toNat := by rw [List.length_take]; omega
    have hs : sz (valN (t.take c.toNat)) = c.toNat := by
      refine sz_unique _ _ (by have := valN_lt (t.take c.toNat); rwa [hl] at this) fun hp => ?_
      refine valN_ge _ _ (by rw [hl]; omega) fun h' => hz ⟨hp, ?_⟩
      rw [List.getElem?_take, if_pos (by omega)] at h'
      exact h'
    rw [numB, hs]
    congr 1
    · exact (UInt8.toNat_inj.1 (by rw [UInt8.toNat_ofNat', Nat.mod_eq_of_lt (by have := c.toNat_lt; omega)])).symm
    · have := lowB_valN (t.take c.toNat)
      rw [hl] at this
      exact this.symm
end Go.Proofs.Ytfdgajfpmeaieaa
