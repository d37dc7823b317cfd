/- A frame whose bits are turned behind its length is damaged: one to three of them. Plain mathematics. -/
import Derived.Test.YtbllafhfofnijaaTurn
import Derived.Test.YtbllafhfofnijaaFrame
import Derived.Test.YtbllafhfofnijaaBack
namespace Go.Proofs.Ytbllafhfofnijaa
open Go.RowKit

theorem crcStep_xor (a b : Nat) (c : UInt8) : crcStep (a ^^^ b) c = crcStep a c ^^^ halfs 8 b := by
  unfold crcStep
  rw [← halfs_xor, Nat.xor_assoc, Nat.xor_comm b, ← Nat.xor_assoc]
theorem foldl_xor (l : List UInt8) (a b : Nat) : l.foldl crcStep (a ^^^ b) = l.foldl crcStep a ^^^ halfs (8 * l.length) b := by
  induction l generalizing a b with
  | nil => rfl
  | cons c l ih =>
    rw [List.foldl_cons, List.foldl_cons, crcStep_xor, ih, halfs_halfs, List.length_cons]
    rfl
/-- A byte with one bit turned. -/
def turnB (c : UInt8) (j : Nat) : UInt8 := UInt8.ofNat (c.toNat ^^^ 2 ^ j)
theorem turnB_toNat (c : UInt8) (j : Nat) (h : j < 8) : (turnB c j).toNat = c.toNat ^^^ 2 ^ j := by
  unfold turnB
  have hc := c.toNat_lt
  have hp : 2 ^ j < 2 ^ 8 := Nat.pow_lt_pow_right (by omega) h
  rw [UInt8.toNat_ofNat', Nat.mod_eq_of_lt (Nat.xor_lt_two_pow hc hp)]
theorem crc_turn (l : List UInt8) (s p j : Nat) (hj : j < 8) (hp : p < l.length) : (l.set p (turnB l[p] j)).foldl crcStep s = l.foldl crcStep s ^^^ halfs (8 * (l.length - p)) (2 ^ j) := by
  induction l generalizing s p with
  | nil => simp at hp
  | cons c l ih =>
    cases p with
    | zero =>
      rw [List.set_cons_zero, List.foldl_cons, List.foldl_cons, List.getElem_cons_zero]
      have e : crcStep s (turnB c j) = crcStep s c ^^^ halfs 8 (2 ^ j) := by
        unfold crcStep
        rw [turnB_toNat c j hj, ← halfs_xor, Nat.xor_assoc]
      rw [e, foldl_xor, halfs_halfs, List.length_cons]
      rfl
    | succ p =>
      rw [List.set_cons_succ, List.foldl_cons, List.foldl_cons]
      have := ih (crcStep s c) p (by simpa using hp)
      simp only [List.getElem_cons_succ, List.length_cons]
      rw [this, Nat.add_sub_add_right]
theorem pow_T : ∀ j : Fin 32, T (31 - j.val) = 2 ^ j.val := by decide +kernel
theorem halfs_pow_T (n j : Nat) (h : j < 32) : halfs n (2 ^ j) = T (n + (31 - j)) := by
  rw [← pow_T ⟨j, h⟩, halfs_T]

theorem add_xor (c v : Nat) (h : c < 256) : c + 256 * v = c ^^^ (256 * v) := by
  have e := split_byte (c + 256 * v)
  rw [show (c + 256 * v) % 256 = c by omega, show (c + 256 * v) / 256 = v by omega] at e
  rw [e, Nat.mul_comm]
theorem mul_xor (a b : Nat) : 256 * (a ^^^ b) = 256 * a ^^^ 256 * b := by
  have h : ∀ x : Nat, 256 * x = x <<< 8 := fun x => by rw [Nat.shiftLeft_eq, Nat.mul_comm]
  rw [h, h, h, Nat.shiftLeft_xor_distrib]
theorem valN_turn (l : List UInt8) (p j : Nat) (hj : j < 8) (hp : p < l.length) : valN (l.set p (turnB l[p] j)) = valN l ^^^ 2 ^ (8 * p + j) := by
  induction l generalizing p with
  | nil => simp at hp
  | cons c l ih =>
    have hc := c.toNat_lt
    cases p with
    | zero =>
      have hb := (turnB c j).toNat_lt
      rw [List.set_cons_zero, List.getElem_cons_zero]
      simp only [valN]
      rw [add_xor _ _ hb, add_xor _ _ hc, turnB_toNat c j hj, Nat.mul_zero, Nat.zero_add, Nat.xor_assoc, Nat.xor_assoc, Nat.xor_comm (2 ^ j)]
    | succ p =>
      rw [List.set_cons_succ]
      simp only [valN, List.getElem_cons_succ]
      rw [ih p (by simpa using hp), add_xor _ _ hc, mul_xor, add_xor _ _ hc, ← Nat.xor_assoc]
      congr 1
      rw [show 8 * (p + 1) + j = 8 + (8 * p + j) by omega, Nat.pow_add 2 8 (8 * p + j)]

/-- What stands between a frame and a damaged one: nought where all is well. -/
def syn (f : List UInt8) : Nat := sumN (f.take 4 ++ f.drop 8) ^^^ valN ((f.take 8).drop 4)
/-- The bit i behind the length, turned. -/
def flip (f : List UInt8) (i : Nat) : List UInt8 := f.set (4 + i / 8) (turnB (f.getD (4 + i / 8) 0) (i % 8))
def idx (n i : Nat) : Nat := if i < 32 then 31 - i else 8 * (n - (4 + i / 8)) + (31 - i % 8)
theorem flip_length (f : List UInt8) (i : Nat) : (flip f i).length = f.length := by simp [flip]
theorem flip_take (f : List UInt8) (i : Nat) : (flip f i).take 4 = f.take 4 := by
  unfold flip
  rw [List.take_set_of_le (by omega)]
theorem flip_syn (f : List UInt8) (i : Nat) (h : i < 8 * (f.length - 4)) : syn (flip f i) = syn f ^^^ T (idx f.length i) := by
  have hp : 4 + i / 8 < f.length := by omega
  have hg : f.getD (4 + i / 8) 0 = f[4 + i / 8] := by simp [List.getD, List.getElem?_eq_getElem hp]
  unfold syn
  rw [flip_take]
  unfold flip idx
  rw [hg]
  by_cases h32 : i < 32
  · rw [if_pos h32]
    have hd : (f.set (4 + i / 8) (turnB f[4 + i / 8] (i % 8))).drop 8 = f.drop 8 := List.drop_set_of_lt (by omega)
    have ht : ((f.set (4 + i / 8) (turnB f[4 + i / 8] (i % 8))).take 8).drop 4 = ((f.take 8).drop 4).set (i / 8) (turnB f[4 + i / 8] (i % 8)) := by
      rw [List.take_set, List.drop_set, if_neg (by omega), show 4 + i / 8 - 4 = i / 8 by omega]
    have hl : i / 8 < ((f.take 8).drop 4).length := by rw [List.length_drop, List.length_take]; omega
    have he : f[4 + i / 8] = ((f.take 8).drop 4)[i / 8] := by simp
    rw [hd, ht, he, valN_turn _ _ _ (by omega) hl, ← Nat.xor_assoc, ← pow_T ⟨8 * (i / 8) + i % 8, by omega⟩]
    congr 2
    simp only
    omega
  · rw [if_neg h32]
    have ht : (f.set (4 + i / 8) (turnB f[4 + i / 8] (i % 8))).take 8 = f.take 8 := List.take_set_of_le (by omega)
    have hd : (f.set (4 + i / 8) (turnB f[4 + i / 8] (i % 8))).drop 8 = (f.drop 8).set (i / 8 - 4) (turnB f[4 + i / 8] (i % 8)) := by
      rw [List.drop_set, if_neg (by omega), show 4 + i / 8 - 8 = i / 8 - 4 by omega]
    have hl : i / 8 - 4 < (f.drop 8).length := by rw [List.length_drop]; omega
    have he : f[4 + i / 8] = (f.drop 8)[i / 8 - 4] := by simp; congr 1; omega
    have hs : ∀ l : List UInt8, sumN (f.take 4 ++ l) = l.foldl crcStep ((f.take 4).foldl crcStep 4294967295) ^^^ 4294967295 := fun l => by rw [sumN, crc, List.foldl_append]
    rw [ht, hd, he, hs, hs, crc_turn _ _ _ _ (by omega) hl, halfs_pow_T _ _ (by omega), List.length_drop]
    rw [show f.length - 8 - (i / 8 - 4) = f.length - (4 + i / 8) by omega]
    simp only [Nat.xor_assoc]
    congr 1
    rw [← Nat.xor_assoc, Nat.xor_comm (T _), Nat.xor_assoc, Nat.xor_comm (T _), ← Nat.xor_assoc]

theorem unR_turned (f : List UInt8) (h : f.length = 8 + valN (f.take 4)) (hs : valN (f.take 4) ≤ 4194304) (hne : syn f ≠ 0) : unR f = ([], 0, 4) := by
  unfold unR
  rw [if_neg (by omega), if_neg (by omega), if_neg (by omega), if_pos]
  intro e
  apply hne
  unfold syn
  have ht : f.take (8 + valN (f.take 4)) = f := List.take_of_length_le (by omega)
  rw [ht] at e
  rw [e, Nat.xor_self]

/-- A frame is read again, with what stands behind it. -/
theorem frame_back (b rest : List UInt8) (h : b.length ≤ 4194304) : unR (frameB b ++ rest) = (b, 8 + b.length, 0) := by
  have hl4 : (lowB b.length 4).length = 4 := lowB_length _ _
  have hs4 : (lowB (sumN (lowB b.length 4 ++ b)) 4).length = 4 := lowB_length _ _
  have e : frameB b ++ rest = lowB b.length 4 ++ (lowB (sumN (lowB b.length 4 ++ b)) 4 ++ (b ++ rest)) := by simp [frameB]
  have t4 : (frameB b ++ rest).take 4 = lowB b.length 4 := by rw [e, List.take_append_of_le_length (by omega), List.take_of_length_le (by omega)]
  have v4 : valN (lowB b.length 4) = b.length := by rw [valN_lowB, Nat.mod_eq_of_lt (by omega)]
  have vs : valN (lowB (sumN (lowB b.length 4 ++ b)) 4) = sumN (lowB b.length 4 ++ b) := by rw [valN_lowB, Nat.mod_eq_of_lt (by have := sumN_lt (lowB b.length 4 ++ b); omega)]
  have t8 : ((frameB b ++ rest).take 8).drop 4 = lowB (sumN (lowB b.length 4 ++ b)) 4 := by
    rw [e, List.take_append, hl4, List.drop_append, List.take_of_length_le (by omega), List.drop_of_length_le (by omega), List.nil_append, hl4]
    rw [show 4 - 4 = 0 from rfl, List.drop_zero, show 8 - 4 = 4 from rfl, List.take_append_of_le_length (by omega), List.take_of_length_le (by omega)]
  have tn : ((frameB b ++ rest).take (8 + b.length)).drop 8 = b := by
    rw [← List.append_assoc] at e
    have h8 : (lowB b.length 4 ++ lowB (sumN (lowB b.length 4 ++ b)) 4).length = 8 := by rw [List.length_append, hl4, hs4]
    have e2 : frameB b ++ rest = (lowB b.length 4 ++ lowB (sumN (lowB b.length 4 ++ b)) 4) ++ (b ++ rest) := by rw [e]
    rw [e2, List.take_append, h8, List.drop_append, List.take_of_length_le (by omega), List.drop_of_length_le (by omega), List.nil_append, h8]
    rw [show 8 - 8 = 0 from rfl, List.drop_zero, show 8 + b.length - 8 = b.length by omega, List.take_append_of_le_length (by omega), List.take_of_length_le (by omega)]
  have hlen : 8 + b.length ≤ (frameB b ++ rest).length := by rw [List.length_append, frameB_length]; omega
  unfold unR
  rw [t4, v4, t8, vs, tn, if_neg (by omega), if_neg (by omega), if_neg (by omega), if_neg (by simp)]

theorem syn_frame (b : List UInt8) (h : b.length ≤ 4194304) : syn (frameB b) = 0 ∧ valN ((frameB b).take 4) = b.length := by
  have hl4 : (lowB b.length 4).length = 4 := lowB_length _ _
  have hs4 : (lowB (sumN (lowB b.length 4 ++ b)) 4).length = 4 := lowB_length _ _
  have e : frameB b = lowB b.length 4 ++ (lowB (sumN (lowB b.length 4 ++ b)) 4 ++ b) := rfl
  have t4 : (frameB b).take 4 = lowB b.length 4 := by rw [e, List.take_append_of_le_length (by omega), List.take_of_length_le (by omega)]
  have v4 : valN (lowB b.length 4) = b.length := by rw [valN_lowB, Nat.mod_eq_of_lt (by omega)]
  have vs : valN (lowB (sumN (lowB b.length 4 ++ b)) 4) = sumN (lowB b.length 4 ++ b) := by rw [valN_lowB, Nat.mod_eq_of_lt (by have := sumN_lt (lowB b.length 4 ++ b); omega)]
  have t8 : ((frameB b).take 8).drop 4 = lowB (sumN (lowB b.length 4 ++ b)) 4 := by
    rw [e, List.take_append, hl4, List.drop_append, List.take_of_length_le (by omega), List.drop_of_length_le (by omega), List.nil_append, hl4]
    rw [show 4 - 4 = 0 from rfl, List.drop_zero, show 8 - 4 = 4 from rfl, List.take_append_of_le_length (by omega), List.take_of_length_le (by omega)]
  have d8 : (frameB b).drop 8 = b := by
    rw [e, ← List.append_assoc, List.drop_append, List.drop_of_length_le (by rw [List.length_append]; omega), List.nil_append, List.length_append, hl4, hs4]
    rfl
  refine ⟨?_, by rw [t4, v4]⟩
  unfold syn
  rw [t4, d8, t8, vs, Nat.xor_self]

theorem idx_inj (n i k : Nat) (hi : i < 8 * (n - 4)) (hk : k < 8 * (n - 4)) (h : idx n i = idx n k) : i = k := by
  unfold idx at h
  split at h <;> split at h <;> omega
theorem idx_le (n i : Nat) (hn : n ≤ 5008) : idx n i ≤ 40040 := by
  unfold idx
  split <;> omega

/-- Up to three bits of a frame that are turned behind its length spoil it. -/
theorem turned_bad (b : List UInt8) (i k h : Nat) (hb : b.length ≤ 5000) (hi : i < 8 * ((frameB b).length - 4)) (hk : k < 8 * ((frameB b).length - 4)) (hh : h < 8 * ((frameB b).length - 4)) :
    let f1 := flip (frameB b) i
    let f2 := if k ≠ i then flip f1 k else f1
    let f3 := if h ≠ i ∧ h ≠ k then flip f2 h else f2
    unR f3 = ([], 0, 4) := by
  intro f1 f2 f3
  obtain ⟨s0, hv⟩ := syn_frame b (by omega)
  have hfl := frameB_length b
  have hn : (frameB b).length ≤ 5008 := by omega
  have a1 := idx_le _ i hn
  have a2 := idx_le _ k hn
  have a3 := idx_le _ h hn
  have l1 : f1.length = (frameB b).length := flip_length _ _
  have t1 : f1.take 4 = (frameB b).take 4 := flip_take _ _
  have s1 : syn f1 = T (idx (frameB b).length i) := by rw [flip_syn _ _ hi, s0, Nat.zero_xor]
  have p2 : f2.length = (frameB b).length ∧ f2.take 4 = (frameB b).take 4 ∧ (k ≠ i → syn f2 = T (idx (frameB b).length i) ^^^ T (idx (frameB b).length k)) ∧ (k = i → syn f2 = T (idx (frameB b).length i)) := by
    by_cases hki : k = i
    · have e : f2 = f1 := if_neg (by simpa using hki)
      rw [e]
      exact ⟨l1, t1, fun h => absurd hki h, fun _ => s1⟩
    · have e : f2 = flip f1 k := if_pos hki
      rw [e, flip_length, flip_take]
      exact ⟨l1, t1, fun _ => by rw [flip_syn _ _ (by rw [l1]; exact hk), s1, l1], fun h => absurd h hki⟩
  obtain ⟨l2, t2, s2, s2'⟩ := p2
  have key : ∀ g : List UInt8, g.length = (frameB b).length → g.take 4 = (frameB b).take 4 → syn g ≠ 0 → unR g = ([], 0, 4) := fun g hg ht hs =>
    unR_turned g (by rw [ht, hv, hg, hfl]) (by rw [ht, hv]; omega) hs
  by_cases h3 : h ≠ i ∧ h ≠ k
  · have e : f3 = flip f2 h := if_pos h3
    rw [e]
    refine key _ (by rw [flip_length, l2]) (by rw [flip_take, t2]) ?_
    rw [flip_syn _ _ (by rw [l2]; exact hh), l2]
    by_cases hki : k = i
    · rw [s2' hki]
      exact T_two _ _ a1 a3 fun e => h3.1 (idx_inj _ _ _ hi hh e).symm
    · rw [s2 hki, Nat.xor_assoc]
      exact T_three _ _ _
  · have e : f3 = f2 := if_neg h3
    rw [e]
    refine key _ l2 t2 ?_
    by_cases hki : k = i
    · rw [s2' hki]
      exact T_ne_zero _
    · rw [s2 hki]
      exact T_two _ _ a1 a2 fun e => hki (idx_inj _ _ _ hi hk e).symm
end Go.Proofs.Ytbllafhfofnijaa
