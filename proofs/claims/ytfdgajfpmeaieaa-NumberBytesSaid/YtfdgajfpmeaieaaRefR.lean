/- The document's own reader (waterwheelref01): its state, and its calls: the same as the program's. -/
import Derived.Test.YtfdgajfpmeaieaaNew
import Derived.Test.YtfdgajfpmeaieaaKit
namespace Go.Proofs.Ytfdgajfpmeaieaa
open Go.RowKit

/-- The document's reader at block s: its bytes (a row from block lo on, below s), where it is, the error. -/
def RefR (w : World) (lo s : Nat) (b : List UInt8) (i q : Nat) : Prop :=
  ∃ A n c, n = b.length ∧ i ≤ n ∧ n ≤ 1000000 ∧ (∀ ad : Addr, A = some ad → lo ≤ ad.block) ∧ w.heap[s]? = some (.cells #[.slice A n c, .int .i64 (i : Int), .int .i64 (q : Int)] 76 (0, 0)) ∧ Rd w s (.slice A n c) (u8s b)

/-- The same, by what is left. -/
def RefL (w : World) (lo s : Nat) (l : List UInt8) (q : Nat) : Prop := ∃ b i, l = b.drop i ∧ RefR w lo s b i q

theorem RefR.set {w : World} {lo s i q i' : Nat} {b : List UInt8} (h : RefR w lo s b i q) (hi : i' ≤ b.length) : RefR (w.setCell ⟨s, 1, none⟩ (.int .i64 (i' : Int))) lo s b i' q := by
  obtain ⟨A, n, c, hn, _, hm, hl, h1, hr⟩ := h
  exact ⟨A, n, c, hn, by omega, hm, hl, heap_setCell_same w s 1 _ _ _ h1, hr.setCell (Nat.le_refl _) _⟩
theorem RefR.err {w : World} {lo s i q q' : Nat} {b : List UInt8} (h : RefR w lo s b i q) : RefR (w.setCell ⟨s, 2, none⟩ (.int .i64 (q' : Int))) lo s b i q' := by
  obtain ⟨A, n, c, hn, hi, hm, hl, h1, hr⟩ := h
  exact ⟨A, n, c, hn, hi, hm, hl, heap_setCell_same w s 2 _ _ _ h1, hr.setCell (Nat.le_refl _) _⟩
theorem RefR.draw {w : World} {lo s i q : Nat} {b : List UInt8} (h : RefR w lo s b i q) (k : Nat) : RefR (w.drewN k) lo s b i q := h
theorem grown_set (w : World) (s k : Nat) (v : Value) : w.grownBy (w.setCell ⟨s, k, none⟩ v) (some s) := ⟨rfl, rfl, rfl, by simp, fun i _ hne => Below.heap_setCell _ _ _ _ (fun e => hne (by rw [e]))⟩
theorem grown_setN (w : World) (k' s k : Nat) (v : Value) : w.grownBy ((w.drewN k').setCell ⟨s, k, none⟩ v) (some s) :=
  let h := grown_set (w.drewN k') s k v
  ⟨h.os, h.tape, h.output, h.size, h.block⟩
theorem grown_none (w : World) (k s : Nat) : w.grownBy (w.drewN k) (some s) := ⟨rfl, rfl, rfl, Nat.le_refl _, fun _ _ _ => rfl⟩

/-- What the document's reader finds at a place: a number, where it ends, the error. -/
def nextR (b : List UInt8) (i : Nat) : Nat × Nat × Nat :=
  let r := numR (b.drop i) maxU
  (r.1, if r.2.2 = 0 then i + r.2.1 else 0, r.2.2)

theorem valN_le_maxU (t : List UInt8) (k : Nat) (hk : k ≤ 8) : ¬ maxU < valN (t.take k) := by
  have h := valN_lt (t.take k)
  have h2 : (t.take k).length ≤ 8 := by rw [List.length_take]; omega
  have h3 : 256 ^ (t.take k).length ≤ 256 ^ 8 := Nat.pow_le_pow_right (by omega) h2
  unfold maxU
  omega

def tup3 (r : Nat × Nat × Nat) : Ending := .returned (.tuple #[.int .u64 (r.1 : Int), .int .i64 (r.2.1 : Int), .int .i64 (r.2.2 : Int)])

/-- The loop, and what follows. -/
theorem next_any (lo s i q : Nat) (b : List UInt8) (w : World) (h : RefR w lo s b i q) :
    Calls Try.prog 90 #[.pointer (some ⟨s, 0, none⟩)] w fun e w' => e = tup3 (nextR b i) ∧ ∃ k, w' = w.drewN k := by
  obtain ⟨A, n, c, hn, hi, hm, -, h1, hr⟩ := h
  have c0 : w.cell? ⟨s, 0, none⟩ = some (.slice A n c) := (cell_of_row w s 0 _ _ _ h1).trans rfl
  have c1 : w.cell? ⟨s, 1, none⟩ = some (.int .i64 (i : Int)) := (cell_of_row w s 1 _ _ _ h1).trans rfl
  clear h1
  by_cases hin : i = n
  · have HT : Hid (tup3 (nextR b i) = .returned (.tuple #[.int .u64 0, .int .i64 0, .int .i64 5])) := Lib.hid (by
      unfold nextR
      rw [List.drop_eq_nil_of_le (by omega)]
      rfl)
    clear hn hr
    subst hin
    go_enter Try.func90, Try.ntmps90
    go_wp2_with fail
    go_quiet (fail)
    go_wp2_with fail
    go_ret3
    exact ⟨HT.out.symm, ⟨_, rfl⟩⟩
  have hib : i < b.length := by omega
  have hd : b.drop i = b[i] :: b.drop (i + 1) := List.drop_eq_getElem_cons hib
  have hl1 : (b.drop (i + 1)).length = n - (i + 1) := by rw [List.length_drop, hn]
  have hB : ∀ j (hj : j < b.length), ∃ ad, A = some ad ∧ ad.block < s ∧ w.cell? (ad.add j) = some (.int .u8 (b[j].toNat : Int)) := fun j hj => hr.byte hj
  obtain ⟨ad, rfl, _, hcell⟩ := hB i hib
  have hk256 := b[i].toNat_lt
  obtain ⟨k, hk⟩ : ∃ k, k = b[i].toNat := ⟨_, rfl⟩
  rw [← hk] at hcell hk256
  have hnc : n ≤ c ∧ c ≤ 9223372036854775807 := by
    obtain ⟨A', c', hv, h1, h2⟩ := hr.form
    injection hv with _ _ h3
    unfold maxLen at h2
    omega
  obtain ⟨hnc, hmx⟩ := hnc
  have HR : Hid (numR (b.drop i) maxU = if 8 < k then (0, 0, 4) else if n - (i + 1) < k then (0, 0, 5) else if 0 < k ∧ (b.drop (i + 1))[k - 1]? = some 0 then (0, 0, 4) else if maxU < valN ((b.drop (i + 1)).take k) then (0, 0, 3) else (valN ((b.drop (i + 1)).take k), k + 1, 0)) :=
    Lib.hid (by rw [hd, numR, ← hk, hl1])
  by_cases h8 : 8 < k
  · have HT : Hid (tup3 (nextR b i) = .returned (.tuple #[.int .u64 0, .int .i64 0, .int .i64 4])) := Lib.hid (by unfold nextR; rw [HR.out, if_pos h8]; rfl)
    clear hd hn hr hB hk
    go_enter Try.func90, Try.ntmps90
    go_wp2_with fail
    go_quiet (fail)
    go_wp2_with fail
    go_quiet (fail)
    go_wp2_with fail
    go_ret3
    exact ⟨HT.out.symm, ⟨_, rfl⟩⟩
  by_cases h5 : n - (i + 1) < k
  · have HT : Hid (tup3 (nextR b i) = .returned (.tuple #[.int .u64 0, .int .i64 0, .int .i64 5])) := Lib.hid (by unfold nextR; rw [HR.out, if_neg h8, if_pos h5]; rfl)
    clear hd hn hr hB hk
    go_enter Try.func90, Try.ntmps90
    go_wp2_with fail
    go_quiet (fail)
    go_wp2_with fail
    go_quiet (fail)
    go_wp2_with fail
    go_ret3
    exact ⟨HT.out.symm, ⟨_, rfl⟩⟩
  obtain ⟨T, HTT⟩ : ∃ T, Hid (T = (b.drop (i + 1)).take k) := ⟨_, Lib.hid rfl⟩
  have hTl : T.length = k := by rw [HTT.out, List.length_take, hl1]; omega
  have hTb : ∀ p (hp : p < T.length), ∃ (_ : i + 1 + p < b.length), T[p] = b[i + 1 + p] := fun p hp => ⟨by omega, by simp [HTT.out]⟩
  have hnv := valN_le_maxU (b.drop (i + 1)) k (by omega)
  rw [← HTT.out] at hnv
  by_cases hz : 0 < k ∧ (b.drop (i + 1))[k - 1]? = some 0
  · have HT : Hid (tup3 (nextR b i) = .returned (.tuple #[.int .u64 0, .int .i64 0, .int .i64 4])) := Lib.hid (by unfold nextR; rw [HR.out, if_neg h8, if_neg h5, if_pos hz]; rfl)
    obtain ⟨hk0, hz⟩ := hz
    obtain ⟨_, e1, _, hlast⟩ := hB (i + k) (by omega)
    injection e1 with e1
    subst e1
    have hz2 : b[i + k]'(by omega) = 0 := by
      rw [List.getElem?_drop, show i + 1 + (k - 1) = i + k by omega, List.getElem?_eq_getElem (by omega)] at hz
      exact Option.some.inj hz
    rw [hz2] at hlast
    clear hd hn hr hB hk HR hTb hz hz2
    go_enter Try.func90, Try.ntmps90
    go_wp2_with fail
    go_quiet (fail)
    go_wp2_with fail
    go_quiet (fail)
    go_wp2_with fail
    go_ret3
    exact ⟨HT.out.symm, ⟨_, rfl⟩⟩
  have HT : Hid (tup3 (nextR b i) = .returned (.tuple #[.int .u64 (valN T : Nat), .int .i64 ((i + (k + 1) : Nat) : Int), .int .i64 0])) := Lib.hid (by
    unfold nextR
    rw [HR.out, if_neg h8, if_neg h5, if_neg hz, ← HTT.out, if_neg hnv]
    rfl)
  have hcells : ∀ p, p < k → ∃ t : UInt8, w.cell? (ad.add (i + (p + 1))) = some (.int .u8 (t.toNat : Int)) ∧ T.drop p = t :: T.drop (p + 1) := fun p hp => by
    obtain ⟨hlt, he⟩ := hTb p (by omega)
    obtain ⟨_, e1, _, hc⟩ := hB (i + 1 + p) hlt
    injection e1 with e1
    subst e1
    exact ⟨T[p]'(by omega), by rw [he, show i + (p + 1) = i + 1 + p by omega]; exact hc, List.drop_eq_getElem_cons (by omega)⟩
  have HC := Lib.hid hcells
  have hvl : ∀ p, p ≤ k → valN (T.drop p) < 256 ^ (k - p) := fun p hp => by
    have := valN_lt (T.drop p)
    rwa [List.length_drop, hTl] at this
  have HVL := Lib.hid hvl
  have htail : T.drop k = [] := List.drop_eq_nil_of_le (by omega)
  by_cases hk0 : k = 0
  · have hcell0 : w.cell? (ad.add i) = some (.int .u8 0) := by rw [hcell, hk0]; rfl
    have HT0 : Hid (tup3 (nextR b i) = .returned (.tuple #[.int .u64 0, .int .i64 ((i : Int) + 1), .int .i64 0])) := Lib.hid (by
      rw [HT.out]
      have : T = [] := List.eq_nil_of_length_eq_zero (by omega)
      rw [this, hk0]
      rfl)
    clear hd hn hr hB hk HR hTb hz hcells hvl HC HVL htail hcell HT hnv hTl
    go_enter Try.func90, Try.ntmps90
    go_wp2_with fail
    go_quiet (fail)
    go_wp2_with fail
    go_quiet (fail)
    go_wp2_with fail
    go_loop [7, 8] (fun x j => x = .int .u64 0 ∧ j = .int .i64 (i : Int)) (fun _ _ => 0)
    case atStart => exact ⟨rfl, by go_num⟩
    case round =>
      obtain ⟨rfl, rfl⟩ := hrel
      go_wp2_with fail
      go_ret3
      exact ⟨HT0.out.symm, ⟨_, rfl⟩⟩
  obtain ⟨t, hlast, _⟩ := hcells (k - 1) (by omega)
  rw [show i + (k - 1 + 1) = i + k by omega] at hlast
  have ht0 : 0 < t.toNat ∧ t.toNat < 256 := by
    refine ⟨?_, t.toNat_lt⟩
    rcases Nat.eq_zero_or_pos t.toNat with h | h
    · exfalso
      refine hz ⟨by omega, ?_⟩
      obtain ⟨_, e1, _, hc⟩ := hB (i + k) (by omega)
      injection e1 with e1
      subst e1
      rw [hlast] at hc
      injection hc with hc
      injection hc with _ hc
      rw [List.getElem?_drop, show i + 1 + (k - 1) = i + k by omega, List.getElem?_eq_getElem (by omega)]
      exact congrArg some (UInt8.toNat_inj.1 (by have e0 : (0 : UInt8).toNat = 0 := rfl; omega))
    · exact h
  obtain ⟨ht0, ht1⟩ := ht0
  generalize t.toNat = tb at hlast ht0 ht1
  clear hd hn hr hB hk HR hTb hz hcells hvl hnv hTl
  go_enter Try.func90, Try.ntmps90
  go_wp2_with fail
  go_quiet (fail)
  go_wp2_with fail
  go_quiet (fail)
  go_wp2_with fail
  go_loop [7, 8] (fun x j => ∃ p : Nat, p ≤ k ∧ x = .int .u64 (valN (T.drop p) : Nat) ∧ j = .int .i64 ((i : Int) + p)) (fun _ j => (intOf j).toNat)
  case atStart => exact ⟨k, Nat.le_refl _, by rw [htail]; rfl, by go_num⟩
  case round =>
    obtain ⟨p, hp, rfl, rfl⟩ := hrel
    by_cases hp0 : 0 < p
    · obtain ⟨p, rfl⟩ : ∃ p', p = p' + 1 := ⟨p - 1, by omega⟩
      obtain ⟨u, hc, he⟩ := HC.out p (by omega)
      have hv := HVL.out (p + 1) hp
      have h7 : 256 ^ (k - (p + 1)) ≤ 256 ^ 7 := Nat.pow_le_pow_right (by omega) (by omega)
      have hv7 : valN (T.drop (p + 1)) < 72057594037927936 := by omega
      have hx : valN (T.drop p) = u.toNat + 256 * valN (T.drop (p + 1)) := by rw [he]; rfl
      have hu := u.toNat_lt
      generalize valN (T.drop (p + 1)) = X at hv7 hx ⊢
      generalize u.toNat = ub at hc hx hu
      have HX := Lib.hid hx
      clear hx he h7 hv htail
      go_wp2_with fail
      go_round
      case rel => exact ⟨p, by omega, by rw [HX.out]; go_num, by go_num⟩
      case measure => simp [intOf]; omega
    · obtain rfl : p = 0 := by omega
      rw [List.drop_zero]
      go_wp2_with fail
      go_ret3
      exact ⟨by rw [HT.out]; go_num, ⟨_, rfl⟩⟩
end Go.Proofs.Ytfdgajfpmeaieaa
