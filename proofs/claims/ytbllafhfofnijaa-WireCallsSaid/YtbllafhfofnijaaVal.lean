/- wire.value, and the rules of a reader: number, text, truth. -/
import Derived.Test.YtbllafhfofnijaaNum
import Derived.Laws.BitsAllLaws
namespace Go.Proofs.Ytbllafhfofnijaa
open Go.RowKit
set_option linter.unusedVariables false

/-- What bytes tell, the lowest first. -/
def valN : List UInt8 → Nat
  | [] => 0
  | c :: l => c.toNat + 256 * valN l
theorem valN_append (l m : List UInt8) : valN (l ++ m) = valN l + 256 ^ l.length * valN m := by
  induction l with
  | nil => simp [valN]
  | cons c l ih =>
    simp only [List.cons_append, valN, ih, List.length_cons, Nat.pow_succ, Nat.mul_add]
    rw [Nat.mul_comm (256 ^ l.length) 256, Nat.mul_assoc]
    omega
theorem valN_lt (l : List UInt8) : valN l < 256 ^ l.length := by
  induction l with
  | nil => simp [valN]
  | cons c l ih =>
    have := c.toNat_lt
    simp only [valN, List.length_cons, Nat.pow_succ]
    omega
theorem valN_snoc (l : List UInt8) (k : Nat) (h : k < l.length) : valN (l.take (k + 1)) = valN (l.take k) + 2 ^ (8 * k) * l[k].toNat := by
  rw [List.take_succ_eq_append_getElem h, valN_append, List.length_take, Nat.min_eq_left (by omega), Nat.pow_mul]
  simp [valN]
theorem valN_take_lt (l : List UInt8) (k : Nat) (h : k ≤ l.length) : valN (l.take k) < 2 ^ (8 * k) := by
  have := valN_lt (l.take k)
  rw [List.length_take, Nat.min_eq_left h] at this
  rw [Nat.pow_mul]
  exact this

theorem or_byte (v c k : Nat) (hv : v < 2 ^ (8 * k)) (hc : c < 256) (hk : k < 8) : bits .or .u64 (v : Int) (IntKind.u64.wrap ((c : Int) * 2 ^ (8 * k))) = ((v + 2 ^ (8 * k) * c : Nat) : Int) := by
  have hp : 2 ^ (8 * k) ≤ 2 ^ 56 := Nat.pow_le_pow_right (by omega) (by omega)
  have h64 : 2 ^ (8 * k) * c < 18446744073709551616 := by
    have h1 : 2 ^ (8 * k) * c ≤ 2 ^ 56 * 255 := Nat.mul_le_mul hp (by omega)
    omega
  have hcast : (c : Int) * 2 ^ (8 * k) = ((2 ^ (8 * k) * c : Nat) : Int) := by
    rw [Int.natCast_mul, Int.natCast_pow, Int.mul_comm]
    rfl
  rw [hcast, IntKind.wrap_u64, Int.emod_eq_of_lt (by omega) (by omega), u64_or_nat _ _ (by omega) (by omega), Nat.or_comm]
  have h := Nat.shiftLeft_add_eq_or_of_lt hv c
  rw [Nat.shiftLeft_eq, Nat.mul_comm] at h
  rw [← h, Nat.add_comm]

theorem value_any (A : Option Addr) (c B : Nat) (l : List UInt8) (n : Nat) (w : World) (hr : Rd w B (.slice A n c) (u8s l)) (hn : n = l.length) (hl : n ≤ 8) :
    Calls Try.prog 44 #[.slice A n c] w fun e w' => e = .returned (.int .u64 (valN l : Nat)) ∧ w = w' := by
  have HN := Lib.hid hn
  clear hn
  go_enter Try.func44, Try.ntmps44
  go_wp2
  go_loop [3, 8] (fun s i => ∃ k : Nat, k ≤ n ∧ i = .int .i64 k ∧ s = .int .u64 (valN (l.take k) : Nat)) (fun _ i => n - (intOf i).toNat)
  case atStart => exact ⟨0, Nat.zero_le _, rfl, by simp [valN]⟩
  case round =>
    obtain ⟨k, hk, rfl, rfl⟩ := hrel
    by_cases hlt : k < n
    · have hkl : k < l.length := by rw [← HN.out]; exact hlt
      obtain ⟨ad, rfl, _, hcell⟩ := hr.byte hkl
      have hc := l[k].toNat_lt
      have hsn := valN_snoc l k hkl
      have hv := valN_take_lt l k (by omega)
      have hx := or_byte (valN (l.take k)) l[k].toNat k hv hc (by omega)
      rw [← hsn] at hx
      have HX := Lib.hid hx
      clear hx hsn hv
      go_wp2
      go_round
      case rel => exact ⟨k + 1, by omega, by go_num, by rw [HX.out]⟩
      case measure => simp [intOf]; omega
    · have hkl : l.take k = l := List.take_of_length_le (by rw [← HN.out]; omega)
      rw [hkl]
      clear hkl
      go_wp2
      go_ret
      exact ⟨rfl, rfl⟩
/-- The rule of numbers: the number, how many bytes it has, the error. -/
def numR (l : List UInt8) (most : Nat) : Nat × Nat × Nat :=
  match l with
  | [] => (0, 0, 5)
  | c :: t =>
    if 8 < c.toNat then (0, 0, 4)
    else if t.length < c.toNat then (0, 0, 5)
    else if 0 < c.toNat ∧ t[c.toNat - 1]? = some 0 then (0, 0, 4)
    else if most < valN (t.take c.toNat) then (0, 0, 3)
    else (valN (t.take c.toNat), c.toNat + 1, 0)

def tupR (r : Nat × Nat × Nat) : Ending := .returned (.tuple #[.int .u64 (r.1 : Int), .int .i64 (r.2.1 : Int), .int .i64 (r.2.2 : Int)])

theorem Rd.cut {w : World} {B : Nat} {A : Option Addr} {n c i : Nat} {l : List UInt8} (h : Rd w B (.slice A n c) (u8s l)) (hn : n = l.length) (hi : i ≤ n) :
    Rd w B (.slice (if c = i then A else A.map (·.add i)) (n - i) (c - i)) (u8s (l.drop i)) := by
  obtain ⟨A', c', hv, hc, hm, hx⟩ := h
  injection hv with h1 h2 h3
  subst h1 h3
  rw [u8s_length] at hc
  refine ⟨_, _, by rw [u8s_length, List.length_drop, hn], by rw [u8s_length, List.length_drop]; omega, by omega, fun hp => ?_⟩
  rw [u8s_length, List.length_drop] at hp
  obtain ⟨ad, rfl, hb, hcell⟩ := hx (by rw [u8s_length]; omega)
  rw [if_neg (by omega)]
  refine ⟨ad.add i, rfl, by rw [block_of_add']; exact hb, fun j u hu => ?_⟩
  rw [add_of_add']
  exact hcell _ u (by rw [← hu, ← u8s_drop, List.getElem?_drop])

theorem Rd.cutTo {w : World} {B : Nat} {A : Option Addr} {n c i : Nat} {l : List UInt8} (h : Rd w B (.slice A n c) (u8s l)) (hn : n = l.length) (hi : i ≤ n) :
    Rd w B (.slice A i c) (u8s (l.take i)) := by
  obtain ⟨A', c', hv, hc, hm, hx⟩ := h
  injection hv with h1 h2 h3
  subst h1 h3
  rw [u8s_length] at hc
  have hl : (u8s (l.take i)).length = i := by rw [u8s_length, List.length_take, Nat.min_eq_left (by omega)]
  refine ⟨_, _, by rw [hl], by rw [hl]; omega, hm, fun hp => ?_⟩
  rw [hl] at hp
  obtain ⟨ad, rfl, hb, hcell⟩ := hx (by rw [u8s_length]; omega)
  refine ⟨ad, rfl, hb, fun j u hu => hcell j u ?_⟩
  rw [← u8s_take, List.getElem?_take] at hu
  split at hu
  · exact hu
  · cases hu

theorem number_rule_none (A : Option Addr) (c m : Nat) (w : World) :
    Calls Try.prog 51 #[.slice A 0 c, .int .u64 (m : Int)] w fun e w' => e = tupR (numR [] m) ∧ w = w' := by
  go_enter Try.func51, Try.ntmps51
  go_wp2
  go_ret3
  exact ⟨rfl, rfl⟩

/-- The rule, where the first byte and what it asks of the length are all right: it reads on. -/
theorem number_rule_zero (ad : Addr) (c n m : Nat) (w : World) (hn0 : 0 < n) (hnc : n ≤ c) (hmx : c ≤ 9223372036854775807)
    (hcell : w.cell? ad = some (.int .u8 0)) :
    Calls Try.prog 51 #[.slice (some ad) n c, .int .u64 (m : Int)] w fun e w' => e = .returned (.tuple #[.int .u64 0, .int .i64 1, .int .i64 0]) ∧ w = w' := by
  have V := fun A' c' (hc : c' ≤ maxLen) => value_any A' c' 0 [] 0 w ⟨A', c', rfl, by simp [u8s], hc, fun h => by simp [u8s] at h⟩ rfl (by omega)
  by_cases hc1 : c = 1
  · subst hc1
    obtain rfl : n = 1 := by omega
    go_enter Try.func51, Try.ntmps51
    go_wp2_with (go_at_call 44; refine (V _ _ (by simp [maxLen])).mono ?_; rintro e w' ⟨rfl, rfl⟩)
    go_ret3
    exact ⟨rfl, rfl⟩
  · have hc' : c - 1 ≤ maxLen := by unfold maxLen; omega
    go_enter Try.func51, Try.ntmps51
    go_wp2_with (go_at_call 44; refine (V _ _ hc').mono ?_; rintro e w' ⟨rfl, rfl⟩)
    go_ret3
    exact ⟨rfl, rfl⟩

theorem number_rule_pos (ad : Addr) (c n m k : Nat) (x : Nat) (last : UInt8) (w : World) (hk : 0 < k) (hk8 : k ≤ 8) (hkn : k < n) (hnc : n ≤ c) (hmx : c ≤ 9223372036854775807) (hm : m < 18446744073709551616)
    (hcell : w.cell? ad = some (.int .u8 (k : Int))) (hlast : w.cell? (ad.add k) = some (.int .u8 (last.toNat : Int))) (hl0 : ¬ last = 0) (hx : x < 18446744073709551616)
    (V : Calls Try.prog 44 #[.slice (some ⟨ad.block, ad.off + 1, none⟩) k (c - 1)] w fun e w' => e = .returned (.int .u64 (x : Int)) ∧ w = w') :
    Calls Try.prog 51 #[.slice (some ad) n c, .int .u64 (m : Int)] w fun e w' =>
      e = .returned (.tuple (if m < x then #[.int .u64 0, .int .i64 0, .int .i64 3] else #[.int .u64 (x : Int), .int .i64 (1 + (k : Int)), .int .i64 0])) ∧ w = w' := by
  have hl1 : 0 < last.toNat := by
    rcases Nat.eq_zero_or_pos last.toNat with h | h
    · exact absurd (UInt8.toNat_inj.1 (h.trans rfl)) hl0
    · exact h
  have hl2 := last.toNat_lt
  generalize last.toNat = lb at hlast hl1 hl2
  clear hl0
  by_cases hmx2 : m < x
  · rw [if_pos hmx2]
    go_enter Try.func51, Try.ntmps51
    go_wp2_with (go_at_call 44; refine V.mono ?_; rintro e w' ⟨rfl, rfl⟩)
    go_ret3
    exact ⟨rfl, rfl⟩
  · rw [if_neg hmx2]
    go_enter Try.func51, Try.ntmps51
    go_wp2_with (go_at_call 44; refine V.mono ?_; rintro e w' ⟨rfl, rfl⟩)
    go_ret3
    exact ⟨rfl, rfl⟩

theorem number_rule (A : Option Addr) (c B : Nat) (l : List UInt8) (n m : Nat) (w : World) (hr : Rd w B (.slice A n c) (u8s l)) (hn : n = l.length) (hm : m < 18446744073709551616) :
    Calls Try.prog 51 #[.slice A n c, .int .u64 (m : Int)] w fun e w' => e = tupR (numR l m) ∧ w = w' := by
  cases l with
  | nil =>
    obtain rfl : n = 0 := by simpa using hn
    exact number_rule_none A c m w
  | cons b t =>
    rw [List.length_cons] at hn
    obtain ⟨ad, rfl, _, hcell⟩ := hr.byte (k := 0) (by simp)
    have hn0 : 0 < n := by omega
    obtain ⟨hnc, hmx⟩ : n ≤ c ∧ c ≤ 9223372036854775807 := by
      obtain ⟨A', c', hv, h1, h2⟩ := hr.form
      injection hv with _ _ h3
      simp only [List.length_cons] at h1
      unfold maxLen at h2
      omega
    have hb := b.toNat_lt
    rw [List.getElem_cons_zero, Addr.add, if_pos rfl] at hcell
    obtain ⟨k, hk⟩ : ∃ k, k = b.toNat := ⟨_, rfl⟩
    by_cases h8 : 8 < k
    · have HT : Hid (tupR (numR (b :: t) m) = .returned (.tuple #[.int .u64 0, .int .i64 0, .int .i64 4])) := Lib.hid (by simp [numR, ← hk, h8, tupR])
      rw [← hk] at hcell hb
      clear hn hk hr
      go_enter Try.func51, Try.ntmps51
      go_wp2
      go_ret3
      exact ⟨HT.out.symm, rfl⟩
    by_cases hk1 : n < k + 1
    · have HT : Hid (tupR (numR (b :: t) m) = .returned (.tuple #[.int .u64 0, .int .i64 0, .int .i64 5])) := Lib.hid (by simp [numR, ← hk, h8, show t.length < k by omega, tupR])
      rw [← hk] at hcell hb
      clear hn hk hr
      go_enter Try.func51, Try.ntmps51
      go_wp2
      go_ret3
      exact ⟨HT.out.symm, rfl⟩
    by_cases hk0 : k = 0
    · have HT : tupR (numR (b :: t) m) = .returned (.tuple #[.int .u64 0, .int .i64 1, .int .i64 0]) := by simp [numR, ← hk, hk0, valN, tupR]
      rw [← hk, hk0] at hcell
      rw [HT]
      exact number_rule_zero ad c n m w hn0 hnc hmx hcell
    have hkt : k - 1 < t.length := by omega
    obtain ⟨ad', e1, _, hlast⟩ := hr.byte (k := k) (by simp; omega)
    injection e1 with e1
    subst e1
    have hget : (b :: t)[k]'(by simp; omega) = t[k - 1] := by
      obtain ⟨j, rfl⟩ : ∃ j, k = j + 1 := ⟨k - 1, by omega⟩
      simp
    rw [hget] at hlast
    by_cases hz : t[k - 1] = 0
    · have HT : Hid (tupR (numR (b :: t) m) = .returned (.tuple #[.int .u64 0, .int .i64 0, .int .i64 4])) := Lib.hid (by
        simp [numR, ← hk, h8, show ¬ t.length < k by omega, show 0 < k by omega, List.getElem?_eq_getElem hkt, hz, tupR])
      rw [hz] at hlast
      rw [← hk] at hcell hb
      clear hn hk hr hget
      go_enter Try.func51, Try.ntmps51
      go_wp2_with fail
      go_ret3
      exact ⟨HT.out.symm, rfl⟩
    · have hct := (hr.cut (i := 1) (by simpa using hn) (by omega)).cutTo (i := k) (by simp; omega) (by omega)
      simp only [List.drop_one, List.tail_cons] at hct
      rw [if_neg (by omega)] at hct
      have htl : (t.take k).length = k := by rw [List.length_take]; omega
      have hx := valN_lt (t.take k)
      rw [htl] at hx
      have hx8 : 256 ^ k ≤ 256 ^ 8 := Nat.pow_le_pow_right (by omega) (by omega)
      have V := value_any (some ⟨ad.block, ad.off + 1, none⟩) (c - 1) B (t.take k) k w hct htl.symm (by omega)
      rw [← hk] at hcell
      have HT : tupR (numR (b :: t) m) = .returned (.tuple (if m < valN (t.take k) then #[.int .u64 0, .int .i64 0, .int .i64 3] else #[.int .u64 (valN (t.take k) : Nat), .int .i64 (1 + (k : Int)), .int .i64 0])) := by
        by_cases hmv : m < valN (t.take k)
        · simp [numR, ← hk, h8, show ¬ t.length < k by omega, show 0 < k by omega, List.getElem?_eq_getElem hkt, hz, tupR, hmv]
        · simp [numR, ← hk, h8, show ¬ t.length < k by omega, show 0 < k by omega, List.getElem?_eq_getElem hkt, hz, tupR, hmv]
          omega
      rw [HT]
      exact number_rule_pos ad c n m k _ _ w (by omega) (by omega) (by omega) hnc hmx hm hcell hlast hz (by omega) V

/-- The rule of texts: the length of the text, the length of all, the error. -/
def textR (l : List UInt8) (most : Nat) : Nat × Nat × Nat :=
  let r := numR l most
  if r.2.2 ≠ 0 then (0, 0, r.2.2) else if l.length - r.2.1 < r.1 then (0, 0, 5) else (r.1, r.2.1 + r.1, 0)

theorem numR_facts (l : List UInt8) (m : Nat) (hm : m < 18446744073709551616) : (numR l m).1 < 18446744073709551616 ∧ (numR l m).1 ≤ m ∧ (numR l m).2.1 ≤ l.length ∧ (numR l m).2.1 ≤ 9 ∧ (numR l m).2.2 ≤ 5 := by
  cases l with
  | nil => simp [numR]
  | cons c t =>
    simp only [numR, List.length_cons]
    repeat' split
    all_goals simp
    all_goals omega

theorem text_rule (A : Option Addr) (c B : Nat) (l : List UInt8) (n m : Nat) (w : World) (hr : Rd w B (.slice A n c) (u8s l)) (hn : n = l.length) (hm : m ≤ 1048576) :
    Calls Try.prog 54 #[.slice A n c, .int .u64 (m : Int)] w fun e w' => e = tupR (textR l m) ∧ w = w' := by
  have N := number_rule A c B l n m w hr hn (by omega)
  obtain ⟨f1, f2, f3, f4, f5⟩ := numR_facts l m (by omega)
  obtain ⟨hnc, hmx⟩ : n ≤ c ∧ c ≤ 9223372036854775807 := by
    obtain ⟨A', c', hv, h1, h2⟩ := hr.form
    injection hv with _ _ h3
    unfold maxLen at h2
    omega
  have HR : Hid (textR l m = if (numR l m).2.2 ≠ 0 then (0, 0, (numR l m).2.2) else if n - (numR l m).2.1 < (numR l m).1 then (0, 0, 5) else ((numR l m).1, (numR l m).2.1 + (numR l m).1, 0)) := Lib.hid (by rw [hn]; rfl)
  rw [← hn] at f3
  clear hr hn
  unfold tupR at N
  generalize (numR l m).1 = x at *
  generalize (numR l m).2.1 = k at *
  generalize (numR l m).2.2 = q at *
  by_cases hq : q ≠ 0
  · have HT : Hid (tupR (textR l m) = .returned (.tuple #[.int .u64 0, .int .i64 0, .int .i64 (q : Int)])) := Lib.hid (by rw [HR.out, if_pos hq]; rfl)
    go_enter Try.func54, Try.ntmps54
    go_wp2_with (go_at_call 51; refine N.mono ?_; rintro e w' ⟨rfl, rfl⟩)
    go_ret3
    exact ⟨HT.out.symm, rfl⟩
  · obtain rfl : q = 0 := by omega
    by_cases hs : n - k < x
    · have HT : Hid (tupR (textR l m) = .returned (.tuple #[.int .u64 0, .int .i64 0, .int .i64 5])) := Lib.hid (by rw [HR.out, if_neg hq, if_pos hs]; rfl)
      go_enter Try.func54, Try.ntmps54
      go_wp2_with (go_at_call 51; refine N.mono ?_; rintro e w' ⟨rfl, rfl⟩)
      go_ret3
      exact ⟨HT.out.symm, rfl⟩
    · have HT : Hid (tupR (textR l m) = .returned (.tuple #[.int .u64 (x : Int), .int .i64 ((k : Int) + (x : Int)), .int .i64 0])) := Lib.hid (by rw [HR.out, if_neg hq, if_neg hs]; simp [tupR])
      go_enter Try.func54, Try.ntmps54
      go_wp2_with (go_at_call 51; refine N.mono ?_; rintro e w' ⟨rfl, rfl⟩)
      go_ret3
      exact ⟨HT.out.symm, rfl⟩

/-- The rule of bools. -/
def truthR (l : List UInt8) (most : Nat) : Nat × Nat × Nat :=
  match l with
  | [] => (0, 0, 5)
  | c :: _ => if most < c.toNat then (0, 0, 4) else (c.toNat, 1, 0)

theorem truth_rule (A : Option Addr) (c B : Nat) (l : List UInt8) (n m : Nat) (w : World) (hr : Rd w B (.slice A n c) (u8s l)) (hn : n = l.length) (hm : m ≤ 1) :
    Calls Try.prog 55 #[.slice A n c, .int .u64 (m : Int)] w fun e w' => e = tupR (truthR l m) ∧ w = w' := by
  cases l with
  | nil =>
    obtain rfl : n = 0 := by simpa using hn
    clear hn hr
    go_enter Try.func55, Try.ntmps55
    go_wp2
    go_ret3
    exact ⟨rfl, rfl⟩
  | cons b t =>
    rw [List.length_cons] at hn
    obtain ⟨ad, rfl, _, hcell⟩ := hr.byte (k := 0) (by simp)
    have hn0 : 0 < n := by omega
    have hb := b.toNat_lt
    rw [List.getElem_cons_zero, Addr.add, if_pos rfl] at hcell
    have HR : Hid (truthR (b :: t) m = if m < b.toNat then (0, 0, 4) else (b.toNat, 1, 0)) := Lib.hid rfl
    generalize b.toNat = k at *
    clear hn hr
    by_cases h : m < k
    · have HT : Hid (tupR (truthR (b :: t) m) = .returned (.tuple #[.int .u64 0, .int .i64 0, .int .i64 4])) := Lib.hid (by rw [HR.out, if_pos h]; rfl)
      go_enter Try.func55, Try.ntmps55
      go_wp2
      go_ret3
      exact ⟨HT.out.symm, rfl⟩
    · have HT : Hid (tupR (truthR (b :: t) m) = .returned (.tuple #[.int .u64 (k : Int), .int .i64 1, .int .i64 0])) := Lib.hid (by rw [HR.out, if_neg h]; rfl)
      go_enter Try.func55, Try.ntmps55
      go_wp2
      go_ret3
      exact ⟨HT.out.symm, rfl⟩

end Go.Proofs.Ytbllafhfofnijaa
