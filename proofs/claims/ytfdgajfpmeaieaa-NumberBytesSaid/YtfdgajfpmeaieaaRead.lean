/- The calls of a reader that New returned. -/
import Derived.Test.YtfdgajfpmeaieaaClosA
import Derived.Test.YtfdgajfpmeaieaaClosB
import Derived.Test.YtfdgajfpmeaieaaClosC
import Derived.Test.YtfdgajfpmeaieaaLives
namespace Go.Proofs.Ytfdgajfpmeaieaa
open Go.RowKit

/-- What a call of a reader gave, and what it left. -/
def Gave (w : World) (lo r : Nat) (v : Value) (s : List UInt8 × Nat) (e : Ending) (w' : World) : Prop :=
  e = .returned v ∧ Rdr w' lo r s.1 s.2 ∧ w.grownBy w' (some r)

theorem func_not_nil (fn : Fn) (a b : Array Value) (W : World) : (binOp .neq 91 (.func fn a b) .nilFunc).run Try.prog W = .ok (.bool true) W := by kernel_rfl

theorem made_any (lo r q : Nat) (l : List UInt8) (w : World) (h : Rdr w lo r l q) :
    Calls Try.prog 80 #[.pointer (some ⟨r, 0, none⟩)] w fun e w' => e = .returned (.bool true) ∧ w = w' := by
  obtain ⟨A, n, c, -, -, h1, -, -⟩ := h
  have c2 : w.cell? ⟨r, 2, none⟩ = some (.func (.func 79) #[] #[.pointer (some ⟨r + 1, 0, none⟩)]) := (cell_of_row w r 2 _ _ _ h1).trans rfl
  clear h1
  have hne := func_not_nil
  go_enter Try.func80, Try.ntmps80
  go_wp2
  go_ret
  exact ⟨rfl, rfl⟩

theorem read_number (m lo r q : Nat) (l : List UInt8) (w : World) (h : Rdr w lo r l q) (hm : m < 18446744073709551616) :
    Calls Try.prog 88 #[.pointer (some ⟨r, 0, none⟩), .func (.func 89) #[] #[], .int .u64 (m : Int)] w (Took w lo r (att numR m l q)) := by
  have M := made_any lo r q l w h
  have C := clos_number numR m lo r q l w h (fun A c n hr hn => number_rule A c r l n m w hr hn hm) (numR_facts l m hm).2.2.1
  obtain ⟨A, n, c, -, -, h1, -, -⟩ := h
  have c2 : w.cell? ⟨r, 2, none⟩ = some (.func (.func 79) #[] #[.pointer (some ⟨r + 1, 0, none⟩)]) := (cell_of_row w r 2 _ _ _ h1).trans rfl
  clear h1 hm
  go_enter Try.func88, Try.ntmps88
  go_wp2_with (go_at_call 80; refine M.mono ?_; rintro e w' ⟨rfl, rfl⟩)
  refine C.mono ?_
  rintro e w' ⟨A', n', c', hn', rfl, ht1, ht2, ht3⟩
  have HN' := Lib.hid hn'
  clear hn'
  go_wp2
  go_ret2
  exact ⟨A', n', c', HN'.out, rfl, ht1, ht2, ht3⟩

/-- The greatest number. -/
def maxU : Nat := 18446744073709551615
theorem maxU_cast : ((maxU : Nat) : Int) = 18446744073709551615 := rfl
theorem maxU_lt : maxU < 18446744073709551616 := by decide

theorem number_read (lo r q : Nat) (l : List UInt8) (w : World) (h : Rdr w lo r l q) :
    Calls Try.prog 52 #[.pointer (some ⟨r, 0, none⟩)] w (Gave w lo r (.int .u64 ((att numR maxU l q).1.1 : Int)) (att numR maxU l q).2) := by
  have C := read_number maxU lo r q l w h maxU_lt
  rw [maxU_cast] at C
  go_enter Try.func52, Try.ntmps52
  go_wp2_with (go_at_call 88; refine C.mono ?_; rintro e w' ⟨A', n', c', hn', rfl, ht1, ht2, ht3⟩; clear hn')
  go_ret
  exact ⟨rfl, ht2, ht3⟩

/-- A signed number, told as one that isn't. -/
def unfoldN (x : Nat) : Int := if x % 2 = 1 then -((x / 2 : Nat) : Int) - 1 else ((x / 2 : Nat) : Int)
theorem unfold_any (x : Nat) (w : World) (hx : x ≤ maxU) :
    Calls Try.prog 91 #[.int .u64 (x : Int)] w fun e w' => e = .returned (.int .i64 (unfoldN x)) ∧ w = w' := by
  have hx2 : x / 2 ≤ 9223372036854775807 := by unfold maxU at hx; omega
  clear hx
  by_cases h : x % 2 = 1
  · have HU : Hid (unfoldN x = -((x / 2 : Nat) : Int) - 1) := Lib.hid (by rw [unfoldN, if_pos h])
    go_enter Try.func91, Try.ntmps91
    go_wp2
    go_ret
    exact ⟨ret_int (by rw [HU.out]; omega), rfl⟩
  · have HU : Hid (unfoldN x = ((x / 2 : Nat) : Int)) := Lib.hid (by rw [unfoldN, if_neg h])
    go_enter Try.func91, Try.ntmps91
    go_wp2
    go_ret
    exact ⟨ret_int (by rw [HU.out]; omega), rfl⟩

theorem att_num_le (m : Nat) (l : List UInt8) (q : Nat) (hm : m < 18446744073709551616) : (att numR m l q).1.1 ≤ m := by
  unfold att
  split
  · exact Nat.zero_le _
  · split
    · exact Nat.zero_le _
    · exact (numR_facts l m hm).2.1

theorem signed_read (lo r q : Nat) (l : List UInt8) (w : World) (h : Rdr w lo r l q) :
    Calls Try.prog 54 #[.pointer (some ⟨r, 0, none⟩)] w (Gave w lo r (.int .i64 (unfoldN (att numR maxU l q).1.1)) (att numR maxU l q).2) := by
  have C := read_number maxU lo r q l w h maxU_lt
  have U := fun W => unfold_any (att numR maxU l q).1.1 W (att_num_le maxU l q maxU_lt)
  rw [maxU_cast] at C
  go_enter Try.func54, Try.ntmps54
  go_wp2_with (first | (go_at_call 88; refine C.mono ?_; rintro e w' ⟨A', n', c', hn', rfl, ht1, ht2, ht3⟩; clear hn') | (go_at_call 91; refine (U _).mono ?_; rintro e w' ⟨rfl, rfl⟩))
  go_ret
  exact ⟨rfl, ht2, ht3⟩

theorem read_text (lo r q : Nat) (l : List UInt8) (w : World) (h : Rdr w lo r l q) :
    Calls Try.prog 88 #[.pointer (some ⟨r, 0, none⟩), .func (.func 92) #[] #[], .int .u64 1048576] w (Took w lo r (att textR 1048576 l q)) := by
  have M := made_any lo r q l w h
  have hn : (textR l 1048576).2.1 ≤ l.length := by
    have f := numR_facts l 1048576 (by omega)
    unfold textR
    simp only
    split
    · exact Nat.zero_le _
    · split
      · exact Nat.zero_le _
      · simp only
        omega
  have C := clos_text textR 1048576 lo r q l w h (fun A c n hr hn => text_rule A c r l n 1048576 w hr hn (by omega)) hn
  obtain ⟨A, n, c, -, -, h1, -, -⟩ := h
  have c2 : w.cell? ⟨r, 2, none⟩ = some (.func (.func 79) #[] #[.pointer (some ⟨r + 1, 0, none⟩)]) := (cell_of_row w r 2 _ _ _ h1).trans rfl
  clear h1 hn
  go_enter Try.func88, Try.ntmps88
  go_wp2_with (go_at_call 80; refine M.mono ?_; rintro e w' ⟨rfl, rfl⟩)
  refine C.mono ?_
  rintro e w' ⟨A', n', c', hn', rfl, ht1, ht2, ht3⟩
  have HN' := Lib.hid hn'
  clear hn'
  go_wp2
  go_ret2
  exact ⟨A', n', c', HN'.out, rfl, ht1, ht2, ht3⟩

theorem read_truth (lo r q : Nat) (l : List UInt8) (w : World) (h : Rdr w lo r l q) :
    Calls Try.prog 88 #[.pointer (some ⟨r, 0, none⟩), .func (.func 93) #[] #[], .int .u64 1] w (Took w lo r (att truthR 1 l q)) := by
  have M := made_any lo r q l w h
  have hn : (truthR l 1).2.1 ≤ l.length := by
    unfold truthR
    split
    · simp
    · split <;> simp
  have C := clos_truth truthR 1 lo r q l w h (fun A c n hr hn => truth_rule A c r l n 1 w hr hn (by omega)) hn
  obtain ⟨A, n, c, -, -, h1, -, -⟩ := h
  have c2 : w.cell? ⟨r, 2, none⟩ = some (.func (.func 79) #[] #[.pointer (some ⟨r + 1, 0, none⟩)]) := (cell_of_row w r 2 _ _ _ h1).trans rfl
  clear h1 hn
  go_enter Try.func88, Try.ntmps88
  go_wp2_with (go_at_call 80; refine M.mono ?_; rintro e w' ⟨rfl, rfl⟩)
  refine C.mono ?_
  rintro e w' ⟨A', n', c', hn', rfl, ht1, ht2, ht3⟩
  have HN' := Lib.hid hn'
  clear hn'
  go_wp2
  go_ret2
  exact ⟨A', n', c', HN'.out, rfl, ht1, ht2, ht3⟩

theorem truth_read (lo r q : Nat) (l : List UInt8) (w : World) (h : Rdr w lo r l q) :
    Calls Try.prog 58 #[.pointer (some ⟨r, 0, none⟩)] w (Gave w lo r (.bool ((att truthR 1 l q).1.1 == 1)) (att truthR 1 l q).2) := by
  have C := read_truth lo r q l w h
  generalize att truthR 1 l q = a at *
  go_enter Try.func58, Try.ntmps58
  go_wp2_with (go_at_call 88; refine C.mono ?_; rintro e w' ⟨A', n', c', hn', rfl, ht1, ht2, ht3⟩; clear hn')
  go_ret
  refine ⟨ret_bool ?_, ht2, ht3⟩
  rw [Bool.eq_iff_iff]
  simp
  omega

/-- How great a count may be. -/
def mostN (n : Int) : Nat := if 0 ≤ n then n.toNat else 0

theorem count_read (n : Int) (lo r q : Nat) (l : List UInt8) (w : World) (h : Rdr w lo r l q) (h1 : -9223372036854775808 ≤ n) (h2 : n ≤ 9223372036854775807) :
    Calls Try.prog 60 #[.pointer (some ⟨r, 0, none⟩), .int .i64 n] w (Gave w lo r (.int .i64 ((att numR (mostN n) l q).1.1 : Int)) (att numR (mostN n) l q).2) := by
  have hm : mostN n ≤ 9223372036854775807 := by unfold mostN; split <;> omega
  have C := read_number (mostN n) lo r q l w h (by omega)
  have hx := att_num_le (mostN n) l q (by omega)
  have hx2 : (att numR (mostN n) l q).1.1 ≤ 9223372036854775807 := by omega
  clear hx hm
  have e : ((mostN n : Nat) : Int) = max n 0 := by unfold mostN; split <;> omega
  rw [e] at C
  clear e
  generalize att numR (mostN n) l q = a at *
  go_enter Try.func60, Try.ntmps60
  go_wp2_with (go_at_call 88; refine C.mono ?_; rintro e w' ⟨A', n', c', hn', rfl, ht1, ht2, ht3⟩; clear hn')
  go_ret
  exact ⟨rfl, ht2, ht3⟩

theorem left_read (lo r q : Nat) (l : List UInt8) (w : World) (h : Rdr w lo r l q) :
    Calls Try.prog 33 #[.pointer (some ⟨r, 0, none⟩)] w fun e w' => e = .returned (.int .i64 (l.length : Int)) ∧ w = w' := by
  have M := made_any lo r q l w h
  obtain ⟨A, n, c, hn, -, h1, -, -⟩ := h
  have c0 : w.cell? ⟨r, 0, none⟩ = some (.slice A n c) := (cell_of_row w r 0 _ _ _ h1).trans rfl
  rw [← hn]
  clear h1 hn
  go_enter Try.func33, Try.ntmps33
  go_wp2_with (go_at_call 80; refine M.mono ?_; rintro e w' ⟨rfl, rfl⟩)
  go_ret
  exact ⟨rfl, rfl⟩

theorem err_read (lo r q : Nat) (l : List UInt8) (w : World) (h : Rdr w lo r l q) :
    Calls Try.prog 62 #[.pointer (some ⟨r, 0, none⟩)] w fun e w' => e = .returned (.int .i64 (q : Int)) ∧ w = w' := by
  have M := made_any lo r q l w h
  obtain ⟨A, n, c, -, -, h1, -, -⟩ := h
  have c1 : w.cell? ⟨r, 1, none⟩ = some (.int .i64 (q : Int)) := (cell_of_row w r 1 _ _ _ h1).trans rfl
  clear h1
  go_enter Try.func62, Try.ntmps62
  go_wp2_with (go_at_call 80; refine M.mono ?_; rintro e w' ⟨rfl, rfl⟩)
  go_ret
  exact ⟨rfl, rfl⟩

/-- What End answers. -/
def endN (l : List UInt8) (q : Nat) : Nat := if q ≠ 0 then q else if 0 < l.length then 4 else 0

theorem end_read (lo r q : Nat) (l : List UInt8) (w : World) (h : Rdr w lo r l q) :
    Calls Try.prog 35 #[.pointer (some ⟨r, 0, none⟩)] w fun e w' => e = .returned (.int .i64 (endN l q : Int)) ∧ w = w' := by
  have E := err_read lo r q l w h
  have L := left_read lo r q l w h
  by_cases hq : q ≠ 0
  · have HE : Hid (endN l q = q) := Lib.hid (by rw [endN, if_pos hq])
    go_enter Try.func35, Try.ntmps35
    go_wp2_with (go_at_call 62; refine E.mono ?_; rintro e w' ⟨rfl, rfl⟩)
    go_ret
    exact ⟨ret_int (by rw [HE.out]), rfl⟩
  · obtain rfl : q = 0 := by omega
    by_cases hl : 0 < l.length
    · have HE : Hid (endN l 0 = 4) := Lib.hid (by rw [endN, if_neg hq, if_pos hl])
      go_enter Try.func35, Try.ntmps35
      go_wp2_with (first | (go_at_call 62; refine E.mono ?_; rintro e w' ⟨rfl, rfl⟩) | (go_at_call 33; refine L.mono ?_; rintro e w' ⟨rfl, rfl⟩))
      go_ret
      exact ⟨ret_int (by rw [HE.out]; rfl), rfl⟩
    · have HE : Hid (endN l 0 = 0) := Lib.hid (by rw [endN, if_neg hq, if_neg hl])
      go_enter Try.func35, Try.ntmps35
      go_wp2_with (first | (go_at_call 62; refine E.mono ?_; rintro e w' ⟨rfl, rfl⟩) | (go_at_call 33; refine L.mono ?_; rintro e w' ⟨rfl, rfl⟩))
      go_ret
      exact ⟨ret_int (by rw [HE.out]; rfl), rfl⟩

theorem ret_str {a b : ByteArray} (h : a = b) : Ending.returned (.string a) = .returned (.string b) := by rw [h]

theorem textR_le (l : List UInt8) (m : Nat) (hm : m < 18446744073709551616) : (textR l m).2.1 ≤ l.length ∧ ((textR l m).2.2 = 0 → (textR l m).1 ≤ (textR l m).2.1) ∧ (textR l m).1 ≤ m := by
  have f := numR_facts l m hm
  unfold textR
  simp only
  split
  · simp
  · split
    · simp
    · simp only
      omega

theorem att_text_le (m : Nat) (l : List UInt8) (q : Nat) (hm : m < 18446744073709551616) : (att textR m l q).1.1 ≤ (att textR m l q).1.2.length ∧ (att textR m l q).1.1 ≤ m := by
  have f := textR_le l m hm
  unfold att
  split
  · simp
  · split
    · simp
    · simp only [List.length_take]
      omega

/-- The text that an attempt gave: the last bytes of what it read. -/
def textOf (a : Nat × List UInt8) : ByteArray := ⟨(a.2.drop (a.2.length - a.1)).toArray⟩

theorem text_read (lo r q : Nat) (l : List UInt8) (w : World) (h : Rdr w lo r l q) :
    Calls Try.prog 56 #[.pointer (some ⟨r, 0, none⟩)] w (Gave w lo r (.string (textOf (att textR 1048576 l q).1)) (att textR 1048576 l q).2) := by
  have C := read_text lo r q l w h
  obtain ⟨f1, f2⟩ := att_text_le 1048576 l q (by omega)
  generalize att textR 1048576 l q = a at *
  clear h
  go_enter Try.func56, Try.ntmps56
  go_wp2_with fail
  refine C.mono ?_
  rintro e w' ⟨A, n, c, hn, rfl, hrd, ht2, ht3⟩
  have hT : textOf a.1 = ⟨(a.1.2.drop (n - a.1.1)).toArray⟩ := by rw [hn]; rfl
  have HT : Hid (_ = _) := Lib.hid hT.symm
  clear hT C
  obtain ⟨hnc, hmx⟩ : n ≤ c ∧ c ≤ 9223372036854775807 := by
    obtain ⟨A', c', hv, h1, h2⟩ := hrd.form
    injection hv with _ _ h3
    unfold maxLen at h2
    omega
  have hcut := hrd.cut (i := n - a.1.1) hn (by omega)
  rw [← hn] at f1
  have hz : A = none → n = 0 := by
    intro hA
    subst hA
    rcases Nat.eq_zero_or_pos n with h | h
    · exact h
    · obtain ⟨ad, h', _⟩ := hrd.byte (k := 0) (by omega)
      cases h'
  clear hn hrd
  have T2 := Lib.hid ht2
  have T3 := Lib.hid ht3
  clear ht2 ht3
  generalize a.1.1 = x at f1 f2 hcut HT ⊢
  generalize a.1.2 = bs at hcut HT
  rcases A with _ | ad
  · obtain rfl := hz rfl
    obtain rfl : x = 0 := by omega
    simp only [Option.map_none, ite_self, Nat.sub_zero] at hcut
    have hs := run_str_rd 40 9 5 Try.underlying40 Try.underlying5 Try.underlying9 hcut
    clear hz
    go_wp2
    go_ret
    exact ⟨ret_str HT.out, T2.out, T3.out⟩
  · obtain ⟨k, hk⟩ : ∃ k, k = n - x := ⟨_, rfl⟩
    obtain ⟨i, rfl⟩ : ∃ i, n = i + x := ⟨n - x, by omega⟩
    obtain rfl : k = i := by omega
    simp only [Nat.add_sub_cancel] at hcut HT
    rw [Nat.add_sub_cancel_left] at hcut
    clear hz hk
    by_cases hck : c = k
    · subst hck
      obtain rfl : x = 0 := by omega
      rw [if_pos rfl, Nat.sub_self] at hcut
      have hs := run_str_rd 40 9 5 Try.underlying40 Try.underlying5 Try.underlying9 hcut
      go_wp2
      go_ret
      exact ⟨ret_str HT.out, T2.out, T3.out⟩
    · rw [if_neg hck, Option.map_some] at hcut
      have hs := run_str_rd 40 9 5 Try.underlying40 Try.underlying5 Try.underlying9 hcut
      go_wp2
      go_ret
      exact ⟨ret_str HT.out, T2.out, T3.out⟩

end Go.Proofs.Ytfdgajfpmeaieaa
