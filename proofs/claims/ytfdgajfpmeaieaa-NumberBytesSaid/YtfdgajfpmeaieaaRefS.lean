/- The calls of the document's own reader (waterwheelref01): each answers as the program's reader. -/
import Derived.Test.YtfdgajfpmeaieaaRefR
namespace Go.Proofs.Ytfdgajfpmeaieaa
open Go.RowKit

/-- A call of the document's reader at block s: what it answers, and what is left. -/
def RGave (w : World) (lo s : Nat) (v : Value) (st : List UInt8 × Nat) (e : Ending) (w' : World) : Prop :=
  e = .returned v ∧ RefL w' lo s st.1 st.2 ∧ w.grownBy w' (some s)

theorem numR_most (l : List UInt8) (m : Nat) : numR l m = if (numR l maxU).2.2 ≠ 0 then numR l maxU else if m < (numR l maxU).1 then (0, 0, 3) else numR l maxU := by
  cases l with
  | nil => simp [numR]
  | cons c t =>
    simp only [numR]
    by_cases h8 : 8 < c.toNat
    · simp [h8]
    have hv := valN_le_maxU t c.toNat (by omega)
    simp only [if_neg h8, if_neg hv]
    by_cases h5 : t.length < c.toNat
    · simp [h5]
    by_cases hz : 0 < c.toNat ∧ t[c.toNat - 1]? = some 0
    · simp [h5, hz]
    · simp [h5, hz]
theorem numR_zero (l : List UInt8) (m : Nat) (h : (numR l m).2.2 ≠ 0) : numR l m = (0, 0, (numR l m).2.2) := by
  cases l with
  | nil => rfl
  | cons c t =>
    unfold numR at h ⊢
    simp only at h ⊢
    by_cases h8 : 8 < c.toNat
    · simp [h8]
    rw [if_neg h8] at h ⊢
    by_cases h5 : t.length < c.toNat
    · simp [h5]
    rw [if_neg h5] at h ⊢
    by_cases hz : 0 < c.toNat ∧ t[c.toNat - 1]? = some 0
    · simp [hz]
    rw [if_neg hz] at h ⊢
    by_cases hm : m < valN (t.take c.toNat)
    · simp [hm]
    · rw [if_neg hm] at h
      simp at h

/-- What next finds, and what an attempt by the rule of numbers gives. -/
theorem next_bad (b : List UInt8) (i m : Nat) (h : (nextR b i).2.2 ≠ 0) : numR (b.drop i) m = (0, 0, (nextR b i).2.2) := by
  have h' : (numR (b.drop i) maxU).2.2 ≠ 0 := h
  rw [numR_most, if_pos h', numR_zero _ _ h']
  rfl
theorem next_ok (b : List UInt8) (i m : Nat) (h : (nextR b i).2.2 = 0) (hi : i ≤ b.length) :
    ∃ k, (nextR b i).2.1 = i + k ∧ i + k ≤ b.length ∧ 0 < b.length ∧ (nextR b i).1 ≤ maxU ∧ numR (b.drop i) m = if m < (nextR b i).1 then (0, 0, 3) else ((nextR b i).1, k, 0) := by
  have h' : (numR (b.drop i) maxU).2.2 = 0 := h
  have f := numR_facts (b.drop i) maxU maxU_lt
  have hne : b.drop i ≠ [] := fun e => by rw [e] at h'; simp [numR] at h'
  refine ⟨(numR (b.drop i) maxU).2.1, by unfold nextR; simp only; rw [if_pos h'], ?_, ?_, f.2.1, ?_⟩
  · have := f.2.2.1
    rw [List.length_drop] at this
    omega
  · rcases Nat.eq_zero_or_pos b.length with e | e
    · exact absurd (List.drop_eq_nil_of_le (by omega)) hne
    · exact e
  · rw [numR_most, if_neg (by simpa using h')]
    show (if m < (numR (b.drop i) maxU).1 then _ else _) = if m < (numR (b.drop i) maxU).1 then _ else _
    congr 1
    rw [show numR (b.drop i) maxU = ((numR (b.drop i) maxU).1, (numR (b.drop i) maxU).2.1, (numR (b.drop i) maxU).2.2) from rfl, h']
    rfl

theorem att_err (R : List UInt8 → Nat → Nat × Nat × Nat) (m : Nat) (l : List UInt8) (q : Nat) (h : q ≠ 0) : att R m l q = ((0, []), (l, q)) := if_pos h
theorem att_bad (R : List UInt8 → Nat → Nat × Nat × Nat) (m : Nat) (l : List UInt8) (e : Nat) (h : R l m = (0, 0, e)) (he : e ≠ 0) : att R m l 0 = ((0, []), (l, e)) := by
  rw [att, if_neg (by simp), h, if_pos he]
theorem att_good (R : List UInt8 → Nat → Nat × Nat × Nat) (m : Nat) (l : List UInt8) (x k : Nat) (h : R l m = (x, k, 0)) : att R m l 0 = ((x, l.take k), (l.drop k, 0)) := by
  rw [att, if_neg (by simp), h, if_neg (by simp)]

theorem refl_of {w : World} {lo s i q : Nat} {b : List UInt8} (h : RefR w lo s b i q) : RefL w lo s (b.drop i) q := ⟨b, i, rfl, h⟩

theorem rnum_read (lo s q : Nat) (l : List UInt8) (w : World) (h : RefL w lo s l q) :
    Calls Try.prog 53 #[.pointer (some ⟨s, 0, none⟩)] w (RGave w lo s (.int .u64 ((att numR maxU l q).1.1 : Int)) (att numR maxU l q).2) := by
  obtain ⟨b, i, rfl, h⟩ := h
  have N := next_any lo s i q b w h
  have hi : i ≤ b.length := by obtain ⟨A, n, c, hn, hi, -⟩ := h; omega
  have hw : ∃ cs, w.heap[s]? = some (.cells cs 76 (0, 0)) ∧ cs[2]? = some (.int .i64 (q : Int)) := by
    obtain ⟨A, n, c, -, -, -, -, h1, -⟩ := h
    exact ⟨_, h1, rfl⟩
  obtain ⟨cs, h1, h2⟩ := hw
  have c2 : w.cell? ⟨s, 2, none⟩ = some (.int .i64 (q : Int)) := (cell_of_row w s 2 _ _ _ h1).trans h2
  have f1 := frozen_of_row w s 1 cs 76 h1
  have f2 := frozen_of_row w s 2 cs 76 h1
  have c1 : ∃ v, w.cell? ⟨s, 1, none⟩ = some v := by
    obtain ⟨A, n, c, -, -, -, -, h1, -⟩ := h
    exact ⟨_, (cell_of_row w s 1 _ _ _ h1).trans rfl⟩
  obtain ⟨v1, c1⟩ := c1
  have H := Lib.hid h
  clear h1 h2 h
  by_cases hq : q ≠ 0
  · rw [att_err _ _ _ _ hq]
    clear N
    go_enter Try.func53, Try.ntmps53
    go_wp2_with fail
    go_ret
    exact ⟨rfl, refl_of H.out, World.grownBy.refl _ _⟩
  obtain rfl : q = 0 := by omega
  by_cases he : (nextR b i).2.2 ≠ 0
  · rw [att_bad numR maxU _ _ (next_bad b i maxU he) he]
    unfold tup3 at N
    generalize (nextR b i).1 = x at N
    generalize (nextR b i).2.1 = k at N
    generalize (nextR b i).2.2 = er at N he ⊢
    go_enter Try.func53, Try.ntmps53
    go_wp2_with (go_at_call 90; refine N.mono ?_; rintro e w' ⟨rfl, kk, rfl⟩)
    go_ret
    exact ⟨rfl, refl_of (RefR.err (H.out.draw kk)), grown_setN _ _ _ _ _⟩
  · have he : (nextR b i).2.2 = 0 := by omega
    obtain ⟨k, e1, e2, -, e3, e4⟩ := next_ok b i maxU he hi
    rw [if_neg (by omega)] at e4
    rw [att_good numR maxU _ _ _ e4, List.drop_drop]
    unfold tup3 at N
    rw [he, e1] at N
    generalize (nextR b i).1 = x at N e3 ⊢
    clear e4 e1 he
    go_enter Try.func53, Try.ntmps53
    go_wp2_with (go_at_call 90; refine N.mono ?_; rintro e w' ⟨rfl, kk, rfl⟩)
    go_ret
    exact ⟨rfl, refl_of (RefR.set (H.out.draw kk) e2), grown_setN _ _ _ _ _⟩

theorem rsig_read (lo s q : Nat) (l : List UInt8) (w : World) (h : RefL w lo s l q) :
    Calls Try.prog 55 #[.pointer (some ⟨s, 0, none⟩)] w (RGave w lo s (.int .i64 (unfoldN (att numR maxU l q).1.1)) (att numR maxU l q).2) := by
  have N := rnum_read lo s q l w h
  have hx := att_num_le maxU l q maxU_lt
  generalize att numR maxU l q = a at *
  generalize a.1.1 = x at N hx ⊢
  clear h
  have hx2 : x < 18446744073709551616 := by unfold maxU at hx; omega
  clear hx
  by_cases hodd : x % 2 = 0
  · have HU : Hid (unfoldN x = ((x / 2 : Nat) : Int)) := Lib.hid (by rw [unfoldN, if_neg (by omega)])
    go_enter Try.func55, Try.ntmps55
    go_wp2_with (go_at_call 53; refine N.mono ?_; rintro e w' ⟨rfl, h1, h2⟩)
    go_ret
    exact ⟨ret_int (by rw [HU.out]; omega), h1, h2⟩
  · have HU : Hid (unfoldN x = -((x / 2 : Nat) : Int) - 1) := Lib.hid (by rw [unfoldN, if_pos (by omega)])
    go_enter Try.func55, Try.ntmps55
    go_wp2_with (go_at_call 53; refine N.mono ?_; rintro e w' ⟨rfl, h1, h2⟩)
    go_ret
    exact ⟨ret_int (by rw [HU.out]; omega), h1, h2⟩

theorem rcount_read (n : Int) (lo s q : Nat) (l : List UInt8) (w : World) (h : RefL w lo s l q) (hn1 : -9223372036854775808 ≤ n) (hn2 : n ≤ 9223372036854775807) :
    Calls Try.prog 61 #[.pointer (some ⟨s, 0, none⟩), .int .i64 n] w (RGave w lo s (.int .i64 ((att numR (mostN n) l q).1.1 : Int)) (att numR (mostN n) l q).2) := by
  obtain ⟨b, i, rfl, h⟩ := h
  have N := next_any lo s i q b w h
  have hi : i ≤ b.length := by obtain ⟨A, n, c, hn, hi, -⟩ := h; omega
  have hw : ∃ cs v1, w.heap[s]? = some (.cells cs 76 (0, 0)) ∧ cs[2]? = some (.int .i64 (q : Int)) ∧ cs[1]? = some v1 := by
    obtain ⟨A, n, c, -, -, -, -, h1, -⟩ := h
    exact ⟨_, _, h1, rfl, rfl⟩
  obtain ⟨cs, v1, h1, h2, h3⟩ := hw
  have c2 : w.cell? ⟨s, 2, none⟩ = some (.int .i64 (q : Int)) := (cell_of_row w s 2 _ _ _ h1).trans h2
  have c1 : w.cell? ⟨s, 1, none⟩ = some v1 := (cell_of_row w s 1 _ _ _ h1).trans h3
  have f1 := frozen_of_row w s 1 cs 76 h1
  have f2 := frozen_of_row w s 2 cs 76 h1
  have H := Lib.hid h
  clear h1 h2 h h3
  by_cases hq : q ≠ 0
  · rw [att_err _ _ _ _ hq]
    clear N
    go_enter Try.func61, Try.ntmps61
    go_wp2_with fail
    go_ret
    exact ⟨rfl, refl_of H.out, World.grownBy.refl _ _⟩
  obtain rfl : q = 0 := by omega
  by_cases he : (nextR b i).2.2 ≠ 0
  · rw [att_bad numR (mostN n) _ _ (next_bad b i (mostN n) he) he]
    unfold tup3 at N
    generalize (nextR b i).1 = x at N
    generalize (nextR b i).2.1 = k at N
    generalize (nextR b i).2.2 = er at N he ⊢
    go_enter Try.func61, Try.ntmps61
    go_wp2_with (go_at_call 90; refine N.mono ?_; rintro e w' ⟨rfl, kk, rfl⟩)
    go_ret
    exact ⟨rfl, refl_of (RefR.err (H.out.draw kk)), grown_setN _ _ _ _ _⟩
  have he : (nextR b i).2.2 = 0 := by omega
  obtain ⟨k, e1, e2, -, e3, e4⟩ := next_ok b i (mostN n) he hi
  unfold tup3 at N
  rw [he, e1] at N
  have hx2 : (nextR b i).1 < 18446744073709551616 := by unfold maxU at e3; omega
  by_cases hmx : mostN n < (nextR b i).1
  · rw [if_pos hmx] at e4
    rw [att_bad numR (mostN n) _ 3 e4 (by simp)]
    have hgt : max 0 n < ((nextR b i).1 : Int) := by unfold mostN at hmx; split at hmx <;> omega
    have hmm : 0 ≤ max 0 n ∧ max 0 n ≤ 9223372036854775807 := by omega
    generalize (nextR b i).1 = x at N hgt hx2
    clear e4 e1 he e3 hmx
    go_enter Try.func61, Try.ntmps61
    go_wp2_with (go_at_call 90; refine N.mono ?_; rintro e w' ⟨rfl, kk, rfl⟩)
    go_ret
    exact ⟨rfl, refl_of (RefR.err (q' := 3) (H.out.draw kk)), grown_setN _ _ _ _ _⟩
  · rw [if_neg hmx] at e4
    rw [att_good numR (mostN n) _ _ _ e4, List.drop_drop]
    have hgt : ¬ max 0 n < ((nextR b i).1 : Int) := by unfold mostN at hmx; split at hmx <;> omega
    have hx3 : (nextR b i).1 ≤ 9223372036854775807 := by omega
    have hmm : 0 ≤ max 0 n ∧ max 0 n ≤ 9223372036854775807 := by omega
    generalize (nextR b i).1 = x at N hgt hx2 hx3 ⊢
    clear e4 e1 he e3 hmx
    go_enter Try.func61, Try.ntmps61
    go_wp2_with (go_at_call 90; refine N.mono ?_; rintro e w' ⟨rfl, kk, rfl⟩)
    go_ret
    exact ⟨rfl, refl_of (RefR.set (H.out.draw kk) e2), grown_setN _ _ _ _ _⟩

theorem rleft_read (lo s q : Nat) (l : List UInt8) (w : World) (h : RefL w lo s l q) :
    Calls Try.prog 34 #[.pointer (some ⟨s, 0, none⟩)] w fun e w' => e = .returned (.int .i64 (l.length : Int)) ∧ ∃ k, w' = w.drewN k := by
  obtain ⟨b, i, rfl, A, n, c, hn, hi, hm, -, h1, -⟩ := h
  have c0 : w.cell? ⟨s, 0, none⟩ = some (.slice A n c) := (cell_of_row w s 0 _ _ _ h1).trans rfl
  have c1 : w.cell? ⟨s, 1, none⟩ = some (.int .i64 (i : Int)) := (cell_of_row w s 1 _ _ _ h1).trans rfl
  have hl : (((b.drop i).length : Nat) : Int) = (n : Int) - (i : Int) := by rw [List.length_drop]; omega
  rw [hl]
  clear h1 hl hn
  go_enter Try.func34, Try.ntmps34
  go_wp2_with fail
  go_quiet (fail)
  go_wp2_with fail
  go_ret
  exact ⟨rfl, ⟨_, rfl⟩⟩

theorem rend_read (lo s q : Nat) (l : List UInt8) (w : World) (h : RefL w lo s l q) :
    Calls Try.prog 63 #[.pointer (some ⟨s, 0, none⟩)] w fun e w' => e = .returned (.int .i64 (endN l q : Int)) ∧ ∃ k, w' = w.drewN k := by
  obtain ⟨b, i, rfl, A, n, c, hn, hi, hm, -, h1, -⟩ := h
  have c0 : w.cell? ⟨s, 0, none⟩ = some (.slice A n c) := (cell_of_row w s 0 _ _ _ h1).trans rfl
  have c1 : w.cell? ⟨s, 1, none⟩ = some (.int .i64 (i : Int)) := (cell_of_row w s 1 _ _ _ h1).trans rfl
  have c2 : w.cell? ⟨s, 2, none⟩ = some (.int .i64 (q : Int)) := (cell_of_row w s 2 _ _ _ h1).trans rfl
  have hl : (b.drop i).length = n - i := by rw [List.length_drop]; omega
  by_cases hq : q ≠ 0
  · have HE : Hid (endN (b.drop i) q = q) := Lib.hid (by rw [endN, if_pos hq])
    have hqB : decide ((q : Int) = 0) = false := by simp; omega
    have hqC : ((q : Int) == 0) = false := by simp; omega
    clear h1 hl hn
    go_enter Try.func63, Try.ntmps63
    go_wp2_with fail
    go_quiet (fail)
    go_wp2_with fail
    go_ret
    exact ⟨ret_int (by rw [HE.out]), ⟨_, rfl⟩⟩
  · obtain rfl : q = 0 := by omega
    by_cases hin : i < n
    · have HE : Hid (endN (b.drop i) 0 = 4) := Lib.hid (by rw [endN, if_neg hq, if_pos (by omega)])
      clear h1 hl hn
      go_enter Try.func63, Try.ntmps63
      go_wp2_with fail
      go_quiet (fail)
      go_wp2_with fail
      go_ret
      exact ⟨ret_int (by rw [HE.out]; rfl), ⟨_, rfl⟩⟩
    · have HE : Hid (endN (b.drop i) 0 = 0) := Lib.hid (by rw [endN, if_neg hq, if_neg (by omega)])
      clear h1 hl hn
      go_enter Try.func63, Try.ntmps63
      go_wp2_with fail
      go_quiet (fail)
      go_wp2_with fail
      go_ret
      exact ⟨ret_int (by rw [HE.out]; rfl), ⟨_, rfl⟩⟩
end Go.Proofs.Ytfdgajfpmeaieaa
