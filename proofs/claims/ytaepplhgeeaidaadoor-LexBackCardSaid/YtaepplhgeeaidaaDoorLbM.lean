import Derived.Test.YtaepplhgeeaidaaDoorLxV
set_option linter.unusedVariables false
set_option linter.unusedSimpArgs false
namespace Go.Proofs.YtaepplhgeeaidaaDoor
open Go Ev
def hxD (n : Nat) : UInt8 := ([48, 49, 50, 51, 52, 53, 54, 55, 56, 57, 97, 98, 99, 100, 101, 102] : B8).getD n 0
def qB (c : UInt8) : B8 := if c.toNat = 92 ∨ c.toNat = 34 then [92, c] else if plB c.toNat = true then [c] else [92, 120, hxD (c.toNat / 16), hxD (c.toNat % 16)]
def quoF (t : B8) : B8 := 34 :: (t.flatMap qB ++ [34])
theorem hex_all : ∀ n, n < 256 → 0 ≤ hexB (hxD (n / 16)) ∧ 0 ≤ hexB (hxD (n % 16)) ∧ hexV (hexB (hxD (n / 16))) (hexB (hxD (n % 16))) = UInt8.ofNat n := by decide +kernel
theorem esc_step (a c : UInt8) (r : B8) : escF (a :: c :: r) = if c.toNat = 92 ∨ c.toNat = 34 then (c, 2) else match r with
    | h :: l :: _ => if c.toNat = 120 ∧ 0 ≤ hexB h ∧ 0 ≤ hexB l then (hexV (hexB h) (hexB l), 4) else (0, 0)
    | _ => (0, 0) := rfl
theorem unq_step (k : Nat) (c : UInt8) (r b : B8) : unqL (k + 1) (c :: r) b = if 64 < b.length then none else
    if c.toNat = 34 then some (b, 1) else
    if c.toNat = 92 then (if (escF (c :: r)).2 = 0 then none else (unqL k ((c :: r).drop (escF (c :: r)).2) (b ++ [(escF (c :: r)).1])).map fun p => (p.1, p.2 + (escF (c :: r)).2)) else
    if plB c.toNat = true then (unqL k r (b ++ [c])).map fun p => (p.1, p.2 + 1) else none := rfl
theorem esc_hex (c : UInt8) (r : B8) : escF (92 :: 120 :: hxD (c.toNat / 16) :: hxD (c.toNat % 16) :: r) = (c, 4) := by
  obtain ⟨h1, h2, h3⟩ := hex_all c.toNat c.toNat_lt
  rw [esc_step, if_neg (by decide)]
  show (if (120 : UInt8).toNat = 120 ∧ 0 ≤ hexB (hxD (c.toNat / 16)) ∧ 0 ≤ hexB (hxD (c.toNat % 16)) then (hexV (hexB (hxD (c.toNat / 16))) (hexB (hxD (c.toNat % 16))), 4) else (0, 0)) = _
  rw [if_pos ⟨by decide, h1, h2⟩, h3]
  simp
theorem esc_two (c : UInt8) (r : B8) (h : c.toNat = 92 ∨ c.toNat = 34) : escF (92 :: c :: r) = (c, 2) := by
  rw [esc_step, if_pos h]
theorem q_len (c : UInt8) : 1 ≤ (qB c).length := by
  unfold qB
  split
  · simp
  · split <;> simp
theorem qs_len (t : B8) : t.length ≤ (t.flatMap qB).length := by
  induction t with
  | nil => exact Nat.le_refl _
  | cons c t ih =>
    rw [List.flatMap_cons, List.length_append, List.length_cons]
    have := q_len c
    omega
theorem unq_quo (r : B8) : ∀ (t b : B8) (k : Nat), t.length < k → unqL k (t.flatMap qB ++ 34 :: r) b = if b.length + t.length ≤ 64 then some (b ++ t, (t.flatMap qB).length + 1) else none := by
  intro t
  induction t with
  | nil =>
    intro b k hk
    cases k with
    | zero => omega
    | succ k =>
      show (if 64 < b.length then none else if (34 : UInt8).toNat = 34 then some (b, 1) else _) = _
      by_cases h : 64 < b.length
      · rw [if_pos h, if_neg (by simp; omega)]
      · rw [if_neg h, if_pos (by decide), if_pos (by simp; omega)]
        simp
  | cons c t ih =>
    intro b k hk
    cases k with
    | zero => omega
    | succ k =>
      have hk : t.length < k := by simp at hk; omega
      have ih := ih (b ++ [c]) k hk
      have hl : (b ++ [c]).length + t.length = b.length + (c :: t).length := by simp; omega
      have ha : (b ++ [c]) ++ t = b ++ c :: t := by simp
      rw [hl, ha] at ih
      rw [List.flatMap_cons, List.append_assoc]
      by_cases h : 64 < b.length
      · rw [if_neg (by simp; omega)]
        have : ∃ d y, qB c ++ (t.flatMap qB ++ 34 :: r) = d :: y := by
          cases hq : qB c with
          | nil => have := q_len c; rw [hq] at this; simp at this
          | cons d y => exact ⟨d, _, rfl⟩
        obtain ⟨d, y, hd⟩ := this
        rw [hd, unq_step, if_pos h]
      · have key : ∀ (n : Nat) (e : Option (B8 × Nat)), e = (unqL k (t.flatMap qB ++ 34 :: r) (b ++ [c])).map (fun p => (p.1, p.2 + n)) → (qB c).length = n → e = if b.length + (c :: t).length ≤ 64 then some (b ++ c :: t, (qB c ++ t.flatMap qB).length + 1) else none := by
          intro n e he hn
          rw [he, ih]
          split
          · rw [List.length_append, hn]
            simp only [Option.map_some]
            congr 2
            omega
          · rfl
        by_cases h1 : c.toNat = 92 ∨ c.toNat = 34
        · have hq : qB c = [92, c] := by unfold qB; rw [if_pos h1]
          refine key 2 _ ?_ (by rw [hq]; rfl)
          rw [hq]
          show unqL (k + 1) (92 :: c :: (t.flatMap qB ++ 34 :: r)) b = _
          rw [unq_step, if_neg h, if_neg (by decide), if_pos (by decide), esc_two _ _ h1, if_neg (by simp)]
          rfl
        · by_cases h2 : plB c.toNat = true
          · have hq : qB c = [c] := by unfold qB; rw [if_neg h1, if_pos h2]
            refine key 1 _ ?_ (by rw [hq]; rfl)
            rw [hq]
            show unqL (k + 1) (c :: (t.flatMap qB ++ 34 :: r)) b = _
            rw [unq_step, if_neg h, if_neg (by omega), if_neg (by omega), if_pos h2]
          · have hq : qB c = [92, 120, hxD (c.toNat / 16), hxD (c.toNat % 16)] := by unfold qB; rw [if_neg h1, if_neg h2]
            refine key 4 _ ?_ (by rw [hq]; rfl)
            rw [hq]
            show unqL (k + 1) (92 :: 120 :: hxD (c.toNat / 16) :: hxD (c.toNat % 16) :: (t.flatMap qB ++ 34 :: r)) b = _
            rw [unq_step, if_neg h, if_neg (by decide), if_pos (by decide), esc_hex, if_neg (by simp)]
            rfl
theorem unqF_quo (t r : B8) : unqF (quoF t ++ r) = if t.length ≤ 64 then some (t, (quoF t).length) else none := by
  have e : quoF t ++ r = 34 :: (t.flatMap qB ++ 34 :: r) := by unfold quoF; simp
  rw [e]
  show (if (34 : UInt8).toNat = 34 then (unqL ((t.flatMap qB ++ 34 :: r).length + 1) (t.flatMap qB ++ 34 :: r) []).map _ else none) = _
  rw [if_pos (by decide), unq_quo r t [] _ (by have := qs_len t; rw [List.length_append]; omega)]
  simp only [List.length_nil, Nat.zero_add, List.nil_append]
  split
  · unfold quoF
    simp
  · rfl
theorem unq_few : ∀ (k : Nat) (r b : B8) (p : B8 × Nat), unqL k r b = some p → p.1.length ≤ 64
  | 0, _, _, _, h => by cases h
  | k + 1, [], _, _, h => by cases h
  | k + 1, c :: r, b, p, h => by
    unfold unqL at h
    split at h
    · cases h
    · rename_i hb
      split at h
      · injection h with h
        subst h
        show b.length ≤ 64
        omega
      · split at h
        · split at h
          · cases h
          · obtain ⟨q, hq, rfl⟩ := Option.map_eq_some_iff.1 h
            exact unq_few k _ _ q hq
        · split at h
          · obtain ⟨q, hq, rfl⟩ := Option.map_eq_some_iff.1 h
            exact unq_few k _ _ q hq
          · cases h
theorem unqF_few {x : B8} {p : B8 × Nat} (h : unqF x = some p) : p.1.length ≤ 64 := by
  unfold unqF at h
  split at h
  · cases h
  · split at h
    · obtain ⟨q, hq, rfl⟩ := Option.map_eq_some_iff.1 h
      exact unq_few _ _ _ q hq
    · cases h
theorem run_step (p : Nat → Bool) (c : UInt8) (l : B8) : runF p (c :: l) = if p c.toNat then runF p l + 1 else 0 := rfl
theorem fr_step (c : UInt8) (r : B8) (neg : Bool) : frsF (c :: r) neg = if letB c.toNat = true then wordF namF (c :: r) else
    if c.toNat = 34 then textF (c :: r) else
    if c.toNat = 45 then (if neg = true ∧ digB (r.headD 0).toNat = true then numF valF (c :: r) else signF (c :: r) 1) else
    if digB c.toNat = true then numF valF (c :: r) else
    if c.toNat = 33 then (if (r.headD 0).toNat = 61 then signF (c :: r) 2 else (tok0, 0)) else
    if c.toNat = 61 ∨ c.toNat = 60 ∨ c.toNat = 62 then (if (r.headD 0).toNat = 61 then signF (c :: r) 2 else signF (c :: r) 1) else
    if c.toNat ∈ signs then signF (c :: r) 1 else (tok0, 0) := rfl
def shw (x : Tok) : B8 := if x.1 = 3 then quoF x.2.1 else if x.1 = 2 then Lib.itoa x.2.2.1 else x.2.1
def Hd (l : B8) : Prop := ∃ c w, l = c :: w ∧ c.toNat ≠ 35 ∧ blB c.toNat = false
theorem run_take {p : Nat → Bool} {d : UInt8} (hd : p d.toNat = false) (r : B8) : ∀ x : B8, runF p (x.take (runF p x) ++ d :: r) = runF p x
  | [] => by
    show runF p (d :: r) = 0
    rw [run_step, if_neg (by rw [hd]; exact Bool.false_ne_true)]
  | c :: x => by
    rw [run_step p c x]
    by_cases h : p c.toNat = true
    · rw [if_pos h, List.take_succ_cons, List.cons_append, run_step, if_pos h, run_take hd r x]
    · rw [if_neg h]
      show runF p (d :: r) = 0
      rw [run_step, if_neg (by rw [hd]; exact Bool.false_ne_true)]
theorem hd_let {c : UInt8} (h : letB c.toNat = true) (w : B8) : Hd (c :: w) := by
  refine ⟨c, w, rfl, ?_, ?_⟩
  · intro e; rw [e] at h; revert h; decide
  · cases hb : blB c.toNat with
    | false => rfl
    | true =>
      exfalso
      unfold blB at hb
      simp at hb
      rcases hb with e | e | e | e <;> rw [e] at h <;> revert h <;> decide
theorem hd_dig {c : UInt8} (h : digB c.toNat = true) (w : B8) : Hd (c :: w) := by
  refine ⟨c, w, rfl, ?_, ?_⟩
  · intro e; rw [e] at h; revert h; decide
  · cases hb : blB c.toNat with
    | false => rfl
    | true =>
      exfalso
      unfold blB at hb
      simp at hb
      rcases hb with e | e | e | e <;> rw [e] at h <;> revert h <;> decide
theorem hd_num {c : UInt8} {n : Nat} (h : c.toNat = n) (h1 : n ≠ 35) (h2 : blB n = false) (w : B8) : Hd (c :: w) := ⟨c, w, rfl, by omega, by rw [h]; exact h2⟩
theorem tell_word {c : UInt8} {r0 : B8} (hl : letB c.toNat = true) (h : (wordF namF (c :: r0)).2 ≠ 0) (neg : Bool) (r : B8) :
    frsF (shw (wordF namF (c :: r0)).1 ++ 32 :: r) neg = ((wordF namF (c :: r0)).1, (shw (wordF namF (c :: r0)).1).length) ∧ Hd (shw (wordF namF (c :: r0)).1) := by
  have hw : wordB c.toNat = true := by unfold wordB; unfold letB at hl; rw [hl]; rfl
  have hr : runF wordB (c :: r0) = runF wordB r0 + 1 := by
    show (if wordB c.toNat = true then _ else _) = _
    rw [if_pos hw]
  have ht : (c :: r0).take (runF wordB (c :: r0)) = c :: r0.take (runF wordB r0) := by rw [hr, List.take_succ_cons]
  have hlen : ((c :: r0).take (runF wordB (c :: r0))).length = runF wordB (c :: r0) := List.length_take_of_le (run_le _ _)
  have hrun := run_take (p := wordB) (d := 32) (by decide) r (c :: r0)
  have hn : namF ((c :: r0).take (runF wordB (c :: r0))) = true := by
    cases hn : namF ((c :: r0).take (runF wordB (c :: r0))) with
    | true => rfl
    | false => exact absurd (by unfold wordF; rw [if_neg (by rw [hn]; exact Bool.false_ne_true)]) h
  have e : wordF namF (c :: r0) = ((1, (c :: r0).take (runF wordB (c :: r0)), 0, 0), runF wordB (c :: r0)) := by unfold wordF; rw [if_pos hn]
  rw [e]
  have es : shw ((1, (c :: r0).take (runF wordB (c :: r0)), 0, 0) : Tok) = (c :: r0).take (runF wordB (c :: r0)) := rfl
  show frsF (shw ((1, (c :: r0).take (runF wordB (c :: r0)), 0, 0) : Tok) ++ 32 :: r) neg = ((1, (c :: r0).take (runF wordB (c :: r0)), 0, 0), (shw ((1, (c :: r0).take (runF wordB (c :: r0)), 0, 0) : Tok)).length) ∧ Hd (shw ((1, (c :: r0).take (runF wordB (c :: r0)), 0, 0) : Tok))
  rw [es]
  refine ⟨?_, by rw [ht]; exact hd_let hl _⟩
  have e2 : frsF ((c :: r0).take (runF wordB (c :: r0)) ++ 32 :: r) neg = wordF namF ((c :: r0).take (runF wordB (c :: r0)) ++ 32 :: r) := by
    rw [ht, List.cons_append, fr_step, if_pos hl]
  rw [e2]
  unfold wordF
  have e3 : ((c :: r0).take (runF wordB (c :: r0)) ++ 32 :: r).take (runF wordB (c :: r0)) = (c :: r0).take (runF wordB (c :: r0)) := by
    rw [List.take_append_of_le_length (by omega), List.take_of_length_le (by omega)]
  rw [hrun, e3, if_pos hn, hlen]
theorem tell_text {c : UInt8} {r0 : B8} (hc : c.toNat = 34) (h : (textF (c :: r0)).2 ≠ 0) (neg : Bool) (r : B8) :
    frsF (shw (textF (c :: r0)).1 ++ 32 :: r) neg = ((textF (c :: r0)).1, (shw (textF (c :: r0)).1).length) ∧ Hd (shw (textF (c :: r0)).1) := by
  cases hq : unqF (c :: r0) with
  | none => exact absurd (by unfold textF; rw [hq]) h
  | some p =>
    have h0 : p.2 ≠ 0 := fun h0 => absurd (by unfold textF; rw [hq]; show (if p.2 = 0 then (tok0, 0) else _).2 = 0; rw [if_pos h0]) h
    have e : textF (c :: r0) = ((3, p.1, 0, 0), p.2) := by unfold textF; rw [hq]; show (if p.2 = 0 then (tok0, 0) else _) = _; rw [if_neg h0]
    rw [e]
    show frsF (quoF p.1 ++ 32 :: r) neg = ((3, p.1, 0, 0), (quoF p.1).length) ∧ Hd (quoF p.1)
    refine ⟨?_, ⟨34, _, rfl, by decide, by decide⟩⟩
    have hf : frsF (quoF p.1 ++ 32 :: r) neg = textF (quoF p.1 ++ 32 :: r) := by
      show frsF (34 :: (p.1.flatMap qB ++ [34] ++ 32 :: r)) neg = _
      rw [fr_step, if_neg (by decide), if_pos (by decide)]
      rfl
    rw [hf]
    unfold textF
    rw [unqF_quo, if_pos (unqF_few hq)]
    show (if (quoF p.1).length = 0 then (tok0, 0) else _) = _
    rw [if_neg (by unfold quoF; simp)]
theorem tell_num {c : UInt8} {r0 : B8} {neg : Bool} (hc : (c.toNat = 45 ∧ neg = true ∧ digB (r0.headD 0).toNat = true) ∨ digB c.toNat = true) (h : (numF valF (c :: r0)).2 ≠ 0) (r : B8) :
    frsF (shw (numF valF (c :: r0)).1 ++ 32 :: r) neg = ((numF valF (c :: r0)).1, (shw (numF valF (c :: r0)).1).length) ∧ Hd (shw (numF valF (c :: r0)).1) := by
  have hd : digN (c :: r0) = 1 + runF digB r0 := rfl
  have hle := run_le digB r0
  have ht : (c :: r0).take (digN (c :: r0)) = c :: r0.take (runF digB r0) := by rw [hd, Nat.add_comm, List.take_succ_cons]
  have hno : ¬ (digN (c :: r0) < (c :: r0).length ∧ letB (((c :: r0).getD (digN (c :: r0)) 0).toNat) = true) := fun hh => absurd (by unfold numF; rw [if_pos hh]) h
  cases hv : valF ((c :: r0).take (digN (c :: r0))) with
  | none => exact absurd (by unfold numF; rw [if_neg hno, hv]) h
  | some v =>
    have e : numF valF (c :: r0) = ((2, (c :: r0).take (digN (c :: r0)), v, 0), digN (c :: r0)) := by unfold numF; rw [if_neg hno, hv]
    have hi : Lib.itoa v = (c :: r0).take (digN (c :: r0)) := by
      unfold valF at hv
      split at hv
      · split at hv
        · rename_i u hu hi
          injection hv with hv
          rw [← hv]
          exact hi
        · cases hv
      · cases hv
    rw [e]
    show frsF (Lib.itoa v ++ 32 :: r) neg = ((2, (c :: r0).take (digN (c :: r0)), v, 0), (Lib.itoa v).length) ∧ Hd (Lib.itoa v)
    rw [hi]
    have hy : ((c :: r0).take (digN (c :: r0))).length = digN (c :: r0) := List.length_take_of_le (by rw [hd, List.length_cons]; omega)
    have hf : frsF ((c :: r0).take (digN (c :: r0)) ++ 32 :: r) neg = numF valF ((c :: r0).take (digN (c :: r0)) ++ 32 :: r) ∧ Hd ((c :: r0).take (digN (c :: r0))) := by
      rw [ht, List.cons_append]
      rcases hc with ⟨h1, h2, h3⟩ | h1
      · refine ⟨?_, hd_num h1 (by decide) (by decide) _⟩
        have hq : digB ((r0.take (runF digB r0) ++ 32 :: r).headD 0).toNat = true := by
          cases r0 with
          | nil => exact absurd h3 (by decide)
          | cons d r1 =>
            have h3' : digB d.toNat = true := h3
            rw [run_step, if_pos h3', List.take_succ_cons]
            exact h3
        rw [fr_step, if_neg (by rw [h1]; decide), if_neg (by omega), if_pos h1, if_pos ⟨h2, hq⟩]
      · refine ⟨?_, hd_dig h1 _⟩
        have hn : ¬ letB c.toNat = true := by
          unfold digB at h1; unfold letB lowB; simp at h1 ⊢; omega
        have hn2 : c.toNat ≠ 34 ∧ c.toNat ≠ 45 := by unfold digB at h1; simp at h1; omega
        rw [fr_step, if_neg hn, if_neg hn2.1, if_neg hn2.2, if_pos h1]
    refine ⟨?_, hf.2⟩
    rw [hf.1]
    have hdn : digN ((c :: r0).take (digN (c :: r0)) ++ 32 :: r) = digN (c :: r0) := by
      rw [ht, List.cons_append]
      show 1 + runF digB (r0.take (runF digB r0) ++ 32 :: r) = _
      rw [run_take (by decide)]
      rfl
    have e3 : ((c :: r0).take (digN (c :: r0)) ++ 32 :: r).take (digN (c :: r0)) = (c :: r0).take (digN (c :: r0)) := by
      rw [List.take_append_of_le_length (by omega), List.take_of_length_le (by omega)]
    have hg : ((c :: r0).take (digN (c :: r0)) ++ 32 :: r).getD (digN (c :: r0)) 0 = 32 := by
      rw [List.getD_eq_getElem?_getD, List.getElem?_append_right (by omega), hy, Nat.sub_self]
      rfl
    unfold numF
    rw [hdn, if_neg (by rw [hg]; rintro ⟨-, h⟩; revert h; decide), e3, hv, hy]
theorem tell_one {c : UInt8} {r0 : B8} {neg : Bool} (h : frsF (c :: r0) neg = signF (c :: r0) 1) (hl : ¬ letB c.toNat = true) (hq : c.toNat ≠ 34) (hd : ¬ digB c.toNat = true) (h33 : c.toNat ≠ 33) (hc : c.toNat = 45 ∨ c.toNat = 61 ∨ c.toNat = 60 ∨ c.toNat = 62 ∨ c.toNat ∈ signs) (r : B8) :
    frsF (shw (signF (c :: r0) 1).1 ++ 32 :: r) neg = ((signF (c :: r0) 1).1, (shw (signF (c :: r0) 1).1).length) ∧ Hd (shw (signF (c :: r0) 1).1) := by
  show frsF (c :: 32 :: r) neg = ((4, [c], 0, 0), 1) ∧ Hd [c]
  have h32 : ¬ digB ((32 :: r : B8).headD 0).toNat = true := by show ¬ digB 32 = true; decide
  have h61 : ¬ ((32 :: r : B8).headD 0).toNat = 61 := by show ¬ (32 = 61); decide
  have hb : c.toNat ≠ 35 ∧ blB c.toNat = false := by
    have : c.toNat = 45 ∨ c.toNat = 61 ∨ c.toNat = 60 ∨ c.toNat = 62 ∨ c.toNat = 43 ∨ c.toNat = 42 ∨ c.toNat = 40 ∨ c.toNat = 41 ∨ c.toNat = 123 ∨ c.toNat = 125 ∨ c.toNat = 91 ∨ c.toNat = 93 ∨ c.toNat = 44 ∨ c.toNat = 58 := by simpa [signs] using hc
    rcases this with e | e | e | e | e | e | e | e | e | e | e | e | e | e <;> rw [e] <;> decide
  refine ⟨?_, ⟨c, [], rfl, hb.1, hb.2⟩⟩
  rw [fr_step, if_neg hl, if_neg hq]
  by_cases h1 : c.toNat = 45
  · rw [if_pos h1, if_neg (fun h => h32 h.2)]; rfl
  · rw [if_neg h1, if_neg hd, if_neg h33]
    by_cases h2 : c.toNat = 61 ∨ c.toNat = 60 ∨ c.toNat = 62
    · rw [if_pos h2, if_neg h61]; rfl
    · rw [if_neg h2, if_pos (by rcases hc with e | e | e | e | e <;> first | exact e | (exfalso; omega))]; rfl
theorem tell_two {c : UInt8} {r0 : B8} {neg : Bool} (hc : c.toNat = 33 ∨ c.toNat = 61 ∨ c.toNat = 60 ∨ c.toNat = 62) (he : (r0.headD 0).toNat = 61) (r : B8) :
    frsF (shw (signF (c :: r0) 2).1 ++ 32 :: r) neg = ((signF (c :: r0) 2).1, (shw (signF (c :: r0) 2).1).length) ∧ Hd (shw (signF (c :: r0) 2).1) := by
  cases r0 with
  | nil => exact absurd he (by decide)
  | cons d r1 =>
    show frsF (c :: d :: 32 :: r) neg = ((4, [c, d], 0, 0), 2) ∧ Hd [c, d]
    have hd : ((d :: 32 :: r : B8).headD 0).toNat = 61 := he
    have hb : letB c.toNat = false ∧ digB c.toNat = false ∧ c.toNat ≠ 35 ∧ blB c.toNat = false ∧ c.toNat ≠ 34 ∧ c.toNat ≠ 45 := by
      rcases hc with e | e | e | e <;> rw [e] <;> decide
    obtain ⟨b1, b2, b3, b4, b5, b6⟩ := hb
    refine ⟨?_, ⟨c, [d], rfl, b3, b4⟩⟩
    rw [fr_step, if_neg (by rw [b1]; exact Bool.false_ne_true), if_neg b5, if_neg b6, if_neg (by rw [b2]; exact Bool.false_ne_true)]
    by_cases h : c.toNat = 33
    · rw [if_pos h, if_pos hd]; rfl
    · rw [if_neg h, if_pos (by omega), if_pos hd]; rfl
theorem tell_first (x : B8) (neg : Bool) (h : (frsF x neg).2 ≠ 0) (r : B8) : frsF (shw (frsF x neg).1 ++ 32 :: r) neg = ((frsF x neg).1, (shw (frsF x neg).1).length) ∧ Hd (shw (frsF x neg).1) := by
  cases x with
  | nil => exact absurd rfl h
  | cons c r0 =>
    by_cases h1 : letB c.toNat = true
    · have e : frsF (c :: r0) neg = wordF namF (c :: r0) := by rw [fr_step, if_pos h1]
      rw [e] at h ⊢
      exact tell_word h1 h neg r
    by_cases h2 : c.toNat = 34
    · have e : frsF (c :: r0) neg = textF (c :: r0) := by rw [fr_step, if_neg h1, if_pos h2]
      rw [e] at h ⊢
      exact tell_text h2 h neg r
    by_cases h3 : c.toNat = 45
    · have hd : ¬ digB c.toNat = true := by rw [h3]; decide
      by_cases h4 : neg = true ∧ digB (r0.headD 0).toNat = true
      · have e : frsF (c :: r0) neg = numF valF (c :: r0) := by rw [fr_step, if_neg h1, if_neg h2, if_pos h3, if_pos h4]
        rw [e] at h ⊢
        exact tell_num (.inl ⟨h3, h4⟩) h r
      · have e : frsF (c :: r0) neg = signF (c :: r0) 1 := by rw [fr_step, if_neg h1, if_neg h2, if_pos h3, if_neg h4]
        have := tell_one e h1 h2 hd (by omega) (.inl h3) r
        rwa [e]
    by_cases h4 : digB c.toNat = true
    · have e : frsF (c :: r0) neg = numF valF (c :: r0) := by rw [fr_step, if_neg h1, if_neg h2, if_neg h3, if_pos h4]
      rw [e] at h ⊢
      exact tell_num (.inr h4) h r
    by_cases h5 : c.toNat = 33
    · by_cases h6 : (r0.headD 0).toNat = 61
      · have e : frsF (c :: r0) neg = signF (c :: r0) 2 := by rw [fr_step, if_neg h1, if_neg h2, if_neg h3, if_neg h4, if_pos h5, if_pos h6]
        have := tell_two (neg := neg) (.inl h5) h6 r
        rwa [e]
      · exact absurd (by rw [fr_step, if_neg h1, if_neg h2, if_neg h3, if_neg h4, if_pos h5, if_neg h6]) h
    by_cases h6 : c.toNat = 61 ∨ c.toNat = 60 ∨ c.toNat = 62
    · by_cases h7 : (r0.headD 0).toNat = 61
      · have e : frsF (c :: r0) neg = signF (c :: r0) 2 := by rw [fr_step, if_neg h1, if_neg h2, if_neg h3, if_neg h4, if_neg h5, if_pos h6, if_pos h7]
        have := tell_two (neg := neg) (.inr h6) h7 r
        rwa [e]
      · have e : frsF (c :: r0) neg = signF (c :: r0) 1 := by rw [fr_step, if_neg h1, if_neg h2, if_neg h3, if_neg h4, if_neg h5, if_pos h6, if_neg h7]
        have := tell_one e h1 h2 h4 h5 (by omega) r
        rwa [e]
    · by_cases h7 : c.toNat ∈ signs
      · have e : frsF (c :: r0) neg = signF (c :: r0) 1 := by rw [fr_step, if_neg h1, if_neg h2, if_neg h3, if_neg h4, if_neg h5, if_neg h6, if_pos h7]
        have := tell_one e h1 h2 h4 h5 (.inr (.inr (.inr (.inr h7)))) r
        rwa [e]
      · exact absurd (by rw [fr_step, if_neg h1, if_neg h2, if_neg h3, if_neg h4, if_neg h5, if_neg h6, if_neg h7]) h
def joinT : List Tok → B8
  | [] => []
  | [x] => shw x
  | x :: y :: l => shw x ++ 32 :: joinT (y :: l)
theorem joinT_cons (x : Tok) {l : List Tok} (h : l ≠ []) : joinT (x :: l) = shw x ++ 32 :: joinT l := by
  cases l with
  | nil => exact absurd rfl h
  | cons y l => rfl
def Alike (a b : List Tok) : Prop := a.length = b.length ∧ ∀ (k : Nat) (x y : Tok), a[k]? = some x → b[k]? = some y → x.1 = y.1 ∧ x.2.1 = y.2.1 ∧ x.2.2.1 = y.2.2.1
theorem alike_cons {a b : List Tok} {x y : Tok} (h : Alike a b) (h1 : x.1 = y.1 ∧ x.2.1 = y.2.1 ∧ x.2.2.1 = y.2.2.1) : Alike (x :: a) (y :: b) := by
  refine ⟨by rw [List.length_cons, List.length_cons, h.1], fun k u v hu hv => ?_⟩
  cases k with
  | zero => injection hu with hu; injection hv with hv; rw [← hu, ← hv]; exact h1
  | succ k => exact h.2 k u v hu hv
theorem shw_alike {x y : Tok} (h : x.1 = y.1 ∧ x.2.1 = y.2.1 ∧ x.2.2.1 = y.2.2.1) : shw x = shw y := by unfold shw; rw [h.1, h.2.1, h.2.2]
theorem joinT_alike : ∀ {a b : List Tok}, Alike a b → joinT a = joinT b
  | [], [], _ => rfl
  | [], _ :: _, h => by cases h.1
  | _ :: _, [], h => by cases h.1
  | [x], [y], h => shw_alike (h.2 0 x y rfl rfl)
  | [x], y :: z :: b, h => by have := h.1; simp at this
  | x :: z :: a, [y], h => by have := h.1; simp at this
  | x :: z :: a, y :: u :: b, h => by
    have h' : Alike (z :: a) (u :: b) := ⟨by have := h.1; simpa using this, fun k p q hp hq => h.2 (k + 1) p q hp hq⟩
    show shw x ++ 32 :: joinT (z :: a) = shw y ++ 32 :: joinT (u :: b)
    rw [shw_alike (h.2 0 x y rfl rfl), joinT_alike h']
theorem neg_put {l l' : List Tok} (x : Tok) (i j : Nat) : negF conF (l ++ [putAt x i]) = negF conF (l' ++ [putAt x j]) := by
  unfold negF
  rw [List.getLast?_append, List.getLast?_append]
  rfl
theorem hd_skip {l : B8} (h : Hd l) (r : B8) : skipF false (l ++ r) = 0 := by
  obtain ⟨c, w, rfl, h1, h2⟩ := h
  show (if c.toNat = 35 then _ else if blB c.toNat = true then _ else 0) = 0
  rw [if_neg h1, if_neg (by rw [h2]; exact Bool.false_ne_true)]
def Back (s : B8) (l a : List Tok) : Prop := ∀ (P : B8) (l' : List Tok), negF conF l' = negF conF l → ∃ q q', a = l ++ q ∧ q ≠ [] ∧ Lexes frsF conF (P ++ joinT q) P.length l' (l' ++ q') ∧ Alike q q' ∧ skipF false (joinT q) = 0
theorem back_step {s : B8} {i : Nat} {l a : List Tok} {x : Tok} (ht : ∀ r, frsF (shw x ++ 32 :: r) (negF conF l) = (x, (shw x).length) ∧ Hd (shw x)) (ih : Back s (l ++ [putAt x i]) a) : Back s l a := by
  intro P l' hneg
  obtain ⟨q, q', h1, h2, h3, h4, h5⟩ := ih (P ++ shw x ++ [32]) (l' ++ [putAt x P.length]) (neg_put x _ _)
  have hs : shw (putAt x i) = shw x := rfl
  have hj : joinT (putAt x i :: q) = shw x ++ 32 :: joinT q := joinT_cons _ h2
  have hJ : P ++ joinT (putAt x i :: q) = P ++ shw x ++ [32] ++ joinT q := by rw [hj]; simp
  refine ⟨putAt x i :: q, putAt x P.length :: q', by rw [h1]; simp, by simp, ?_, alike_cons h4 ⟨rfl, rfl, rfl⟩, by rw [hj]; exact hd_skip (ht []).2 _⟩
  have hd : (P ++ joinT (putAt x i :: q)).drop P.length = shw x ++ 32 :: joinT q := by rw [hj, List.drop_left]
  have hF : frsF ((P ++ joinT (putAt x i :: q)).drop P.length) (negF conF l') = (x, (shw x).length) := by rw [hd, hneg]; exact (ht _).1
  obtain ⟨c, w, hcw, -⟩ := (ht []).2
  have hp : 0 < (shw x).length := by rw [hcw]; simp
  refine .step (by rw [hj, List.length_append, List.length_append]; omega) (by rw [hF]; show (shw x).length ≠ 0; omega) ?_
  rw [hF]
  have hnx : nxF (P ++ joinT (putAt x i :: q)) P.length (shw x).length = (P ++ shw x ++ [32]).length := by
    unfold nxF
    have hd2 : (P ++ joinT (putAt x i :: q)).drop (P.length + (shw x).length) = 32 :: joinT q := by
      rw [← List.drop_drop, hd, List.drop_left]
    rw [hd2]
    have : skipF false (32 :: joinT q) = skipF false (joinT q) + 1 := rfl
    rw [this, h5]
    simp
    omega
  show Lexes frsF conF (P ++ joinT (putAt x i :: q)) (nxF _ P.length (shw x).length) (l' ++ [putAt x P.length]) (l' ++ putAt x P.length :: q')
  rw [hnx, hJ]
  have : l' ++ putAt x P.length :: q' = l' ++ [putAt x P.length] ++ q' := by simp
  rw [this]
  exact h3
theorem back_any {s : B8} {i : Nat} {l a : List Tok} (h : Lexes frsF conF s i l a) : Back s l a := by
  induction h with
  | done h =>
    rename_i i l
    intro P l' hn
    refine ⟨[endT s.length], [endT (P ++ joinT [endT s.length]).length], rfl, by simp, .done (by show (P ++ []).length ≤ _; rw [List.append_nil]; exact Nat.le_refl _), ⟨rfl, fun k x y hx hy => ?_⟩, rfl⟩
    cases k with
    | zero => injection hx with hx; injection hy with hy; subst hx hy; exact ⟨rfl, rfl, rfl⟩
    | succ k => cases hx
  | step h hn g ih => exact back_step (tell_first _ _ hn) ih
theorem all_back {s : B8} {a : List Tok} (h : allF frsF conF s = .ok a) : ∃ b, allF frsF conF (joinT a) = .ok b ∧ Alike a b := by
  obtain ⟨q, q', h1, h2, h3, h4, h5⟩ := back_any (lexes_of _ _ _ _ h) [] [] rfl
  rw [List.nil_append] at h1 h3
  subst h1
  refine ⟨q', ?_, h4⟩
  unfold allF
  rw [h5]
  exact of_lexes h3 _ (by omega) (by simp)
theorem tks_alike : ∀ {a b : List Tok}, Alike a b → tksB false a b = true
  | [], [], _ => rfl
  | [], _ :: _, h => by cases h.1
  | _ :: _, [], h => by cases h.1
  | x :: a, y :: b, h => by
    have h' : Alike a b := ⟨by have := h.1; simpa using this, fun k p q hp hq => h.2 (k + 1) p q hp hq⟩
    obtain ⟨e1, e2, e3⟩ := h.2 0 x y rfl rfl
    unfold tksB
    rw [tks_alike h', e1, e2, e3]
    simp
def Rise (l : List Tok) : Prop := ∀ k x y, l[k]? = some x → l[k + 1]? = some y → x.2.2.2 < y.2.2.2
theorem rise_snoc {l : List Tok} {z : Tok} (h : Rise l) (hl : ∀ x, l.getLast? = some x → x.2.2.2 < z.2.2.2) : Rise (l ++ [z]) := by
  intro k x y hx hy
  have hk : k + 1 < (l ++ [z]).length := (List.getElem?_eq_some_iff.1 hy).1
  rw [List.length_append, List.length_singleton] at hk
  rw [List.getElem?_append_left (by omega)] at hx
  by_cases hk2 : k + 1 < l.length
  · rw [List.getElem?_append_left hk2] at hy
    exact h k x y hx hy
  · have e : k + 1 = l.length := by omega
    rw [e, List.getElem?_append_right (Nat.le_refl _), Nat.sub_self] at hy
    injection hy with hy
    subst hy
    refine hl x ?_
    rw [List.getLast?_eq_getElem?, show l.length - 1 = k by omega]
    exact hx
theorem rises {s : B8} {i : Nat} {l a : List Tok} (h : Lexes frsF conF s i l a) : Rise l → (∀ x, l.getLast? = some x → x.2.2.2 < (i : Int) ∧ x.2.2.2 < (s.length : Int)) → Rise a ∧ a.getLast? = some (endT s.length) := by
  induction h with
  | done h =>
    intro hr hl
    exact ⟨rise_snoc hr (fun x hx => (hl x hx).2), by rw [List.getLast?_append]; rfl⟩
  | step h hn g ih =>
    rename_i i l a
    intro hr hl
    refine ih (rise_snoc hr (fun x hx => (hl x hx).1)) (fun x hx => ?_)
    rw [List.getLast?_append] at hx
    injection hx with hx
    subst hx
    show (Int.ofNat i : Int) < _ ∧ (Int.ofNat i : Int) < _
    have : 0 < (frsF (s.drop i) (negF conF l)).2 := by omega
    unfold nxF
    constructor
    · show (i : Int) < ((i + (frsF (s.drop i) (negF conF l)).2 + _ : Nat) : Int); omega
    · show (i : Int) < (s.length : Int); omega
theorem all_rises {s : B8} {a : List Tok} (h : allF frsF conF s = .ok a) : Rise a ∧ a.getLast? = some (endT s.length) :=
  rises (lexes_of _ _ _ _ h) (fun k x y hx => by cases hx) (fun x hx => by cases hx)
theorem err_lt {s : B8} : ∀ (k i : Nat) (l : List Tok) (j : Nat), 0 < k → s.length < i + k → allL frsF conF s k i l = .error j → j < s.length
  | 0, i, l, j, h0, hk, h => by omega
  | k + 1, i, l, j, h0, hk, h => by
    unfold allL at h
    split at h
    · rename_i hi
      split at h
      · injection h with h; omega
      · refine err_lt k _ _ _ (by omega) ?_ h
        unfold nxF
        omega
    · cases h
theorem all_err {s : B8} {j : Nat} (h : allF frsF conF s = .error j) : j < s.length := err_lt _ _ _ _ (by omega) (by omega) h
theorem frs_txt (x : B8) (neg : Bool) : (frsF x neg).1.2.1.length ≤ x.length + 64 := by
  cases x with
  | nil => exact Nat.zero_le _
  | cons c r =>
    have tk : ∀ n, ((c :: r).take n).length ≤ (c :: r).length + 64 := fun n => by rw [List.length_take]; omega
    have w : (wordF namF (c :: r)).1.2.1.length ≤ (c :: r).length + 64 := by
      unfold wordF
      split
      · exact tk _
      · exact Nat.zero_le _
    have q : (textF (c :: r)).1.2.1.length ≤ (c :: r).length + 64 := by
      unfold textF
      split
      · rename_i p hp
        split
        · exact Nat.zero_le _
        · have := unqF_few hp
          show p.1.length ≤ _
          omega
      · exact Nat.zero_le _
    have n : (numF valF (c :: r)).1.2.1.length ≤ (c :: r).length + 64 := by
      unfold numF
      split
      · exact Nat.zero_le _
      · split
        · exact tk _
        · exact Nat.zero_le _
    rw [fr_step]
    repeat' split
    all_goals first | exact w | exact q | exact n | exact tk _ | exact Nat.zero_le _
theorem lex_txt {s : B8} {i : Nat} {l a : List Tok} (h : Lexes frsF conF s i l a) : (∀ x, x ∈ l → x.2.1.length ≤ s.length + 64) → ∀ x, x ∈ a → x.2.1.length ≤ s.length + 64 := by
  induction h with
  | done h =>
    intro hl x hx
    rcases List.mem_append.1 hx with h1 | h1
    · exact hl x h1
    · rw [List.mem_singleton.1 h1]; exact Nat.zero_le _
  | step h hn g ih =>
    rename_i i l a
    intro hl
    refine ih (fun x hx => ?_)
    rcases List.mem_append.1 hx with h1 | h1
    · exact hl x h1
    · rw [List.mem_singleton.1 h1]
      have := frs_txt (s.drop i) (negF conF l)
      rw [List.length_drop] at this
      show (frsF (s.drop i) (negF conF l)).1.2.1.length ≤ _
      omega
theorem all_txt {s : B8} {a : List Tok} (h : allF frsF conF s = .ok a) : ∀ x, x ∈ a → x.2.1.length ≤ s.length + 64 := lex_txt (lexes_of _ _ _ _ h) (fun x hx => by cases hx)
end Go.Proofs.YtaepplhgeeaidaaDoor
