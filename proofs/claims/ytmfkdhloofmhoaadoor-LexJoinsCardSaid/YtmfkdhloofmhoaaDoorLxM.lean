import Derived.Test.YtmfkdhloofmhoaaDoorLtM
import Derived.Lib.Bytealg
set_option linter.unusedVariables false
namespace Go.Proofs.YtmfkdhloofmhoaaDoor
open Go Ev
abbrev B8 := List UInt8
abbrev Tok := Int × B8 × Int × Int
def tx (l : B8) : ByteArray := ⟨⟨l⟩⟩
def tok0 : Tok := (0, [], 0, 0)
def wordB (c : Nat) : Bool := (lowB c || c == 95) || digB c
def letB (c : Nat) : Bool := lowB c || c == 95
def blB (c : Nat) : Bool := c == 32 || (c == 9 || (c == 10 || c == 13))
def runF (p : Nat → Bool) : B8 → Nat
  | [] => 0
  | c :: l => if p c.toNat then runF p l + 1 else 0
def skipF : Bool → B8 → Nat
  | _, [] => 0
  | true, c :: l => if c.toNat = 10 then skipF false l + 1 else skipF true l + 1
  | false, c :: l => if c.toNat = 35 then skipF true l + 1 else if blB c.toNat then skipF false l + 1 else 0
theorem run_le (p : Nat → Bool) : ∀ l, runF p l ≤ l.length
  | [] => Nat.le_refl _
  | c :: l => by
    unfold runF
    split
    · have := run_le p l
      simp only [List.length_cons]; omega
    · exact Nat.zero_le _
theorem skip_le : ∀ (l : B8) (b : Bool), skipF b l ≤ l.length
  | [], b => by cases b <;> exact Nat.le_refl _
  | c :: l, b => by
    have h1 := skip_le l true
    have h2 := skip_le l false
    cases b <;> unfold skipF <;> simp only [List.length_cons] <;> split <;> try omega
    split <;> omega
theorem run_app {p : Nat → Bool} (hp : p 10 = false) (t : B8) : ∀ x, runF p (x ++ 10 :: t) = runF p x
  | [] => by
    show (if p 10 = true then _ else _) = _
    rw [hp]
    rfl
  | c :: l => by
    have e : runF p (c :: l ++ 10 :: t) = if p c.toNat then runF p (l ++ 10 :: t) + 1 else 0 := rfl
    rw [e, run_app hp t l]
    rfl
theorem skip_app (t : B8) : ∀ (x : B8) (b : Bool), skipF b (x ++ 10 :: t) = if skipF b x < x.length then skipF b x else x.length + 1 + skipF false t
  | [], b => by
    cases b
    · show (if (10 : UInt8).toNat = 35 then _ else if blB (10 : UInt8).toNat = true then _ else _) = _
      rw [if_neg (by decide), if_pos (by decide), if_neg (by decide)]
      simp only [List.length_nil]; omega
    · show (if (10 : UInt8).toNat = 10 then _ else _) = _
      rw [if_pos (by decide), if_neg (by decide)]
      simp only [List.length_nil]; omega
  | c :: l, b => by
    have h1 := skip_app t l true
    have h2 := skip_app t l false
    cases b
    · show (if c.toNat = 35 then skipF true (l ++ 10 :: t) + 1 else if blB c.toNat = true then skipF false (l ++ 10 :: t) + 1 else 0) = _
      have e : skipF false (c :: l) = (if c.toNat = 35 then skipF true l + 1 else if blB c.toNat = true then skipF false l + 1 else 0) := rfl
      rw [h1, h2, e]
      simp only [List.length_cons]
      by_cases k1 : c.toNat = 35
      · rw [if_pos k1, if_pos k1]
        by_cases k2 : skipF true l < l.length
        · rw [if_pos k2, if_pos (by omega)]
        · rw [if_neg k2, if_neg (by omega)]; omega
      · rw [if_neg k1, if_neg k1]
        by_cases k3 : blB c.toNat = true
        · rw [if_pos k3, if_pos k3]
          by_cases k2 : skipF false l < l.length
          · rw [if_pos k2, if_pos (by omega)]
          · rw [if_neg k2, if_neg (by omega)]; omega
        · rw [if_neg k3, if_neg k3, if_pos (by omega)]
    · show (if c.toNat = 10 then skipF false (l ++ 10 :: t) + 1 else skipF true (l ++ 10 :: t) + 1) = _
      have e : skipF true (c :: l) = (if c.toNat = 10 then skipF false l + 1 else skipF true l + 1) := rfl
      rw [h1, h2, e]
      simp only [List.length_cons]
      by_cases k1 : c.toNat = 10
      · rw [if_pos k1, if_pos k1]
        by_cases k2 : skipF false l < l.length
        · rw [if_pos k2, if_pos (by omega)]
        · rw [if_neg k2, if_neg (by omega)]; omega
      · rw [if_neg k1, if_neg k1]
        by_cases k2 : skipF true l < l.length
        · rw [if_pos k2, if_pos (by omega)]
        · rw [if_neg k2, if_neg (by omega)]; omega
def hexB (c : UInt8) : Int := Lib.indexByte [48, 49, 50, 51, 52, 53, 54, 55, 56, 57, 97, 98, 99, 100, 101, 102] c
def hexV (a b : Int) : UInt8 := UInt8.ofNat (wrapA .u8 (wrapA .i64 (wrapA .i64 (16 * a) + b))).toNat
def escF : B8 → UInt8 × Nat
  | _ :: c :: r => if c.toNat = 92 ∨ c.toNat = 34 then (c, 2) else match r with
    | h :: l :: _ => if c.toNat = 120 ∧ 0 ≤ hexB h ∧ 0 ≤ hexB l then (hexV (hexB h) (hexB l), 4) else (0, 0)
    | _ => (0, 0)
  | _ => (0, 0)
def plB (c : Nat) : Bool := !(decide (c < 32)) && (!(decide (126 < c)) && (!(c == 92) && !(c == 34)))
def unqL : Nat → B8 → B8 → Option (B8 × Nat)
  | 0, _, _ => none
  | _ + 1, [], _ => none
  | k + 1, c :: r, b => if 64 < b.length then none else
    if c.toNat = 34 then some (b, 1) else
    if c.toNat = 92 then (if (escF (c :: r)).2 = 0 then none else (unqL k ((c :: r).drop (escF (c :: r)).2) (b ++ [(escF (c :: r)).1])).map fun p => (p.1, p.2 + (escF (c :: r)).2)) else
    if plB c.toNat = true then (unqL k r (b ++ [c])).map fun p => (p.1, p.2 + 1) else none
def unqF : B8 → Option (B8 × Nat)
  | [] => none
  | c :: r => if c.toNat = 34 then (unqL (r.length + 1) r []).map fun p => (p.1, p.2 + 1) else none
theorem esc_le (l : B8) : (escF l).2 ≤ l.length := by
  unfold escF
  split
  · rename_i c r
    split
    · simp only [List.length_cons]; omega
    · split
      · split
        · simp only [List.length_cons]; omega
        · exact Nat.zero_le _
      · exact Nat.zero_le _
  · exact Nat.zero_le _
theorem esc_app (t : B8) (l : B8) (h : (escF l).2 ≠ 0) : escF (l ++ t) = escF l := by
  revert h
  rcases l with _ | ⟨a, _ | ⟨c, _ | ⟨x, _ | ⟨y, l⟩⟩⟩⟩
  · intro h; exact absurd rfl h
  · intro h; exact absurd rfl h
  · intro h
    have e : escF [a, c] = if c.toNat = 92 ∨ c.toNat = 34 then (c, 2) else (0, 0) := rfl
    by_cases k : c.toNat = 92 ∨ c.toNat = 34
    · rw [e, if_pos k]
      show (if c.toNat = 92 ∨ c.toNat = 34 then _ else _) = _
      rw [if_pos k]
    · rw [e, if_neg k] at h; exact absurd rfl h
  · intro h
    have e : escF [a, c, x] = if c.toNat = 92 ∨ c.toNat = 34 then (c, 2) else (0, 0) := rfl
    by_cases k : c.toNat = 92 ∨ c.toNat = 34
    · rw [e, if_pos k]
      show (if c.toNat = 92 ∨ c.toNat = 34 then _ else _) = _
      rw [if_pos k]
    · rw [e, if_neg k] at h; exact absurd rfl h
  · intro _; rfl
theorem unq_mono : ∀ (k m : Nat) (r b : B8) (p : B8 × Nat), unqL k r b = some p → k ≤ m → unqL m r b = some p
  | 0, _, _, _, _, h, _ => by cases h
  | k + 1, 0, _, _, _, _, hm => absurd hm (by omega)
  | k + 1, m + 1, [], b, p, h, hm => by cases h
  | k + 1, m + 1, c :: r, b, p, h, hm => by
    have ih := unq_mono k m
    revert h
    show (if 64 < b.length then none else if c.toNat = 34 then some (b, 1) else if c.toNat = 92 then (if (escF (c :: r)).2 = 0 then none else (unqL k ((c :: r).drop (escF (c :: r)).2) (b ++ [(escF (c :: r)).1])).map _) else if plB c.toNat = true then (unqL k r (b ++ [c])).map _ else none) = some p → (if 64 < b.length then none else if c.toNat = 34 then some (b, 1) else if c.toNat = 92 then (if (escF (c :: r)).2 = 0 then none else (unqL m ((c :: r).drop (escF (c :: r)).2) (b ++ [(escF (c :: r)).1])).map _) else if plB c.toNat = true then (unqL m r (b ++ [c])).map _ else none) = some p
    split
    · exact fun h => h
    · split
      · exact fun h => h
      · split
        · split
          · exact fun h => h
          · intro h
            obtain ⟨q, hq, rfl⟩ := Option.map_eq_some_iff.1 h
            rw [ih _ _ q hq (by omega)]
            rfl
        · split
          · intro h
            obtain ⟨q, hq, rfl⟩ := Option.map_eq_some_iff.1 h
            rw [ih _ _ q hq (by omega)]
            rfl
          · exact fun h => h
theorem unq_app (t : B8) : ∀ (k : Nat) (r b : B8) (p : B8 × Nat), unqL k r b = some p → unqL k (r ++ t) b = some p ∧ p.2 ≤ r.length
  | 0, _, _, _, h => by cases h
  | k + 1, [], b, p, h => by cases h
  | k + 1, c :: r, b, p, h => by
    have ih := unq_app t k
    revert h
    show (if 64 < b.length then none else if c.toNat = 34 then some (b, 1) else if c.toNat = 92 then (if (escF (c :: r)).2 = 0 then none else (unqL k ((c :: r).drop (escF (c :: r)).2) (b ++ [(escF (c :: r)).1])).map _) else if plB c.toNat = true then (unqL k r (b ++ [c])).map _ else none) = some p → (if 64 < b.length then none else if c.toNat = 34 then some (b, 1) else if c.toNat = 92 then (if (escF ((c :: r) ++ t)).2 = 0 then none else (unqL k (((c :: r) ++ t).drop (escF ((c :: r) ++ t)).2) (b ++ [(escF ((c :: r) ++ t)).1])).map _) else if plB c.toNat = true then (unqL k (r ++ t) (b ++ [c])).map _ else none) = some p ∧ _
    split
    · intro h; cases h
    · split
      · intro h
        injection h with h
        subst h
        exact ⟨rfl, by simp only [List.length_cons]; omega⟩
      · split
        · split
          · intro h; cases h
          · rename_i hz
            intro h
            rw [esc_app t _ hz, if_neg hz]
            obtain ⟨q, hq, rfl⟩ := Option.map_eq_some_iff.1 h
            have hl := esc_le (c :: r)
            obtain ⟨k1, k2⟩ := ih _ _ q hq
            rw [List.drop_append_of_le_length hl, k1]
            refine ⟨congrArg some (Prod.ext rfl (congrArg (q.2 + ·) (congrArg Prod.snd (esc_app t (c :: r) hz)))), ?_⟩
            rw [List.length_drop] at k2
            show q.2 + _ ≤ _
            omega
        · split
          · intro h
            obtain ⟨q, hq, rfl⟩ := Option.map_eq_some_iff.1 h
            obtain ⟨k1, k2⟩ := ih _ _ q hq
            rw [k1]
            refine ⟨rfl, ?_⟩
            show q.2 + 1 ≤ _
            simp only [List.length_cons]; omega
          · intro h; cases h
theorem unqF_app (t x : B8) {p : B8 × Nat} (h : unqF x = some p) : unqF (x ++ t) = some p ∧ p.2 ≤ x.length := by
  cases x with
  | nil => cases h
  | cons c r =>
    revert h
    show (if c.toNat = 34 then (unqL (r.length + 1) r []).map _ else none) = _ → (if c.toNat = 34 then (unqL ((r ++ t).length + 1) (r ++ t) []).map _ else none) = _ ∧ _
    split
    · intro h
      obtain ⟨q, hq, rfl⟩ := Option.map_eq_some_iff.1 h
      obtain ⟨k1, k2⟩ := unq_app t _ _ _ q hq
      rw [unq_mono _ ((r ++ t).length + 1) _ _ _ k1 (by rw [List.length_append]; omega)]
      refine ⟨rfl, ?_⟩
      show q.2 + 1 ≤ _
      simp only [List.length_cons]; omega
    · intro h; cases h
section
variable (nam : B8 → Bool) (val : B8 → Option Int)
def wordF (x : B8) : Tok × Nat := if nam (x.take (runF wordB x)) = true then ((1, x.take (runF wordB x), 0, 0), runF wordB x) else (tok0, 0)
def textF (x : B8) : Tok × Nat := match unqF x with
  | some p => if p.2 = 0 then (tok0, 0) else ((3, p.1, 0, 0), p.2)
  | none => (tok0, 0)
def digN (x : B8) : Nat := 1 + runF digB (x.drop 1)
def numF (x : B8) : Tok × Nat := if digN x < x.length ∧ letB ((x.getD (digN x) 0).toNat) = true then (tok0, 0) else match val (x.take (digN x)) with
  | some n => ((2, x.take (digN x), n, 0), digN x)
  | none => (tok0, 0)
def signF (x : B8) (n : Nat) : Tok × Nat := ((4, x.take n, 0, 0), n)
def signs : List Nat := [43, 42, 40, 41, 123, 125, 91, 93, 44, 58]
def firstF (x : B8) (neg : Bool) : Tok × Nat := match x with
  | [] => (tok0, 0)
  | c :: r =>
    if letB c.toNat = true then wordF nam x else
    if c.toNat = 34 then textF x else
    if c.toNat = 45 then (if neg = true ∧ digB (r.headD 0).toNat = true then numF val x else signF x 1) else
    if digB c.toNat = true then numF val x else
    if c.toNat = 33 then (if (r.headD 0).toNat = 61 then signF x 2 else (tok0, 0)) else
    if c.toNat = 61 ∨ c.toNat = 60 ∨ c.toNat = 62 then (if (r.headD 0).toNat = 61 then signF x 2 else signF x 1) else
    if c.toNat ∈ signs then signF x 1 else (tok0, 0)
variable {nam val}
theorem wordF_app (t x : B8) : wordF nam (x ++ 10 :: t) = wordF nam x := by
  unfold wordF
  rw [run_app (by decide), List.take_append_of_le_length (run_le _ _)]
theorem textF_app (t x : B8) (h : (textF x).2 ≠ 0) : textF (x ++ t) = textF x := by
  unfold textF at h ⊢
  cases hq : unqF x with
  | none => rw [hq] at h; exact absurd rfl h
  | some p => rw [(unqF_app t x hq).1]
theorem digN_app (t : B8) {x : B8} (hx : x ≠ []) : digN (x ++ 10 :: t) = digN x := by
  cases x with
  | nil => exact absurd rfl hx
  | cons c r =>
    show 1 + runF digB (r ++ 10 :: t) = 1 + runF digB r
    rw [run_app (by decide)]
theorem digN_le {x : B8} (hx : x ≠ []) : digN x ≤ x.length := by
  cases x with
  | nil => exact absurd rfl hx
  | cons c r =>
    show 1 + runF digB r ≤ _
    have := run_le digB r
    simp only [List.length_cons]; omega
theorem numF_app (t : B8) {x : B8} (hx : x ≠ []) : numF val (x ++ 10 :: t) = numF val x := by
  have hl := digN_le hx
  unfold numF
  rw [digN_app t hx, List.take_append_of_le_length hl]
  have e : (digN x < (x ++ 10 :: t).length ∧ letB (((x ++ 10 :: t).getD (digN x) 0).toNat) = true) ↔ (digN x < x.length ∧ letB ((x.getD (digN x) 0).toNat) = true) := by
    by_cases h : digN x < x.length
    · rw [List.getD_eq_getElem?_getD, List.getElem?_append_left h, ← List.getD_eq_getElem?_getD]
      have : digN x < (x ++ 10 :: t).length := by rw [List.length_append]; omega
      constructor
      · exact fun k => ⟨h, k.2⟩
      · exact fun k => ⟨this, k.2⟩
    · have he : digN x = x.length := by omega
      constructor
      · rintro ⟨-, k⟩
        rw [he, List.getD_eq_getElem?_getD, List.getElem?_append_right (Nat.le_refl _), Nat.sub_self] at k
        exact absurd k (show ¬ letB (10 : UInt8).toNat = true by decide)
      · exact fun k => absurd k.1 h
  by_cases h : digN x < x.length ∧ letB ((x.getD (digN x) 0).toNat) = true
  · rw [if_pos h, if_pos (e.2 h)]
  · rw [if_neg h, if_neg (fun k => h (e.1 k))]
theorem signF_app (t : B8) {x : B8} {n : Nat} (h : n ≤ x.length) : signF (x ++ t) n = signF x n := by
  unfold signF
  rw [List.take_append_of_le_length h]
theorem head_app (t : B8) (r : B8) (p : Nat → Bool) (h0 : p 0 = p 10) : p ((r ++ 10 :: t).headD 0).toNat = p (r.headD 0).toNat := by
  cases r with
  | nil => exact h0.symm
  | cons a r => rfl
theorem firstF_app (t x : B8) (neg : Bool) (h : (firstF nam val x neg).2 ≠ 0) : firstF nam val (x ++ 10 :: t) neg = firstF nam val x neg := by
  cases x with
  | nil => exact absurd rfl h
  | cons c r =>
    have d := head_app t r digB (by decide)
    have e : ((r ++ 10 :: t).headD 0).toNat = 61 ↔ (r.headD 0).toNat = 61 := by
      have := head_app t r (fun c => c == 61) (by decide)
      rw [Bool.eq_iff_iff, beq_iff_eq, beq_iff_eq] at this
      exact this
    have two : (r.headD 0).toNat = 61 → 2 ≤ (c :: r).length := by
      cases r with
      | nil => intro h; exact absurd h (by decide)
      | cons a r => intro _; simp only [List.length_cons]; omega
    have one : 1 ≤ (c :: r).length := by simp only [List.length_cons]; omega
    have w : wordF nam (c :: (r ++ 10 :: t)) = wordF nam (c :: r) := wordF_app t (c :: r)
    have n : numF val (c :: (r ++ 10 :: t)) = numF val (c :: r) := numF_app t (x := c :: r) (by simp)
    have s1 : signF (c :: (r ++ 10 :: t)) 1 = signF (c :: r) 1 := signF_app (10 :: t) (x := c :: r) one
    have s2 : (r.headD 0).toNat = 61 → signF (c :: (r ++ 10 :: t)) 2 = signF (c :: r) 2 := fun h => signF_app (10 :: t) (x := c :: r) (two h)
    have q : (textF (c :: r)).2 ≠ 0 → textF (c :: (r ++ 10 :: t)) = textF (c :: r) := fun h => textF_app (10 :: t) (c :: r) h
    unfold firstF at h
    show firstF nam val (c :: (r ++ 10 :: t)) neg = _
    unfold firstF
    simp only [d, e] at h ⊢
    repeat' split
    all_goals first
      | rfl
      | exact w
      | exact n
      | exact s1
      | exact s2 (by assumption)
      | skip
    rename_i h1 h2
    rw [if_neg h1, if_pos h2] at h
    exact q h
theorem firstF_le (x : B8) (neg : Bool) : (firstF nam val x neg).2 ≤ x.length := by
  cases x with
  | nil => exact Nat.le_refl _
  | cons c r =>
    have two : (r.headD 0).toNat = 61 → 2 ≤ (c :: r).length := by
      cases r with
      | nil => intro h; exact absurd h (by decide)
      | cons a r => intro _; simp only [List.length_cons]; omega
    have one : 1 ≤ (c :: r).length := by simp only [List.length_cons]; omega
    have w : (wordF nam (c :: r)).2 ≤ (c :: r).length := by
      unfold wordF
      split
      · exact run_le _ _
      · exact Nat.zero_le _
    have n : (numF val (c :: r)).2 ≤ (c :: r).length := by
      unfold numF
      split
      · exact Nat.zero_le _
      · split
        · exact digN_le (by simp)
        · exact Nat.zero_le _
    have q : (textF (c :: r)).2 ≤ (c :: r).length := by
      unfold textF
      split
      · rename_i p hp
        split
        · exact Nat.zero_le _
        · exact (unqF_app [] _ hp).2
      · exact Nat.zero_le _
    unfold firstF
    simp only
    repeat' split
    all_goals first
      | exact w
      | exact n
      | exact q
      | exact one
      | exact two (by assumption)
      | exact Nat.zero_le _
theorem firstF_neg {x : B8} (h : ∀ c r, x = c :: r → c.toNat ≠ 45) (a b : Bool) : firstF nam val x a = firstF nam val x b := by
  cases x with
  | nil => rfl
  | cons c r =>
    unfold firstF
    simp only [if_neg (h c r rfl)]
end
def endT (n : Nat) : Tok := (5, [], 0, Int.ofNat n)
def putAt (x : Tok) (n : Nat) : Tok := (x.1, x.2.1, x.2.2.1, Int.ofNat n)
def shT (k : Nat) (x : Tok) : Tok := (x.1, x.2.1, x.2.2.1, x.2.2.2 + Int.ofNat k)
section
variable (F : B8 → Bool → Tok × Nat) (con : B8 → Bool)
def negF (l : List Tok) : Bool := match l.getLast? with
  | none => true
  | some x => x.1 == 4 && !con x.2.1
def nxF (s : B8) (i n : Nat) : Nat := i + n + skipF false (s.drop (i + n))
def allL (s : B8) : Nat → Nat → List Tok → Except Nat (List Tok)
  | 0, i, _ => .error i
  | k + 1, i, l => if i < s.length then if (F (s.drop i) (negF con l)).2 = 0 then .error i else allL s k (nxF s i (F (s.drop i) (negF con l)).2) (l ++ [putAt (F (s.drop i) (negF con l)).1 i]) else .ok (l ++ [endT s.length])
def allF (s : B8) : Except Nat (List Tok) := allL F con s (s.length + 1) (skipF false s) []
inductive Lexes (s : B8) : Nat → List Tok → List Tok → Prop
  | done {i : Nat} {l : List Tok} (h : s.length ≤ i) : Lexes s i l (l ++ [endT s.length])
  | step {i : Nat} {l a : List Tok} (h : i < s.length) (hn : (F (s.drop i) (negF con l)).2 ≠ 0) (g : Lexes s (nxF s i (F (s.drop i) (negF con l)).2) (l ++ [putAt (F (s.drop i) (negF con l)).1 i]) a) : Lexes s i l a
variable {F con}
theorem lexes_of {s : B8} : ∀ (k i : Nat) (l a : List Tok), allL F con s k i l = .ok a → Lexes F con s i l a
  | 0, _, _, _, h => by cases h
  | k + 1, i, l, a, h => by
    unfold allL at h
    split at h
    · rename_i hi
      split at h
      · cases h
      · rename_i hn
        exact .step hi hn (lexes_of k _ _ _ h)
    · injection h with h
      subst h
      exact .done (by omega)
theorem of_lexes {s : B8} {i : Nat} {l a : List Tok} (h : Lexes F con s i l a) : ∀ k, 0 < k → s.length < i + k → allL F con s k i l = .ok a := by
  induction h with
  | done h =>
    rename_i i l
    intro k h0 hk
    cases k with
    | zero => omega
    | succ k =>
      unfold allL
      rw [if_neg (by omega)]
  | step h hn g ih =>
    rename_i i l a
    intro k h0 hk
    cases k with
    | zero => omega
    | succ k =>
      unfold allL
      rw [if_pos h, if_neg hn]
      refine ih k (by omega) ?_
      unfold nxF
      omega
theorem nx_le {s : B8} {i n : Nat} (h : i + n ≤ s.length) : nxF s i n ≤ s.length := by
  unfold nxF
  have := skip_le (s.drop (i + n)) false
  rw [List.length_drop] at this
  omega
def jmp (s t : B8) (i : Nat) : Nat := if i < s.length then i else s.length + 1 + skipF false t
theorem jmp_skip (s t : B8) {j : Nat} (hj : j ≤ s.length) : j + skipF false ((s ++ 10 :: t).drop j) = jmp s t (j + skipF false (s.drop j)) := by
  have hl := skip_le (s.drop j) false
  rw [List.length_drop] at hl
  rw [List.drop_append_of_le_length hj, skip_app, List.length_drop]
  unfold jmp
  split
  · rw [if_pos (by omega)]
  · rw [if_neg (by omega)]; omega
theorem lexes_one {s t : B8} (hF : ∀ x neg, (F x neg).2 ≠ 0 → F (x ++ 10 :: t) neg = F x neg) (hL : ∀ x neg, (F x neg).2 ≤ x.length) {i : Nat} {l a : List Tok} (h : Lexes F con s i l a) :
    ∀ r, Lexes F con (s ++ 10 :: t) (s.length + 1 + skipF false t) a.dropLast r → Lexes F con (s ++ 10 :: t) (jmp s t i) l r := by
  induction h with
  | done h =>
    rename_i i l
    intro r hr
    rw [List.dropLast_concat] at hr
    unfold jmp
    rw [if_neg (by omega)]
    exact hr
  | step h hn g ih =>
    rename_i i l a
    intro r hr
    have ih := ih r hr
    have e : jmp s t i = i := if_pos h
    have ed : (s ++ 10 :: t).drop i = s.drop i ++ 10 :: t := List.drop_append_of_le_length (by omega)
    have hf := hF _ _ hn
    have hle := hL (s.drop i) (negF con l)
    rw [List.length_drop] at hle
    rw [e]
    refine .step (by rw [List.length_append]; omega) (by rw [ed, hf]; exact hn) ?_
    rw [ed, hf]
    have := jmp_skip s t (j := i + (F (s.drop i) (negF con l)).2) (by omega)
    unfold nxF at ih ⊢
    rw [this]
    exact ih
theorem neg_sh (k : Nat) (l1 l2 : List Tok) (h : l2 ≠ []) : negF con (l1 ++ l2.map (shT k)) = negF con l2 := by
  have hl : l2 = l2.dropLast ++ [l2.getLast h] := (List.dropLast_concat_getLast h).symm
  rw [hl, List.map_append, ← List.append_assoc]
  unfold negF
  rw [List.map_cons, List.map_nil, List.getLast?_concat, List.getLast?_concat]
  rfl
theorem sh_put (k i : Nat) (x : Tok) : shT k (putAt x i) = putAt x (k + i) := by
  unfold shT putAt
  refine congrArg (fun z => (x.1, x.2.1, x.2.2.1, z)) ?_
  show (i : Int) + (k : Int) = ((k + i : Nat) : Int)
  omega
theorem lexes_two {s t : B8} (l1 : List Tok) {i : Nat} {l2 b : List Tok} (h : Lexes F con t i l2 b) :
    (l2 = [] → i < t.length → F (t.drop i) (negF con l1) = F (t.drop i) (negF con [])) → Lexes F con (s ++ 10 :: t) (s.length + 1 + i) (l1 ++ l2.map (shT (s.length + 1))) (l1 ++ b.map (shT (s.length + 1))) := by
  have dr : ∀ j, (s ++ 10 :: t).drop (s.length + 1 + j) = t.drop j := fun j => by
    rw [List.drop_append, List.drop_of_length_le (by omega), show s.length + 1 + j - s.length = j + 1 by omega]
    rfl
  have ln : (s ++ 10 :: t).length = s.length + 1 + t.length := by rw [List.length_append, List.length_cons]; omega
  induction h with
  | done h =>
    rename_i i l2
    intro _
    rw [List.map_append, ← List.append_assoc]
    have : [endT t.length].map (shT (s.length + 1)) = [endT (s ++ 10 :: t).length] := by
      rw [ln]
      show [shT _ (putAt (5, [], 0, 0) t.length)] = [putAt (5, [], 0, 0) _]
      rw [sh_put]
    rw [this]
    exact .done (by omega)
  | step h hn g ih =>
    rename_i i l2 b
    intro hneg
    have e : F ((s ++ 10 :: t).drop (s.length + 1 + i)) (negF con (l1 ++ l2.map (shT (s.length + 1)))) = F (t.drop i) (negF con l2) := by
      rw [dr]
      by_cases hl : l2 = []
      · subst hl
        rw [List.map_nil, List.append_nil]
        exact hneg rfl h
      · rw [neg_sh _ _ _ hl]
    refine .step (by omega) (by rw [e]; exact hn) ?_
    rw [e]
    have ih := ih (fun hl => by simp at hl)
    have e2 : nxF (s ++ 10 :: t) (s.length + 1 + i) (F (t.drop i) (negF con l2)).2 = s.length + 1 + nxF t i (F (t.drop i) (negF con l2)).2 := by
      unfold nxF
      rw [show s.length + 1 + i + (F (t.drop i) (negF con l2)).2 = s.length + 1 + (i + (F (t.drop i) (negF con l2)).2) by omega, dr]
      omega
    rw [e2]
    rw [List.map_append, List.map_cons, List.map_nil, sh_put, ← List.append_assoc] at ih
    exact ih
theorem all_joins {s t : B8} {a b : List Tok} (hF : ∀ x neg, (F x neg).2 ≠ 0 → F (x ++ 10 :: t) neg = F x neg) (hL : ∀ x neg, (F x neg).2 ≤ x.length) (ha : allF F con s = .ok a) (hb : allF F con t = .ok b)
    (hn : skipF false t < t.length → ∀ n m, F (t.drop (skipF false t)) n = F (t.drop (skipF false t)) m) : allF F con (s ++ 10 :: t) = .ok (a.dropLast ++ b.map (shT (s.length + 1))) := by
  have h1 := lexes_of _ _ _ _ ha
  have h2 := lexes_two (s := s) a.dropLast (lexes_of _ _ _ _ hb) (fun _ hi => hn hi _ _)
  rw [List.map_nil, List.append_nil] at h2
  have h3 := lexes_one hF hL h1 _ h2
  unfold allF
  have e := jmp_skip s t (Nat.zero_le s.length)
  rw [Nat.zero_add, Nat.zero_add, List.drop_zero, List.drop_zero] at e
  rw [e]
  refine of_lexes h3 _ (by omega) ?_
  omega
end
end Go.Proofs.YtmfkdhloofmhoaaDoor
