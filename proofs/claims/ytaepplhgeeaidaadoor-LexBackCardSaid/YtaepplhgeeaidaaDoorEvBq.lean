import Derived.Test.YtaepplhgeeaidaaDoorEvB
set_option linter.unusedVariables false
set_option linter.unusedSimpArgs false
namespace Go.Proofs.YtaepplhgeeaidaaDoor.Ev
open Go Go.RowKit
def entryEq (a b : MapEntry) : Bool :=
  match vEq 30 a.key b.key, vEq 30 a.val b.val with
  | true, true => Nat.beq a.born b.born
  | _, _ => false
theorem entryEq_ok (a b : MapEntry) (h : entryEq a b = true) : a = b := by
  unfold entryEq at h
  split at h
  · rename_i h1 h2
    obtain ⟨k, v, n⟩ := a
    obtain ⟨k', v', n'⟩ := b
    simp only at h1 h2 h
    rw [vEq_ok _ _ _ h1, vEq_ok _ _ _ h2, Nat.eq_of_beq_eq_true h]
  · cases h
noncomputable def obEq : AObj → AObj → Bool
  | .cells t n e op str, .cells t' n' e' op' str' => match Nat.beq n n', Nat.beq e e', oEq Nat.beq op op', str == str' with
    | true, true, true, true => trEq (vEq 30) t t'
    | _, _, _, _ => false
  | .map es c, .map es' c' => match Nat.beq c c' with
    | true => lEq entryEq es es'
    | false => false
  | .siter s p, .siter s' p' => match Nat.beq p p' with
    | true => bytesEq s s'
    | false => false
  | .miter mo s l p, .miter mo' s' l' p' => match oEq Nat.beq mo mo', Nat.beq s s', Nat.beq p p' with
    | true, true, true => lEq Nat.beq l l'
    | _, _, _ => false
  | .dead, .dead => true
  | _, _ => false
theorem obEq_ok : ∀ (a b : AObj), obEq a b = true → a = b := by
  intro a b h
  cases a <;> cases b <;> first
    | (simp [obEq] at h; done)
    | rfl
    | skip
  · simp only [obEq] at h
    split at h
    · rename_i h1 h2 h3 h4
      rw [Nat.eq_of_beq_eq_true h1, Nat.eq_of_beq_eq_true h2, oEq_ok (fun _ _ => Nat.eq_of_beq_eq_true) _ _ h3, eq_of_beq h4, trEq_ok (vEq_ok 30) _ _ h]
    · cases h
  · simp only [obEq] at h
    split at h
    · rename_i h1
      rw [Nat.eq_of_beq_eq_true h1, lEq_ok entryEq_ok _ _ h]
    · cases h
  · simp only [obEq] at h
    split at h
    · rename_i h1 h2 h3
      rw [oEq_ok (fun _ _ => Nat.eq_of_beq_eq_true) _ _ h1, Nat.eq_of_beq_eq_true h2, Nat.eq_of_beq_eq_true h3, lEq_ok (fun _ _ => Nat.eq_of_beq_eq_true) _ _ h]
    · cases h
  · simp only [obEq] at h
    split at h
    · rename_i h1
      rw [Nat.eq_of_beq_eq_true h1, bytesEq_ok _ _ h]
    · cases h
def normB : Nat → Value → Value × Bool
  | 0, v => (v, true)
  | d + 1, v => match v with
    | .func (.methodOf 2 _) ⟨[.int _ (.ofNat 2), x]⟩ _ => match isSym x with
      | true => ((normB d x).1, !(normB d x).2)
      | false => (v, true)
    | .func (.methodOf 1 _) ⟨[.int _ (.ofNat op), t, c, x, y]⟩ _ => match op with
      | 12 => (sy 1 1 [num 11, t, c, x, y], false)
      | 14 => (sy 1 1 [num 13, t, c, y, x], false)
      | 15 => (sy 1 1 [num 13, t, c, y, x], true)
      | 16 => (sy 1 1 [num 13, t, c, x, y], false)
      | _ => (v, true)
    | _ => (v, true)
noncomputable def boolA (cx : Cx) (v : Value) : Option Bool :=
  match v with
  | .bool b => some b
  | .func fn xs ys => match isMo fn, Nat.beq (symTy (.func fn xs ys)) 1 with
    | true, true => match normB 9 (.func fn xs ys) with
      | (e, p) => match lookS e cx.as with
        | some b => some (b == p)
        | none => none
    | _, _ => none
  | _ => none
noncomputable def diffA (t t' : Tr AObj) (n : Nat) : Nat → List Nat :=
  Nat.rec (motive := fun _ => Nat → List Nat) (fun _ => []) (fun _ ih a => match oEq obEq (t.get a) (t'.get a) with
    | true => ih (Nat.succ a)
    | false => a :: ih (Nat.succ a)) n
noncomputable def killAll (hp : Hp) (l : List Nat) : Hp := List.rec (motive := fun _ => Hp → Hp) (fun hp => hp) (fun b _ ih hp => ih (killA hp b)) l hp
section
variable {α β : Type}
noncomputable def eachL (f : α → Option (List β)) (l : List α) : Option (List β) :=
  List.rec (motive := fun _ => Option (List β)) (some []) (fun x _ ih => match f x with
    | some (y :: ys) => match ih with
      | none => none
      | some zs => some (y :: (ys ++ zs))
    | _ => none) l
noncomputable  def neL (r : Option (List β)) : Option (List β) := Option.rec (motive := fun _ => Option (List β)) none (fun l => List.rec (motive := fun _ => Option (List β)) none (fun y ys _ => some (y :: ys)) l) r
noncomputable def bindL (r : Option (List α)) (f : α → Option (List β)) : Option (List β) :=
  Option.rec (motive := fun _ => Option (List β)) none (fun l => List.rec (motive := fun _ => Option (List β)) none
    (fun x t _ => List.rec (motive := fun _ => Option (List β)) (neL (f x)) (fun _ _ _ => eachL f l) t) l) r
theorem neL_def (r : Option (List β)) : neL r = match r with | some (y :: ys) => some (y :: ys) | _ => none := by
  cases r with
  | none => rfl
  | some l => cases l <;> rfl
theorem bindL_def (r : Option (List α)) (f : α → Option (List β)) : bindL r f = match r with
    | none => none
    | some l => match l with
      | [] => none
      | [x] => match f x with
        | some (y :: ys) => some (y :: ys)
        | _ => none
      | l => eachL f l := by
  cases r with
  | none => rfl
  | some l => match l with
    | [] => rfl
    | [x] => exact neL_def (f x)
    | x :: y :: t => rfl
theorem eachL_cons (f : α → Option (List β)) (x : α) (l : List α) : eachL f (x :: l) = match f x with
    | some (y :: ys) => match eachL f l with
      | none => none
      | some zs => some (y :: (ys ++ zs))
    | _ => none := rfl
theorem eachL_mem {f : α → Option (List β)} : ∀ {l : List α} {out : List β}, eachL f l = some out → ∀ x, x ∈ l → ∃ ys, f x = some ys ∧ ys ≠ [] ∧ ∀ y, y ∈ ys → y ∈ out := by
  intro l
  induction l with
  | nil => intro out _ x hx; cases hx
  | cons a l ih =>
    intro out h x hx
    rw [eachL_cons] at h
    split at h
    · rename_i y ys hys
      split at h
      · cases h
      · rename_i zs hzs
        injection h with h
        subst h
        rcases List.mem_cons.1 hx with rfl | hx
        · exact ⟨y :: ys, hys, by simp, fun z hz => by
            rcases List.mem_cons.1 hz with rfl | hz
            · exact List.mem_cons_self
            · exact List.mem_cons_of_mem _ (List.mem_append.2 (.inl hz))⟩
        · obtain ⟨ws, h1, h2, h3⟩ := ih hzs x hx
          exact ⟨ws, h1, h2, fun z hz => List.mem_cons_of_mem _ (List.mem_append.2 (.inr (h3 z hz)))⟩
    · cases h
theorem bindL_mem {r : Option (List α)} {f : α → Option (List β)} {out : List β} (h : bindL r f = some out) : ∃ l, r = some l ∧ ∀ x, x ∈ l → ∃ ys, f x = some ys ∧ ys ≠ [] ∧ ∀ y, y ∈ ys → y ∈ out := by
  rw [bindL_def] at h
  split at h
  · cases h
  · rename_i l
    refine ⟨l, rfl, ?_⟩
    split at h
    · cases h
    · rename_i x
      split at h
      · rename_i y ys hys
        intro z hz
        rw [List.mem_singleton] at hz
        subst hz
        injection h with h
        subst h
        exact ⟨y :: ys, hys, by simp, fun _ hh => hh⟩
      · cases h
    · exact eachL_mem h
theorem eachL_from {f : α → Option (List β)} : ∀ {l : List α} {out : List β}, eachL f l = some out → ∀ y, y ∈ out → ∃ x, x ∈ l ∧ ∃ ys, f x = some ys ∧ y ∈ ys := by
  intro l
  induction l with
  | nil => intro out h y hy; have h : some [] = some out := h; injection h with h; subst h; cases hy
  | cons a l ih =>
    intro out h z hz
    rw [eachL_cons] at h
    split at h
    · rename_i y ys hys
      split at h
      · cases h
      · rename_i zs hzs
        injection h with h
        subst h
        have hz : z ∈ (y :: ys) ++ zs := hz
        rcases List.mem_append.1 hz with hz | hz
        · exact ⟨a, List.mem_cons_self, _, hys, hz⟩
        · obtain ⟨x, h1, h2⟩ := ih hzs z hz
          exact ⟨x, List.mem_cons_of_mem _ h1, h2⟩
    · cases h
theorem bindL_from {r : Option (List α)} {f : α → Option (List β)} {out : List β} (h : bindL r f = some out) : ∀ y, y ∈ out → ∃ l x, r = some l ∧ x ∈ l ∧ ∃ ys, f x = some ys ∧ y ∈ ys := by
  intro z hz
  rw [bindL_def] at h
  split at h
  · cases h
  · rename_i l
    split at h
    · cases h
    · rename_i x
      split at h
      · rename_i y ys hys
        injection h with h
        subst h
        exact ⟨[x], x, rfl, List.mem_singleton.2 rfl, _, hys, hz⟩
      · cases h
    · obtain ⟨x, h1, h2⟩ := eachL_from h z hz
      exact ⟨l, x, rfl, h1, h2⟩
theorem bindL_ne {r : Option (List α)} {f : α → Option (List β)} {out : List β} (h : bindL r f = some out) {l : List α} (hr : r = some l) : ∃ x, x ∈ l := by
  subst hr
  rw [bindL_def] at h
  cases l with
  | nil => cases h
  | cons x l => exact ⟨x, List.mem_cons_self⟩
theorem eachL_ne {f : α → Option (List β)} {x : α} {l : List α} {out : List β} (h : eachL f (x :: l) = some out) : out ≠ [] := by
  rw [eachL_cons] at h
  split at h
  · split at h
    · cases h
    · injection h with h; subst h; simp
  · cases h
theorem bindL_single {r : Option (List α)} {f : α → Option (List β)} {y : β} (h : bindL r f = some [y]) : ∃ x, r = some [x] ∧ f x = some [y] := by
  rw [bindL_def] at h
  split at h
  · cases h
  · rename_i l
    split at h
    · cases h
    · rename_i x
      split at h
      · rename_i z zs hz
        exact ⟨x, rfl, by rw [hz]; exact h⟩
      · cases h
    · rename_i h1 h2
      exfalso
      cases l with
      | nil => exact h1 rfl
      | cons a l =>
        cases l with
        | nil => exact h2 a rfl
        | cons b l =>
          rw [eachL_cons] at h
          split at h
          · split at h
            · cases h
            · rename_i z zs hz ws hws
              injection h with h
              injection h with _ h
              have := eachL_ne hws
              exact this (List.append_eq_nil_iff.1 h).2
          · cases h
theorem bindL_one {r : Option (List α)} {f : α → Option (List β)} {out : List β} (h : bindL r f = some out) {g : α → β} (hf : ∀ x ys, f x = some ys → ys = [g x]) : ∃ l, r = some l ∧ ∀ x, x ∈ l → g x ∈ out := by
  obtain ⟨l, h1, h2⟩ := bindL_mem h
  refine ⟨l, h1, fun x hx => ?_⟩
  obtain ⟨ys, h3, -, h4⟩ := h2 x hx
  rw [hf x ys h3] at h4
  exact h4 _ (List.mem_singleton.2 rfl)
end
end Go.Proofs.YtaepplhgeeaidaaDoor.Ev
