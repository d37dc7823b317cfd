import Derived.Test.YtaepplhgeeaidaaDoorEvG
set_option linter.unusedVariables false
set_option linter.unusedSimpArgs false
namespace Go.Proofs.YtaepplhgeeaidaaDoor.Ev
open Go Go.RowKit
theorem intA_cmp {op : BinOp} (h : opForm op = 0) (k : IntKind) (a b : Int) : ∃ r, intA op k a b = some (.bool r) := by
  cases op <;> first
    | (cases h; done)
    | exact ⟨_, rfl⟩
theorem intA_ari {op : BinOp} (h : opForm op = 1) (k : IntKind) (a b : Int) : ∃ r, intA op k a b = some r ∧ tyOk (kindCode k) r = true := by
  cases op <;> first
    | (cases h; done)
    | (refine ⟨_, rfl, ?_⟩; rw [wrapA_eq]; exact tyOk_wrap k _)
    | (refine ⟨_, rfl, ?_⟩; exact tyOk_wrap k _)
theorem strA_cmp {op : BinOp} (h : opForm op = 0) (a b : ByteArray) : ∃ r, strA op a b = some (.bool r) := by
  cases op <;> first
    | (cases h; done)
    | exact ⟨_, rfl⟩
theorem natmod_le (x : Nat) (b : Int) : (x : Int).tmod b ≤ x := by
  cases b with
  | ofNat y => show ((x % y : Nat) : Int) ≤ x; exact Int.ofNat_le.mpr (Nat.mod_le x y)
  | negSucc y => show ((x % (y + 1) : Nat) : Int) ≤ x; exact Int.ofNat_le.mpr (Nat.mod_le x _)
theorem tyOk_tmod {k : IntKind} {a b : Int} (h : tyOk (kindCode k) (.int k a) = true) : tyOk (kindCode k) (.int k (a.tmod b)) = true := by
  unfold tyOk at h ⊢
  rw [Bool.or_eq_true] at h ⊢
  rcases h with h | h
  · exact .inl h
  refine .inr ?_
  rw [Bool.and_eq_true, Bool.and_eq_true] at h ⊢
  obtain ⟨⟨h1, h2⟩, h3⟩ := h
  refine ⟨⟨h1, ?_⟩, ?_⟩
  all_goals (rw [decide_eq_true_eq] at h2 h3 ⊢)
  · have hm : k.min ≤ 0 := by cases k <;> decide
    rcases Int.le_total 0 a with ha | ha
    · exact Int.le_trans hm (Int.tmod_nonneg b ha)
    · have := Int.tmod_nonneg b (a := -a) (by omega)
      have h5 : (-a).tmod b ≤ -a := by
        obtain ⟨x, hx⟩ := Int.eq_ofNat_of_zero_le (a := -a) (by omega)
        rw [hx]
        exact natmod_le x b
      rw [Int.neg_tmod] at h5
      omega
  · have hm : 0 ≤ k.max := by cases k <;> decide
    rcases Int.le_total 0 a with ha | ha
    · obtain ⟨x, hx⟩ := Int.eq_ofNat_of_zero_le ha
      subst hx
      exact Int.le_trans (natmod_le x b) h3
    · have h5 := Int.tmod_nonneg b (a := -a) (by omega)
      rw [Int.neg_tmod] at h5
      omega
theorem form_shift {op : BinOp} {n : Nat} (h : opForm op = n) (hn : n < 2) : op ≠ .shl ∧ op ≠ .shr := by
  cases op <;> first
    | (exfalso; simp [opForm] at h; omega)
    | exact ⟨by simp, by simp⟩
theorem binA_int {cx : Cx} {op : BinOp} (h1 : op ≠ .shl) (h2 : op ≠ .shr) (t : TypeId) (c : Bool) (k : IntKind) (a b : Int) : binA cx op t c (.int k a) (.int k b) = intA op k a b := by
  cases op <;> first
    | exact absurd rfl h1
    | exact absurd rfl h2
    | simp [binA]
theorem binA_bool {cx : Cx} {t : TypeId} {ti : TI} (ht : cx.t t = some ti) (hd : isBoolD ti.desc = true) (c a b : Bool) :
    binA cx .eql t c (.bool a) (.bool b) = some (.bool (a == b)) ∧ binA cx .neq t c (.bool a) (.bool b) = some (.bool !(a == b)) := by
  have hb : ti.desc = .bool := by cases hh : ti.desc <;> first | rfl | (rw [hh] at hd; cases hd)
  have e : eqA cx 9 t (.bool a) (.bool b) = some (a == b) := by show eqB cx (eqA cx 8) t _ _ = _; simp [eqB, ht, hb]
  constructor <;> simp [binA, nilOk, e]
theorem bare_as {cx : Cx} {m : Emb} (as : AsOk cx m) : AsOk (bare cx) m := ⟨fun k vs hk => (as.1 k vs hk).trans rfl, fun e b h => by cases h⟩
theorem flat_sym {x y : Value} (hx : flat x = true) (hy : flat y = true) : (isSym x || isSym y) = false := by
  have h : ∀ v, flat v = true → isSym v = false := fun v hv => by cases v <;> first | rfl | (simp [flat] at hv)
  rw [h x hx, h y hy]; rfl
section
variable {P : Program} {cx : Cx} (ok : CxOk P cx) {m : Emb} {w : World}
include ok
theorem binS_ok {op : BinOp} {t : TypeId} {x y x' y' v : Value} (as : AsOk cx m) (hx : RV m x x') (hy : RV m y y') (p q : Operand) (h : binS cx op t (cOp p || cOp q) x y = some v) :
    Reads P m w (do eqGuard op t p q x' y'; binOp op t x' y') v := by
  have main : ∀ (r : Value) (ty : Nat), (symFlat x && symFlat y) = true → flat x' = true → flat y' = true → binA (bare cx) op t (cOp p || cOp q) x' y' = some r → tyOk ty r = true →
      Reads P m w (do eqGuard op t p q x' y'; binOp op t x' y') (sy ty 1 [num (binCode op), num t, .bool (cOp p || cOp q), x, y]) := by
    intro r ty hsf hfx hfy hb ht
    rw [Bool.and_eq_true] at hsf
    obtain ⟨r1, -⟩ := binA_ok (bare_ok ok) (bare_as as) (m := m) (w := w) (flat_sym hfx hfy) (.flat x' hfx) (.flat y' hfy) p q hb
    refine ⟨r, r1, ?_⟩
    refine RV.app (l' := [num (binCode op), num t, .bool (cOp p || cOp q), x', y']) (k := 0) ?_ (by simp only [List.all_cons, hsf.1, hsf.2]; rfl) ?_ ht
    · exact .cons (.flat _ rfl) (.cons (.flat _ rfl) (.cons (.flat _ rfl) (.cons hx (.cons hy (.nil m)))))
    · rw [as.ops 0 _ (by omega)]
      simp only [opSem, num, binOf_code]
      exact hb
  unfold binS at h
  split at h
  · obtain ⟨r1, r2⟩ := binA_ok ok as (w := w) (by simp_all) hx hy p q h
    exact .same r1 r2
  · split at h
    case h_2 => cases h
    rename_i hsf
    generalize symTy2 x y = ty at h
    unfold symBin at h
    split at h
    case h_2 => cases h
    rename_i htx hty'
    split at h
    · rename_i h3 hf
      injection h with h
      subst h
      have h3 : 3 ≤ ty := Nat.le_of_ble_eq_true h3
      obtain ⟨k, n, rfl, hk⟩ := has_int htx hx h3
      obtain ⟨k', n', rfl, hk'⟩ := has_int hty' hy h3
      obtain rfl := code_inj (hk.trans hk'.symm)
      obtain ⟨s1, s2⟩ := form_shift hf (by omega)
      obtain ⟨r, hr⟩ := intA_cmp hf k n n'
      exact main (.bool r) 1 hsf rfl rfl (by rw [binA_int s1 s2]; exact hr) rfl
    · rename_i h3 hf
      injection h with h
      subst h
      have h3 : 3 ≤ ty := Nat.le_of_ble_eq_true h3
      obtain ⟨k, n, rfl, hk⟩ := has_int htx hx h3
      obtain ⟨k', n', rfl, hk'⟩ := has_int hty' hy h3
      obtain rfl := code_inj (hk.trans hk'.symm)
      obtain ⟨s1, s2⟩ := form_shift hf (by omega)
      obtain ⟨r, hr, hrt⟩ := intA_ari hf k n n'
      exact main r ty hsf rfl rfl (by rw [binA_int s1 s2]; exact hr) (by rw [← hk]; exact hrt)
    · rename_i h3 hf
      split at h
      · rename_i h2
        injection h with h
        subst h
        have h2 := Nat.eq_of_beq_eq_true h2
        obtain ⟨a, rfl⟩ := has_str htx hx h2
        obtain ⟨b, rfl⟩ := has_str hty' hy h2
        obtain ⟨r, hr⟩ := strA_cmp hf a b
        exact main (.bool r) 1 hsf rfl rfl (by simp only [binA]; exact hr) rfl
      · split at h
        · rename_i ti h1 hti
          split at h
          case h_2 => cases h
          rename_i hbd
          injection h with h
          subst h
          have h1 := Nat.eq_of_beq_eq_true h1
          obtain ⟨a, rfl⟩ := has_bool htx hx h1
          obtain ⟨b, rfl⟩ := has_bool hty' hy h1
          exact main _ 1 hsf rfl rfl (binA_bool (cx := bare cx) hti hbd _ a b).1 rfl
        · rename_i ti h1 hti
          split at h
          case h_2 => cases h
          rename_i hbd
          injection h with h
          subst h
          have h1 := Nat.eq_of_beq_eq_true h1
          obtain ⟨a, rfl⟩ := has_bool htx hx h1
          obtain ⟨b, rfl⟩ := has_bool hty' hy h1
          exact main _ 1 hsf rfl rfl (binA_bool (cx := bare cx) hti hbd _ a b).2 rfl
        · cases h
    · rename_i h3 hf0 hf1
      have h3 : 3 ≤ ty := Nat.le_of_ble_eq_true h3
      obtain ⟨k, n, rfl, hk⟩ := has_int htx hx h3
      obtain ⟨k', n', rfl, hk'⟩ := has_int hty' hy h3
      obtain rfl := code_inj (hk.trans hk'.symm)
      have hd : isTrue cx [num 13, x, y] = true → tyOk (kindCode k) (.int k n) = true ∧ n' ≠ 0 := by
        intro hT
        have hsf' := hsf
        rw [Bool.and_eq_true] at hsf'
        have := isTrue_ok as hT (.cons (.flat (num 13) rfl) (.cons hx (.cons hy (.nil m)))) (by simp only [List.all_cons, hsf'.1, hsf'.2]; rfl) (b := tDiv (.int k n) (.int k n')) rfl
        unfold tDiv at this
        rw [Bool.and_eq_true, Bool.and_eq_true] at this
        exact ⟨this.1.2, by simpa using this.2⟩
      split at h
      · split at h
        · rename_i hT
          obtain ⟨h1, h0⟩ := hd hT
          injection h with h
          subst h
          exact main (.int k (wrapA k (n.tdiv n'))) ty hsf rfl rfl (by rw [binA_int (by simp) (by simp)]; simp [intA, h0]) (by rw [wrapA_eq, ← hk]; exact tyOk_wrap k _)
        · cases h
      · split at h
        · rename_i hT
          obtain ⟨h1, h0⟩ := hd hT
          injection h with h
          subst h
          exact main (.int k (n.tmod n')) ty hsf rfl rfl (by rw [binA_int (by simp) (by simp)]; simp [intA, h0]) (by rw [← hk]; exact tyOk_tmod h1)
        · cases h
      · cases h
    · rename_i h3 hf
      split at h
      case h_2 => cases h
      rename_i h2
      split at h
      case h_2 => cases h
      rename_i hl
      injection h with h
      subst h
      have h2 := Nat.eq_of_beq_eq_true h2
      have hsf' := hsf
      rw [Bool.and_eq_true] at hsf' hl
      have len : ∀ (x x' : Value), RV m x x' → symFlat x = true → hasTy ty x = true → leS cx (txL x) 2305843009213693952 = true → ∃ s, x' = .string s ∧ s.size ≤ 2305843009213693952 := by
        intro x x' hx sx hxt hle
        obtain ⟨s, rfl⟩ := has_str hxt hx h2
        refine ⟨s, rfl, ?_⟩
        cases hs : isSym x with
        | false =>
          have hf2 : Ev.flat x = true := by simpa [symFlat, hs] using sx
          have e := hx.flat_iff hf2
          subst e
          exact Nat.le_of_ble_eq_true hle
        | true =>
          have ht := (hx.sym_iff hs).2
          unfold hasTy at hxt
          rw [hs] at hxt
          rw [Nat.eq_of_beq_eq_true hxt, h2] at ht
          have e : txL x = sy 6 5 [x] := by
            cases x <;> first | rfl | (simp [isSym] at hs)
          rw [e] at hle
          have hlt : s.size < 9223372036854775808 := by
            simp [tyOk] at ht
            exact ht
          have hr : RV m (sy 6 5 [x]) (.int .i64 (.ofNat s.size)) := RV.app (k := 4) (l' := [.string s]) (.cons hx (.nil m)) (by simp only [List.all_cons, sx]; rfl) (by rw [as.rd 4 _ (by omega)]; rfl) (by
            show tyOk 6 (.int .i64 (.ofNat s.size)) = true
            simp [tyOk, kindCode, IntKind.min, IntKind.max, IntKind.bits, IntKind.signed]
            omega)
          obtain ⟨k1, n, q1, q2⟩ := tLe_iff (leS_ok as hle hr rfl)
          injection q1 with _ q1
          injection q1 with q1
          rw [q1]
          exact q2
      obtain ⟨a, rfl, ha⟩ := len x x' hx hsf'.1 htx hl.1
      obtain ⟨b, rfl, hb⟩ := len y y' hy hsf'.2 hty' hl.2
      refine main (.string (a ++ b)) 2 hsf rfl rfl ?_ ?_
      · show (if ((a.size + b.size : Nat) : Int) > IntKind.i64.max then none else some (Value.string (a ++ b))) = _
        rw [if_neg]
        simp [IntKind.max, IntKind.bits, IntKind.signed]
        omega
      · simp [tyOk, ByteArray.size_append]
        omega
    · cases h
omit ok in
theorem unS_ok {op : UnOp} {x x' v : Value} (as : AsOk cx m) (hx : RV m x x') (h : unS op x = some v) : Reads P m w (Op.unary op x') v := by
  have main : ∀ (r : Value) (ty : Nat), isSym x = true → unA op x' = some r → tyOk ty r = true → Reads P m w (Op.unary op x') (sy ty 2 [num (unCode op), x]) := by
    intro r ty hs hb ht
    obtain ⟨r1, -⟩ := unA_ok (P := P) (w := w) hb
    refine ⟨r, r1, RV.app (l' := [num (unCode op), x']) (k := 1) (.cons (.flat _ rfl) (.cons hx (.nil m))) (by simp [symFlat, hs, Ev.flat, num]) ?_ ht⟩
    rw [as.ops 1 _ (by omega)]
    simp only [opSem, num, unOf_code]
    exact hb
  unfold unS at h
  split at h
  · obtain ⟨r1, r2⟩ := unA_ok (P := P) (w := w) h
    rw [hx.flat_iff (unA_flat h)]
    exact .same r1 r2
  · rename_i hs
    have ht := (hx.sym_iff hs).2
    split at h
    · rename_i h3
      obtain ⟨k, n, rfl, hk⟩ := ty_int (Nat.le_of_ble_eq_true h3) ht
      split at h
      · injection h with h
        subst h
        exact main _ _ hs rfl (by rw [wrapA_eq, ← hk]; exact tyOk_wrap k _)
      · injection h with h
        subst h
        exact main _ _ hs rfl (by rw [← hk]; exact tyOk_wrap k _)
      · cases h
    · split at h
      · rename_i h1
        rw [Nat.eq_of_beq_eq_true h1] at ht
        obtain ⟨b, rfl⟩ := ty_bool ht
        split at h
        · injection h with h
          subst h
          exact main _ 1 hs rfl rfl
        · cases h
      · cases h
end
end Go.Proofs.YtaepplhgeeaidaaDoor.Ev
