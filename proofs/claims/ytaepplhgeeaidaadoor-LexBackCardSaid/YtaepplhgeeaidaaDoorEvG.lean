import Derived.Test.YtaepplhgeeaidaaDoorEvF
set_option linter.unusedVariables false
set_option linter.unusedSimpArgs false
namespace Go.Proofs.YtaepplhgeeaidaaDoor.Ev
open Go Go.RowKit
theorem wrapA_eq (k : IntKind) (n : Int) : wrapA k n = k.wrap n := by
  unfold wrapA
  split
  · rename_i a
    split
    · rename_i h
      have h := Nat.blt_eq.mp h
      simp only [IntKind.wrap, IntKind.bits, IntKind.signed]
      show (Int.ofNat a) = if (true && decide ((Int.ofNat a) % (2 ^ 64 : Int) ≥ (2 ^ (64 - 1) : Int))) = true then _ else _
      rw [if_neg (by simp; omega)]
      simp
      omega
    · rfl
  · rename_i a
    split
    · rename_i h
      have h := Nat.blt_eq.mp h
      simp only [IntKind.wrap, IntKind.bits, IntKind.signed]
      show (Int.negSucc a) = if (true && decide ((Int.negSucc a) % (2 ^ 64 : Int) ≥ (2 ^ (64 - 1) : Int))) = true then _ else _
      rw [if_pos (by simp; omega)]
      simp
      omega
    · rfl
  · rename_i a
    simp only [IntKind.wrap, IntKind.bits, IntKind.signed]
    simp
    rfl
  · rename_i a
    simp only [IntKind.wrap, IntKind.bits, IntKind.signed]
    simp
    rfl
  · rename_i a
    simp only [IntKind.wrap, IntKind.bits, IntKind.signed]
    simp
    rfl
  · rfl
section
variable {P : Program} {w : World}
theorem intA_ok {op : BinOp} {k : IntKind} {a b : Int} {v : Value} (t : TypeId) (h1 : op ≠ .shl) (h2 : op ≠ .shr) (h : intA op k a b = some v) : (binOp op t (.int k a) (.int k b)).run P w = .ok v w ∧ flat v = true := by
  cases op <;> simp only [intA, wrapA_eq] at h <;> first
    | (exact absurd rfl h1)
    | (exact absurd rfl h2)
    | (split at h <;> first
        | (cases h; done)
        | (rename_i hb; injection h with h; subst h; exact ⟨by simp [binOp, Op.intDiv, hb], rfl⟩))
    | (injection h with h; subst h; exact ⟨by simp [binOp, Op.intArith, Op.intBits, Op.intCmp], rfl⟩)
    | (cases h; done)
theorem shiftA_ok {op : BinOp} {k k' : IntKind} {a b : Int} {v : Value} (t : TypeId) (ho : op = .shl ∨ op = .shr) (h : shiftA op k a b = some v) : (binOp op t (.int k a) (.int k' b)).run P w = .ok v w ∧ flat v = true := by
  unfold shiftA at h
  split at h
  · cases h
  · rename_i hb
    rcases ho with rfl | rfl
    · simp only [wrapA_eq] at h
      injection h with h
      subst h
      exact ⟨by simp [binOp, Op.shift, hb], rfl⟩
    · simp only at h
      injection h with h
      subst h
      exact ⟨by simp [binOp, Op.shift, hb], rfl⟩
theorem strA_ok {op : BinOp} {a b : ByteArray} {v : Value} (t : TypeId) (h : strA op a b = some v) : (binOp op t (.string a) (.string b)).run P w = .ok v w ∧ flat v = true := by
  cases op <;> simp only [strA] at h <;> first
    | (cases h; done)
    | (split at h <;> first
        | (cases h; done)
        | (rename_i hb; injection h with h; subst h; exact ⟨by simp only [binOp, Op.stringOp]; rw [if_neg hb]; rfl, rfl⟩))
    | (injection h with h; subst h; exact ⟨by simp [binOp, Op.stringOp], rfl⟩)
theorem unA_ok {op : UnOp} {x v : Value} (h : unA op x = some v) : (Op.unary op x).run P w = .ok v w ∧ flat v = true := by
  unfold unA at h
  split at h
  · rw [wrapA_eq] at h
    injection h with h
    subst h
    exact ⟨by simp [Op.unary, Op.intArith], rfl⟩
  · injection h with h
    subst h
    exact ⟨by simp [Op.unary], rfl⟩
  · rename_i k n
    simp only [intA] at h
    injection h with h
    subst h
    exact ⟨by simp [Op.unary, Op.intBits], rfl⟩
  · cases h
theorem unA_flat {op : UnOp} {x v : Value} (h : unA op x = some v) : flat x = true := by
  unfold unA at h
  split at h <;> first | rfl | cases h
end
def tag : Value → Nat
  | .bool _ => 0
  | .int _ _ => 1
  | .float _ _ => 2
  | .complex _ _ _ => 3
  | .string _ => 4
  | .pointer _ => 5
  | .slice _ _ _ => 6
  | .map _ => 7
  | .chan _ => 8
  | .func fn _ _ => match oddF fn with
    | true => 8
    | false => 9
  | .nilFunc => 10
  | .iface _ _ => 11
  | .nilIface => 12
  | .agg _ => 13
  | .tuple _ => 14
theorem RV.tag {m : Emb} {v v' : Value} (h : RV m v v') (hn : Ev.tag v ≠ 8) : Ev.tag v' = Ev.tag v := by
  cases h <;> first
    | rfl
    | exact absurd rfl hn
    | (rename_i fn hfn _ _ _ _ _ _ _ _; cases fn <;> first | rfl | cases hfn)
def formT (a b : Nat) : Bool := [(0, 0), (5, 5), (6, 6), (7, 7), (13, 13), (10, 10), (10, 9), (9, 10), (11, 12), (12, 11), (11, 11), (12, 12)].contains (a, b)
def eqForm (x y : Value) : Bool := formT (tag x) (tag y)
theorem wrap_in (k : IntKind) (n : Int) : k.min ≤ k.wrap n ∧ k.wrap n ≤ k.max := by
  cases k <;> simp [IntKind.wrap, IntKind.min, IntKind.max, IntKind.bits, IntKind.signed] <;> omega
theorem tyOk_wrap (k : IntKind) (n : Int) : tyOk (kindCode k) (.int k (k.wrap n)) = true := by
  simp [tyOk, wrap_in k n]
theorem ty_int {ty : Nat} (h3 : 3 ≤ ty) {v : Value} (h : tyOk ty v = true) : ∃ k n, v = .int k n ∧ kindCode k = ty := by
  cases v <;> simp [tyOk] at h <;> first
    | omega
    | (rcases h with h | h
       · omega
       · first
         | exact ⟨_, _, rfl, h.1.1.symm⟩
         | omega)
theorem ty_bool {v : Value} (h : tyOk 1 v = true) : ∃ b, v = .bool b := by
  cases v with
  | bool b => exact ⟨b, rfl⟩
  | int k n => cases k <;> simp [tyOk, kindCode] at h
  | _ => simp [tyOk] at h
theorem ty_str {v : Value} (h : tyOk 2 v = true) : ∃ s, v = .string s ∧ s.size < 9223372036854775808 := by
  cases v with
  | string s => exact ⟨s, rfl, by simpa [tyOk] using h⟩
  | int k n => cases k <;> simp [tyOk, kindCode] at h
  | _ => simp [tyOk] at h
section
variable {m : Emb} {a a' : Value} {ty : Nat} (h : hasTy ty a = true) (hv : RV m a a')
include h hv
theorem has_sym (hs : isSym a = true) : tyOk ty a' = true := by
  unfold hasTy at h
  rw [hs] at h
  have := Nat.eq_of_beq_eq_true h
  rw [← this]
  exact (hv.sym_iff hs).2
theorem has_int (h3 : 3 ≤ ty) : ∃ k n, a' = .int k n ∧ kindCode k = ty := by
  cases hs : isSym a with
  | true => exact ty_int h3 (has_sym h hv hs)
  | false =>
    unfold hasTy at h
    rw [hs] at h
    simp only at h
    split at h
    · rename_i k n
      rw [hv.flat_iff rfl]
      exact ⟨k, n, rfl, (Nat.eq_of_beq_eq_true h).symm⟩
    · have := Nat.eq_of_beq_eq_true h; omega
    · have := Nat.eq_of_beq_eq_true h; omega
    · cases h
theorem has_tyOk (ht : (isSym a || tyOk ty a) = true) (hf : symFlat a = true) : tyOk ty a' = true := by
  cases hs : isSym a with
  | true => exact has_sym h hv hs
  | false =>
    rw [hs, Bool.false_or] at ht
    have hfl : flat a = true := by simpa [symFlat, hs] using hf
    rw [hv.flat_iff hfl]
    exact ht
theorem has_bool (h1 : ty = 1) : ∃ b, a' = .bool b := by
  subst h1
  cases hs : isSym a with
  | true => exact ty_bool (has_sym h hv hs)
  | false =>
    unfold hasTy at h
    rw [hs] at h
    simp only at h
    split at h
    · rename_i k n
      cases k <;> cases h
    · rename_i b
      exact ⟨b, hv.flat_iff rfl⟩
    · cases h
    · cases h
theorem has_str (h1 : ty = 2) : ∃ b, a' = .string b := by
  subst h1
  cases hs : isSym a with
  | true => obtain ⟨s, rfl, -⟩ := ty_str (has_sym h hv hs); exact ⟨s, rfl⟩
  | false =>
    unfold hasTy at h
    rw [hs] at h
    simp only at h
    split at h
    · rename_i k n
      cases k <;> cases h
    · cases h
    · rename_i b
      exact ⟨b, hv.flat_iff rfl⟩
    · cases h
end
theorem code_inj {k k' : IntKind} (h : kindCode k = kindCode k') : k = k' := by cases k <;> cases k' <;> first | rfl | cases h
theorem bare_ok {P : Program} {cx : Cx} (ok : CxOk P cx) : CxOk P (bare cx) := ⟨ok.prog, ok.ty, ok.fn⟩
section
variable {P : Program} {cx : Cx} (ok : CxOk P cx) {m : Emb} {hp : Hp} {w : World}
include ok
theorem eqFields_ok {eq : TypeId → Value → Value → Option Bool} {d : Nat} (heq : ∀ (t : TypeId) (x y x' y' : Value) (b : Bool), RV m x x' → RV m y y' → eq t x y = some b → (Op.equalIn d t x' y').run P w = .ok b w)
    {xs xs' ys ys' : List Value} (hx : RVs m xs xs') (hy : RVs m ys ys') : ∀ (fs : List Field) (b : Bool), eqFields cx eq xs ys fs = some b → (Op.eqFields d ⟨xs'⟩ ⟨ys'⟩ fs).run P w = .ok b w := by
  intro fs
  induction fs with
  | nil => intro b h; simp only [eqFields] at h; injection h with h; subst h; simp [Op.eqFields]
  | cons f fs ih =>
    intro b h
    simp only [eqFields] at h
    split at h
    · rename_i hname
      have hne : f.name ≠ "_" := fun hh => by rw [hh] at hname; simp at hname
      split at h
      · rename_i x y hxv hyv
        obtain ⟨x', p1, k2⟩ := partA_ok ok (w := w) hx hxv
        obtain ⟨y', p2, k4⟩ := partA_ok ok (w := w) hy hyv
        simp only [Op.eqFields, if_pos hne]
        rw [run_then p1, run_then p2]
        split at h
        · rename_i he
          rw [run_then (heq _ _ _ _ _ _ k2 k4 he)]
          simpa using ih b h
        · rename_i he
          rw [run_then (heq _ _ _ _ _ _ k2 k4 he)]
          injection h with h
          subst h
          rfl
        · cases h
      · cases h
    · cases h
set_option maxHeartbeats 1000000 in
theorem symEq_ok (as : AsOk cx m) {d : Nat} {t : TypeId} {x y x' y' : Value} {b : Bool} (hx : RV m x x') (hy : RV m y y') (h : symEq cx t x y = some b) : (Op.equalIn (d + 1) t x' y').run P w = .ok b w := by
  unfold symEq at h
  split at h
  case h_2 => cases h
  rename_i ti hti
  have hti := ok.ty _ _ hti
  have hu := run_under hti w
  split at h
  case h_2 => cases h
  rename_i ty hty
  split at h
  case h_2 => cases h
  rename_i hx1 hy1 hsf
  rw [Bool.and_eq_true] at hsf
  have main : ∀ r, flat x' = true → flat y' = true → binA (bare cx) .eql t false x' y' = some (.bool r) → r = b := by
    intro r hfx hfy hb
    have hr : RV m (sy 1 1 [num 11, num t, .bool false, x, y]) (.bool r) := by
      refine RV.app (l' := [num 11, num t, .bool false, x', y']) (k := 0) ?_ (by simp only [List.all_cons, hsf.1, hsf.2]; rfl) ?_ rfl
      · exact .cons (.flat _ rfl) (.cons (.flat _ rfl) (.cons (.flat _ rfl) (.cons hx (.cons hy (.nil m)))))
      · rw [as.ops 0 _ (by omega)]
        simp only [opSem, num]
        exact hb
    obtain ⟨⟨d', hd'⟩, ht⟩ := hr.sym_iff rfl
    have := as.as _ b (lookS_mem h) rfl d' _ hd' rfl
    injection this
  cases hde : ti.desc <;> rw [hde] at hty <;> first
    | (cases hty; done)
    | skip
  case bool =>
    injection hty with hty
    obtain ⟨p, rfl⟩ := has_bool hx1 hx hty.symm
    obtain ⟨q, rfl⟩ := has_bool hy1 hy hty.symm
    have : (cx.t t) = some ti := by assumption
    obtain rfl := main (p == q) rfl rfl (by simp [binA, nilOk, eqA, eqB, isSym, show (bare cx).t t = some ti from this, hde])
    simp [Op.equalIn, hu, hde]
  case int k0 =>
    injection hty with hty
    have h3 : 3 ≤ ty := by rw [← hty]; cases k0 <;> decide
    obtain ⟨k, p, rfl, hk⟩ := has_int hx1 hx h3
    obtain ⟨k', q, rfl, hk'⟩ := has_int hy1 hy h3
    obtain rfl := code_inj (hk.trans hk'.symm)
    obtain rfl := main (p == q) rfl rfl (by simp [binA, intA])
    simp [Op.equalIn, hu, hde]
  case string =>
    injection hty with hty
    subst hty
    have hs : ∀ {z z' : Value}, hasTy 2 z = true → RV m z z' → ∃ s, z' = .string s := fun {z z'} hz hr => by
      unfold hasTy at hz
      split at hz
      · rename_i hsy
        have ht := (hr.sym_iff hsy).2
        rw [Nat.eq_of_beq_eq_true hz] at ht
        obtain ⟨s, rfl, -⟩ := ty_str ht
        exact ⟨s, rfl⟩
      · cases z with
        | int k n =>
          have hz : Nat.beq 2 (kindCode k) = true := hz
          cases k <;> cases hz
        | string b => exact ⟨_, hr.flat_iff rfl⟩
        | _ => cases hz
    obtain ⟨p, rfl⟩ := hs hx1 hx
    obtain ⟨q, rfl⟩ := hs hy1 hy
    obtain rfl := main (p.toList == q.toList) rfl rfl (by simp [binA, strA])
    have e : (p == q) = (p.toList == q.toList) := beq_toListBytes p q
    simp [Op.equalIn, hu, hde, e]
set_option maxHeartbeats 1000000 in
theorem eqA_ok (as : AsOk cx m) : ∀ (n : Nat) (d : Nat) (t : TypeId) (x y x' y' : Value) (b : Bool), n ≤ d → RV m x x' → RV m y y' → eqA cx n t x y = some b → (Op.equalIn d t x' y').run P w = .ok b w := by
  intro n
  induction n with
  | zero => intro d t x y x' y' b _ _ _ h; simp [eqA] at h
  | succ n ih =>
    intro d t x y x' y' b hd hx hy h
    obtain ⟨d, rfl⟩ : ∃ d', d = d' + 1 := ⟨d - 1, by omega⟩
    simp only [eqA] at h
    split at h
    · exact symEq_ok ok as hx hy h
    rename_i hnsym
    clear hnsym
    unfold eqB at h
    split at h
    · cases h
    · rename_i ti hti
      have hti := ok.ty _ _ hti
      have hu := run_under hti w
      split at h
      · rename_i a c hde
        obtain rfl := hx.flat_iff rfl
        obtain rfl := hy.flat_iff rfl
        injection h with h; subst h
        simp [Op.equalIn, hu, hde]
      · rename_i k0 k a k' c hde
        obtain rfl := hx.flat_iff rfl
        obtain rfl := hy.flat_iff rfl
        split at h
        · rename_i hk
          subst hk
          injection h with h; subst h
          simp [Op.equalIn, hu, hde]
        · cases h
      · rename_i a c hde
        obtain rfl := hx.flat_iff rfl
        obtain rfl := hy.flat_iff rfl
        injection h with h; subst h
        simp [Op.equalIn, hu, hde]
      · rename_i e c hde
        obtain rfl := hx.flat_iff rfl
        injection h with h; subst h
        cases c with
        | none => obtain rfl := hy.flat_iff rfl; simp [Op.equalIn, hu, hde]
        | some c => obtain ⟨c', rfl, -⟩ := hy.ptr_iff; simp [Op.equalIn, hu, hde]
      · rename_i e a hde
        obtain ⟨a', rfl, -⟩ := hx.ptr_iff
        obtain rfl := hy.flat_iff rfl
        injection h with h; subst h
        simp [Op.equalIn, hu, hde]
      · rename_i e a c hde
        obtain ⟨a', rfl, ha⟩ := hx.ptr_iff
        obtain ⟨c', rfl, hc⟩ := hy.ptr_iff
        split at h
        · rename_i te hte
          have hte := ok.ty _ _ hte
          split at h
          · rename_i hz hbl
            injection h with h; subst h
            have hz' : te.size ≠ 0 := Nat.ne_of_beq_eq_false hz
            have hbl := Nat.eq_of_beq_eq_true hbl
            obtain ⟨h1, e1, h2, rfl⟩ := ha
            obtain ⟨k1, e2, k2, rfl⟩ := hc
            rw [← hbl, h2] at k2
            injection k2 with k2
            subst k2
            have hb : Nat.beq a.off c.off = decide (a.off = c.off) := by
              cases hh : Nat.beq a.off c.off with
              | true => simp [Nat.eq_of_beq_eq_true hh]
              | false => simp [Nat.ne_of_beq_eq_false hh]
            simp [Op.equalIn, hu, hde, run_size hte, hz', sameAddr]
            rw [hb]
            by_cases ho : a.off = c.off
            · simp [ho]
            · simp [ho]
          · cases h
        · cases h
      · rename_i ms t1 v1 hde
        obtain rfl := hx.flat_iff rfl
        obtain ⟨v2, rfl, -⟩ := hy.iface_iff
        injection h with h; subst h
        simp [Op.equalIn, hu, hde]
      · rename_i ms t1 v1 hde
        obtain rfl := hy.flat_iff rfl
        obtain ⟨v2, rfl, -⟩ := hx.iface_iff
        injection h with h; subst h
        simp [Op.equalIn, hu, hde]
      · rename_i ms hde
        obtain rfl := hx.flat_iff rfl
        obtain rfl := hy.flat_iff rfl
        injection h with h; subst h
        simp [Op.equalIn, hu, hde]
      · rename_i ms t1 v1 t2 v2 hde
        obtain ⟨u1, rfl, r1⟩ := hx.iface_iff
        obtain ⟨u2, rfl, r2⟩ := hy.iface_iff
        split at h
        · rename_i hne
          have hne := Nat.ne_of_beq_eq_false hne
          injection h with h; subst h
          simp [Op.equalIn, hu, hde, hne]
        · rename_i heq
          obtain rfl := Nat.eq_of_beq_eq_true heq
          split at h
          · rename_i tj htj
            split at h
            · rename_i hc
              obtain ⟨i, h1, h2⟩ := ti_cmp (ok.ty _ _ htj)
              rw [hc] at h2
              have he := ih d t1 v1 v2 u1 u2 b (by omega) r1 r2 h
              simp [Op.equalIn, hu, hde, typeInfo, h1, ← h2, he]
            · cases h
          · cases h
      · rename_i e n1 c1 c n2 c2 hde
        obtain rfl := hx.flat_iff rfl
        injection h with h; subst h
        cases c with
        | none => obtain rfl := hy.flat_iff rfl; simp [Op.equalIn, hu, hde]
        | some c => obtain ⟨c', d', rfl, -⟩ := hy.slice_iff; simp [Op.equalIn, hu, hde]
      · rename_i e a n1 c1 n2 c2 hde
        obtain ⟨c', d', rfl, -⟩ := hx.slice_iff
        obtain rfl := hy.flat_iff rfl
        injection h with h; subst h
        simp [Op.equalIn, hu, hde]
      · rename_i k e c hde
        obtain rfl := hx.flat_iff rfl
        injection h with h; subst h
        cases c with
        | none => obtain rfl := hy.flat_iff rfl; simp [Op.equalIn, hu, hde]
        | some c => obtain ⟨c', rfl, -⟩ := hy.map_iff; simp [Op.equalIn, hu, hde]
      · rename_i k e c hde
        obtain ⟨c', rfl, -⟩ := hx.map_iff
        obtain rfl := hy.flat_iff rfl
        injection h with h; subst h
        simp [Op.equalIn, hu, hde]
      · rename_i hde
        obtain rfl := hx.flat_iff rfl
        obtain rfl := hy.flat_iff rfl
        injection h with h; subst h
        simp [Op.equalIn, hu, hde]
      · rename_i p1 p2 p3 fn xs ys hde
        obtain rfl := hx.flat_iff rfl
        split at h
        · cases h
        rename_i hmo
        obtain ⟨q0, q1, q2, rfl⟩ := hy.func_any hmo
        injection h with h; subst h
        simp [Op.equalIn, hu, hde]
      · rename_i p1 p2 p3 fn xs ys hde
        obtain rfl := hy.flat_iff rfl
        split at h
        · cases h
        rename_i hmo
        obtain ⟨q0, q1, q2, rfl⟩ := hx.func_any hmo
        injection h with h; subst h
        simp [Op.equalIn, hu, hde]
      · rename_i fs xs ys hde
        obtain ⟨xs⟩ := xs
        obtain ⟨ys⟩ := ys
        obtain ⟨xs', rfl, hxs⟩ := hx.agg_iff
        obtain ⟨ys', rfl, hys⟩ := hy.agg_iff
        split at h
        · rename_i heq
          obtain ⟨i, h1, h2, -, -, -, h3, -⟩ := ti_parts hti
          rw [heq] at h3
          have h3 := h3.symm
          rw [Bool.and_eq_true] at h3
          have hst : P.stoodInHeld t = false := by simpa using h3.2
          have hfs : P.fieldsOf t = fs := by simp [Program.fieldsOf, h2, hde]
          rw [run_equalIn_struct w d t ⟨xs'⟩ ⟨ys'⟩ (by rw [hfs, h2, hde]) hst, hfs]
          exact eqFields_ok ok (fun t x y x' y' b r1 r2 r3 => ih d t x y x' y' b (by omega) r1 r2 r3) hxs hys fs.toList b h
        · cases h
      · cases h
set_option maxHeartbeats 1000000 in
theorem eqA_guard {n : Nat} {t : TypeId} {x y : Value} {b : Bool} (hs : (isSym x || isSym y) = false) (hn : n ≠ 0) (h : eqA cx n t x y = some b) {x' y' : Value} (hx : RV m x x') (hy : RV m y y') (op : BinOp) (p q : Operand) (hg : nilOk (cOp p || cOp q) x y = true) : (eqGuard op t p q x' y').run P w = .ok () w := by
  obtain ⟨n, rfl⟩ : ∃ k, n = k + 1 := ⟨n - 1, by omega⟩
  simp only [eqA, hs, eqB] at h
  split at h
  · cases h
  · rename_i ti hti
    have hti := ok.ty _ _ hti
    split at h
    case h_9 =>
      obtain rfl := hx.flat_iff rfl
      obtain rfl := hy.flat_iff rfl
      unfold eqGuard
      cases p <;> cases q <;> first
        | (cases op <;> simp <;> done)
        | (simp [nilOk, cOp] at hg; done)
    case h_18 =>
      rename_i fs xs ys hde
      obtain ⟨xs⟩ := xs
      obtain ⟨ys⟩ := ys
      obtain ⟨xs', rfl, hxs⟩ := hx.agg_iff
      obtain ⟨ys', rfl, hys⟩ := hy.agg_iff
      split at h
      · rename_i heq
        obtain ⟨i, h1, h2, -, -, -, h3, -⟩ := ti_parts hti
        rw [heq] at h3
        have h3 := h3.symm
        rw [Bool.and_eq_true] at h3
        exact run_eqGuard_agg w op t p q ⟨xs'⟩ ⟨ys'⟩ (by simpa using h3.1)
      · cases h
    case h_19 => cases h
    all_goals
      clear hg
      cases hx <;> cases hy <;> first
        | (unfold eqGuard; cases op <;> simp <;> done)
        | (rename_i hf1 hf2; unfold eqGuard; cases op <;> simp <;> done)
        | (exfalso; simp_all [Ev.flat]; done)
omit ok in
theorem eqForm_of {n : Nat} {t : TypeId} {x y : Value} {b : Bool} (hs : (isSym x || isSym y) = false) (h : eqA cx n t x y = some b) (h1 : ∀ k a k' b, x = .int k a → y = .int k' b → False) (h2 : ∀ a b, x = .string a → y = .string b → False) : eqForm x y = true := by
  cases n with
  | zero => simp [eqA] at h
  | succ n =>
    simp only [eqA, hs, eqB] at h
    split at h
    · cases h
    · split at h
      case h_19 => cases h
      case h_2 => exact (h1 _ _ _ _ rfl rfl).elim
      case h_3 => exact (h2 _ _ rfl rfl).elim
      all_goals first
        | rfl
        | (split at h
           · cases h
           · rename_i hmo; simp only [eqForm, tag, hmo]; rfl)
omit ok in
theorem eqForm_rv {x y x' y' : Value} (hx : RV m x x') (hy : RV m y y') (h : eqForm x y = true) : eqForm x' y' = true := by
  have h1 : tag x ≠ 8 := fun ht => by simp [eqForm, formT, ht] at h
  have h2 : tag y ≠ 8 := fun ht => by simp [eqForm, formT, ht] at h
  unfold eqForm at *
  rw [hx.tag h1, hy.tag h2]
  exact h
omit ok in
theorem eql_of_form {t : TypeId} {x y : Value} (h : eqForm x y = true) : binOp .eql t x y = (Op.equal t x y >>= fun b => (pure (.bool b) : Sem Value)) := by
  cases x <;> cases y <;> first | rfl | (simp [eqForm, formT, tag] at h; done)
omit ok in
theorem neq_of_form {t : TypeId} {x y : Value} (h : eqForm x y = true) : binOp .neq t x y = (Op.equal t x y >>= fun b => (pure (.bool (!b)) : Sem Value)) := by
  cases x <;> cases y <;> first | rfl | (simp [eqForm, formT, tag] at h; done)
theorem binA_ok (as : AsOk cx m) {op : BinOp} {t : TypeId} {x y x' y' v : Value} (hs : (isSym x || isSym y) = false) (hx : RV m x x') (hy : RV m y y') (p q : Operand) (h : binA cx op t (cOp p || cOp q) x y = some v) :
    ((do eqGuard op t p q x' y'; binOp op t x' y') : Sem Value).run P w = .ok v w ∧ flat v = true := by
  unfold binA at h
  split at h
  · rename_i k a k' b
    obtain rfl := hx.flat_iff rfl
    obtain rfl := hy.flat_iff rfl
    have hg : (eqGuard op t p q (.int k a) (.int k' b)).run P w = .ok () w := by unfold eqGuard; cases op <;> simp
    rw [run_then hg]
    split at h
    · exact shiftA_ok t (.inl rfl) h
    · exact shiftA_ok t (.inr rfl) h
    · rename_i h1 h2
      split at h
      · rename_i hk
        subst hk
        exact intA_ok t (fun hh => h1 hh) (fun hh => h2 hh) h
      · cases h
  · rename_i a b
    obtain rfl := hx.flat_iff rfl
    obtain rfl := hy.flat_iff rfl
    have hg : (eqGuard op t p q (.string a) (.string b)).run P w = .ok () w := by unfold eqGuard; cases op <;> simp
    rw [run_then hg]
    exact strA_ok t h
  · rename_i hni hns
    split at h
    · cases h
    rename_i hg
    split at h
    · split at h
      · rename_i b hb
        injection h with h
        subst h
        rw [run_then (eqA_guard ok hs (by omega) hb hx hy .eql p q hg)]
        have he := eqA_ok ok as (w := w) 9 10000 t x y x' y' b (by omega) hx hy hb
        refine ⟨?_, rfl⟩
        have hbin := eql_of_form (t := t) (eqForm_rv hx hy (eqForm_of hs hb hni hns))
        rw [hbin]
        simp [Op.equal, Op.maxDepth, he]
      · cases h
    · split at h
      · rename_i b hb
        injection h with h
        subst h
        rw [run_then (eqA_guard ok hs (by omega) hb hx hy .neq p q hg)]
        have he := eqA_ok ok as (w := w) 9 10000 t x y x' y' b (by omega) hx hy hb
        refine ⟨?_, rfl⟩
        have hbin := neq_of_form (t := t) (eqForm_rv hx hy (eqForm_of hs hb hni hns))
        rw [hbin]
        simp [Op.equal, Op.maxDepth, he]
      · cases h
    · cases h
end
end Go.Proofs.YtaepplhgeeaidaaDoor.Ev
