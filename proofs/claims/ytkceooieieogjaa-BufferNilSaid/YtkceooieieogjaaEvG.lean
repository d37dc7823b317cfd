/- Arithmetic, comparison, literals, cuts: what the reckoner says of them, the model says. -/
import Derived.Test.YtkceooieieogjaaEvF
set_option linter.unusedVariables false
set_option linter.unusedSimpArgs false
namespace Go.Proofs.Ytkceooieieogjaa.Ev
open Go Go.RowKit

theorem wrapA_eq (k : IntKind) (n : Int) : wrapA k n = k.wrap n := by
  unfold wrapA
  split
  · rename_i a
    split
    · rename_i h
      have h := Nat.blt_eq.mp h
      simp only [IntKind.wrap, IntKind.bits, IntKind.signed]
      show (Int.ofNat a) = if (true && decide ((Int.ofNat a) % (2 ^ 64 : Int) ≥ (2 ^ (64 - 1) : Int))) = true then _ else _
      rw [if_neg (by simp; omega)]
      simp
      omega
    · rfl
  · rename_i a
    split
    · rename_i h
      have h := Nat.blt_eq.mp h
      simp only [IntKind.wrap, IntKind.bits, IntKind.signed]
      show (Int.negSucc a) = if (true && decide ((Int.negSucc a) % (2 ^ 64 : Int) ≥ (2 ^ (64 - 1) : Int))) = true then _ else _
      rw [if_pos (by simp; omega)]
      simp
      omega
    · rfl
  · rename_i a
    simp only [IntKind.wrap, IntKind.bits, IntKind.signed]
    simp
    rfl
  · rename_i a
    simp only [IntKind.wrap, IntKind.bits, IntKind.signed]
    simp
    rfl
  · rename_i a
    simp only [IntKind.wrap, IntKind.bits, IntKind.signed]
    simp
    rfl
  · rfl

section
variable {P : Program} {w : World}

theorem intA_ok {op : BinOp} {k : IntKind} {a b : Int} {v : Value} (t : TypeId) (h1 : op ≠ .shl) (h2 : op ≠ .shr) (h : intA op k a b = some v) : (binOp op t (.int k a) (.int k b)).run P w = .ok v w ∧ flat v = true := by
  cases op <;> simp only [intA, wrapA_eq] at h <;> first
    | (exact absurd rfl h1)
    | (exact absurd rfl h2)
    | (split at h <;> first
        | (cases h; done)
        | (rename_i hb; injection h with h; subst h; exact ⟨by simp [binOp, Op.intDiv, hb], rfl⟩))
    | (injection h with h; subst h; exact ⟨by simp [binOp, Op.intArith, Op.intBits, Op.intCmp], rfl⟩)
    | (cases h; done)

theorem shiftA_ok {op : BinOp} {k k' : IntKind} {a b : Int} {v : Value} (t : TypeId) (ho : op = .shl ∨ op = .shr) (h : shiftA op k a b = some v) : (binOp op t (.int k a) (.int k' b)).run P w = .ok v w ∧ flat v = true := by
  unfold shiftA at h
  split at h
  · cases h
  · rename_i hb
    rcases ho with rfl | rfl
    · simp only [wrapA_eq] at h
      injection h with h
      subst h
      exact ⟨by simp [binOp, Op.shift, hb], rfl⟩
    · simp only at h
      injection h with h
      subst h
      exact ⟨by simp [binOp, Op.shift, hb], rfl⟩

theorem strA_ok {op : BinOp} {a b : ByteArray} {v : Value} (t : TypeId) (h : strA op a b = some v) : (binOp op t (.string a) (.string b)).run P w = .ok v w ∧ flat v = true := by
  cases op <;> simp only [strA] at h <;> first
    | (cases h; done)
    | (split at h <;> first
        | (cases h; done)
        | (rename_i hb; injection h with h; subst h; exact ⟨by simp only [binOp, Op.stringOp]; rw [if_neg hb]; rfl, rfl⟩))
    | (injection h with h; subst h; exact ⟨by simp [binOp, Op.stringOp], rfl⟩)

theorem unA_ok {op : UnOp} {x v : Value} (h : unA op x = some v) : (Op.unary op x).run P w = .ok v w ∧ flat v = true := by
  unfold unA at h
  split at h
  · rw [wrapA_eq] at h
    injection h with h
    subst h
    exact ⟨by simp [Op.unary, Op.intArith], rfl⟩
  · injection h with h
    subst h
    exact ⟨by simp [Op.unary], rfl⟩
  · rename_i k n
    simp only [intA] at h
    injection h with h
    subst h
    exact ⟨by simp [Op.unary, Op.intBits], rfl⟩
  · cases h

theorem unA_flat {op : UnOp} {x v : Value} (h : unA op x = some v) : flat x = true := by
  unfold unA at h
  split at h <;> first | rfl | cases h
end

def tag : Value → Nat
  | .bool _ => 0
  | .int _ _ => 1
  | .float _ _ => 2
  | .complex _ _ _ => 3
  | .string _ => 4
  | .pointer _ => 5
  | .slice _ _ _ => 6
  | .map _ => 7
  | .chan _ => 8
  | .func fn _ _ => match isMo fn with
    | true => 8
    | false => 9
  | .nilFunc => 10
  | .iface _ _ => 11
  | .nilIface => 12
  | .agg _ => 13
  | .tuple _ => 14
theorem RV.tag {m : Emb} {v v' : Value} (h : RV m v v') (hn : Ev.tag v ≠ 8) : Ev.tag v' = Ev.tag v := by
  cases h <;> first
    | rfl
    | exact absurd rfl hn
    | (rename_i fn hfn _ _ _ _ _ _ _ _; cases fn <;> first | rfl | cases hfn)

def formT (a b : Nat) : Bool := [(0, 0), (5, 5), (6, 6), (7, 7), (13, 13), (10, 10), (10, 9), (9, 10), (11, 12), (12, 11), (11, 11), (12, 12)].contains (a, b)
/-- Pairs of values that '==' compares by their type. -/
def eqForm (x y : Value) : Bool := formT (tag x) (tag y)

section
variable {P : Program} {cx : Cx} (ok : CxOk P cx) {m : Emb} {hp : Hp} {w : World}
include ok

theorem eqFields_ok {eq : TypeId → Value → Value → Option Bool} {d : Nat} (heq : ∀ (t : TypeId) (x y x' y' : Value) (b : Bool), RV m x x' → RV m y y' → eq t x y = some b → (Op.equalIn d t x' y').run P w = .ok b w)
    {xs xs' ys ys' : List Value} (hx : RVs m xs xs') (hy : RVs m ys ys') : ∀ (fs : List Field) (b : Bool), eqFields cx eq xs ys fs = some b → (Op.eqFields d ⟨xs'⟩ ⟨ys'⟩ fs).run P w = .ok b w := by
  intro fs
  induction fs with
  | nil => intro b h; simp only [eqFields] at h; injection h with h; subst h; simp [Op.eqFields]
  | cons f fs ih =>
    intro b h
    simp only [eqFields] at h
    split at h
    · rename_i hname
      have hne : f.name ≠ "_" := fun hh => by rw [hh] at hname; simp at hname
      split at h
      · rename_i x y hxv hyv
        obtain ⟨x', p1, k2⟩ := partA_ok ok (w := w) hx hxv
        obtain ⟨y', p2, k4⟩ := partA_ok ok (w := w) hy hyv
        simp only [Op.eqFields, if_pos hne]
        rw [run_then p1, run_then p2]
        split at h
        · rename_i he
          rw [run_then (heq _ _ _ _ _ _ k2 k4 he)]
          simpa using ih b h
        · rename_i he
          rw [run_then (heq _ _ _ _ _ _ k2 k4 he)]
          injection h with h
          subst h
          rfl
        · cases h
      · cases h
    · cases h

set_option maxHeartbeats 1000000 in
theorem eqA_ok : ∀ (n : Nat) (d : Nat) (t : TypeId) (x y x' y' : Value) (b : Bool), n ≤ d → RV m x x' → RV m y y' → eqA cx n t x y = some b → (Op.equalIn d t x' y').run P w = .ok b w := by
  intro n
  induction n with
  | zero => intro d t x y x' y' b _ _ _ h; simp [eqA] at h
  | succ n ih =>
    intro d t x y x' y' b hd hx hy h
    obtain ⟨d, rfl⟩ : ∃ d', d = d' + 1 := ⟨d - 1, by omega⟩
    simp only [eqA] at h
    split at h
    · cases h
    · rename_i ti hti
      have hti := ok.ty _ _ hti
      have hu := run_under hti w
      split at h
      · rename_i a c hde
        obtain rfl := hx.flat_iff rfl
        obtain rfl := hy.flat_iff rfl
        injection h with h; subst h
        simp [Op.equalIn, hu, hde]
      · rename_i k0 k a k' c hde
        obtain rfl := hx.flat_iff rfl
        obtain rfl := hy.flat_iff rfl
        split at h
        · rename_i hk
          subst hk
          injection h with h; subst h
          simp [Op.equalIn, hu, hde]
        · cases h
      · rename_i a c hde
        obtain rfl := hx.flat_iff rfl
        obtain rfl := hy.flat_iff rfl
        injection h with h; subst h
        simp [Op.equalIn, hu, hde]
      · rename_i e c hde
        obtain rfl := hx.flat_iff rfl
        injection h with h; subst h
        cases c with
        | none => obtain rfl := hy.flat_iff rfl; simp [Op.equalIn, hu, hde]
        | some c => obtain ⟨c', rfl, -⟩ := hy.ptr_iff; simp [Op.equalIn, hu, hde]
      · rename_i e a hde
        obtain ⟨a', rfl, -⟩ := hx.ptr_iff
        obtain rfl := hy.flat_iff rfl
        injection h with h; subst h
        simp [Op.equalIn, hu, hde]
      · rename_i e a c hde
        obtain ⟨a', rfl, ha⟩ := hx.ptr_iff
        obtain ⟨c', rfl, hc⟩ := hy.ptr_iff
        split at h
        · rename_i te hte
          have hte := ok.ty _ _ hte
          split at h
          · rename_i hz hbl
            injection h with h; subst h
            have hz' : te.size ≠ 0 := Nat.ne_of_beq_eq_false hz
            have hbl := Nat.eq_of_beq_eq_true hbl
            obtain ⟨h1, e1, h2, rfl⟩ := ha
            obtain ⟨k1, e2, k2, rfl⟩ := hc
            rw [← hbl, h2] at k2
            injection k2 with k2
            subst k2
            have hb : Nat.beq a.off c.off = decide (a.off = c.off) := by
              cases hh : Nat.beq a.off c.off with
              | true => simp [Nat.eq_of_beq_eq_true hh]
              | false => simp [Nat.ne_of_beq_eq_false hh]
            simp [Op.equalIn, hu, hde, run_size hte, hz', sameAddr]
            rw [hb]
            by_cases ho : a.off = c.off
            · simp [ho]
            · simp [ho]
          · cases h
        · cases h
      · rename_i ms t1 v1 hde
        obtain rfl := hx.flat_iff rfl
        obtain ⟨v2, rfl, -⟩ := hy.iface_iff
        injection h with h; subst h
        simp [Op.equalIn, hu, hde]
      · rename_i ms t1 v1 hde
        obtain rfl := hy.flat_iff rfl
        obtain ⟨v2, rfl, -⟩ := hx.iface_iff
        injection h with h; subst h
        simp [Op.equalIn, hu, hde]
      · rename_i ms hde
        obtain rfl := hx.flat_iff rfl
        obtain rfl := hy.flat_iff rfl
        injection h with h; subst h
        simp [Op.equalIn, hu, hde]
      · rename_i ms t1 v1 t2 v2 hde
        obtain ⟨u1, rfl, r1⟩ := hx.iface_iff
        obtain ⟨u2, rfl, r2⟩ := hy.iface_iff
        split at h
        · rename_i hne
          have hne := Nat.ne_of_beq_eq_false hne
          injection h with h; subst h
          simp [Op.equalIn, hu, hde, hne]
        · rename_i heq
          obtain rfl := Nat.eq_of_beq_eq_true heq
          split at h
          · rename_i tj htj
            split at h
            · rename_i hc
              obtain ⟨i, h1, h2⟩ := ti_cmp (ok.ty _ _ htj)
              rw [hc] at h2
              have he := ih d t1 v1 v2 u1 u2 b (by omega) r1 r2 h
              simp [Op.equalIn, hu, hde, typeInfo, h1, ← h2, he]
            · cases h
          · cases h
      · rename_i e n1 c1 c n2 c2 hde
        obtain rfl := hx.flat_iff rfl
        injection h with h; subst h
        cases c with
        | none => obtain rfl := hy.flat_iff rfl; simp [Op.equalIn, hu, hde]
        | some c => obtain ⟨c', d', rfl, -⟩ := hy.slice_iff; simp [Op.equalIn, hu, hde]
      · rename_i e a n1 c1 n2 c2 hde
        obtain ⟨c', d', rfl, -⟩ := hx.slice_iff
        obtain rfl := hy.flat_iff rfl
        injection h with h; subst h
        simp [Op.equalIn, hu, hde]
      · rename_i k e c hde
        obtain rfl := hx.flat_iff rfl
        injection h with h; subst h
        cases c with
        | none => obtain rfl := hy.flat_iff rfl; simp [Op.equalIn, hu, hde]
        | some c => obtain ⟨c', rfl, -⟩ := hy.map_iff; simp [Op.equalIn, hu, hde]
      · rename_i k e c hde
        obtain ⟨c', rfl, -⟩ := hx.map_iff
        obtain rfl := hy.flat_iff rfl
        injection h with h; subst h
        simp [Op.equalIn, hu, hde]
      · rename_i hde
        obtain rfl := hx.flat_iff rfl
        obtain rfl := hy.flat_iff rfl
        injection h with h; subst h
        simp [Op.equalIn, hu, hde]
      · rename_i p1 p2 p3 fn xs ys hde
        obtain rfl := hx.flat_iff rfl
        split at h
        · cases h
        rename_i hmo
        obtain ⟨q0, q1, q2, rfl⟩ := hy.func_any hmo
        injection h with h; subst h
        simp [Op.equalIn, hu, hde]
      · rename_i p1 p2 p3 fn xs ys hde
        obtain rfl := hy.flat_iff rfl
        split at h
        · cases h
        rename_i hmo
        obtain ⟨q0, q1, q2, rfl⟩ := hx.func_any hmo
        injection h with h; subst h
        simp [Op.equalIn, hu, hde]
      · rename_i fs xs ys hde
        obtain ⟨xs⟩ := xs
        obtain ⟨ys⟩ := ys
        obtain ⟨xs', rfl, hxs⟩ := hx.agg_iff
        obtain ⟨ys', rfl, hys⟩ := hy.agg_iff
        split at h
        · rename_i heq
          obtain ⟨i, h1, h2, -, -, -, h3, -⟩ := ti_parts hti
          rw [heq] at h3
          have h3 := h3.symm
          rw [Bool.and_eq_true] at h3
          have hst : P.stoodInHeld t = false := by simpa using h3.2
          have hfs : P.fieldsOf t = fs := by simp [Program.fieldsOf, h2, hde]
          rw [run_equalIn_struct w d t ⟨xs'⟩ ⟨ys'⟩ (by rw [hfs, h2, hde]) hst, hfs]
          exact eqFields_ok ok (fun t x y x' y' b r1 r2 r3 => ih d t x y x' y' b (by omega) r1 r2 r3) hxs hys fs.toList b h
        · cases h
      · cases h

set_option maxHeartbeats 1000000 in
theorem eqA_guard {n : Nat} {t : TypeId} {x y : Value} {b : Bool} (hn : n ≠ 0) (h : eqA cx n t x y = some b) {x' y' : Value} (hx : RV m x x') (hy : RV m y y') (op : BinOp) (p q : Operand) (hg : nilOk (cOp p || cOp q) x y = true) : (eqGuard op t p q x' y').run P w = .ok () w := by
  obtain ⟨n, rfl⟩ : ∃ k, n = k + 1 := ⟨n - 1, by omega⟩
  simp only [eqA] at h
  split at h
  · cases h
  · rename_i ti hti
    have hti := ok.ty _ _ hti
    split at h
    case h_9 =>
      obtain rfl := hx.flat_iff rfl
      obtain rfl := hy.flat_iff rfl
      unfold eqGuard
      cases p <;> cases q <;> first
        | (cases op <;> simp <;> done)
        | (simp [nilOk, cOp] at hg; done)
    case h_18 =>
      rename_i fs xs ys hde
      obtain ⟨xs⟩ := xs
      obtain ⟨ys⟩ := ys
      obtain ⟨xs', rfl, hxs⟩ := hx.agg_iff
      obtain ⟨ys', rfl, hys⟩ := hy.agg_iff
      split at h
      · rename_i heq
        obtain ⟨i, h1, h2, -, -, -, h3, -⟩ := ti_parts hti
        rw [heq] at h3
        have h3 := h3.symm
        rw [Bool.and_eq_true] at h3
        exact run_eqGuard_agg w op t p q ⟨xs'⟩ ⟨ys'⟩ (by simpa using h3.1)
      · cases h
    case h_19 => cases h
    all_goals
      clear hg
      cases hx <;> cases hy <;> first
        | (unfold eqGuard; cases op <;> simp <;> done)
        | (rename_i hf1 hf2; unfold eqGuard; cases op <;> simp <;> done)
        | (exfalso; simp_all [Ev.flat]; done)

omit ok in
theorem eqForm_of {n : Nat} {t : TypeId} {x y : Value} {b : Bool} (h : eqA cx n t x y = some b) (h1 : ∀ k a k' b, x = .int k a → y = .int k' b → False) (h2 : ∀ a b, x = .string a → y = .string b → False) : eqForm x y = true := by
  cases n with
  | zero => simp [eqA] at h
  | succ n =>
    simp only [eqA] at h
    split at h
    · cases h
    · split at h
      case h_19 => cases h
      case h_2 => exact (h1 _ _ _ _ rfl rfl).elim
      case h_3 => exact (h2 _ _ rfl rfl).elim
      all_goals first
        | rfl
        | (split at h
           · cases h
           · rename_i hmo; simp only [eqForm, tag, hmo]; rfl)

omit ok in
theorem eqForm_rv {x y x' y' : Value} (hx : RV m x x') (hy : RV m y y') (h : eqForm x y = true) : eqForm x' y' = true := by
  have h1 : tag x ≠ 8 := fun ht => by simp [eqForm, formT, ht] at h
  have h2 : tag y ≠ 8 := fun ht => by simp [eqForm, formT, ht] at h
  unfold eqForm at *
  rw [hx.tag h1, hy.tag h2]
  exact h

omit ok in
theorem eql_of_form {t : TypeId} {x y : Value} (h : eqForm x y = true) : binOp .eql t x y = (Op.equal t x y >>= fun b => (pure (.bool b) : Sem Value)) := by
  cases x <;> cases y <;> first | rfl | (simp [eqForm, formT, tag] at h; done)
omit ok in
theorem neq_of_form {t : TypeId} {x y : Value} (h : eqForm x y = true) : binOp .neq t x y = (Op.equal t x y >>= fun b => (pure (.bool (!b)) : Sem Value)) := by
  cases x <;> cases y <;> first | rfl | (simp [eqForm, formT, tag] at h; done)

theorem binA_ok {op : BinOp} {t : TypeId} {x y x' y' v : Value} (hx : RV m x x') (hy : RV m y y') (p q : Operand) (h : binA cx op t (cOp p || cOp q) x y = some v) :
    ((do eqGuard op t p q x' y'; binOp op t x' y') : Sem Value).run P w = .ok v w ∧ flat v = true := by
  unfold binA at h
  split at h
  · rename_i k a k' b
    obtain rfl := hx.flat_iff rfl
    obtain rfl := hy.flat_iff rfl
    have hg : (eqGuard op t p q (.int k a) (.int k' b)).run P w = .ok () w := by unfold eqGuard; cases op <;> simp
    rw [run_then hg]
    split at h
    · exact shiftA_ok t (.inl rfl) h
    · exact shiftA_ok t (.inr rfl) h
    · rename_i h1 h2
      split at h
      · rename_i hk
        subst hk
        exact intA_ok t (fun hh => h1 hh) (fun hh => h2 hh) h
      · cases h
  · rename_i a b
    obtain rfl := hx.flat_iff rfl
    obtain rfl := hy.flat_iff rfl
    have hg : (eqGuard op t p q (.string a) (.string b)).run P w = .ok () w := by unfold eqGuard; cases op <;> simp
    rw [run_then hg]
    exact strA_ok t h
  · rename_i hni hns
    split at h
    · cases h
    rename_i hg
    split at h
    · split at h
      · rename_i b hb
        injection h with h
        subst h
        rw [run_then (eqA_guard ok (by omega) hb hx hy .eql p q hg)]
        have he := eqA_ok ok (w := w) 9 10000 t x y x' y' b (by omega) hx hy hb
        refine ⟨?_, rfl⟩
        have hbin := eql_of_form (t := t) (eqForm_rv hx hy (eqForm_of hb hni hns))
        rw [hbin]
        simp [Op.equal, Op.maxDepth, he]
      · cases h
    · split at h
      · rename_i b hb
        injection h with h
        subst h
        rw [run_then (eqA_guard ok (by omega) hb hx hy .neq p q hg)]
        have he := eqA_ok ok (w := w) 9 10000 t x y x' y' b (by omega) hx hy hb
        refine ⟨?_, rfl⟩
        have hbin := neq_of_form (t := t) (eqForm_rv hx hy (eqForm_of hb hni hns))
        rw [hbin]
        simp [Op.equal, Op.maxDepth, he]
      · cases h
    · cases h
end
end Go.Proofs.Ytkceooieieogjaa.Ev
