/- What expressions come to: for proofs that go from place to place (see XNaddC to XNaddF for how it is used). -/
import Derived.Test.YtcholmmiieddcaaEvFm
set_option linter.unusedVariables false
set_option linter.unusedSimpArgs false
set_option linter.unusedSectionVars false
namespace Go.Proofs.Ytcholmmiieddcaa.Ev
open Go Go.RowKit
section
variable {cx : Cx} {R : Addr → Option Value} {s : Nat → Value} {u : Nat → List Value → Option Value}
theorem nA (ty k : Nat) (xs : List Value) : denS s u (sy ty (k + 1) xs) = (mapO (denS s u) xs).bind (u k) := denS_app ty k xs
theorem f_num (k : Nat) : denS s u (num k) = some (num k) := denS_flat rfl
theorem f_int (k : IntKind) (n : Int) : denS s u (.int k n) = some (.int k n) := denS_flat rfl
theorem f_bool (b : Bool) : denS s u (.bool b) = some (.bool b) := denS_flat rfl
theorem n_lss (t : Nat) (c : Bool) (k : IntKind) (a b : Int) : uRd cx R 0 [num 13, num t, .bool c, .int k a, .int k b] = some (.bool (decide (a < b))) := by
  rw [uRd_op]; simp only [opSem, num, binOf]; rw [binA_int (by simp) (by simp)]; rfl
theorem n_eql (t : Nat) (c : Bool) (k : IntKind) (a b : Int) : uRd cx R 0 [num 11, num t, .bool c, .int k a, .int k b] = some (.bool (a == b)) := by
  rw [uRd_op]; simp only [opSem, num, binOf]; rw [binA_int (by simp) (by simp)]; rfl
theorem n_add (t : Nat) (c : Bool) (k : IntKind) (a b : Int) : uRd cx R 0 [num 0, num t, .bool c, .int k a, .int k b] = some (.int k (wrapA k (a + b))) := by
  rw [uRd_op]; simp only [opSem, num, binOf]; rw [binA_int (by simp) (by simp)]; rfl
theorem n_sub (t : Nat) (c : Bool) (k : IntKind) (a b : Int) : uRd cx R 0 [num 1, num t, .bool c, .int k a, .int k b] = some (.int k (wrapA k (a - b))) := by
  rw [uRd_op]; simp only [opSem, num, binOf]; rw [binA_int (by simp) (by simp)]; rfl
theorem n_rem (t : Nat) (c : Bool) (k : IntKind) (a b : Int) (h : b ≠ 0) : uRd cx R 0 [num 4, num t, .bool c, .int k a, .int k b] = some (.int k (a.tmod b)) := by
  rw [uRd_op]; simp only [opSem, num, binOf]; rw [binA_int (by simp) (by simp)]; simp [intA, h]
theorem n_beq {t : Nat} (h : (match (bare cx).t t with | some ti => isBoolD ti.desc | none => false) = true) (c a b : Bool) : uRd cx R 0 [num 11, num t, .bool c, .bool a, .bool b] = some (.bool (a == b)) := by
  split at h
  · rename_i ti ht
    rw [uRd_op]
    exact (binA_bool ht h c a b).1
  · cases h
theorem n_len (a : Option Addr) (n c : Nat) : uRd cx R 4 [.slice a n c] = some (.int .i64 (Int.ofNat n)) := by rw [uRd_rd _ _ _ _ (by omega)]; rfl
theorem n_rd (a : Addr) : uRd cx R 5 [.pointer (some a)] = R a := rfl
theorem n_ix (z : Nat) (a : Addr) (n c : Nat) (k : IntKind) (i : Nat) : uRd cx R 6 [num z, .slice (some a) n c, .int k (.ofNat i)] = some (.pointer (some (a.add (i * z)))) := by rw [uRd_rd _ _ _ _ (by omega)]; rfl
theorem n_fd (a : Addr) (o : Nat) : uRd cx R 7 [.pointer (some a), num o] = some (.pointer (some (a.add o))) := by rw [uRd_rd _ _ _ _ (by omega)]; rfl
theorem n_tr (k : Nat) (vs : List Value) : uRd cx R 8 (num k :: vs) = opRd cx.P R 8 (num k :: vs) := by rw [uRd_rd _ _ _ _ (by omega)]
theorem n_cs (z : Nat) (a : Addr) (n c : Nat) (l : List Value) (h : readN R a (n * z) = some l) : uRd cx R 9 [num z, .slice (some a) n c] = some (.agg ⟨l⟩) := by
  rw [uRd_rd _ _ _ _ (by omega)]
  show (match readN R a (n * z) with | some l => some (Value.agg ⟨l⟩) | none => none) = _
  rw [h]
theorem n_cell (xs : List Value) (k : IntKind) (i z o : Nat) : uRd cx R 10 [num 0, .agg ⟨xs⟩, .int k (.ofNat i), num z, num o] = xs[i * z + o]? := by rw [uRd_rd _ _ _ _ (by omega)]; rfl
theorem n_over (xs : List Value) (k : IntKind) (i z o : Nat) (x y : Value) : uRd cx R 10 [num 1, .agg ⟨xs⟩, .int k (.ofNat i), num z, num o, x, y] = some (.agg ⟨overL xs (i * z + o) [x, y]⟩) := by rw [uRd_rd _ _ _ _ (by omega)]; rfl
theorem n_U (j : Nat) (vs : List Value) : uRd cx R (j + 16) vs = cx.U j vs := by
  unfold uRd
  rw [if_neg (by omega), if_neg (by omega), if_neg (by omega), Nat.add_sub_cancel]
theorem n_eql0 (t : Nat) (c : Bool) (a : Int) : uRd cx R 0 [num 11, num t, .bool c, .int .u64 a, num 0] = some (.bool (a == 0)) := n_eql t c .u64 a 0
theorem n_t9 (k k' : IntKind) (n i : Nat) : uRd cx R 8 [num 9, .int k (.ofNat n), .int k' (.ofNat i)] = some (.bool (Nat.blt i n)) := by rw [n_tr]; rfl
theorem n_t1 (a : Addr) (n c : Nat) (k : IntKind) (i : Nat) : uRd cx R 8 [num 1, .slice (some a) n c, .int k (.ofNat i)] = some (.bool (Nat.blt i n)) := by rw [n_tr]; rfl
theorem n_t7 (a : Option Addr) (n c : Nat) : uRd cx R 8 [num 7, .slice a n c] = some (.bool (Nat.blt 0 n)) := by rw [n_tr]; rfl
theorem n_t13 (a b : Int) (ha : -9223372036854775808 ≤ a ∧ a ≤ 9223372036854775807) (hb : b ≠ 0) : uRd cx R 8 [num 13, .int .i64 a, .int .i64 b] = some (.bool true) := by
  rw [n_tr]
  show some (Value.bool (tDiv (.int .i64 a) (.int .i64 b))) = _
  have h1 : tyOk 6 (.int .i64 a) = true := by
    simp only [tyOk, kindCode, IntKind.min, IntKind.max]
    simp
    constructor <;> first | (simp [IntKind.bits, IntKind.signed]; omega) | omega
  simp only [tDiv, kindCode, h1]
  simp [hb]
theorem wA {a : Nat} (h : a < 9223372036854775808) : wrapA .i64 (.ofNat a) = .ofNat a := by
  unfold wrapA
  simp only [show Nat.blt a 9223372036854775808 = true from Nat.blt_eq.mpr h]
theorem w_sub {n i : Nat} (h : i ≤ n) (hn : n < 9223372036854775808) : wrapA .i64 (Int.ofNat n - Int.ofNat i) = Int.ofNat (n - i) := by
  rw [show Int.ofNat n - Int.ofNat i = Int.ofNat (n - i) from by show (n : Int) - (i : Int) = ((n - i : Nat) : Int); omega]
  exact wA (by omega)
theorem w_add {n i : Nat} (h : n + i < 9223372036854775808) : wrapA .i64 (Int.ofNat n + Int.ofNat i) = Int.ofNat (n + i) := wA h
end
/-! A test, both ways. -/
section
variable {u : Nat → List Value → Option Value} {X : Nat → (Nat → Value) → Prop} {Q : (Nat → Value) → List Value → List (Nat × AObj) → Prop} {s : Nat → Value}
theorem at_node {e : Value} {b : Bool} {t f : VT} (h : denS s u e = some (.bool b)) (h1 : b = true → At u X Q s t) (h2 : b = false → At u X Q s f) : At u X Q s (.node e t f) := by
  unfold At
  rw [h]
  cases b with
  | true => exact h1 rfl
  | false => exact h2 rfl
theorem at_t {e : Value} {t f : VT} (h : denS s u e = some (.bool true)) (h1 : At u X Q s t) : At u X Q s (.node e t f) := at_node h (fun _ => h1) (fun h => by cases h)
theorem at_f {e : Value} {t f : VT} (h : denS s u e = some (.bool false)) (h1 : At u X Q s f) : At u X Q s (.node e t f) := at_node h (fun h => by cases h) (fun _ => h1)
theorem upd_s {L : Ms} {i : Nat} (h : getL i L = none) : upd s u L i = s i := by unfold upd; rw [h]
theorem upd_e {L : Ms} {i : Nat} {e v : Value} (h : getL i L = some e) (hv : denS s u e = some v) : upd s u L i = v := by unfold upd; rw [h]; simp only [hv]
/-- A state holds these values from a place on. -/
def Sh (s : Nat → Value) : Nat → List Value → Prop
  | _, [] => True
  | i, v :: l => s i = v ∧ Sh s (i + 1) l
end
theorem dl {i n : Nat} : decide (Int.ofNat i < Int.ofNat n) = decide (i < n) := by
  by_cases h : i < n
  · rw [decide_eq_true h]; exact decide_eq_true (Int.ofNat_lt.2 h)
  · rw [decide_eq_false h]; exact decide_eq_false (fun x => h (Int.ofNat_lt.1 x))
theorem bl {i n : Nat} (h : i < n) : Nat.blt i n = true := Nat.blt_eq.mpr h
theorem upd_nil {s : Nat → Value} {u : Nat → List Value → Option Value} : upd s u [] = s := rfl
theorem ty_i64 {v : Value} (h : tyOk 6 v = true) : ∃ n, v = .int .i64 n ∧ (-9223372036854775808 ≤ n ∧ n ≤ 9223372036854775807) := by
  obtain ⟨k, n, rfl, hk⟩ := ty_int (by omega) h
  cases k <;> first | (exfalso; revert hk; decide) | skip
  refine ⟨n, rfl, ?_⟩
  simp [tyOk, kindCode, IntKind.min, IntKind.max, IntKind.bits, IntKind.signed] at h
  omega
theorem ty_u64 {v : Value} (h : tyOk 10 v = true) : ∃ n, v = .int .u64 n ∧ (0 ≤ n ∧ n < 18446744073709551616) := by
  obtain ⟨k, n, rfl, hk⟩ := ty_int (by omega) h
  cases k <;> first | (exfalso; revert hk; decide) | skip
  refine ⟨n, rfl, ?_⟩
  simp [tyOk, kindCode, IntKind.min, IntKind.max, IntKind.bits, IntKind.signed] at h
  omega
theorem i64_ty {n : Int} (h : (-9223372036854775808 ≤ n ∧ n ≤ 9223372036854775807)) : tyOk 6 (.int .i64 n) = true := by
  simp [tyOk, kindCode, IntKind.min, IntKind.max, IntKind.bits, IntKind.signed]
  omega
theorem u64_ty {n : Int} (h : (0 ≤ n ∧ n < 18446744073709551616)) : tyOk 10 (.int .u64 n) = true := by
  simp [tyOk, kindCode, IntKind.min, IntKind.max, IntKind.bits, IntKind.signed]
  omega
theorem pick_list {α : Type} {p : Nat → α → Prop} : ∀ n, (∀ i, i < n → ∃ v, p i v) → ∃ l : List α, l.length = n ∧ ∀ i v, l[i]? = some v → p i v := by
  intro n
  induction n with
  | zero => exact fun _ => ⟨[], rfl, fun i v h => by cases h⟩
  | succ n ih =>
    intro h
    obtain ⟨l, hl, h1⟩ := ih (fun i hi => h i (by omega))
    obtain ⟨v, hv⟩ := h n (by omega)
    refine ⟨l ++ [v], by simp [hl], fun i u hi => ?_⟩
    by_cases hn : i < l.length
    · rw [List.getElem?_append_left hn] at hi
      exact h1 i u hi
    · rw [List.getElem?_append_right (by omega)] at hi
      have : i - l.length = 0 := by
        by_cases h0 : i - l.length = 0
        · exact h0
        · rw [List.getElem?_eq_none (by simp; omega)] at hi; cases hi
      rw [this] at hi
      injection hi with hi
      subst hi
      have : i = n := by omega
      subst this
      exact hv
theorem one_cell {P : Program} {w : World} {r : Reach} {b : Nat} {t e : TypeId} {v : Value} (hu : P.underlying t = some (.slice e)) (h : Value.okWide P w r b t v) : vcells v = [v] := by
  unfold Value.okWide at h
  rw [hu] at h
  have ht := cell_ty h
  cases v <;> first | rfl | (simp [tyOk] at ht)
theorem agg_cell {P : Program} {w : World} {r : Reach} {b : Nat} {t : TypeId} {fs : Array Field} {v : Value} (hu : P.underlying t = some (.struct fs)) (h : Value.okWide P w r b t v) : ∃ cs, v = .agg ⟨cs⟩ := by
  unfold Value.okWide at h
  rw [hu] at h
  obtain ⟨cs, h1, -⟩ := h
  exact ⟨cs.toList, h1⟩
end Go.Proofs.Ytcholmmiieddcaa.Ev
