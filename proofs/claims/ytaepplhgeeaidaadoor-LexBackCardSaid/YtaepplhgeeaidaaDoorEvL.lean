import Derived.Test.YtaepplhgeeaidaaDoorEvK
set_option linter.unusedVariables false
set_option linter.unusedSimpArgs false
set_option linter.unusedSectionVars false
namespace Go.Proofs.YtaepplhgeeaidaaDoor.Ev
open Go Go.RowKit
def newsS (z : Bool) (size k : Nat) (elem : TypeId) (x : Value) : Sem (Array Value) :=
  if (!z) = true then Builtin.firstCells size k x
  else if k * size = 0 then pure #[]
  else do pure (Builtin.zeroCells (← zeroValue elem).cells k)
def Count (P : Program) (z : Bool) (bytes k : Nat) (x : Value) : Prop :=
  (z = false ∧ ∀ w, (Builtin.lenOf x).run P w = .ok k w) ∨ (z = true ∧ k ≤ 1048576 ∧ bytes ≤ 65536 ∧ ∃ q, x = .int q (Int.ofNat k))
theorem wrap_small {k : Nat} (h : k ≤ 1048576) : IntKind.i64.wrap (Int.ofNat k) = Int.ofNat k := by
  rw [← wrapA_eq]; unfold wrapA; simp only; rw [show Nat.blt k 9223372036854775808 = true from Nat.blt_eq.mpr (by omega)]
theorem growBy_le (newLen : Nat) : ∀ (r c : Nat), Builtin.growBy newLen r c ≤ 2 ^ r * (c + 192) := by
  intro r
  induction r with
  | zero => intro c; simp [Builtin.growBy]
  | succ r ih =>
    intro c
    unfold Builtin.growBy
    have hp : 0 < 2 ^ r := Nat.two_pow_pos r
    split
    · have : 1 * (c + 192) ≤ 2 ^ (r + 1) * (c + 192) := Nat.mul_le_mul_right _ (Nat.one_le_two_pow)
      omega
    · have h1 := ih (c + (c + 768) / 4)
      have h2 : c + (c + 768) / 4 + 192 ≤ 2 * (c + 192) := by omega
      have h3 := Nat.mul_le_mul_left (2 ^ r) h2
      rw [Nat.pow_succ, Nat.mul_assoc]
      omega
theorem nextcap_le {need c : Nat} (h : ¬ need ≤ c) (hn : need ≤ 2097152) : Builtin.nextslicecap need c ≤ 67108864 := by
  unfold Builtin.nextslicecap
  split
  · omega
  · split
    · omega
    · have := growBy_le need 4 c
      have h4 : (2 : Nat) ^ 4 = 16 := rfl
      rw [h4] at this
      omega
section
variable {P : Program} {w : World} {t u elem ty : TypeId} {te tu : TI} {x : Value} {base : Option Addr} {n c k : Nat} {z : Bool}
variable (ht : ∀ w, (underlying t).run P w = .ok (.slice elem) w) (hu : ∀ w, (underlying u).run P w = .ok tu.desc w) (hz : isIntD tu.desc = z) (hte : tiOf P elem = some te) (hk : Count P z te.bytes k x)
include ht hu hz hte hk
theorem app_in (hle : n + k ≤ c) {new : Array Value} (hnew : (newsS z te.size k elem x).run P w = .ok new w) :
    (Builtin.append_ #[t, u] ty #[.slice base n c, x]).run P w = match base with
      | some a => ((storeCells (a.add (n * te.size)) new.toList).run P w).andThen fun _ w' => .ok (.slice base (n + k) c) w'
      | none => .ok (.slice base (n + k) c) w := by
  have hsz := fun w => run_size hte w
  obtain ⟨inf, hi⟩ : ∃ inf : World → TypeInfo, ∀ w, (typeInfo elem).run P w = .ok (inf w) w ∧ (inf w).bytes = te.bytes :=
    ⟨fun w => (run_info hte w).choose, fun w => ⟨(run_info hte w).choose_spec.1, (run_info hte w).choose_spec.2.2.1⟩⟩
  rcases hk with ⟨rfl, hlen⟩ | ⟨rfl, hk1, hk2, q, rfl⟩
  · unfold newsS at hnew
    simp only [Bool.not_false, if_true] at hnew
    generalize tu.desc = d at *
    cases d
    case int => cases hz
    all_goals
      simp only [Builtin.append_, Sem.run_bind, Result.andThen_ok, ht, hsz, hu, hlen, Sem.run_pure, List.getElem?_toArray, List.getElem?_cons_zero, List.getElem?_cons_succ, Bool.false_eq_true, if_false, if_pos hle, Bool.not_false, if_true, hnew]
      cases base <;> simp
  · have e1 : ¬ (Int.ofNat k < 0) := by simp only [Int.ofNat_eq_natCast]; omega
    have hmul : k * te.bytes ≤ 1048576 * 65536 := Nat.mul_le_mul hk1 hk2
    have e2 : ¬ (Int.ofNat k * (te.bytes : Int) > 2 ^ 48) := by
      simp only [Int.ofNat_eq_natCast]; rw [← Int.natCast_mul]; omega
    have e3 : (Int.ofNat k).toNat = k := rfl
    unfold newsS at hnew
    simp only [Bool.not_true, Bool.false_eq_true, if_false] at hnew
    generalize tu.desc = d at *
    cases d
    case int =>
      simp only [Builtin.append_, Sem.run_bind, Result.andThen_ok, ht, hsz, hu, Sem.run_pure, List.getElem?_toArray, List.getElem?_cons_zero, List.getElem?_cons_succ, if_true, asInt, asIntOf, wrap_small hk1, if_neg e1, (hi _).1, (hi _).2, if_neg e2, e3, if_pos hle, Bool.not_true, Bool.false_eq_true, if_false]
      rw [hnew]
      cases base <;> simp
    all_goals cases hz
theorem app_growC (hle : ¬ n + k ≤ c) (hsm : n + k < 9223372036854775808) (hcapb : ¬ (Builtin.nextslicecap (n + k) c * te.bytes > 2 ^ 48)) {old new : Array Value} (hold : ∀ j, (Builtin.firstCells te.size n (.slice base n c)).run P { w with drawn := j } = .ok old { w with drawn := j })
    (hnew : ∀ j, (newsS z te.size k elem x).run P { w with drawn := j } = .ok new { w with drawn := j }) :
    ∃ cap, n + k ≤ cap ∧ (Builtin.append_ #[t, u] ty #[.slice base n c, x]).run P w = .ok (.slice (some ⟨w.heap.size, 0, none⟩) (n + k) cap)
      { w with heap := w.heap.push (.cells (old ++ new ++ Builtin.zeroCells te.zero.cells (cap - (n + k))) elem), drawn := w.drawn + 1 } := by
  have hsz := fun w => run_size hte w
  obtain ⟨inf, hi⟩ : ∃ inf : World → TypeInfo, ∀ w, (typeInfo elem).run P w = .ok (inf w) w ∧ (inf w).bytes = te.bytes :=
    ⟨fun w => (run_info hte w).choose, fun w => ⟨(run_info hte w).choose_spec.1, (run_info hte w).choose_spec.2.2.1⟩⟩
  have hmax : ¬ (((n + k : Nat) : Int) > IntKind.i64.max ∧ (z = true ∨ te.bytes = 0)) := by
    have : IntKind.i64.max = 9223372036854775807 := by decide
    rw [this]; omega
  have hq : (Question.appendCap (n + k) c elem).forced = false := rfl
  refine ⟨(Question.appendCap (n + k) c elem).cut (w.tape w.drawn (.appendCap (n + k) c elem)), Nat.le_add_right _ _, ?_⟩
  rcases hk with ⟨rfl, hlen⟩ | ⟨rfl, hk1, hk2, q, rfl⟩
  · have ho := hold (w.drawn + 1)
    have hn := hnew (w.drawn + 1)
    unfold newsS at hn
    simp only [Bool.not_false, if_true] at hn
    generalize tu.desc = d at *
    cases d
    case int => cases hz
    all_goals
      simp only [Builtin.append_, Sem.run_bind, Result.andThen_ok, ht, hsz, hu, hlen, Sem.run_pure, List.getElem?_toArray, List.getElem?_cons_zero, List.getElem?_cons_succ, Bool.false_eq_true, if_false, if_neg hle, (hi _).1, (hi _).2, Bool.not_false, if_true]
      rw [if_neg (by simpa using hmax), run_then (hi _).1, (hi _).2, if_neg hcapb]
      rw [run_then (a := (Question.appendCap (n + k) c elem).cut (w.tape w.drawn (.appendCap (n + k) c elem))) (w1 := { w with drawn := w.drawn + 1 }) (by rw [run_choose, hq]; rfl)]
      rw [run_then (hi _).1, run_then (run_askRoom P _ _)]
      rw [run_then ho, run_then hn, run_then (run_zero hte _)]
      rfl
  · have e1 : ¬ (Int.ofNat k < 0) := by simp only [Int.ofNat_eq_natCast]; omega
    have hmul : k * te.bytes ≤ 1048576 * 65536 := Nat.mul_le_mul hk1 hk2
    have e2 : ¬ (Int.ofNat k * (te.bytes : Int) > 2 ^ 48) := by
      simp only [Int.ofNat_eq_natCast]; rw [← Int.natCast_mul]; omega
    have e3 : (Int.ofNat k).toNat = k := rfl
    have ho := hold (w.drawn + 1)
    have hn := hnew (w.drawn + 1)
    unfold newsS at hn
    simp only [Bool.not_true, Bool.false_eq_true, if_false] at hn
    generalize tu.desc = d at *
    cases d
    case int =>
      simp only [Builtin.append_, Sem.run_bind, Result.andThen_ok, ht, hsz, hu, Sem.run_pure, List.getElem?_toArray, List.getElem?_cons_zero, List.getElem?_cons_succ, if_true, asInt, asIntOf, wrap_small hk1, if_neg e1, (hi _).1, (hi _).2, if_neg e2, e3, if_neg hle, Bool.not_true, Bool.false_eq_true, if_false]
      rw [if_neg (by simpa using hmax), run_then (hi _).1, (hi _).2, if_neg hcapb]
      rw [run_then (a := (Question.appendCap (n + k) c elem).cut (w.tape w.drawn (.appendCap (n + k) c elem))) (w1 := { w with drawn := w.drawn + 1 }) (by rw [run_choose, hq]; rfl)]
      rw [run_then (hi _).1, run_then (run_askRoom P _ _)]
      rw [run_then ho, run_then hn, run_then (run_zero hte _)]
      rfl
    all_goals cases hz
theorem app_grow (hle : ¬ n + k ≤ c) (hsm : n + k ≤ 1048576) (hby : te.bytes ≤ 65536) {old new : Array Value} (hold : ∀ j, (Builtin.firstCells te.size n (.slice base n c)).run P { w with drawn := j } = .ok old { w with drawn := j })
    (hnew : ∀ j, (newsS z te.size k elem x).run P { w with drawn := j } = .ok new { w with drawn := j }) :
    ∃ cap, n + k ≤ cap ∧ (Builtin.append_ #[t, u] ty #[.slice base n c, x]).run P w = .ok (.slice (some ⟨w.heap.size, 0, none⟩) (n + k) cap)
      { w with heap := w.heap.push (.cells (old ++ new ++ Builtin.zeroCells te.zero.cells (cap - (n + k))) elem), drawn := w.drawn + 1 } :=
  app_growC ht hu hz hte hk hle (by omega) (by
    have h1 := nextcap_le hle (by omega)
    have h2 := Nat.mul_le_mul h1 hby
    omega) hold hnew
end
end Go.Proofs.YtaepplhgeeaidaaDoor.Ev
