/- What is not looked at does not matter. -/
import Derived.Test.YtnfmghfddjkpaaaEvR
set_option linter.unusedVariables false
set_option linter.unusedSimpArgs false
set_option linter.unusedSectionVars false
namespace Go.Proofs.Ytnfmghfddjkpaaa.Ev
open Go Go.RowKit

theorem evX_congr {tm tm' : Tr Value} {x : Operand} (h : ∀ t, x = .tmp t → tm.get t = tm'.get t) : evX tm x = evX tm' x := by
  cases x with
  | tmp t => exact h t rfl
  | const c => rfl
  | global g => rfl
  | func f => rfl

theorem evXs_congr {tm tm' : Tr Value} : ∀ {l : List Operand}, (∀ t, Operand.tmp t ∈ l → tm.get t = tm'.get t) → evXs tm l = evXs tm' l := by
  intro l
  induction l with
  | nil => intro _; rfl
  | cons x l ih =>
    intro h
    have h1 : evX tm x = evX tm' x := evX_congr (fun t ht => h t (by rw [ht]; exact List.mem_cons_self))
    have h2 := ih (fun t ht => h t (List.mem_cons_of_mem _ ht))
    show (match evX tm x with | none => none | some v => match evXs tm l with | none => none | some vs => some (v :: vs)) = (match evX tm' x with | none => none | some v => match evXs tm' l with | none => none | some vs => some (v :: vs))
    rw [h1, h2]

theorem evParts_congr {tm tm' : Tr Value} : ∀ {l : List (Nat × Operand)}, (∀ t, Operand.tmp t ∈ l.map (·.2) → tm.get t = tm'.get t) → evParts tm l = evParts tm' l := by
  intro l
  induction l with
  | nil => intro _; rfl
  | cons x l ih =>
    intro h
    have h1 : evX tm x.2 = evX tm' x.2 := evX_congr (fun t ht => h t (by simp [ht]))
    have h2 := ih (fun t ht => h t (List.mem_cons_of_mem _ ht))
    show (match evX tm x.2 with | none => none | some v => match evParts tm l with | none => none | some vs => some ((x.1, v) :: vs)) = (match evX tm' x.2 with | none => none | some v => match evParts tm' l with | none => none | some vs => some ((x.1, v) :: vs))
    rw [h1, h2]

theorem opt_congr {tm tm' : Tr Value} {x : Option Operand} (h : ∀ t, x = some (.tmp t) → tm.get t = tm'.get t) : opt tm x = opt tm' x := by
  cases x with
  | none => rfl
  | some x =>
    show (match evX tm x with | some v => some (some v) | none => none) = (match evX tm' x with | some v => some (some v) | none => none)
    rw [evX_congr (fun t ht => h t (by rw [ht]))]

theorem evOp0_congr {cx : Cx} {tm tm' : Tr Value} {hp : Hp} {o : Op} (h : ∀ t, Operand.tmp t ∈ o.operands.toList → tm.get t = tm'.get t) : evOp0 cx tm hp o = evOp0 cx tm' hp o := by
  have hx : ∀ x, x ∈ o.operands.toList → evX tm x = evX tm' x := fun x hm => evX_congr (fun t ht => h t (by rw [← ht]; exact hm))
  cases o <;> simp only [evOp0] <;> simp only [Op.operands] at h hx
  case build t parts => rw [evParts_congr (l := parts.toList) (fun t ht => h t (by simpa using ht))]
  case buildSlice t n parts => rw [evParts_congr (l := parts.toList) (fun t ht => h t (by simpa using ht))]
  case makeFunc fn first captured =>
    rw [evXs_congr (l := first.toList) (fun t ht => h t (by simp; exact .inl (by simpa using ht))), evXs_congr (l := captured.toList) (fun t ht => h t (by simp; exact .inr (by simpa using ht)))]
  case makeMap t r => rw [opt_congr (x := r) (fun t ht => h t (by simp [ht]))]
  case slice t x lo hi mx =>
    rw [hx x (by simp), opt_congr (x := lo) (fun t ht => h t (by simp [ht])), opt_congr (x := hi) (fun t ht => h t (by simp [ht])), opt_congr (x := mx) (fun t ht => h t (by simp [ht]))]
  all_goals first
    | rfl
    | (rw [hx _ (by simp)]; done)
    | (rw [hx _ (by simp), hx _ (by simp)]; done)
    | (rename_i c a b; rw [hx c (by simp), hx a (by simp), hx b (by simp)]; done)
    | (rename_i a b c; rw [hx a (by simp), hx b (by simp)]; done)
    | (rename_i a b; rw [hx a (by simp), hx b (by simp)]; done)
    | (rename_i t a b; rw [hx a (by simp), hx b (by simp)]; done)
    | (rename_i op t x y yt; rw [hx x (by simp), hx y (by simp)]; done)

theorem evOp_congr {cx : Cx} {call : CallF} {tm tm' : Tr Value} {hp : Hp} {o : Op} (h : ∀ t, Operand.tmp t ∈ o.operands.toList → tm.get t = tm'.get t) : evOp cx call tm hp o = evOp cx call tm' hp o := by
  have hx : ∀ x, x ∈ o.operands.toList → evX tm x = evX tm' x := fun x hm => evX_congr (fun t ht => h t (by rw [← ht]; exact hm))
  have h0 := evOp0_congr (cx := cx) (hp := hp) h
  cases o
  case call c =>
    simp only [evOp]
    simp only [Op.operands] at h hx
    unfold evCall
    simp only [Call.operands] at h hx
    rw [evXs_congr (l := c.args.toList) (fun t ht => h t (by simp; exact .inr (by simpa using ht)))]
    split
    · rfl
    · split
      · rfl
      · rename_i f hf
        rw [hx f (by simp [hf])]
      · rename_i r nm hf
        rw [hx r (by simp [hf])]
  case panic x => simp only [evOp]; rw [hx x (by simp [Op.operands])]
  case next x str => simp only [evOp]; rw [hx x (by simp [Op.operands])]
  all_goals (simp only [evOp]; rw [h0])

/-- What looks at no memory, in whatever memory. -/
theorem evOp0_pure {cx : Cx} {tm : Tr Value} {o : Op} (h : pureOp o = true) : ∃ r : Option Value, ∀ hp, evOp0 cx tm hp o = keep hp r := by
  cases o <;> first
    | (cases h; done)
    | skip
  case move x => exact ⟨evX tm x, fun _ => rfl⟩
  case assign x => exact ⟨evX tm x, fun _ => rfl⟩
  case pick c a b =>
    cases hc : evX tm c with
    | none => exact ⟨none, fun _ => by simp [evOp0, hc, keep]⟩
    | some v =>
      cases hb : boolA cx v with
      | some t => cases t with
        | false => exact ⟨evX tm b, fun _ => by simp [evOp0, hc, hb]⟩
        | true => exact ⟨evX tm a, fun _ => by simp [evOp0, hc, hb]⟩
      | none => exact ⟨none, fun _ => by simp [evOp0, hc, hb, keep]⟩
  case binOp op t x y yt =>
    cases hx : evX tm x with
    | none => exact ⟨none, fun _ => by simp [evOp0, hx, keep]⟩
    | some u => cases hy : evX tm y with
      | none => exact ⟨none, fun _ => by simp [evOp0, hx, hy, keep]⟩
      | some v => exact ⟨binS cx op t (cOp x || cOp y) u v, fun _ => by simp [evOp0, hx, hy]⟩
  case unOp op t x =>
    cases hx : evX tm x with
    | none => exact ⟨none, fun _ => by simp [evOp0, hx, keep]⟩
    | some u => exact ⟨unS op u, fun _ => by simp [evOp0, hx]⟩
  case fieldAddr t x f =>
    cases hx : evX tm x with
    | none => exact ⟨none, fun _ => by simp [evOp0, hx, keep]⟩
    | some u => exact ⟨fieldAddrT cx t u f, fun _ => by simp [evOp0, hx]⟩
  case field t x f =>
    cases hx : evX tm x with
    | none => exact ⟨none, fun _ => by simp [evOp0, hx, keep]⟩
    | some u => exact ⟨fieldA cx t u f, fun _ => by simp [evOp0, hx]⟩
  case indexAddr t x y =>
    cases hx : evX tm x with
    | none => exact ⟨none, fun _ => by simp [evOp0, hx, keep]⟩
    | some u => cases hy : evX tm y with
      | none => exact ⟨none, fun _ => by simp [evOp0, hx, hy, keep]⟩
      | some v => exact ⟨indexAddrT cx t u v, fun _ => by simp [evOp0, hx, hy]⟩
  case index t x y =>
    cases hx : evX tm x with
    | none => exact ⟨none, fun _ => by simp [evOp0, hx, keep]⟩
    | some u => cases hy : evX tm y with
      | none => exact ⟨none, fun _ => by simp [evOp0, hx, hy, keep]⟩
      | some v => exact ⟨indexT cx t u v, fun _ => by simp [evOp0, hx, hy]⟩
  case extract x i =>
    cases hx : evX tm x with
    | none => exact ⟨none, fun _ => by simp [evOp0, hx, keep]⟩
    | some u => cases u with
      | tuple vs => exact ⟨vs.toList[i]?, fun _ => by simp [evOp0, hx]⟩
      | _ => exact ⟨none, fun _ => by simp [evOp0, hx, keep]⟩
  case typeAssert x xt t b =>
    cases hx : evX tm x with
    | none => exact ⟨none, fun _ => by simp [evOp0, hx, keep]⟩
    | some u => exact ⟨assertA cx u t b, fun _ => by simp [evOp0, hx]⟩
  case makeFunc fn first captured =>
    cases hx : evXs tm first.toList with
    | none => exact ⟨none, fun _ => by simp [evOp0, hx, keep]⟩
    | some u => cases hy : evXs tm captured.toList with
      | none => exact ⟨none, fun _ => by simp [evOp0, hx, hy, keep]⟩
      | some v => cases hn : noYield fn with
        | true => exact ⟨some (.func fn ⟨u⟩ ⟨v⟩), fun _ => by simp [evOp0, hx, hy, hn, keep]⟩
        | false => exact ⟨none, fun _ => by simp [evOp0, hx, hy, hn, keep]⟩
  case makeInterface t x =>
    cases hx : evX tm x with
    | none => exact ⟨none, fun _ => by simp [evOp0, hx, keep]⟩
    | some u => cases ht : cx.t t with
      | none => exact ⟨none, fun _ => by simp [evOp0, hx, ht, keep]⟩
      | some ti => cases hd : ti.desc <;> first
        | (refine ⟨none, fun _ => ?_⟩; simp [evOp0, hx, ht, hd, keep]; done)
        | (refine ⟨some (.iface t u), fun _ => ?_⟩; simp [evOp0, hx, ht, hd, keep]; done)
  case nilCheck x =>
    cases hx : evX tm x with
    | none => exact ⟨none, fun _ => by simp [evOp0, hx, keep]⟩
    | some u => cases u with
      | pointer p => cases p with
        | none => exact ⟨none, fun _ => by simp [evOp0, hx, keep]⟩
        | some p => exact ⟨some (.pointer (some p)), fun _ => by simp [evOp0, hx, keep]⟩
      | func fn y z => cases fn with
        | func f => exact ⟨some (.func (.func f) y z), fun _ => by simp [evOp0, hx, keep]⟩
        | yield b =>
          cases ht : yieldOk (.func (.yield b) y z) with
          | true => exact ⟨some (.func (.yield b) y z), fun _ => by simp [evOp0, hx, keep, ht]⟩
          | false => exact ⟨none, fun _ => by simp [evOp0, hx, keep, ht]⟩
        | methodOf j nm =>
          cases ht : isTrue cx [num 3, .func (.methodOf j nm) y z] with
          | true => exact ⟨some (.func (.methodOf j nm) y z), fun _ => by simp [evOp0, hx, keep, ht]⟩
          | false => exact ⟨none, fun _ => by simp [evOp0, hx, keep, ht]⟩
        | method nm =>
          cases ht : methNil cx.P nm y with
          | true => exact ⟨some (.func (.method nm) y z), fun _ => by simp [evOp0, hx, keep, ht]⟩
          | false => exact ⟨none, fun _ => by simp [evOp0, hx, keep, ht]⟩
        | _ => exact ⟨none, fun _ => by simp [evOp0, hx, keep]⟩
      | map r => exact ⟨some (.map r), fun _ => by simp [evOp0, hx, keep]⟩
      | iface t v => exact ⟨some (.iface t v), fun _ => by simp [evOp0, hx, keep]⟩
      | _ => exact ⟨none, fun _ => by simp [evOp0, hx, keep]⟩

theorem evOp_pure {cx : Cx} {call : CallF} {tm : Tr Value} {o : Op} (h : pureOp o = true) : ∃ r : Option Value, ∀ hp, evOp cx call tm hp o = lift (keep hp r) := by
  obtain ⟨r, hr⟩ := evOp0_pure (cx := cx) (tm := tm) h
  refine ⟨r, fun hp => ?_⟩
  rw [← hr hp]
  cases o <;> first
    | rfl
    | (simp [pureOp] at h)

theorem lift_keep {hp hp' : Hp} {r : Option Value} {v : Value} (h : lift (keep hp r) = some [(.ret v, hp')]) : r = some v ∧ hp' = hp := by
  obtain ⟨u, hp2, h1, h2⟩ := lift_parts h
  injection h2 with h2 _
  injection h2 with h2 h3
  injection h2 with h2
  subst h2 h3
  exact keep_parts h1
end Go.Proofs.Ytnfmghfddjkpaaa.Ev
