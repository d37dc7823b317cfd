/- Calls: what the reckoner says of them, the model says (regions that draw: as a premise). -/
import Derived.Test.YtlfliibmhapgaaaEvQ
set_option linter.unusedVariables false
set_option linter.unusedSimpArgs false
set_option linter.unusedSectionVars false
namespace Go.Proofs.Ytlfliibmhapgaaa.Ev
open Go Go.RowKit

def resStep (tmps : Array Value) : ResultVar → Sem Value
  | .tmp t => pure (tmps.getD t undef)
  | .cell a t => do loadVar t (← asAddr (tmps.getD a undef))

theorem resA_ok {P : Program} {cx : Cx} (ok : CxOk P cx) {m : Emb} {tm : Tr Value} {hp : Hp} {w : World} {a : Act} {sz : Nat} (tr : TR m tm a sz) (inv : Inv m hp w.heap) : ∀ (l : List ResultVar) (vs : List Value), resA cx tm hp l = some vs →
    ∃ vs', RVs m vs vs' ∧ (l.mapM (resStep a.tmps)).run P w = .ok vs' w := by
  intro l
  induction l with
  | nil => intro vs h; have h : some [] = some vs := h; injection h with h; subst h; exact ⟨[], .nil m, rfl⟩
  | cons x l ih =>
    intro vs h
    have h : (match (match x with
        | .tmp t => tm.get t
        | .cell a t => match tm.get a with
          | some (.pointer (some p)) => loadA cx hp t p
          | _ => none) with
      | none => none
      | some v => match resA cx tm hp l with
        | none => none
        | some vs => some (v :: vs)) = some vs := h
    split at h
    · cases h
    · rename_i v hv
      split at h
      · cases h
      · rename_i vs2 hvs
        injection h with h
        subst h
        obtain ⟨vs', h1, h2⟩ := ih vs2 hvs
        have hx : ∃ v', RV m v v' ∧ (resStep a.tmps x).run P w = .ok v' w := by
          cases x with
          | tmp t => exact ⟨_, tr.val t v hv, rfl⟩
          | cell b t =>
            simp only at hv
            split at hv
            · rename_i p hp0
              obtain ⟨p', he, ha⟩ := (tr.val b _ hp0).ptr_iff
              obtain ⟨v', k1, k2⟩ := loadA_ok ok inv ha hv
              refine ⟨v', k2, ?_⟩
              simp only [resStep, he, asAddr, pure_bind]
              exact k1
            · cases hv
        obtain ⟨v', k1, k2⟩ := hx
        refine ⟨v' :: vs', .cons k1 h1, ?_⟩
        rw [List.mapM_cons, run_then k2, run_then h2]
        rfl

theorem results_ok {P : Program} {cx : Cx} (ok : CxOk P cx) {m : Emb} {tm : Tr Value} {hp : Hp} {w : World} {a : Act} {sz : Nat} (tr : TR m tm a sz) (inv : Inv m hp w.heap) {fn : Func} {vs : List Value} (h : resA cx tm hp fn.results.toList = some vs) :
    ∃ v', RV m (oneA vs) v' ∧ (results fn a.tmps).run P w = .ok v' w := by
  obtain ⟨vs', h1, h2⟩ := resA_ok ok tr inv _ _ h
  have hm : (fn.results.mapM (resStep a.tmps)).run P w = .ok vs'.toArray w := by
    rw [Array.mapM_eq_mapM_toList]
    simp only [Sem.run_map, h2, Result.andThen_ok]
  have hr : (results fn a.tmps).run P w = .ok (if h : vs'.toArray.size = 1 then vs'.toArray[0] else .tuple vs'.toArray) w := by
    have : results fn a.tmps = (fn.results.mapM (resStep a.tmps) >>= fun vs => pure (if h : vs.size = 1 then vs[0] else .tuple vs)) := by
      unfold results
      congr 1
    rw [this, run_then hm]
    rfl
  refine ⟨_, ?_, hr⟩
  by_cases h1s : vs'.toArray.size = 1
  · rw [dif_pos h1s]
    have hl : vs'.length = 1 := by simpa using h1s
    obtain ⟨v', rfl⟩ : ∃ v', vs' = [v'] := by
      cases vs' with
      | nil => simp at hl
      | cons v' t => cases t with
        | nil => exact ⟨v', rfl⟩
        | cons _ _ => simp at hl
    have hv : vs.length = 1 := h1.1.trans hl
    obtain ⟨v, rfl⟩ : ∃ v, vs = [v] := by
      cases vs with
      | nil => simp at hv
      | cons v t => cases t with
        | nil => exact ⟨v, rfl⟩
        | cons _ _ => simp at hv
    obtain ⟨v2, t, he, h3, -⟩ := h1.head
    injection he with he1 _
    subst he1
    exact h3
  · rw [dif_neg h1s]
    have hl : vs.length ≠ 1 := by rw [h1.1]; simpa using h1s
    unfold oneA
    split
    · exact absurd rfl hl
    · exact .tuple _ _ h1.1 h1.2

theorem fi_parts {fn : Func} {fi : FI} (h : fiOfF fn = some fi) : fn.body = some fi.body ∧ fn.ntmps = fi.ntmps ∧ fn.results.toList = fi.results ∧ (fn.name == "runtime.NumGoroutine") = false := by
  unfold fiOfF at h
  split at h
  · cases h
  · rename_i c hc
    split at h
    · cases h
    · rename_i hn
      injection h with h
      subst h
      exact ⟨hc, rfl, rfl, hn⟩

theorem evFn_step {P : Program} {cx : Cx} (ok : CxOk P cx) (hext : ExtOk P cx) (n d : Nat) (ih : CallOk P (evFn cx n d)) (hdraw : DrawsOk P cx (evFn cx n d)) : CallOk P (evFn cx n (d + 1)) := by
    intro f args hp v hp' h m args' w inv hargs hf
    have hnx := evFn_nx cx n d
    rw [evFn_succ] at h
    split at h
    · cases h
    · rename_i fi hfi
      obtain ⟨fn, hfn, hfo⟩ := ok.fn f fi hfi
      obtain ⟨p1, p2, p3, p4⟩ := fi_parts hfo
      refine ⟨fun l w => ?_, ?_⟩
      · have p5 : ¬ fn.name = "runtime.NumGoroutine" := by simpa using p4
        simp [callFunc, hfn, p5, p1]
      · split at h
        · cases h
        · rename_i hle
          have hle := Nat.le_of_ble_eq_true hle
          rw [len_eq] at hle
          have hlen : args'.length = args.length := hargs.1.symm
          have tr0 : TR m (Tr.putList args .nil 0) { tmps := (⟨args'⟩ : Array Value) ++ Array.replicate (fn.ntmps - (⟨args'⟩ : Array Value).size) undef, defers := [] } fi.ntmps := by
            refine ⟨?_, rfl, fun t u hu => ?_⟩
            · rw [Array.size_append, Array.size_replicate]
              show args'.length + (fn.ntmps - args'.length) = _
              omega
            · rw [Tr.get_putList] at hu
              split at hu
              · rename_i ht
                obtain ⟨u', k1, k2⟩ := hargs.at_ hu
                rw [Nat.sub_zero] at k1
                have : ((⟨args'⟩ : Array Value) ++ Array.replicate (fn.ntmps - (⟨args'⟩ : Array Value).size) undef)[t]? = some u' := by
                  rw [Array.getElem?_append_left (by show t < args'.length; omega)]
                  simpa using k1
                rw [Array.getD_eq_getD_getElem?, this]
                exact k2
              · cases hu
          split at h
          · cases h
          · rename_i x tm hp2 hx h1
            split at h
            · rename_i vs hvs
              injection h with h
              injection h with e1 e2
              subst e1 e2
              refine (callsIn_wide (n := 0)).1 (callsIn_of_wp hfn p1 trivial ?_ rfl)
              refine (evCode_ok (r0 := none) ok hext ih hnx hdraw fi.body m _ hp w _ x tm hp2 _ tr0 inv hf h1 (fun m' w' a' st tr' => ?_))
              rw [← p3] at hvs
              obtain ⟨v', r1, r2⟩ := results_ok ok tr' st.inv hvs
              cases hxx : x with
              | normal => exact ⟨tr'.defers, v', r2, m', v', rfl, st, r1⟩
              | ret => exact ⟨tr'.defers, v', r2, m', v', rfl, st, r1⟩
              | exit id => subst hxx; exact (hx id rfl).elim
            · cases h
          · cases h
end Go.Proofs.Ytlfliibmhapgaaa.Ev
