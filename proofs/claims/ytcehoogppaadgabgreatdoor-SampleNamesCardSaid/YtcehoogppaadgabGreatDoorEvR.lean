/- Calls: what the reckoner says of them, the model says (regions that draw: as a premise). -/
import Derived.Test.YtcehoogppaadgabGreatDoorEvQ
set_option linter.unusedVariables false
set_option linter.unusedSimpArgs false
set_option linter.unusedSectionVars false
namespace Go.Proofs.YtcehoogppaadgabGreatDoor.Ev
open Go Go.RowKit

def resStep (tmps : Array Value) : ResultVar → Sem Value
  | .tmp t => pure (tmps.getD t undef)
  | .cell a t => do loadVar t (← asAddr (tmps.getD a undef))

theorem resA_ok {P : Program} {cx : Cx} (ok : CxOk P cx) {m : Emb} {tm : Tr Value} {hp : Hp} {w : World} {a : Act} {sz : Nat} {ds : List Deferred} (tr : TR m tm a sz ds) (inv : Inv m hp w.heap) : ∀ (l : List ResultVar) (vs : List Value), resA cx tm hp l = some vs →
    ∃ vs', RVs m vs vs' ∧ (l.mapM (resStep a.tmps)).run P w = .ok vs' w := by
  intro l
  induction l with
  | nil => intro vs h; have h : some [] = some vs := h; injection h with h; subst h; exact ⟨[], .nil m, rfl⟩
  | cons x l ih =>
    intro vs h
    have h : (match (match x with
        | .tmp t => tm.get t
        | .cell a t => match tm.get a with
          | some (.pointer (some p)) => loadA cx hp t p
          | _ => none) with
      | none => none
      | some v => match resA cx tm hp l with
        | none => none
        | some vs => some (v :: vs)) = some vs := h
    split at h
    · cases h
    · rename_i v hv
      split at h
      · cases h
      · rename_i vs2 hvs
        injection h with h
        subst h
        obtain ⟨vs', h1, h2⟩ := ih vs2 hvs
        have hx : ∃ v', RV m v v' ∧ (resStep a.tmps x).run P w = .ok v' w := by
          cases x with
          | tmp t => exact ⟨_, tr.val t v hv, rfl⟩
          | cell b t =>
            simp only at hv
            split at hv
            · rename_i p hp0
              obtain ⟨p', he, ha⟩ := (tr.val b _ hp0).ptr_iff
              obtain ⟨v', k1, k2⟩ := loadA_ok ok inv ha hv
              refine ⟨v', k2, ?_⟩
              simp only [resStep, he, asAddr, pure_bind]
              exact k1
            · cases hv
        obtain ⟨v', k1, k2⟩ := hx
        refine ⟨v' :: vs', .cons k1 h1, ?_⟩
        rw [List.mapM_cons, run_then k2, run_then h2]
        rfl

theorem results_ok {P : Program} {cx : Cx} (ok : CxOk P cx) {m : Emb} {tm : Tr Value} {hp : Hp} {w : World} {a : Act} {sz : Nat} {ds : List Deferred} (tr : TR m tm a sz ds) (inv : Inv m hp w.heap) {fn : Func} {vs : List Value} (h : resA cx tm hp fn.results.toList = some vs) :
    ∃ v', RV m (oneA vs) v' ∧ (results fn a.tmps).run P w = .ok v' w := by
  obtain ⟨vs', h1, h2⟩ := resA_ok ok tr inv _ _ h
  have hm : (fn.results.mapM (resStep a.tmps)).run P w = .ok vs'.toArray w := by
    rw [Array.mapM_eq_mapM_toList]
    simp only [Sem.run_map, h2, Result.andThen_ok]
  have hr : (results fn a.tmps).run P w = .ok (if h : vs'.toArray.size = 1 then vs'.toArray[0] else .tuple vs'.toArray) w := by
    have : results fn a.tmps = (fn.results.mapM (resStep a.tmps) >>= fun vs => pure (if h : vs.size = 1 then vs[0] else .tuple vs)) := by
      unfold results
      congr 1
    rw [this, run_then hm]
    rfl
  refine ⟨_, ?_, hr⟩
  by_cases h1s : vs'.toArray.size = 1
  · rw [dif_pos h1s]
    have hl : vs'.length = 1 := by simpa using h1s
    obtain ⟨v', rfl⟩ : ∃ v', vs' = [v'] := by
      cases vs' with
      | nil => simp at hl
      | cons v' t => cases t with
        | nil => exact ⟨v', rfl⟩
        | cons _ _ => simp at hl
    have hv : vs.length = 1 := h1.1.trans hl
    obtain ⟨v, rfl⟩ : ∃ v, vs = [v] := by
      cases vs with
      | nil => simp at hv
      | cons v t => cases t with
        | nil => exact ⟨v, rfl⟩
        | cons _ _ => simp at hv
    obtain ⟨v2, t, he, h3, -⟩ := h1.head
    injection he with he1 _
    subst he1
    exact h3
  · rw [dif_neg h1s]
    have hl : vs.length ≠ 1 := by rw [h1.1]; simpa using h1s
    unfold oneA
    split
    · exact absurd rfl hl
    · exact .tuple _ _ h1.1 h1.2

theorem fi_parts {fn : Func} {fi : FI} (h : fiOfF fn = some fi) : fn.body = some fi.body ∧ fn.ntmps = fi.ntmps ∧ fn.results.toList = fi.results ∧ (fn.name == "runtime.NumGoroutine") = false := by
  unfold fiOfF at h
  split at h
  · cases h
  · rename_i c hc
    split at h
    · cases h
    · rename_i hn
      injection h with h
      subst h
      exact ⟨hc, rfl, rfl, hn⟩

/-- A function on its way out: its marks are taken. -/
theorem leaves_ok {P : Program} {fn : Func} {tmps : Array Value} {m0 m : Emb} {hp0 hp : Hp} {w0 : World} {v : Value} (hres : ∀ w : World, Inv m hp w.heap → ∃ v', RV m v v' ∧ (results fn tmps).run P w = .ok v' w) :
    ∀ (ds : List Deferred) (w : World), Step m0 hp0 w0 m hp w → Mk w0.heap.size m w ds → LeavesInM Fence.wide 0 P fn tmps (fun e w' => ∃ m' v', e = .returned v' ∧ Step m0 hp0 w0 m' hp w' ∧ RV m' v v') ds .returning w := by
  intro ds
  induction ds with
  | nil =>
    intro w st _
    obtain ⟨v', h1, h2⟩ := hres w st.inv
    exact ⟨v', h2, m, v', rfl, st, h1⟩
  | cons d ds ih =>
    rintro w st ⟨⟨r, h1, h2, h3, h4, h5⟩, h6⟩
    refine ⟨by simp, .inl ⟨r, _, by rw [h1], run_takeDeferred h3, ih _ (st.past _ h2 h4) (h6.past h5)⟩⟩

theorem putPs_ok {m : Emb} {sz : Nat} : ∀ (ps : List Tmp) (args args' : List Value) (tm tm' : Tr Value) (tmps : Array Value), putPs sz ps args tm = some tm' → RVs m args args' → tmps.size = sz → (∀ t v, tm.get t = some v → RV m v (tmps.getD t undef)) →
    args'.length = ps.length ∧ ((ps.zip args').foldl (fun tmps (x : Tmp × Value) => tmps.setIfInBounds x.1 x.2) tmps).size = sz ∧
      ∀ t v, tm'.get t = some v → RV m v (((ps.zip args').foldl (fun tmps (x : Tmp × Value) => tmps.setIfInBounds x.1 x.2) tmps).getD t undef) := by
  intro ps
  induction ps with
  | nil =>
    intro args args' tm tm' tmps h hr hs hv
    cases args with
    | nil =>
      obtain rfl := hr.nil_left
      unfold putPs at h
      injection h with h
      subst h
      exact ⟨rfl, hs, hv⟩
    | cons x xs => unfold putPs at h; cases h
  | cons p ps ih =>
    intro args args' tm tm' tmps h hr hs hv
    cases args with
    | nil => unfold putPs at h; cases h
    | cons x xs =>
      obtain ⟨x', xs', rfl, hx, hxs⟩ := hr.head
      unfold putPs at h
      split at h
      · rename_i hlt
        have hlt := Nat.blt_eq.mp hlt
        obtain ⟨k1, k2, k3⟩ := ih xs xs' (tm.set p x) tm' (tmps.setIfInBounds p x') h hxs (by simpa using hs) (fun t u hu => by
          rw [Tr.get_set] at hu
          rw [Array.getD_eq_getD_getElem?]
          by_cases ht : t = p
          · subst ht
            rw [if_pos rfl] at hu
            injection hu with hu
            subst hu
            have : t < tmps.size := by rw [hs]; exact hlt
            simp [this]
            exact hx
          · rw [if_neg ht] at hu
            have := hv t u hu
            rw [Array.getD_eq_getD_getElem?] at this
            rw [Array.getElem?_setIfInBounds_ne (fun hh => ht hh.symm)]
            exact this)
        exact ⟨by simp [k1], k2, k3⟩
      · cases h

theorem evFn_step {P : Program} {cx : Cx} (ok : CxOk P cx) (hext : ExtOk P cx) (n d : Nat) (ih : CallOk P cx (evFn cx n d)) (hdraw : DrawsOk P cx (evFn cx n d)) : CallOk P cx (evFn cx n (d + 1)) := by
  intro c args hp v hp' h m args' w gw inv hargs hf
  have hnx := evFn_nx cx n d
  cases c with
  | fn f =>
    rw [evFn_fn] at h
    obtain ⟨fi, x, tm, l, hfi, hle, h1, hx, hl, rfl⟩ := evBody_parts h
    obtain ⟨fn, hfn, hfo⟩ := ok.fn f fi hfi
    obtain ⟨p1, p2, p3, p4⟩ := fi_parts hfo
    refine ⟨fun l w => ?_, ?_⟩
    · have p5 : ¬ fn.name = "runtime.NumGoroutine" := by simpa using p4
      simp [callFunc, hfn, p5, p1]
    · have hlen : args'.length = args.length := hargs.1.symm
      have tr0 : TR m (Tr.putList args .nil 0) { tmps := (⟨args'⟩ : Array Value) ++ Array.replicate (fn.ntmps - (⟨args'⟩ : Array Value).size) undef, defers := [] } fi.ntmps [] := by
        refine ⟨?_, rfl, fun t u hu => ?_⟩
        · rw [Array.size_append, Array.size_replicate]
          show args'.length + (fn.ntmps - args'.length) = _
          omega
        · rw [Tr.get_putList] at hu
          split at hu
          · rename_i ht
            obtain ⟨u', k1, k2⟩ := hargs.at_ hu
            rw [Nat.sub_zero] at k1
            have : ((⟨args'⟩ : Array Value) ++ Array.replicate (fn.ntmps - (⟨args'⟩ : Array Value).size) undef)[t]? = some u' := by
              rw [Array.getElem?_append_left (by show t < args'.length; omega)]
              simpa using k1
            rw [Array.getD_eq_getD_getElem?, this]
            exact k2
          · cases hu
      have fs0 : FS cx none none w.heap.size fi.ntmps m (Tr.putList args .nil 0) hp w { tmps := (⟨args'⟩ : Array Value) ++ Array.replicate (fn.ntmps - (⟨args'⟩ : Array Value).size) undef, defers := [] } := ⟨.inl ⟨rfl, rfl⟩, tr0, trivial, Nat.le_refl _, inv, gw⟩
      refine (callsIn_wide (n := 0)).1 (callsIn_of_wp_marks hfn p1 trivial ?_ rfl)
      refine (evCode_ok (r0 := none) ok hext ih hnx hdraw fi.body m _ hp w _ x tm hp' _ fs0 hf h1 (fun m' w' a' st fs' => ?_))
      rw [← p3] at hl
      have hres : ∀ w2 : World, Inv m' hp' w2.heap → ∃ v', RV m' (oneA l) v' ∧ (results fn a'.tmps).run P w2 = .ok v' w2 := fun w2 i2 => results_ok ok fs'.tr i2 hl
      cases hxx : x with
      | normal => exact leaves_ok hres a'.defers w' st fs'.mks
      | ret => exact leaves_ok hres a'.defers w' st fs'.mks
      | exit id => exact (hx id hxx).elim
  | yield b =>
    rw [evFn_yield] at h
    obtain ⟨lp, tm0, tm1, hp1, lp1, x, tm2, hp2, lp2, g1, g2, g3, g4, g5, g6, g7, g8, rfl, rfl⟩ := evRound_parts h
    intro e he
    obtain ⟨-, -, fn, tmps, df, r1, r2, r3⟩ := loop_rec inv he g1
    obtain ⟨q1, q2, q3⟩ := putPs_ok lp.ps args args' lp.tm tm0 tmps g3 hargs r2 r3
    have n1 := evCode_nx hnx _ _ _ _ _ _ g4
    have n2 := evCode_nx hnx _ _ _ _ _ _ g7
    simp only [loopSet] at n2
    have hf : Fresh m hp.nx hp2.nx := hf
    have hy := run_yield (P := P) (args := ⟨args'⟩) r1 (by simpa using q1)
    refine ⟨_, _, _, _, hy, fun r => ?_⟩
    have hzip : ((⟨lp.ps⟩ : Array Tmp).zip ⟨args'⟩).foldl (fun tmps (x : Tmp × Value) => tmps.setIfInBounds x.1 x.2) tmps = (lp.ps.zip args').foldl (fun tmps (x : Tmp × Value) => tmps.setIfInBounds x.1 x.2) tmps := by
      rw [← Array.foldl_toList]
      simp
    refine roundIn_of_wpIn trivial ?_
    show lp.assign.wpIn (Fw (some e.c)) 0 P _ _ w
    have fs0 : FS cx (some e.c) (some b) 0 lp.sz m tm0 hp w { tmps := ((⟨lp.ps⟩ : Array Tmp).zip ⟨args'⟩).foldl (fun tmps (x : Tmp × Value) => tmps.setIfInBounds x.1 x.2) tmps, defers := [] } :=
      ⟨.inr ⟨b, e, rfl, he, rfl⟩, ⟨by rw [hzip]; exact q2, rfl, by rw [hzip]; exact q3⟩, trivial, Nat.zero_le _, inv, gw⟩
    refine evCode_ok (r0 := some e.c) ok hext ih hnx hdraw lp.assign m tm0 hp w _ .normal tm1 hp1 _ fs0 (hf.sub (Nat.le_refl _) n2) g4 (fun m1 w1 a1 st1 fs1 => ?_)
    obtain ⟨e1, k1, k2, -⟩ := st1.le b e he
    obtain ⟨-, -, fn1, tmps1, df1, u1, u2, u3⟩ := loop_rec fs1.inv k1 g5
    rw [g6] at u1
    have s2 := step_loop (w := w1) fs1.inv k1 g5 .busy lp1.pend u1
    have hb := run_beginRound (P := P) u1 rfl
    rw [k2] at hb s2
    refine ⟨_, hb, ?_⟩
    have fs2 : FS cx (some e.c) (some b) 0 lp.sz m1 tm1 (loopSet hp1 b { lp1 with st := .busy }) _ a1 := fs1.step s2 fs1.tr
    refine evCode_ok (r0 := some e.c) ok hext ih hnx hdraw lp.body m1 tm1 _ _ a1 x tm2 hp2 _ fs2 ((hf.step st1).sub (Nat.le_refl _) (Nat.le_refl _)) g7 (fun m2 w2 a2 st2 fs3 => ?_)
    obtain ⟨e2, k3, k4, -⟩ := st2.le b e1 k1
    obtain ⟨-, -, fn2, tmps2, df2, v1, v2, v3⟩ := loop_rec fs3.inv k3 g8
    have hc : e2.c = e.c := k4.trans k2
    have st := (st1.trans s2).trans st2
    have fin : ∀ (ls : LoopState) (pd : Option JX) (bb : Bool), ∃ m' v', Ending.returned (.bool bb) = .returned v' ∧ Step m hp w m' (loopSet hp2 b { lp2 with st := ls, pend := pd }) (w2.putObj e.c (.loop { state := ls, pending := pendC pd, fn := fn2, tmps := tmps2, params := ⟨lp2.ps⟩, assign := lp2.assign, body := lp2.body, defers := df2 })) ∧ RV m' (.bool bb) v' := fun ls pd bb => by
      have s3 := step_loop (w := w2) fs3.inv k3 g8 ls pd v1
      rw [hc] at s3
      exact ⟨m2, .bool bb, rfl, st.trans s3, .flat _ rfl⟩
    rw [hc] at v1
    cases x with
    | normal => exact ⟨_, _, run_endRound none v1, fin .ready none true⟩
    | ret => exact ⟨_, _, run_endRound (some .ret) v1, fin .done (some .ret) false⟩
    | exit id => exact ⟨_, _, run_endRound (some (.exit id)) v1, fin .done (some (.exit id)) false⟩
end Go.Proofs.YtcehoogppaadgabGreatDoor.Ev
