/- Contracts with a condition: arguments that are not empty. Contracts one after another. -/
import Derived.Test.YtcholmmiieddcaaEvRw
set_option linter.unusedVariables false
set_option linter.unusedSimpArgs false
namespace Go.Proofs.Ytcholmmiieddcaa.Ev
open Go Go.RowKit

/-- Of two contracts the first that fits. -/
def altO (o1 o2 : OrcF) : OrcF := fun args hp => match o1 args hp with
  | some l => some l
  | none => o2 args hp
theorem alt_is {P : Program} {cx : Cx} {f : FuncId} {o1 o2 : OrcF} (h1 : OrcIs P cx f o1) (h2 : OrcIs P cx f o2) : OrcIs P cx f (altO o1 o2) := by
  refine ⟨h1.1, fun args hp l hl => ?_, fun args hp l hl => ?_⟩
  · unfold altO at hl
    split at hl
    · rename_i l' hl'
      injection hl with hl
      subst hl
      exact h1.2.1 args hp _ hl'
    · exact h2.2.1 args hp l hl
  · unfold altO at hl
    split at hl
    · rename_i l' hl'
      injection hl with hl
      subst hl
      exact h1.2.2 args hp _ hl'
    · exact h2.2.2 args hp l hl

/-- Slices that are not empty, among the arguments. -/
def NeOk (ne : List Nat) (args' : List Value) : Prop := ∀ j, j ∈ ne → ∃ ad n c, args'.getD j undef = .slice ad n c ∧ 0 < n
noncomputable def neE (cx : Cx) (v : Value) : Bool := match v with
  | .slice _ n _ => Nat.blt 0 n
  | .func (.yield _) ⟨[n]⟩ ⟨[]⟩ => symFlat n && ltS cx n (.int .i64 (.ofNat 0))
  | v => symFlat v && isTrue cx [num 7, v]
noncomputable def neAll (cx : Cx) (args : List Value) (ne : List Nat) : Bool := ne.all fun j => neE cx (args.getD j undef)
def FnIsN (P : Program) (gv : List (Nat × Tr Value)) (U : Nat → List Value → Option Value) (f : FuncId) (ps : List ArgT) (ne : List Nat) (r : ResT) (base : Nat) : Prop :=
  ∀ (w : World) (args' vals : List Value), GvOk gv w → InsOk P (fun a => w.cell? a) ps args' vals → NeOk ne args' → ∃ cs, OutOk U base r vals cs ∧
    Calls P f ⟨args'⟩ w fun e w' => e = .returned (oneA (outV r cs)) ∧ Below w.heap.size w w'
noncomputable def fnON (P : Program) (ps : List ArgT) (ne : List Nat) (r : ResT) (base : Nat) (as : List (Value × Bool)) : OrcF := fun args hp =>
  match insE { P := P, ty := .nil, fn := .nil, ex := [], me := [], gv := [], as := as } hp ps args with
  | some es => match neAll { P := P, ty := .nil, fn := .nil, ex := [], me := [], gv := [], as := as } args ne with
    | true => some [(.ret (oneA (outV r (outE base es 0 (resKs r)))), hp)]
    | false => none
  | none => none
theorem RVs.getD_rv {m : Emb} : ∀ {l l' : List Value}, RVs m l l' → ∀ (j : Nat), j < l.length → RV m (l.getD j undef) (l'.getD j undef)
  | [], l', h, j, hj => by cases hj
  | x :: l, l', h, j, hj => by
    obtain ⟨x', t, rfl, k1, k2⟩ := h.head
    cases j with
    | zero => exact k1
    | succ j => exact RVs.getD_rv k2 j (by simpa using hj)
theorem neE_cx {cx cx' : Cx} (h1 : cx.P = cx'.P) (h2 : cx.as = cx'.as) (v : Value) : neE cx v = neE cx' v := by
  unfold neE ltS
  simp only [isTrue_cx h1 h2]
theorem neE_ok {P : Program} {cx : Cx} (ok : CxOk P cx) {m : Emb} (as : AsOk cx m) {v v' : Value} (hv : RV m v v') (h : neE cx v = true) : ∃ ad n c, v' = .slice ad n c ∧ 0 < n := by
  unfold neE at h
  split at h
  · rename_i ad n c
    have hn : 0 < n := Nat.blt_eq.mp h
    cases ad with
    | none =>
      have := hv.flat_iff rfl
      subst this
      exact ⟨_, n, c, rfl, hn⟩
    | some a =>
      obtain ⟨a', c', rfl, -⟩ := hv.slice_iff
      exact ⟨_, n, c', rfl, hn⟩
  · rename_i b n
    rw [Bool.and_eq_true] at h
    obtain ⟨k, c', a', rfl, hn, -⟩ := hv.seq_iff
    obtain ⟨k1, n1, k2, j, e1, e2, hlt⟩ := tLt_iff (ltS_ok as h.2 hn (.flat (.int .i64 (.ofNat 0)) rfl) h.1 rfl)
    injection e1 with _ e1
    injection e1 with e1
    subst e1
    exact ⟨_, k, c', rfl, by omega⟩
  · rw [Bool.and_eq_true] at h
    have := isTrue_ok as h.2 (.cons (.flat (num 7) rfl) (.cons hv (.nil m))) (by simp only [List.all_cons, h.1]; rfl) (b := tNe v') rfl
    unfold tNe at this
    split at this
    · exact ⟨_, _, _, rfl, Nat.blt_eq.mp this⟩
    · cases this
theorem insE_len {cx : Cx} {hp : Hp} : ∀ {ps : List ArgT} {vs es : List Value}, insE cx hp ps vs = some es → vs.length = ps.length
  | [], [], _, _ => rfl
  | [], _ :: _, _, h => by unfold insE at h; cases h
  | _ :: _, [], _, h => by unfold insE at h; cases h
  | p :: ps, v :: vs, es, h => by
    unfold insE at h
    split at h
    · rename_i a b ha hb
      have := insE_len hb
      simp [this]
    · cases h
theorem fn_is_n {P : Program} {gv : List (Nat × Tr Value)} {U : Nat → List Value → Option Value} {f : FuncId} {ps : List ArgT} {ne : List Nat} {r : ResT} {base : Nat} (h : FnIsN P gv U f ps ne r base) (hr : resFit r = true) (hne : ne.all (fun j => Nat.blt j ps.length) = true) (he : ∀ (l : Array Value) (w : World), (callFunc f l).run P w = .ok (.enter f l) w)
    {ex : List (FuncId × ExtK)} {me : List (TypeId × String × FuncId)} {orc : List (FuncId × OrcF)} {as : List (Value × Bool)} : OrcIs P (cxOf P ex me gv orc as U) f (fnON P ps ne r base as) := by
  have look : ∀ args hp l, fnON P ps ne r base as args hp = some l → fnO P ps r base as args hp = some l ∧ neAll { P := P, ty := .nil, fn := .nil, ex := [], me := [], gv := [], as := as } args ne = true := by
    intro args hp l hl
    unfold fnON at hl
    split at hl
    · rename_i es hes
      split at hl
      · rename_i hn
        unfold fnO
        rw [hes]
        exact ⟨hl, hn⟩
      · cases hl
    · cases hl
  refine ⟨he, fun args hp l hl r' hr' => ?_, fun args hp l hl m args' w gw inv hargs hfr => ?_⟩
  · have hl := (look _ _ _ hl).1
    unfold fnO at hl
    split at hl
    · injection hl with hl
      subst hl
      rw [List.mem_singleton.1 hr']
      exact Grow.refl _
    · cases hl
  · obtain ⟨hl1, hn⟩ := look _ _ _ hl
    have hlen : args.length = ps.length := by
      unfold fnO at hl1
      split at hl1
      case h_2 => cases hl1
      rename_i es hes
      exact insE_len hes
    have hneo : NeOk ne args' := fun j hj => by
      have h1 := List.all_eq_true.1 hn j hj
      have h2 := List.all_eq_true.1 hne j hj
      have h2 : j < ps.length := Nat.blt_eq.mp h2
      have h1 := (neE_cx (cx := cxOf P ex me gv orc as U) (cx' := { P := P, ty := .nil, fn := .nil, ex := [], me := [], gv := [], as := as }) rfl rfl _).trans h1
      exact neE_ok (cx_ok P ex me gv orc as U) gw.as (RVs.getD_rv hargs j (by omega)) h1
    unfold fnO at hl1
    split at hl1
    case h_2 => cases hl1
    rename_i es hes
    injection hl1 with hl1
    subst hl1
    have hes := (insE_cx (cx := cxOf P ex me gv orc as U) (cx' := { P := P, ty := .nil, fn := .nil, ex := [], me := [], gv := [], as := as }) rfl rfl hp ps args).trans hes
    obtain ⟨vals, h1, h2⟩ := insE_ok (cx_ok P ex me gv orc as U) gw inv ps args args' es hargs hes
    obtain ⟨cs, ⟨o1, o2⟩, hC⟩ := h w args' vals (fun g t hg => (gw.at_ g t hg).1) h1 hneo
    refine hC.mono fun e w' ⟨he, hb⟩ => ?_
    refine ⟨.ret _, hp, List.mem_singleton.2 rfl, m, Step.below inv hb, .inl ⟨_, _, rfl, he, oneA_rv (outV_rv r _ _ hr ?_ ?_)⟩⟩
    · have key : ∀ (ks : List Nat) (i : Nat) (cs : List Value), cs.length = ks.length → (∀ (j : Nat) (k : Nat) (c : Value), ks[j]? = some k → cs[j]? = some c → tyOk k c = true ∧ U (base + (i + j)) vals = some c) → RVs m (outE base es i ks) cs := by
        intro ks
        induction ks with
        | nil => intro i cs hl _; rw [List.eq_nil_of_length_eq_zero hl]; exact .nil m
        | cons k ks ih =>
          intro i cs hl hc
          cases cs with
          | nil => simp at hl
          | cons c cs =>
            obtain ⟨t1, t2⟩ := hc 0 k c rfl rfl
            refine .cons (RV.of_denS ?_ t1) (ih (i + 1) cs (by simpa using hl) (fun j k' c' a b => by
              have := hc (j + 1) k' c' (by simpa using a) (by simpa using b)
              rwa [show i + (j + 1) = i + 1 + j by omega] at this))
            rw [show 17 + base + i = (base + i) + 16 + 1 by omega, denS_app, h2]
            show m.u (base + i + 16) vals = _
            rw [gw.as.user]
            exact t2
      refine key _ 0 cs o1 (fun j k c a b => by rw [Nat.zero_add]; exact o2 j k c a b)
    · have : ∀ (ks : List Nat) (i : Nat), (outE base es i ks).length = ks.length := by
        intro ks
        induction ks with
        | nil => intro i; rfl
        | cons k ks ih => intro i; simp [outE, ih]
      rw [this]
theorem fn_of_ts_n {P : Program} {ex : List (FuncId × ExtK)} {me : List (TypeId × String × FuncId)} {gv : List (Nat × Tr Value)} {orc : List (Value × Bool) → List (FuncId × OrcF)} {U : Nat → List Value → Option Value}
    {f : FuncId} {N n d B0 : Nat} {ps : List ArgT} {ne : List Nat} {r : ResT} {base : Nat} {t : TP} {pls : List Asrt} {tab : List VT} (hx : ∀ as, ExtOk P (cxOf P ex me gv (orc as) as U)) (hmix : P.follows .mixedOrders = true) (haf : aggFlat P ps = true)
    (h0 : pls[0]? = some { G := ⟨Tr.putList (symIns P ps 0) .nil 0, []⟩, Gh := ⟨.nil, N, N⟩, fs := factsIn P ps 0, B := B0 })
    (h : chkF P ex me gv orc U n d f ps pls tab t = true)
    (hE : ∀ (w : World) (args' vals : List Value), InsOk P (fun a => w.cell? a) ps args' vals → NeOk ne args' → ∃ cs, OutOk U base r vals cs ∧
      Ends (uRd (cxOf P ex me gv (orc []) [] U) (fun a => w.cell? a)) tab (fun s vs _ => denV s (uRd (cxOf P ex me gv (orc []) [] U) (fun a => w.cell? a)) 9 (oneA vs) = some (oneA (outV r cs))) 0 (startS ps args')) :
    FnIsN P gv U f ps ne r base := by
  intro w args' vals hg hin hne
  obtain ⟨cs, ho, hends⟩ := hE w args' vals hin hne
  unfold chkF at h
  split at h
  case h_2 => cases h
  rename_i fi hfi
  rw [Bool.and_eq_true] at h
  obtain ⟨hr, hf⟩ := ins_entry (u := uRd (cxOf P ex me gv (orc []) [] U) (fun a => w.cell? a)) (s := startS ps args') (fun vs => uRd_rd _ _ 8 vs (by omega)) ps args' vals 0 haf hin (fun j _ => by rw [Nat.zero_add]; rfl)
  refine ⟨cs, ho, ts_call hx hmix hfi h.1 h0 h.2 (old_all w) hr hf hg hends (fun s vs rs m hp w' v' hs hu hq hv _ _ hb _ => ?_)⟩
  subst hs
  rw [← hu] at hq
  exact ⟨by rw [denV_ok 9 hv hq], hb⟩
end Go.Proofs.Ytcholmmiieddcaa.Ev
