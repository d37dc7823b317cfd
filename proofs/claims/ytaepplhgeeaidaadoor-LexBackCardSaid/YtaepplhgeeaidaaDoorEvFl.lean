import Derived.Test.YtaepplhgeeaidaaDoorEvNv
set_option linter.unusedVariables false
set_option linter.unusedSimpArgs false
namespace Go.Proofs.YtaepplhgeeaidaaDoor.Ev
open Go Go.RowKit
def LiOk (ne : List Nat) (args' : List Value) : Prop := ∀ j, j ∈ ne → ∃ s, args'.getD (j % 1000) undef = .string s ∧ (j < 1000 → s.size ≤ 1048576) ∧ (1000 ≤ j → 0 < s.size)
noncomputable def liE (cx : Cx) (v : Value) : Bool := symFlat v && (hasTy 2 v && leS cx (txL v) 1048576)
noncomputable def liN (cx : Cx) (v : Value) : Bool := symFlat v && (hasTy 2 v && isTrue cx [num 10, v, .int .i64 (.ofNat 0)])
noncomputable def liJ (cx : Cx) (j : Nat) (v : Value) : Bool := match Nat.ble 1000 j with
  | true => liN cx v
  | false => liE cx v
noncomputable def liAll (cx : Cx) (args : List Value) (ne : List Nat) : Bool := ne.all fun j => liJ cx j (args.getD (Nat.mod j 1000) undef)
def FnIsL (P : Program) (gv : List (Nat × Tr Value)) (U : Nat → List Value → Option Value) (f : FuncId) (ps : List ArgT) (ne : List Nat) (r : ResT) (base : Nat) : Prop :=
  ∀ (w : World) (args' vals : List Value), GvOk gv w → InsOk P (fun a => w.cell? a) ps args' vals → LiOk ne args' → ∃ cs, OutOk U base r vals cs ∧
    Calls P f ⟨args'⟩ w fun e w' => e = .returned (oneA (outV r cs)) ∧ Below w.heap.size w w'
noncomputable def fnOL (P : Program) (ps : List ArgT) (ne : List Nat) (r : ResT) (base : Nat) (as : List (Value × Bool)) : OrcF := fun args hp =>
  match insE { P := P, ty := .nil, fn := .nil, ex := [], me := [], gv := [], as := as } hp ps args with
  | some es => match liAll { P := P, ty := .nil, fn := .nil, ex := [], me := [], gv := [], as := as } args ne with
    | true => some [(.ret (oneA (outV r (outE base es 0 (resKs r)))), hp)]
    | false => none
  | none => none
theorem liE_cx {cx cx' : Cx} (h1 : cx.P = cx'.P) (h2 : cx.as = cx'.as) (v : Value) : liE cx v = liE cx' v := by
  unfold liE leS
  simp only [isTrue_cx h1 h2]
theorem liE_ok {P : Program} {cx : Cx} (ok : CxOk P cx) {m : Emb} (as : AsOk cx m) {v v' : Value} (hv : RV m v v') (h : liE cx v = true) : ∃ s, v' = .string s ∧ s.size ≤ 1048576 := by
  unfold liE at h
  rw [Bool.and_eq_true, Bool.and_eq_true] at h
  obtain ⟨sx, hxt, hle⟩ := h
  obtain ⟨s, rfl⟩ := has_str hxt hv rfl
  refine ⟨s, rfl, ?_⟩
  cases hs : isSym v with
  | false =>
    have hf2 : Ev.flat v = true := by simpa [symFlat, hs] using sx
    have e := hv.flat_iff hf2
    subst e
    exact Nat.le_of_ble_eq_true hle
  | true =>
    have ht := (hv.sym_iff hs).2
    unfold hasTy at hxt
    rw [hs] at hxt
    rw [Nat.eq_of_beq_eq_true hxt] at ht
    have e : txL v = sy 6 5 [v] := by
      cases v <;> first | rfl | (simp [isSym] at hs)
    rw [e] at hle
    have hlt : s.size < 9223372036854775808 := by
      simp [tyOk] at ht
      exact ht
    have hr : RV m (sy 6 5 [v]) (.int .i64 (.ofNat s.size)) := RV.app (k := 4) (l' := [.string s]) (.cons hv (.nil m)) (by simp only [List.all_cons, sx]; rfl) (by rw [as.rd 4 _ (by omega)]; rfl) (by
      show tyOk 6 (.int .i64 (.ofNat s.size)) = true
      simp [tyOk, kindCode, IntKind.min, IntKind.max, IntKind.bits, IntKind.signed]
      omega)
    obtain ⟨k1, n, q1, q2⟩ := tLe_iff (leS_ok as hle hr rfl)
    injection q1 with _ q1
    injection q1 with q1
    rw [q1]
    exact q2
theorem liJ_cx {cx cx' : Cx} (h1 : cx.P = cx'.P) (h2 : cx.as = cx'.as) (j : Nat) (v : Value) : liJ cx j v = liJ cx' j v := by
  unfold liJ liN
  simp only [isTrue_cx h1 h2, liE_cx h1 h2]
theorem liJ_ok {P : Program} {cx : Cx} (ok : CxOk P cx) {m : Emb} (as : AsOk cx m) {j : Nat} {v v' : Value} (hv : RV m v v') (h : liJ cx j v = true) : ∃ s, v' = .string s ∧ (j < 1000 → s.size ≤ 1048576) ∧ (1000 ≤ j → 0 < s.size) := by
  unfold liJ at h
  split at h
  · rename_i hj
    have hj := Nat.le_of_ble_eq_true hj
    unfold liN at h
    rw [Bool.and_eq_true, Bool.and_eq_true] at h
    obtain ⟨sx, hxt, hT⟩ := h
    obtain ⟨s, rfl⟩ := has_str hxt hv rfl
    have := isTrue_ok as hT (.cons (.flat (num 10) rfl) (.cons hv (.cons (.flat (.int .i64 (.ofNat 0)) rfl) (.nil m)))) (by simp only [List.all_cons, sx]; rfl) (b := tBy (.string s) (.int .i64 (.ofNat 0))) rfl
    exact ⟨s, rfl, fun hh => absurd hh (by omega), fun _ => Nat.blt_eq.mp this⟩
  · rename_i hj
    obtain ⟨s, rfl, hs⟩ := liE_ok ok as hv h
    exact ⟨s, rfl, fun _ => hs, fun hh => by rw [Nat.ble_eq_true_of_le hh] at hj; cases hj⟩
theorem fn_is_l {P : Program} {gv : List (Nat × Tr Value)} {U : Nat → List Value → Option Value} {f : FuncId} {ps : List ArgT} {ne : List Nat} {r : ResT} {base : Nat} (h : FnIsL P gv U f ps ne r base) (hr : resFit r = true) (hne : ne.all (fun j => Nat.blt (j % 1000) ps.length) = true) (he : ∀ (l : Array Value) (w : World), (callFunc f l).run P w = .ok (.enter f l) w)
    {ex : List (FuncId × ExtK)} {me : List (TypeId × String × FuncId)} {orc : List (FuncId × OrcF)} {as : List (Value × Bool)} : OrcIs P (cxOf P ex me gv orc as U) f (fnOL P ps ne r base as) := by
  have look : ∀ args hp l, fnOL P ps ne r base as args hp = some l → fnO P ps r base as args hp = some l ∧ liAll { P := P, ty := .nil, fn := .nil, ex := [], me := [], gv := [], as := as } args ne = true := by
    intro args hp l hl
    unfold fnOL at hl
    split at hl
    · rename_i es hes
      split at hl
      · rename_i hn
        unfold fnO
        rw [hes]
        exact ⟨hl, hn⟩
      · cases hl
    · cases hl
  refine ⟨he, fun args hp l hl r' hr' => ?_, fun args hp l hl m args' w gw inv hargs hfr => ?_⟩
  · have hl := (look _ _ _ hl).1
    unfold fnO at hl
    split at hl
    · injection hl with hl
      subst hl
      rw [List.mem_singleton.1 hr']
      exact Grow.refl _
    · cases hl
  · obtain ⟨hl1, hn⟩ := look _ _ _ hl
    have hlen : args.length = ps.length := by
      unfold fnO at hl1
      split at hl1
      case h_2 => cases hl1
      rename_i es hes
      exact insE_len hes
    have hneo : LiOk ne args' := fun j hj => by
      have h1 := List.all_eq_true.1 hn j hj
      have h2 := List.all_eq_true.1 hne j hj
      have h2 : j % 1000 < ps.length := Nat.blt_eq.mp h2
      have h1 := (liJ_cx (cx := cxOf P ex me gv orc as U) (cx' := { P := P, ty := .nil, fn := .nil, ex := [], me := [], gv := [], as := as }) rfl rfl _ _).trans h1
      exact liJ_ok (cx_ok P ex me gv orc as U) gw.as (RVs.getD_rv hargs (j % 1000) (by omega)) h1
    unfold fnO at hl1
    split at hl1
    case h_2 => cases hl1
    rename_i es hes
    injection hl1 with hl1
    subst hl1
    have hes := (insE_cx (cx := cxOf P ex me gv orc as U) (cx' := { P := P, ty := .nil, fn := .nil, ex := [], me := [], gv := [], as := as }) rfl rfl hp ps args).trans hes
    obtain ⟨vals, h1, h2⟩ := insE_ok (cx_ok P ex me gv orc as U) gw inv ps args args' es hargs hes
    obtain ⟨cs, ⟨o1, o2⟩, hC⟩ := h w args' vals (fun g t hg => (gw.at_ g t hg).1) h1 hneo
    refine hC.mono fun e w' ⟨he, hb⟩ => ?_
    refine ⟨.ret _, hp, List.mem_singleton.2 rfl, m, Step.below inv hb, .inl ⟨_, _, rfl, he, oneA_rv (outV_rv r _ _ hr ?_ ?_)⟩⟩
    · have key : ∀ (ks : List Nat) (i : Nat) (cs : List Value), cs.length = ks.length → (∀ (j : Nat) (k : Nat) (c : Value), ks[j]? = some k → cs[j]? = some c → tyOk k c = true ∧ U (base + (i + j)) vals = some c) → RVs m (outE base es i ks) cs := by
        intro ks
        induction ks with
        | nil => intro i cs hl _; rw [List.eq_nil_of_length_eq_zero hl]; exact .nil m
        | cons k ks ih =>
          intro i cs hl hc
          cases cs with
          | nil => simp at hl
          | cons c cs =>
            obtain ⟨t1, t2⟩ := hc 0 k c rfl rfl
            refine .cons (RV.of_denS ?_ t1) (ih (i + 1) cs (by simpa using hl) (fun j k' c' a b => by
              have := hc (j + 1) k' c' (by simpa using a) (by simpa using b)
              rwa [show i + (j + 1) = i + 1 + j by omega] at this))
            rw [show 17 + base + i = (base + i) + 16 + 1 by omega, denS_app, h2]
            show m.u (base + i + 16) vals = _
            rw [gw.as.user]
            exact t2
      refine key _ 0 cs o1 (fun j k c a b => by rw [Nat.zero_add]; exact o2 j k c a b)
    · have : ∀ (ks : List Nat) (i : Nat), (outE base es i ks).length = ks.length := by
        intro ks
        induction ks with
        | nil => intro i; rfl
        | cons k ks ih => intro i; simp [outE, ih]
      rw [this]
theorem fn_of_ts_l {P : Program} {ex : List (FuncId × ExtK)} {me : List (TypeId × String × FuncId)} {gv : List (Nat × Tr Value)} {orc : List (Value × Bool) → List (FuncId × OrcF)} {U : Nat → List Value → Option Value}
    {f : FuncId} {N n d B0 : Nat} {ps : List ArgT} {ne : List Nat} {r : ResT} {base : Nat} {t : TP} {pls : List Asrt} {tab : List VT} (hx : ∀ as, ExtOk P (cxOf P ex me gv (orc as) as U)) (hmix : P.follows .mixedOrders = true) (haf : aggFlat P ps = true)
    (h0 : pls[0]? = some { G := ⟨Tr.putList (symIns P ps 0) .nil 0, []⟩, Gh := ⟨.nil, N, N⟩, fs := factsIn P ps 0, B := B0 })
    (h : chkF P ex me gv orc U n d f ps pls tab t = true)
    (hE : ∀ (w : World) (args' vals : List Value), InsOk P (fun a => w.cell? a) ps args' vals → LiOk ne args' → ∃ cs, OutOk U base r vals cs ∧
      Ends (uRd (cxOf P ex me gv (orc []) [] U) (fun a => w.cell? a)) tab (fun s vs _ => denV s (uRd (cxOf P ex me gv (orc []) [] U) (fun a => w.cell? a)) 9 (oneA vs) = some (oneA (outV r cs))) 0 (startS ps args')) :
    FnIsL P gv U f ps ne r base := by
  intro w args' vals hg hin hne
  obtain ⟨cs, ho, hends⟩ := hE w args' vals hin hne
  unfold chkF at h
  split at h
  case h_2 => cases h
  rename_i fi hfi
  rw [Bool.and_eq_true] at h
  obtain ⟨hr, hf⟩ := ins_entry (u := uRd (cxOf P ex me gv (orc []) [] U) (fun a => w.cell? a)) (s := startS ps args') (fun vs => uRd_rd _ _ 8 vs (by omega)) ps args' vals 0 haf hin (fun j _ => by rw [Nat.zero_add]; rfl)
  refine ⟨cs, ho, ts_call hx hmix hfi h.1 h0 h.2 (old_all w) hr hf hg hends (fun s vs rs m hp w' v' hs hu hq hv _ _ hb _ => ?_)⟩
  subst hs
  rw [← hu] at hq
  exact ⟨by rw [denV_ok 9 hv hq], hb⟩
end Go.Proofs.YtaepplhgeeaidaaDoor.Ev
