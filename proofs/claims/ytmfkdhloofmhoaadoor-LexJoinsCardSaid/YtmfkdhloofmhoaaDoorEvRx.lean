import Derived.Test.YtmfkdhloofmhoaaDoorEvNv
set_option linter.unusedVariables false
set_option linter.unusedSimpArgs false
namespace Go.Proofs.YtmfkdhloofmhoaaDoor.Ev
open Go Go.RowKit
def RowXEnd (w w' : World) (ks : List Nat) (ty : TypeId) (nl : Bool) (cells : List Value) (k : Nat) (rest : List Value) (e : Ending) : Prop :=
  Below w.heap.size w w' ∧ ((nl = true ∧ k = 0 ∧ e = .returned (.tuple ⟨.slice none 0 0 :: rest⟩)) ∨ (¬(nl = true ∧ k = 0) ∧ ∃ (c o c' : Nat) (cs : Array Value) (fr : Nat × Nat), e = .returned (.tuple ⟨.slice (some ⟨c, o, none⟩) k c' :: rest⟩) ∧ w.heap.size ≤ c ∧ w'.heap[c]? = some (.cells cs ty fr) ∧
    FrOk true fr cs.size ∧ k ≤ c' ∧ o + c' * ks.length ≤ cs.size ∧ ∀ (i : Nat) (v : Value), cells[i]? = some v → cs[o + i]? = some v))
def RowXIs (P : Program) (gv : List (Nat × Tr Value)) (U : Nat → List Value → Option Value) (f : FuncId) (ps : List ArgT) (ks : List Nat) (ty : TypeId) (nl : Bool) (r : ResT) (base : Nat) : Prop :=
  ∀ (w : World) (args' vals : List Value), GvOk gv w → InsOk P (fun a => w.cell? a) ps args' vals → ∃ (cells : List Value) (k : Nat) (cs : List Value), U base vals = some (.agg ⟨cells⟩) ∧ U (base + 1) vals = some (.int .i64 (.ofNat k)) ∧ CellsOk ks cells k ∧ OutOk U (base + 2) r vals cs ∧
    Calls P f ⟨args'⟩ w fun e w' => RowXEnd w w' ks ty nl cells k (outV r cs) e
noncomputable def rowXO (P : Program) (ps : List ArgT) (ks : List Nat) (ty : TypeId) (nl : Bool) (r : ResT) (base : Nat) (as : List (Value × Bool)) : OrcF := fun args hp =>
  match insE { P := P, ty := .nil, fn := .nil, ex := [], me := [], gv := [], as := as } hp ps args with
  | some es => match nl, (match nl with
      | true => lookS (sy 1 9 [num 9, sy 6 (18 + base) es, .int .i64 (.ofNat 0)]) as
      | false => none) with
    | false, _ => some [(.ret (.tuple ⟨.func (.yield hp.nx) ⟨[sy 6 (18 + base) es]⟩ ⟨[]⟩ :: outV r (outE (base + 2) es 0 (resKs r))⟩), { tr := hp.tr.set hp.nx (.seq (sy 0 (17 + base) es) (sy 6 (18 + base) es) ks ty), nx := Nat.succ hp.nx, lo := hp.lo })]
    | true, some true => some [(.ret (.tuple ⟨.func (.yield hp.nx) ⟨[sy 6 (18 + base) es]⟩ ⟨[]⟩ :: outV r (outE (base + 2) es 0 (resKs r))⟩), { tr := hp.tr.set hp.nx (.seq (sy 0 (17 + base) es) (sy 6 (18 + base) es) ks ty), nx := Nat.succ hp.nx, lo := hp.lo })]
    | true, some false => some [(.ret (.tuple ⟨.slice none 0 0 :: outV r (outE (base + 2) es 0 (resKs r))⟩), hp)]
    | true, none => none
  | none => none
theorem rowx_is {P : Program} {gv : List (Nat × Tr Value)} {U : Nat → List Value → Option Value} {f : FuncId} {ps : List ArgT} {ks : List Nat} {ty : TypeId} {nl : Bool} {r : ResT} {base : Nat} (h : RowXIs P gv U f ps ks ty nl r base) (hrf : resFit r = true) (he : ∀ (l : Array Value) (w : World), (callFunc f l).run P w = .ok (.enter f l) w)
    {ex : List (FuncId × ExtK)} {me : List (TypeId × String × FuncId)} {orc : List (FuncId × OrcF)} {as : List (Value × Bool)} : OrcIs P (cxOf P ex me gv orc as U) f (rowXO P ps ks ty nl r base as) := by
  refine ⟨he, fun args hp l hl r' hr' => ?_, fun args hp l hl m args' w gw inv hargs hfr => ?_⟩
  · unfold rowXO at hl
    split at hl
    case h_2 => cases hl
    split at hl
    all_goals first
      | (injection hl with hl; subst hl; rw [List.mem_singleton.1 hr']; exact grow_new _ _)
      | (injection hl with hl; subst hl; rw [List.mem_singleton.1 hr']; exact Grow.refl _)
      | cases hl
  · unfold rowXO at hl
    split at hl
    case h_2 => cases hl
    rename_i es hes
    have hes := (insE_cx (cx := cxOf P ex me gv orc as U) (cx' := { P := P, ty := .nil, fn := .nil, ex := [], me := [], gv := [], as := as }) rfl rfl hp ps args).trans hes
    obtain ⟨vals, h1, h2⟩ := insE_ok (cx_ok P ex me gv orc as U) gw inv ps args args' es hargs hes
    obtain ⟨cells, k, rcs, u1, u2, ⟨c1, c2, c3⟩, ⟨o1, o2⟩, hC⟩ := h w args' vals (fun g t hg => (gw.at_ g t hg).1) h1
    have d1 : denS m.s m.u (sy 0 (17 + base) es) = some (.agg ⟨cells⟩) := by
      rw [show 17 + base = base + 16 + 1 by omega, denS_app, h2]
      show m.u (base + 16) vals = _
      rw [gw.as.user]
      exact u1
    have d2 : denS m.s m.u (sy 6 (18 + base) es) = some (.int .i64 (.ofNat k)) := by
      rw [show 18 + base = base + 1 + 16 + 1 by omega, denS_app, h2]
      show m.u (base + 1 + 16) vals = _
      rw [gw.as.user]
      exact u2
    have hn : RV m (sy 6 (18 + base) es) (.int .i64 (.ofNat k)) := RV.of_denS d2 (by
      simp [tyOk, kindCode, IntKind.min, IntKind.max, IntKind.bits, IntKind.signed]
      omega)
    have hrest : RVs m (outV r (outE (base + 2) es 0 (resKs r))) (outV r rcs) := by
      refine outV_rv r _ _ hrf ?_ ?_
      · have key : ∀ (ks : List Nat) (i : Nat) (cs : List Value), cs.length = ks.length → (∀ (j : Nat) (k : Nat) (c : Value), ks[j]? = some k → cs[j]? = some c → tyOk k c = true ∧ U (base + 2 + (i + j)) vals = some c) → RVs m (outE (base + 2) es i ks) cs := by
          intro ks
          induction ks with
          | nil => intro i cs hl _; rw [List.eq_nil_of_length_eq_zero hl]; exact .nil m
          | cons k ks ih =>
            intro i cs hl hc
            cases cs with
            | nil => simp at hl
            | cons c cs =>
              obtain ⟨t1, t2⟩ := hc 0 k c rfl rfl
              refine .cons (RV.of_denS ?_ t1) (ih (i + 1) cs (by simpa using hl) (fun j k' c' a b => by
                have := hc (j + 1) k' c' (by simpa using a) (by simpa using b)
                rwa [show i + (j + 1) = i + 1 + j by omega] at this))
              rw [show 17 + (base + 2) + i = (base + 2 + i) + 16 + 1 by omega, denS_app, h2]
              show m.u (base + 2 + i + 16) vals = _
              rw [gw.as.user]
              exact t2
        refine key _ 0 rcs o1 (fun j k c a b => by rw [Nat.zero_add]; exact o2 j k c a b)
      · have : ∀ (ks : List Nat) (i : Nat), (outE (base + 2) es i ks).length = ks.length := by
          intro ks
          induction ks with
          | nil => intro i; rfl
          | cons k ks ih => intro i; simp [outE, ih]
        rw [this]
    have tup : ∀ {m' : Emb} {x x' : Value}, m.le m' → RV m' x x' → RV m' (.tuple ⟨x :: outV r (outE (base + 2) es 0 (resKs r))⟩) (.tuple ⟨x' :: outV r rcs⟩) := fun hle hx => by
      have hc := RVs.cons hx (hrest.mono hle)
      exact .tuple _ _ hc.1 hc.2
    have row : ∀ (l : List (Res × Hp)), l = [(.ret (.tuple ⟨.func (.yield hp.nx) ⟨[sy 6 (18 + base) es]⟩ ⟨[]⟩ :: outV r (outE (base + 2) es 0 (resKs r))⟩), { tr := hp.tr.set hp.nx (.seq (sy 0 (17 + base) es) (sy 6 (18 + base) es) ks ty), nx := Nat.succ hp.nx, lo := hp.lo })] → (∀ r, r ∈ l → Fresh m hp.nx r.2.nx) → ¬(nl = true ∧ k = 0) →
        Calls P f ⟨args'⟩ w (Fin m hp w l) := by
      rintro l rfl hfr hnk
      have hf : m hp.nx = none := hfr _ (List.mem_singleton.2 rfl) hp.nx (Nat.le_refl _) (Nat.lt_succ_self _)
      refine hC.mono fun e w' ⟨bl, hr⟩ => ?_
      rcases hr with ⟨a, b, -⟩ | ⟨-, c, o, c', cs, fr, he, hc, hh, hfr, hk, hroom, hcs⟩
      · exact absurd ⟨a, b⟩ hnk
      have hc' : c < w'.heap.size := (Array.getElem?_eq_some_iff.1 hh).1
      have st := step_adopt (ob0 := .seq (sy 0 (17 + base) es) (sy 6 (18 + base) es) ks ty) (c := c) (o := o) (op := some (cs.size, ks.length)) inv hf bl hc hc' ⟨cells, cs, fr, ⟨denS_iff.1 d1, ⟨k, hn, c2⟩, fun i v hi => ⟨c3 i v hi, hcs i v hi⟩⟩, hh, hfr, rfl⟩
      exact ⟨.ret _, _, List.mem_singleton.2 rfl, _, st, .inl ⟨_, _, rfl, he, tup st.le (.seq hp.nx _ k c' _ (hn.mono st.le) hk ⟨_, cs.size, ks.length, Emb.put_same _ _ _, rfl, rfl, hroom⟩)⟩⟩
    have tru : ∀ b, lookS (sy 1 9 [num 9, sy 6 (18 + base) es, .int .i64 (.ofNat 0)]) as = some b → Nat.blt 0 k = b := by
      intro b hb
      have hr : RV m (sy 1 9 [num 9, sy 6 (18 + base) es, .int .i64 (.ofNat 0)]) (.bool (Nat.blt 0 k)) := RV.app (k := 8) (l' := [num 9, .int .i64 (.ofNat k), .int .i64 (.ofNat 0)]) (.cons (.flat _ rfl) (.cons hn (.cons (.flat _ rfl) (.nil m)))) rfl (by rw [gw.as.rd 8 _ (by omega)]; rfl) rfl
      obtain ⟨⟨d, hd⟩, ht⟩ := hr.sym_iff rfl
      have := gw.as.as _ _ (lookS_mem hb) rfl d _ hd ht
      injection this
    split at hl
    · injection hl with hl
      exact row l hl.symm hfr (fun h => by cases h.1)
    · rename_i hb
      injection hl with hl
      refine row l hl.symm hfr (fun h => ?_)
      have := tru true hb
      rw [h.2] at this
      cases this
    · rename_i hb
      injection hl with hl
      subst hl
      have hk := tru false hb
      have hk0 : k = 0 := by
        cases k with
        | zero => rfl
        | succ k => cases hk
      refine hC.mono fun e w' ⟨bl, hr⟩ => ?_
      rcases hr with ⟨-, -, he⟩ | ⟨hno, -⟩
      · exact ⟨.ret _, hp, List.mem_singleton.2 rfl, m, Step.below inv bl, .inl ⟨_, _, rfl, he, tup (Emb.le_refl m) (.flat _ rfl)⟩⟩
      · exact absurd ⟨rfl, hk0⟩ hno
    · cases hl
def rowXQ (u : Nat → List Value → Option Value) (ks : List Nat) (ty : TypeId) (nl : Bool) (cells : List Value) (k : Nat) (res : List Value) : (Nat → Value) → List Value → List (Nat × AObj) → Prop := fun s vs rs =>
  ∃ rest, denV s u 9 (.tuple ⟨rest⟩) = some (.tuple ⟨res⟩) ∧ ((nl = true ∧ k = 0 ∧ vs = .slice none 0 0 :: rest) ∨ (¬(nl = true ∧ k = 0) ∧ ∃ b n E N', vs = .func (.yield b) ⟨[n]⟩ ⟨[]⟩ :: rest ∧ (b, .seq E N' ks ty) ∈ rs ∧ denS s u E = some (.agg ⟨cells⟩) ∧ denV s u 9 n = some (.int .i64 (.ofNat k))))
theorem rowx_of_ts {P : Program} {ex : List (FuncId × ExtK)} {me : List (TypeId × String × FuncId)} {gv : List (Nat × Tr Value)} {orc : List (Value × Bool) → List (FuncId × OrcF)} {U : Nat → List Value → Option Value}
    {f : FuncId} {N n d B0 : Nat} {ps : List ArgT} {ks : List Nat} {ty : TypeId} {nl : Bool} {r : ResT} {base : Nat} {t : TP} {pls : List Asrt} {tab : List VT} (hx : ∀ as, ExtOk P (cxOf P ex me gv (orc as) as U)) (hmix : P.follows .mixedOrders = true) (haf : aggFlat P ps = true) (hr0 : r ≠ [])
    (h0 : pls[0]? = some { G := ⟨Tr.putList (symIns P ps 0) .nil 0, []⟩, Gh := ⟨.nil, N, N⟩, fs := factsIn P ps 0, B := B0 })
    (h : chkF P ex me gv orc U n d f ps pls tab t = true)
    (hE : ∀ (w : World) (args' vals : List Value), InsOk P (fun a => w.cell? a) ps args' vals → ∃ (cells : List Value) (k : Nat) (cs : List Value), U base vals = some (.agg ⟨cells⟩) ∧ U (base + 1) vals = some (.int .i64 (.ofNat k)) ∧ CellsOk ks cells k ∧ OutOk U (base + 2) r vals cs ∧
      Ends (uRd (cxOf P ex me gv (orc []) [] U) (fun a => w.cell? a)) tab (rowXQ (uRd (cxOf P ex me gv (orc []) [] U) (fun a => w.cell? a)) ks ty nl cells k (outV r cs)) 0 (startS ps args')) :
    RowXIs P gv U f ps ks ty nl r base := by
  intro w args' vals hg hin
  obtain ⟨cells, k, rcs, u1, u2, hco, hout, hends⟩ := hE w args' vals hin
  unfold chkF at h
  split at h
  case h_2 => cases h
  rename_i fi hfi
  rw [Bool.and_eq_true] at h
  obtain ⟨hr, hf⟩ := ins_entry (u := uRd (cxOf P ex me gv (orc []) [] U) (fun a => w.cell? a)) (s := startS ps args') (fun vs => uRd_rd _ _ 8 vs (by omega)) ps args' vals 0 haf hin (fun j _ => by rw [Nat.zero_add]; rfl)
  refine ⟨cells, k, rcs, u1, u2, hco, hout, ts_call hx hmix hfi h.1 h0 h.2 (old_all w) hr hf hg hends (fun s vs rs m hp w' v' hs hu hq hv inv hrs bl hlive => ?_)⟩
  subst hs
  rw [← hu] at hq
  refine ⟨bl, ?_⟩
  obtain ⟨rest, hrest, hq⟩ := hq
  have hne : ∀ x : Value, oneA (x :: rest) = .tuple ⟨x :: rest⟩ := fun x => by
    cases rest with
    | nil =>
      exfalso
      have hrest : some (Value.tuple ⟨[]⟩) = some (.tuple ⟨outV r rcs⟩) := hrest
      injection hrest with hrest
      injection hrest with hrest
      injection hrest with hrest
      cases r with
      | nil => exact hr0 rfl
      | cons a r => obtain ⟨a1, a2⟩ := a; cases hrest
    | cons y l => rfl
  have htl : ∀ {x : Value}, RV m (oneA (x :: rest)) v' → ∃ x', v' = .tuple ⟨x' :: outV r rcs⟩ ∧ RV m x x' := fun {x} hx => by
    rw [hne] at hx
    obtain ⟨xs', rfl, hxs⟩ := hx.tuple_iff
    obtain ⟨x', t, rfl, q1, q2⟩ := hxs.head
    have := denV_ok 9 (RV.tuple rest t q2.1 q2.2) hrest
    injection this with this
    injection this with this
    subst this
    exact ⟨x', rfl, q1⟩
  rcases hq with ⟨a, b, rfl⟩ | ⟨hno, b, n, E, N', rfl, hmem, hdE, hdn⟩
  · obtain ⟨x', rfl, hx⟩ := htl hv
    refine .inl ⟨a, b, ?_⟩
    rw [hx.flat_iff rfl]
  · refine .inr ⟨hno, ?_⟩
    obtain ⟨x', rfl, hx⟩ := htl hv
    obtain ⟨k', c', a', rfl, hn, hkc, en, tot, z, he, hop, rfl, hroom⟩ := hx.seq_iff
    have hget := rowsOk_ok hrs b _ hmem
    obtain ⟨hlv, cells2, cs, fr, ⟨hden, -, hcell⟩, hheap, hfr, hop2⟩ := inv.obj b en _ he hget (by simp)
    have hcells : cells2 = cells := by
      have a := denS_iff.2 hden
      rw [hdE] at a
      injection a with a
      injection a with a
      injection a with a
      exact a.symm
    subst hcells
    have hk : k' = k := by
      have a := denV_ok 9 hn hdn
      injection a with _ a
      injection a
    subst hk
    rw [hop] at hop2
    injection hop2 with hop2
    injection hop2 with e1 e2
    subst e1; subst e2
    exact ⟨en.c, en.o, c', cs, fr, rfl, hlive b en he hlv, hheap, hfr, hkc, hroom, fun i v hi => (hcell i v hi).2⟩
end Go.Proofs.YtmfkdhloofmhoaaDoor.Ev
