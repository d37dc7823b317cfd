/- Contracts of functions that answer a row of their own. -/
import Derived.Test.YtcholmmiieddcaaEvFn
set_option linter.unusedVariables false
set_option linter.unusedSimpArgs false
namespace Go.Proofs.Ytcholmmiieddcaa.Ev
open Go Go.RowKit

/-- Rows from a list. -/
noncomputable def obsTr (l : List (Nat × AObj)) : Tr AObj := List.rec (motive := fun _ => Tr AObj) .nil (fun x _ ih => ih.set x.1 x.2) l
/-- The steps of a function, checked as one boolean. -/
noncomputable def chkF (P : Program) (ex : List (FuncId × ExtK)) (me : List (TypeId × String × FuncId)) (gv : List (Nat × Tr Value)) (orc : List (Value × Bool) → List (FuncId × OrcF)) (U : Nat → List Value → Option Value) (n d : Nat) (f : FuncId) (ps : List ArgT) (pls : List Asrt) (tab : List VT) (t : TP) : Bool :=
  match (cxOf P ex me gv (orc []) [] U).f f with
  | some fi => Nat.ble (symIns P ps 0).length fi.ntmps && chkT P ex me gv orc U n d fi.ntmps fi.results pls tab t fi.body [0] [] []
  | none => false

/-- A row that a call has laid is taken over. -/
theorem step_adopt {m : Emb} {hp : Hp} {w w' : World} (inv : Inv m hp w.heap) (hf : m hp.nx = none) (bl : Below w.heap.size w w') {ob0 : AObj} {c o : Nat} {op : Option (Nat × Nat)} (hc : w.heap.size ≤ c) (hc' : c < w'.heap.size) (hor : OR m ob0 ⟨c, o, op, true⟩ w'.heap) :
    Step m hp w (m.put hp.nx ⟨c, o, op, true⟩) { tr := hp.tr.set hp.nx ob0, nx := Nat.succ hp.nx, lo := hp.lo } w' := by
  have hle : m.le (m.put hp.nx ⟨c, o, op, true⟩) := Emb.le_put _ hf
  refine ⟨hle, ⟨?_, ?_, ?_, ?_⟩, bl.os, bl.tape, bl.output, bl.size, fun c hc _ => bl.block c hc, ?_, ?_, Nat.le_succ _, Nat.le_refl _, ?_⟩
  · intro b e ob he hob hd
    by_cases hb : b = hp.nx
    · subst hb
      rw [Emb.put_same] at he
      injection he with he
      subst he
      simp only [Tr.get_set, if_true] at hob
      injection hob with hob
      subst hob
      exact ⟨rfl, hor.mono hle⟩
    · rw [Emb.put_other _ _ hb] at he
      simp only [Tr.get_set, if_neg hb] at hob
      obtain ⟨l1, l2⟩ := inv.obj b e ob he hob hd
      exact ⟨l1, (l2.mono hle).heap (bl.block _ (inv.low b e he))⟩
  · intro b b' e e' he he' hl hl' hc
    by_cases hb : b = hp.nx <;> by_cases hb' : b' = hp.nx
    · rw [hb, hb']
    · subst hb
      rw [Emb.put_same] at he
      injection he with he
      subst he
      rw [Emb.put_other _ _ hb'] at he'
      have := inv.low b' e' he'
      simp only at hc
      omega
    · subst hb'
      rw [Emb.put_same] at he'
      injection he' with he'
      subst he'
      rw [Emb.put_other _ _ hb] at he
      have := inv.low b e he
      simp only at hc
      omega
    · rw [Emb.put_other _ _ hb] at he
      rw [Emb.put_other _ _ hb'] at he'
      exact inv.inj b b' e e' he he' hl hl' hc
  · intro b e he
    by_cases hb : b = hp.nx
    · subst hb
      rw [Emb.put_same] at he
      injection he with he
      subst he
      exact hc'
    · rw [Emb.put_other _ _ hb] at he
      exact Nat.lt_of_lt_of_le (inv.low b e he) bl.size
  · intro b ob hob
    simp only [Tr.get_set] at hob
    by_cases hb : b = hp.nx
    · subst hb; exact Nat.lt_succ_self _
    · rw [if_neg hb] at hob
      exact Nat.lt_succ_of_lt (inv.dom b ob hob)
  · intro b e hb he hl
    by_cases hbn : b = hp.nx
    · subst hbn
      rw [Emb.put_same] at he
      injection he with he
      subst he
      exact .inr hc
    · rw [Emb.put_other _ _ hbn] at he
      exact .inl ⟨b, e, by simp only at hb; omega, he, hl, rfl⟩
  · intro b hb
    exact Emb.put_other _ _ (by simp only at hb; omega)
  · intro b hb _
    exact ⟨by simp only [Tr.get_set, if_neg (show b ≠ hp.nx by omega)], Emb.put_other _ _ (by omega)⟩

/-- How a call ends that answers a row of its own: these cells, of so many elements; nil, where it is said, of none. -/
def RowEnd (w w' : World) (ks : List Nat) (ty : TypeId) (nl : Bool) (cells : List Value) (k : Nat) (e : Ending) : Prop :=
  Below w.heap.size w w' ∧ ((nl = true ∧ k = 0 ∧ e = .returned (.slice none 0 0)) ∨ (¬(nl = true ∧ k = 0) ∧ ∃ (c o c' : Nat) (cs : Array Value) (fr : Nat × Nat), e = .returned (.slice (some ⟨c, o, none⟩) k c') ∧ w.heap.size ≤ c ∧ w'.heap[c]? = some (.cells cs ty fr) ∧
    FrOk true fr cs.size ∧ k ≤ c' ∧ o + c' * ks.length ≤ cs.size ∧ ∀ (i : Nat) (v : Value), cells[i]? = some v → cs[o + i]? = some v))
def CellsOk (ks : List Nat) (cells : List Value) (k : Nat) : Prop := k < 9223372036854775808 ∧ cells.length = k * ks.length ∧ ∀ (i : Nat) (v : Value), cells[i]? = some v → tyOk (ks.getD (i % ks.length) 0) v = true
/-- A contract of data, of a row. -/
def RowIs (P : Program) (gv : List (Nat × Tr Value)) (U : Nat → List Value → Option Value) (f : FuncId) (ps : List ArgT) (ks : List Nat) (ty : TypeId) (nl : Bool) (base : Nat) : Prop :=
  ∀ (w : World) (args' vals : List Value), GvOk gv w → InsOk P (fun a => w.cell? a) ps args' vals → ∃ (cells : List Value) (k : Nat), U base vals = some (.agg ⟨cells⟩) ∧ U (base + 1) vals = some (.int .i64 (.ofNat k)) ∧ CellsOk ks cells k ∧
    Calls P f ⟨args'⟩ w fun e w' => RowEnd w w' ks ty nl cells k e
noncomputable def rowO (P : Program) (ps : List ArgT) (ks : List Nat) (ty : TypeId) (nl : Bool) (base : Nat) (as : List (Value × Bool)) : OrcF := fun args hp =>
  match insE { P := P, ty := .nil, fn := .nil, ex := [], me := [], gv := [], as := as } hp ps args with
  | some es => match nl, (match nl with
      | true => lookS (sy 1 9 [num 9, sy 6 (18 + base) es, .int .i64 (.ofNat 0)]) as
      | false => none) with
    | false, _ => some [(.ret (.func (.yield hp.nx) ⟨[sy 6 (18 + base) es]⟩ ⟨[]⟩), { tr := hp.tr.set hp.nx (.seq (sy 0 (17 + base) es) (sy 6 (18 + base) es) ks ty), nx := Nat.succ hp.nx, lo := hp.lo })]
    | true, some true => some [(.ret (.func (.yield hp.nx) ⟨[sy 6 (18 + base) es]⟩ ⟨[]⟩), { tr := hp.tr.set hp.nx (.seq (sy 0 (17 + base) es) (sy 6 (18 + base) es) ks ty), nx := Nat.succ hp.nx, lo := hp.lo })]
    | true, some false => some [(.ret (.slice none 0 0), hp)]
    | true, none => none
  | none => none
theorem row_is {P : Program} {gv : List (Nat × Tr Value)} {U : Nat → List Value → Option Value} {f : FuncId} {ps : List ArgT} {ks : List Nat} {ty : TypeId} {nl : Bool} {base : Nat} (h : RowIs P gv U f ps ks ty nl base) (he : ∀ (l : Array Value) (w : World), (callFunc f l).run P w = .ok (.enter f l) w)
    {ex : List (FuncId × ExtK)} {me : List (TypeId × String × FuncId)} {orc : List (FuncId × OrcF)} {as : List (Value × Bool)} : OrcIs P (cxOf P ex me gv orc as U) f (rowO P ps ks ty nl base as) := by
  refine ⟨he, fun args hp l hl r' hr' => ?_, fun args hp l hl m args' w gw inv hargs hfr => ?_⟩
  · unfold rowO at hl
    split at hl
    case h_2 => cases hl
    split at hl
    all_goals first
      | (injection hl with hl; subst hl; rw [List.mem_singleton.1 hr']; exact grow_new _ _)
      | (injection hl with hl; subst hl; rw [List.mem_singleton.1 hr']; exact Grow.refl _)
      | cases hl
  · unfold rowO at hl
    split at hl
    case h_2 => cases hl
    rename_i es hes
    have hes := (insE_cx (cx := cxOf P ex me gv orc as U) (cx' := { P := P, ty := .nil, fn := .nil, ex := [], me := [], gv := [], as := as }) rfl rfl hp ps args).trans hes
    obtain ⟨vals, h1, h2⟩ := insE_ok (cx_ok P ex me gv orc as U) gw inv ps args args' es hargs hes
    obtain ⟨cells, k, u1, u2, ⟨c1, c2, c3⟩, hC⟩ := h w args' vals (fun g t hg => (gw.at_ g t hg).1) h1
    have d1 : denS m.s m.u (sy 0 (17 + base) es) = some (.agg ⟨cells⟩) := by
      rw [show 17 + base = base + 16 + 1 by omega, denS_app, h2]
      show m.u (base + 16) vals = _
      rw [gw.as.user]
      exact u1
    have d2 : denS m.s m.u (sy 6 (18 + base) es) = some (.int .i64 (.ofNat k)) := by
      rw [show 18 + base = base + 1 + 16 + 1 by omega, denS_app, h2]
      show m.u (base + 1 + 16) vals = _
      rw [gw.as.user]
      exact u2
    have hn : RV m (sy 6 (18 + base) es) (.int .i64 (.ofNat k)) := RV.of_denS d2 (by
      simp [tyOk, kindCode, IntKind.min, IntKind.max, IntKind.bits, IntKind.signed]
      omega)
    have row : ∀ (l : List (Res × Hp)), l = [(.ret (.func (.yield hp.nx) ⟨[sy 6 (18 + base) es]⟩ ⟨[]⟩), { tr := hp.tr.set hp.nx (.seq (sy 0 (17 + base) es) (sy 6 (18 + base) es) ks ty), nx := Nat.succ hp.nx, lo := hp.lo })] → (∀ r, r ∈ l → Fresh m hp.nx r.2.nx) → ¬(nl = true ∧ k = 0) →
        Calls P f ⟨args'⟩ w (Fin m hp w l) := by
      rintro l rfl hfr hnk
      have hf : m hp.nx = none := hfr _ (List.mem_singleton.2 rfl) hp.nx (Nat.le_refl _) (Nat.lt_succ_self _)
      refine hC.mono fun e w' ⟨bl, hr⟩ => ?_
      rcases hr with ⟨a, b, -⟩ | ⟨-, c, o, c', cs, fr, he, hc, hh, hfr, hk, hroom, hcs⟩
      · exact absurd ⟨a, b⟩ hnk
      have hc' : c < w'.heap.size := (Array.getElem?_eq_some_iff.1 hh).1
      have st := step_adopt (ob0 := .seq (sy 0 (17 + base) es) (sy 6 (18 + base) es) ks ty) (c := c) (o := o) (op := some (cs.size, ks.length)) inv hf bl hc hc' ⟨cells, cs, fr, ⟨denS_iff.1 d1, ⟨k, hn, c2⟩, fun i v hi => ⟨c3 i v hi, hcs i v hi⟩⟩, hh, hfr, rfl⟩
      exact ⟨.ret _, _, List.mem_singleton.2 rfl, _, st, .inl ⟨_, _, rfl, he, .seq hp.nx _ k c' _ (hn.mono st.le) hk ⟨_, cs.size, ks.length, Emb.put_same _ _ _, rfl, rfl, hroom⟩⟩⟩
    have tru : ∀ b, lookS (sy 1 9 [num 9, sy 6 (18 + base) es, .int .i64 (.ofNat 0)]) as = some b → Nat.blt 0 k = b := by
      intro b hb
      have hr : RV m (sy 1 9 [num 9, sy 6 (18 + base) es, .int .i64 (.ofNat 0)]) (.bool (Nat.blt 0 k)) := RV.app (k := 8) (l' := [num 9, .int .i64 (.ofNat k), .int .i64 (.ofNat 0)]) (.cons (.flat _ rfl) (.cons hn (.cons (.flat _ rfl) (.nil m)))) rfl (by rw [gw.as.rd 8 _ (by omega)]; rfl) rfl
      obtain ⟨⟨d, hd⟩, ht⟩ := hr.sym_iff rfl
      have := gw.as.as _ _ (lookS_mem hb) rfl d _ hd ht
      injection this
    split at hl
    · injection hl with hl
      exact row l hl.symm hfr (fun h => by cases h.1)
    · rename_i hb
      injection hl with hl
      refine row l hl.symm hfr (fun h => ?_)
      have := tru true hb
      rw [h.2] at this
      cases this
    · rename_i hb
      injection hl with hl
      subst hl
      have hk := tru false hb
      have hk0 : k = 0 := by
        cases k with
        | zero => rfl
        | succ k => cases hk
      refine hC.mono fun e w' ⟨bl, hr⟩ => ?_
      rcases hr with ⟨-, -, he⟩ | ⟨hno, -⟩
      · exact ⟨.ret _, hp, List.mem_singleton.2 rfl, m, Step.below inv bl, .inl ⟨_, _, rfl, he, .flat _ rfl⟩⟩
      · exact absurd ⟨rfl, hk0⟩ hno
    · cases hl

/-- What a way that answers a row must tell. -/
def rowQ (u : Nat → List Value → Option Value) (ks : List Nat) (ty : TypeId) (nl : Bool) (cells : List Value) (k : Nat) : (Nat → Value) → List Value → List (Nat × AObj) → Prop := fun s vs rs =>
  (nl = true ∧ k = 0 ∧ vs = [.slice none 0 0]) ∨ (¬(nl = true ∧ k = 0) ∧ ∃ b n E N', vs = [.func (.yield b) ⟨[n]⟩ ⟨[]⟩] ∧ (b, .seq E N' ks ty) ∈ rs ∧ denS s u E = some (.agg ⟨cells⟩) ∧ denV s u 9 n = some (.int .i64 (.ofNat k)))
theorem row_of_ts {P : Program} {ex : List (FuncId × ExtK)} {me : List (TypeId × String × FuncId)} {gv : List (Nat × Tr Value)} {orc : List (Value × Bool) → List (FuncId × OrcF)} {U : Nat → List Value → Option Value}
    {f : FuncId} {N n d B0 : Nat} {ps : List ArgT} {ks : List Nat} {ty : TypeId} {nl : Bool} {base : Nat} {t : TP} {pls : List Asrt} {tab : List VT} (hx : ∀ as, ExtOk P (cxOf P ex me gv (orc as) as U)) (hmix : P.follows .mixedOrders = true) (haf : aggFlat P ps = true)
    (h0 : pls[0]? = some { G := ⟨Tr.putList (symIns P ps 0) .nil 0, []⟩, Gh := ⟨.nil, N, N⟩, fs := factsIn P ps 0, B := B0 })
    (h : chkF P ex me gv orc U n d f ps pls tab t = true)
    (hE : ∀ (w : World) (args' vals : List Value), InsOk P (fun a => w.cell? a) ps args' vals → ∃ (cells : List Value) (k : Nat), U base vals = some (.agg ⟨cells⟩) ∧ U (base + 1) vals = some (.int .i64 (.ofNat k)) ∧ CellsOk ks cells k ∧
      Ends (uRd (cxOf P ex me gv (orc []) [] U) (fun a => w.cell? a)) tab (rowQ (uRd (cxOf P ex me gv (orc []) [] U) (fun a => w.cell? a)) ks ty nl cells k) 0 (startS ps args')) :
    RowIs P gv U f ps ks ty nl base := by
  intro w args' vals hg hin
  obtain ⟨cells, k, u1, u2, hco, hends⟩ := hE w args' vals hin
  unfold chkF at h
  split at h
  case h_2 => cases h
  rename_i fi hfi
  rw [Bool.and_eq_true] at h
  obtain ⟨hr, hf⟩ := ins_entry (u := uRd (cxOf P ex me gv (orc []) [] U) (fun a => w.cell? a)) (s := startS ps args') (fun vs => uRd_rd _ _ 8 vs (by omega)) ps args' vals 0 haf hin (fun j _ => by rw [Nat.zero_add]; rfl)
  refine ⟨cells, k, u1, u2, hco, ts_call hx hmix hfi h.1 h0 h.2 (old_all w) hr hf hg hends (fun s vs rs m hp w' v' hs hu hq hv inv hrs bl hlive => ?_)⟩
  subst hs
  rw [← hu] at hq
  refine ⟨bl, ?_⟩
  rcases hq with ⟨a, b, rfl⟩ | ⟨hno, b, n, E, N', rfl, hmem, hdE, hdn⟩
  · refine .inl ⟨a, b, ?_⟩
    have hv : RV m (.slice none 0 0) v' := hv
    rw [hv.flat_iff rfl]
  · refine .inr ⟨hno, ?_⟩
    have hv : RV m (.func (.yield b) ⟨[n]⟩ ⟨[]⟩) v' := hv
    obtain ⟨k', c', a', rfl, hn, hkc, en, tot, z, he, hop, rfl, hroom⟩ := hv.seq_iff
    have hget := rowsOk_ok hrs b _ hmem
    obtain ⟨hlv, cells2, cs, fr, ⟨hden, -, hcell⟩, hheap, hfr, hop2⟩ := inv.obj b en _ he hget (by simp)
    have hcells : cells2 = cells := by
      have a := denS_iff.2 hden
      rw [hdE] at a
      injection a with a
      injection a with a
      injection a with a
      exact a.symm
    subst hcells
    have hk : k' = k := by
      have a := denV_ok 9 hn hdn
      injection a with _ a
      injection a
    subst hk
    rw [hop] at hop2
    injection hop2 with hop2
    injection hop2 with e1 e2
    subst e1; subst e2
    exact ⟨en.c, en.o, c', cs, fr, rfl, hlive b en he hlv, hheap, hfr, hkc, hroom, fun i v hi => (hcell i v hi).2⟩
end Go.Proofs.Ytcholmmiieddcaa.Ev
