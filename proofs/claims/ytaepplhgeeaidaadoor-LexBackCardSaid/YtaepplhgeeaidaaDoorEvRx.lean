import Derived.Test.YtaepplhgeeaidaaDoorEvNv
set_option linter.unusedVariables false
set_option linter.unusedSimpArgs false
namespace Go.Proofs.YtaepplhgeeaidaaDoor.Ev
open Go Go.RowKit
def RowXEnd (w w' : World) (ks : List Nat) (ty : TypeId) (nl : Bool) (cells : List Value) (k : Nat) (rest : List Value) (e : Ending) : Prop :=
  Below w.heap.size w w' ∧ ((nl = true ∧ k = 0 ∧ e = .returned (.tuple ⟨.slice none 0 0 :: rest⟩)) ∨ (¬(nl = true ∧ k = 0) ∧ ∃ (c o c' : Nat) (cs : Array Value) (fr : Nat × Nat), e = .returned (.tuple ⟨.slice (some ⟨c, o, none⟩) k c' :: rest⟩) ∧ w.heap.size ≤ c ∧ w'.heap[c]? = some (.cells cs ty fr) ∧
    FrOk true fr cs.size ∧ k ≤ c' ∧ o + c' * ks.length ≤ cs.size ∧ ∀ (i : Nat) (v : Value), cells[i]? = some v → cs[o + i]? = some v))
def RowXIs (P : Program) (gv : List (Nat × Tr Value)) (U : Nat → List Value → Option Value) (f : FuncId) (ps : List ArgT) (ks : List Nat) (ty : TypeId) (nl : Bool) (r : ResT) (base : Nat) : Prop :=
  ∀ (w : World) (args' vals : List Value), GvOk gv w → InsOk P (fun a => w.cell? a) ps args' vals → ∃ (cells : List Value) (k : Nat) (cs : List Value), U base vals = some (.agg ⟨cells⟩) ∧ U (base + 1) vals = some (.int .i64 (.ofNat k)) ∧ CellsOk ks cells k ∧ OutOk U (base + 2) r vals cs ∧
    Calls P f ⟨args'⟩ w fun e w' => RowXEnd w w' ks ty nl cells k (outV r cs) e
def rowXQ (u : Nat → List Value → Option Value) (ks : List Nat) (ty : TypeId) (nl : Bool) (cells : List Value) (k : Nat) (res : List Value) : (Nat → Value) → List Value → List (Nat × AObj) → Prop := fun s vs rs =>
  ∃ rest, denV s u 9 (.tuple ⟨rest⟩) = some (.tuple ⟨res⟩) ∧ ((nl = true ∧ k = 0 ∧ vs = .slice none 0 0 :: rest) ∨ (¬(nl = true ∧ k = 0) ∧ ∃ b n E N', vs = .func (.yield b) ⟨[n]⟩ ⟨[]⟩ :: rest ∧ (b, .seq E N' ks ty) ∈ rs ∧ denS s u E = some (.agg ⟨cells⟩) ∧ denV s u 9 n = some (.int .i64 (.ofNat k))))
theorem rowx_of_ts {P : Program} {ex : List (FuncId × ExtK)} {me : List (TypeId × String × FuncId)} {gv : List (Nat × Tr Value)} {orc : List (Value × Bool) → List (FuncId × OrcF)} {U : Nat → List Value → Option Value}
    {f : FuncId} {N n d B0 : Nat} {ps : List ArgT} {ks : List Nat} {ty : TypeId} {nl : Bool} {r : ResT} {base : Nat} {t : TP} {pls : List Asrt} {tab : List VT} (hx : ∀ as, ExtOk P (cxOf P ex me gv (orc as) as U)) (hmix : P.follows .mixedOrders = true) (haf : aggFlat P ps = true) (hr0 : r ≠ [])
    (h0 : pls[0]? = some { G := ⟨Tr.putList (symIns P ps 0) .nil 0, []⟩, Gh := ⟨.nil, N, N⟩, fs := factsIn P ps 0, B := B0 })
    (h : chkF P ex me gv orc U n d f ps pls tab t = true)
    (hE : ∀ (w : World) (args' vals : List Value), InsOk P (fun a => w.cell? a) ps args' vals → ∃ (cells : List Value) (k : Nat) (cs : List Value), U base vals = some (.agg ⟨cells⟩) ∧ U (base + 1) vals = some (.int .i64 (.ofNat k)) ∧ CellsOk ks cells k ∧ OutOk U (base + 2) r vals cs ∧
      Ends (uRd (cxOf P ex me gv (orc []) [] U) (fun a => w.cell? a)) tab (rowXQ (uRd (cxOf P ex me gv (orc []) [] U) (fun a => w.cell? a)) ks ty nl cells k (outV r cs)) 0 (startS ps args')) :
    RowXIs P gv U f ps ks ty nl r base := by
  intro w args' vals hg hin
  obtain ⟨cells, k, rcs, u1, u2, hco, hout, hends⟩ := hE w args' vals hin
  unfold chkF at h
  split at h
  case h_2 => cases h
  rename_i fi hfi
  rw [Bool.and_eq_true] at h
  obtain ⟨hr, hf⟩ := ins_entry (u := uRd (cxOf P ex me gv (orc []) [] U) (fun a => w.cell? a)) (s := startS ps args') (fun vs => uRd_rd _ _ 8 vs (by omega)) ps args' vals 0 haf hin (fun j _ => by rw [Nat.zero_add]; rfl)
  refine ⟨cells, k, rcs, u1, u2, hco, hout, ts_call hx hmix hfi h.1 h0 h.2 (old_all w) hr hf hg hends (fun s vs rs m hp w' v' hs hu hq hv inv hrs bl hlive => ?_)⟩
  subst hs
  rw [← hu] at hq
  refine ⟨bl, ?_⟩
  obtain ⟨rest, hrest, hq⟩ := hq
  have hne : ∀ x : Value, oneA (x :: rest) = .tuple ⟨x :: rest⟩ := fun x => by
    cases rest with
    | nil =>
      exfalso
      have hrest : some (Value.tuple ⟨[]⟩) = some (.tuple ⟨outV r rcs⟩) := hrest
      injection hrest with hrest
      injection hrest with hrest
      injection hrest with hrest
      cases r with
      | nil => exact hr0 rfl
      | cons a r => obtain ⟨a1, a2⟩ := a; cases hrest
    | cons y l => rfl
  have htl : ∀ {x : Value}, RV m (oneA (x :: rest)) v' → ∃ x', v' = .tuple ⟨x' :: outV r rcs⟩ ∧ RV m x x' := fun {x} hx => by
    rw [hne] at hx
    obtain ⟨xs', rfl, hxs⟩ := hx.tuple_iff
    obtain ⟨x', t, rfl, q1, q2⟩ := hxs.head
    have := denV_ok 9 (RV.tuple rest t q2.1 q2.2) hrest
    injection this with this
    injection this with this
    subst this
    exact ⟨x', rfl, q1⟩
  rcases hq with ⟨a, b, rfl⟩ | ⟨hno, b, n, E, N', rfl, hmem, hdE, hdn⟩
  · obtain ⟨x', rfl, hx⟩ := htl hv
    refine .inl ⟨a, b, ?_⟩
    rw [hx.flat_iff rfl]
  · refine .inr ⟨hno, ?_⟩
    obtain ⟨x', rfl, hx⟩ := htl hv
    obtain ⟨k', c', a', rfl, hn, hkc, en, tot, z, he, hop, rfl, hroom⟩ := hx.seq_iff
    have hget := rowsOk_ok hrs b _ hmem
    obtain ⟨hlv, cells2, cs, fr, ⟨hden, -, hcell⟩, hheap, hfr, hop2⟩ := inv.obj b en _ he hget (by simp)
    have hcells : cells2 = cells := by
      have a := denS_iff.2 hden
      rw [hdE] at a
      injection a with a
      injection a with a
      injection a with a
      exact a.symm
    subst hcells
    have hk : k' = k := by
      have a := denV_ok 9 hn hdn
      injection a with _ a
      injection a
    subst hk
    rw [hop] at hop2
    injection hop2 with hop2
    injection hop2 with e1 e2
    subst e1; subst e2
    exact ⟨en.c, en.o, c', cs, fr, rfl, hlive b en he hlv, hheap, hfr, hkc, hroom, fun i v hi => (hcell i v hi).2⟩
end Go.Proofs.YtaepplhgeeaidaaDoor.Ev
