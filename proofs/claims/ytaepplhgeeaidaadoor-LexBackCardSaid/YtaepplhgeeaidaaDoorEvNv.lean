import Derived.Test.YtaepplhgeeaidaaDoorEvFn
section
set_option linter.unusedVariables false
set_option linter.unusedSimpArgs false
namespace Go.Proofs.YtaepplhgeeaidaaDoor.Ev
open Go Go.RowKit
noncomputable def obsTr (l : List (Nat × AObj)) : Tr AObj := List.rec (motive := fun _ => Tr AObj) .nil (fun x _ ih => ih.set x.1 x.2) l
noncomputable def chkF (P : Program) (ex : List (FuncId × ExtK)) (me : List (TypeId × String × FuncId)) (gv : List (Nat × Tr Value)) (orc : List (Value × Bool) → List (FuncId × OrcF)) (U : Nat → List Value → Option Value) (n d : Nat) (f : FuncId) (ps : List ArgT) (pls : List Asrt) (tab : List VT) (t : TP) : Bool :=
  match (cxOf P ex me gv (orc []) [] U).f f with
  | some fi => Nat.ble (symIns P ps 0).length fi.ntmps && chkT P ex me gv orc U n d fi.ntmps fi.results pls tab t fi.body [0] [] []
  | none => false
def CellsOk (ks : List Nat) (cells : List Value) (k : Nat) : Prop := k < 9223372036854775808 ∧ cells.length = k * ks.length ∧ ∀ (i : Nat) (v : Value), cells[i]? = some v → tyOk (ks.getD (i % ks.length) 0) v = true
end Go.Proofs.YtaepplhgeeaidaaDoor.Ev
end
section
set_option linter.unusedVariables false
set_option linter.unusedSimpArgs false
namespace Go.Proofs.YtaepplhgeeaidaaDoor.Ev
open Go Go.RowKit
def NeOk (ne : List Nat) (args' : List Value) : Prop := ∀ j, j ∈ ne → ∃ ad n c, args'.getD j undef = .slice ad n c ∧ 0 < n
def FnIsN (P : Program) (gv : List (Nat × Tr Value)) (U : Nat → List Value → Option Value) (f : FuncId) (ps : List ArgT) (ne : List Nat) (r : ResT) (base : Nat) : Prop :=
  ∀ (w : World) (args' vals : List Value), GvOk gv w → InsOk P (fun a => w.cell? a) ps args' vals → NeOk ne args' → ∃ cs, OutOk U base r vals cs ∧
    Calls P f ⟨args'⟩ w fun e w' => e = .returned (oneA (outV r cs)) ∧ Below w.heap.size w w'
theorem RVs.getD_rv {m : Emb} : ∀ {l l' : List Value}, RVs m l l' → ∀ (j : Nat), j < l.length → RV m (l.getD j undef) (l'.getD j undef)
  | [], l', h, j, hj => by cases hj
  | x :: l, l', h, j, hj => by
    obtain ⟨x', t, rfl, k1, k2⟩ := h.head
    cases j with
    | zero => exact k1
    | succ j => exact RVs.getD_rv k2 j (by simpa using hj)
theorem insE_len {cx : Cx} {hp : Hp} : ∀ {ps : List ArgT} {vs es : List Value}, insE cx hp ps vs = some es → vs.length = ps.length
  | [], [], _, _ => rfl
  | [], _ :: _, _, h => by unfold insE at h; cases h
  | _ :: _, [], _, h => by unfold insE at h; cases h
  | p :: ps, v :: vs, es, h => by
    unfold insE at h
    split at h
    · rename_i a b ha hb
      have := insE_len hb
      simp [this]
    · cases h
theorem fn_of_ts_n {P : Program} {ex : List (FuncId × ExtK)} {me : List (TypeId × String × FuncId)} {gv : List (Nat × Tr Value)} {orc : List (Value × Bool) → List (FuncId × OrcF)} {U : Nat → List Value → Option Value}
    {f : FuncId} {N n d B0 : Nat} {ps : List ArgT} {ne : List Nat} {r : ResT} {base : Nat} {t : TP} {pls : List Asrt} {tab : List VT} (hx : ∀ as, ExtOk P (cxOf P ex me gv (orc as) as U)) (hmix : P.follows .mixedOrders = true) (haf : aggFlat P ps = true)
    (h0 : pls[0]? = some { G := ⟨Tr.putList (symIns P ps 0) .nil 0, []⟩, Gh := ⟨.nil, N, N⟩, fs := factsIn P ps 0, B := B0 })
    (h : chkF P ex me gv orc U n d f ps pls tab t = true)
    (hE : ∀ (w : World) (args' vals : List Value), InsOk P (fun a => w.cell? a) ps args' vals → NeOk ne args' → ∃ cs, OutOk U base r vals cs ∧
      Ends (uRd (cxOf P ex me gv (orc []) [] U) (fun a => w.cell? a)) tab (fun s vs _ => denV s (uRd (cxOf P ex me gv (orc []) [] U) (fun a => w.cell? a)) 9 (oneA vs) = some (oneA (outV r cs))) 0 (startS ps args')) :
    FnIsN P gv U f ps ne r base := by
  intro w args' vals hg hin hne
  obtain ⟨cs, ho, hends⟩ := hE w args' vals hin hne
  unfold chkF at h
  split at h
  case h_2 => cases h
  rename_i fi hfi
  rw [Bool.and_eq_true] at h
  obtain ⟨hr, hf⟩ := ins_entry (u := uRd (cxOf P ex me gv (orc []) [] U) (fun a => w.cell? a)) (s := startS ps args') (fun vs => uRd_rd _ _ 8 vs (by omega)) ps args' vals 0 haf hin (fun j _ => by rw [Nat.zero_add]; rfl)
  refine ⟨cs, ho, ts_call hx hmix hfi h.1 h0 h.2 (old_all w) hr hf hg hends (fun s vs rs m hp w' v' hs hu hq hv _ _ hb _ => ?_)⟩
  subst hs
  rw [← hu] at hq
  exact ⟨by rw [denV_ok 9 hv hq], hb⟩
end Go.Proofs.YtaepplhgeeaidaaDoor.Ev
end
section
set_option linter.unusedVariables false
set_option linter.unusedSimpArgs false
set_option linter.unusedSectionVars false
namespace Go.Proofs.YtaepplhgeeaidaaDoor.Ev
open Go Go.RowKit
section
variable {cx : Cx} {R : Addr → Option Value} {s : Nat → Value} {u : Nat → List Value → Option Value}
theorem nA (ty k : Nat) (xs : List Value) : denS s u (sy ty (k + 1) xs) = (mapO (denS s u) xs).bind (u k) := denS_app ty k xs
theorem f_num (k : Nat) : denS s u (num k) = some (num k) := denS_flat rfl
theorem f_int (k : IntKind) (n : Int) : denS s u (.int k n) = some (.int k n) := denS_flat rfl
theorem f_bool (b : Bool) : denS s u (.bool b) = some (.bool b) := denS_flat rfl
theorem n_lss (t : Nat) (c : Bool) (k : IntKind) (a b : Int) : uRd cx R 0 [num 13, num t, .bool c, .int k a, .int k b] = some (.bool (decide (a < b))) := by
  rw [uRd_op]; simp only [opSem, num, binOf]; rw [binA_int (by simp) (by simp)]; rfl
theorem n_eql (t : Nat) (c : Bool) (k : IntKind) (a b : Int) : uRd cx R 0 [num 11, num t, .bool c, .int k a, .int k b] = some (.bool (a == b)) := by
  rw [uRd_op]; simp only [opSem, num, binOf]; rw [binA_int (by simp) (by simp)]; rfl
theorem n_add (t : Nat) (c : Bool) (k : IntKind) (a b : Int) : uRd cx R 0 [num 0, num t, .bool c, .int k a, .int k b] = some (.int k (wrapA k (a + b))) := by
  rw [uRd_op]; simp only [opSem, num, binOf]; rw [binA_int (by simp) (by simp)]; rfl
theorem n_sub (t : Nat) (c : Bool) (k : IntKind) (a b : Int) : uRd cx R 0 [num 1, num t, .bool c, .int k a, .int k b] = some (.int k (wrapA k (a - b))) := by
  rw [uRd_op]; simp only [opSem, num, binOf]; rw [binA_int (by simp) (by simp)]; rfl
theorem n_len (a : Option Addr) (n c : Nat) : uRd cx R 4 [.slice a n c] = some (.int .i64 (Int.ofNat n)) := by rw [uRd_rd _ _ _ _ (by omega)]; rfl
theorem n_rd (a : Addr) : uRd cx R 5 [.pointer (some a)] = R a := rfl
theorem n_ix (z : Nat) (a : Addr) (n c : Nat) (k : IntKind) (i : Nat) : uRd cx R 6 [num z, .slice (some a) n c, .int k (.ofNat i)] = some (.pointer (some (a.add (i * z)))) := by rw [uRd_rd _ _ _ _ (by omega)]; rfl
theorem n_fd (a : Addr) (o : Nat) : uRd cx R 7 [.pointer (some a), num o] = some (.pointer (some (a.add o))) := by rw [uRd_rd _ _ _ _ (by omega)]; rfl
theorem n_tr (k : Nat) (vs : List Value) : uRd cx R 8 (num k :: vs) = opRd cx.P R 8 (num k :: vs) := by rw [uRd_rd _ _ _ _ (by omega)]
theorem n_U (j : Nat) (vs : List Value) : uRd cx R (j + 16) vs = cx.U j vs := by
  unfold uRd
  rw [if_neg (by omega), if_neg (by omega), if_neg (by omega), Nat.add_sub_cancel]
theorem n_t9 (k k' : IntKind) (n i : Nat) : uRd cx R 8 [num 9, .int k (.ofNat n), .int k' (.ofNat i)] = some (.bool (Nat.blt i n)) := by rw [n_tr]; rfl
theorem n_t1 (a : Addr) (n c : Nat) (k : IntKind) (i : Nat) : uRd cx R 8 [num 1, .slice (some a) n c, .int k (.ofNat i)] = some (.bool (Nat.blt i n)) := by rw [n_tr]; rfl
theorem wA {a : Nat} (h : a < 9223372036854775808) : wrapA .i64 (.ofNat a) = .ofNat a := by
  unfold wrapA
  simp only [show Nat.blt a 9223372036854775808 = true from Nat.blt_eq.mpr h]
theorem w_sub {n i : Nat} (h : i ≤ n) (hn : n < 9223372036854775808) : wrapA .i64 (Int.ofNat n - Int.ofNat i) = Int.ofNat (n - i) := by
  rw [show Int.ofNat n - Int.ofNat i = Int.ofNat (n - i) from by show (n : Int) - (i : Int) = ((n - i : Nat) : Int); omega]
  exact wA (by omega)
theorem w_add {n i : Nat} (h : n + i < 9223372036854775808) : wrapA .i64 (Int.ofNat n + Int.ofNat i) = Int.ofNat (n + i) := wA h
end
section
variable {u : Nat → List Value → Option Value} {X : Nat → (Nat → Value) → Prop} {Q : (Nat → Value) → List Value → List (Nat × AObj) → Prop} {s : Nat → Value}
theorem at_node {e : Value} {b : Bool} {t f : VT} (h : denS s u e = some (.bool b)) (h1 : b = true → At u X Q s t) (h2 : b = false → At u X Q s f) : At u X Q s (.node e t f) := by
  unfold At
  rw [h]
  cases b with
  | true => exact h1 rfl
  | false => exact h2 rfl
theorem at_t {e : Value} {t f : VT} (h : denS s u e = some (.bool true)) (h1 : At u X Q s t) : At u X Q s (.node e t f) := at_node h (fun _ => h1) (fun h => by cases h)
theorem at_f {e : Value} {t f : VT} (h : denS s u e = some (.bool false)) (h1 : At u X Q s f) : At u X Q s (.node e t f) := at_node h (fun h => by cases h) (fun _ => h1)
theorem upd_s {L : Ms} {i : Nat} (h : getL i L = none) : upd s u L i = s i := by unfold upd; rw [h]
theorem upd_e {L : Ms} {i : Nat} {e v : Value} (h : getL i L = some e) (hv : denS s u e = some v) : upd s u L i = v := by unfold upd; rw [h]; simp only [hv]
end
theorem dl {i n : Nat} : decide (Int.ofNat i < Int.ofNat n) = decide (i < n) := by
  by_cases h : i < n
  · rw [decide_eq_true h]; exact decide_eq_true (Int.ofNat_lt.2 h)
  · rw [decide_eq_false h]; exact decide_eq_false (fun x => h (Int.ofNat_lt.1 x))
theorem bl {i n : Nat} (h : i < n) : Nat.blt i n = true := Nat.blt_eq.mpr h
theorem ty_i64 {v : Value} (h : tyOk 6 v = true) : ∃ n, v = .int .i64 n ∧ (-9223372036854775808 ≤ n ∧ n ≤ 9223372036854775807) := by
  obtain ⟨k, n, rfl, hk⟩ := ty_int (by omega) h
  cases k <;> first | (exfalso; revert hk; decide) | skip
  refine ⟨n, rfl, ?_⟩
  simp [tyOk, kindCode, IntKind.min, IntKind.max, IntKind.bits, IntKind.signed] at h
  omega
theorem i64_ty {n : Int} (h : (-9223372036854775808 ≤ n ∧ n ≤ 9223372036854775807)) : tyOk 6 (.int .i64 n) = true := by
  simp [tyOk, kindCode, IntKind.min, IntKind.max, IntKind.bits, IntKind.signed]
  omega
theorem pick_list {α : Type} {p : Nat → α → Prop} : ∀ n, (∀ i, i < n → ∃ v, p i v) → ∃ l : List α, l.length = n ∧ ∀ i v, l[i]? = some v → p i v := by
  intro n
  induction n with
  | zero => exact fun _ => ⟨[], rfl, fun i v h => by cases h⟩
  | succ n ih =>
    intro h
    obtain ⟨l, hl, h1⟩ := ih (fun i hi => h i (by omega))
    obtain ⟨v, hv⟩ := h n (by omega)
    refine ⟨l ++ [v], by simp [hl], fun i u hi => ?_⟩
    by_cases hn : i < l.length
    · rw [List.getElem?_append_left hn] at hi
      exact h1 i u hi
    · rw [List.getElem?_append_right (by omega)] at hi
      have : i - l.length = 0 := by
        by_cases h0 : i - l.length = 0
        · exact h0
        · rw [List.getElem?_eq_none (by simp; omega)] at hi; cases hi
      rw [this] at hi
      injection hi with hi
      subst hi
      have : i = n := by omega
      subst this
      exact hv
end Go.Proofs.YtaepplhgeeaidaaDoor.Ev
end
