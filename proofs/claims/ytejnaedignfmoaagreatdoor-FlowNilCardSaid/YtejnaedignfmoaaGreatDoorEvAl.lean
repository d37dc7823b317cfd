/- Calls of what is not known, of which all can be read: laws on all ways, and contracts that tell some truth. -/
import Derived.Test.YtejnaedignfmoaaGreatDoorEvAn
set_option linter.unusedVariables false
set_option linter.unusedSimpArgs false
set_option linter.unusedSectionVars false
namespace Go.Proofs.YtejnaedignfmoaaGreatDoor.Ev
open Go Go.RowKit

/-! Ways that can't be: what is told of a number leaves none. -/
def bndOf (i : Nat) (p : Value × Bool) : Int × Int :=
  match p with
  | (.func (.methodOf 1 _) ⟨[.int _ (.ofNat 13), .int .u64 (.ofNat _), .bool _, .int .i64 a, .func (.methodOf 0 _) ⟨[.int _ (.ofNat j)]⟩ _]⟩ _, b) => match Nat.beq j i, b with
    | true, true => (a + 1, 9223372036854775807)
    | true, false => (-9223372036854775808, a)
    | _, _ => (-9223372036854775808, 9223372036854775807)
  | (.func (.methodOf 1 _) ⟨[.int _ (.ofNat 13), .int .u64 (.ofNat _), .bool _, .func (.methodOf 0 _) ⟨[.int _ (.ofNat j)]⟩ _, .int .i64 a]⟩ _, b) => match Nat.beq j i, b with
    | true, true => (-9223372036854775808, a - 1)
    | true, false => (a, 9223372036854775807)
    | _, _ => (-9223372036854775808, 9223372036854775807)
  | _ => (-9223372036854775808, 9223372036854775807)
def deadC (c : List (Value × Bool)) (i : Nat) : Bool := c.any fun p => c.any fun q => decide ((bndOf i q).2 < (bndOf i p).1)
def hasI (i : Nat) (args : List Value) : Bool := args.any fun v => (vcells v).any fun x => match x with
  | .func (.methodOf 0 _) ⟨[.int _ (.ofNat j)]⟩ ⟨[.int _ (.ofNat 6)]⟩ => Nat.beq j i
  | _ => false

theorem hasI_ok {m : Emb} {i : Nat} {args args' : List Value} (h : hasI i args = true) (hv : RVs m args args') : tyOk 6 (m.s i) = true := by
  obtain ⟨v, hv1, hv2⟩ := List.any_eq_true.1 h
  obtain ⟨x, hx1, hx2⟩ := List.any_eq_true.1 hv2
  have one : ∀ x', RV m x x' → tyOk 6 (m.s i) = true := fun x' hr => by
    split at hx2
    · rename_i nm k j k2
      obtain rfl := Nat.eq_of_beq_eq_true hx2
      obtain ⟨⟨d, hd⟩, ht⟩ := hr.sym_iff rfl
      cases d with
      | zero => cases hd
      | succ d =>
        have : m.s j = x' := Option.some.inj hd
        rw [this]
        exact ht
    · cases hx2
  obtain ⟨j, hj⟩ := List.mem_iff_getElem?.1 hv1
  obtain ⟨v', -, hr⟩ := hv.at_ hj
  cases v with
  | agg cs =>
    obtain ⟨cs⟩ := cs
    obtain ⟨xs', rfl, hr2⟩ := hr.agg_iff
    obtain ⟨q, hq⟩ := List.mem_iff_getElem?.1 (show x ∈ cs from hx1)
    obtain ⟨x', -, hr3⟩ := hr2.at_ hq
    exact one x' hr3
  | _ =>
    have hx1 := List.mem_singleton.1 hx1
    subst hx1
    exact one v' hr

theorem bnd_ok {cx : Cx} {R : Addr → Option Value} {s : Nat → Value} {i : Nat} {n : Int} (hs : s i = .int .i64 n) (hn : -9223372036854775808 ≤ n ∧ n ≤ 9223372036854775807) {p : Value × Bool} (h : Holds s (uRd cx R) p.1 p.2) : (bndOf i p).1 ≤ n ∧ n ≤ (bndOf i p).2 := by
  have sem : ∀ (d : Nat) (k0 : IntKind) (t : Nat) (b : Bool) (x y : Value) (a c : Int) (nm : String) (zs : Array Value), den s (uRd cx R) d x = some (.int .i64 a) → den s (uRd cx R) d y = some (.int .i64 c) →
      den s (uRd cx R) (d + 1 + 1) (.func (.methodOf (0 + 1) nm) ⟨[.int k0 (.ofNat 13), .int .u64 (.ofNat t), .bool b, x, y]⟩ zs) = some (.bool (decide (a < c))) := by
    intro d k0 t b x y a c nm zs h1 h2
    have up : ∀ {e v : Value}, den s (uRd cx R) d e = some v → den s (uRd cx R) (d + 1) e = some v := fun h => den_mono (Nat.le_succ d) h
    exact den_fn_of (mapO_of (den_flat rfl d) (mapO_of (den_flat rfl d) (mapO_of (den_flat rfl d) (mapO_of (up h1) (mapO_of (up h2) rfl))))) (by rw [uRd_op]; rfl)
  unfold bndOf
  split
  · rename_i nm k0 t b0 a nm2 k2 j zs zs2 b
    split
    · rename_i hj
      obtain rfl := Nat.eq_of_beq_eq_true hj
      have := h _ _ (sem 1 k0 t b0 _ _ a n nm zs2 (den_flat rfl 0) (by show some (s j) = _; rw [hs])) rfl
      injection this with this
      have := of_decide_eq_true this
      exact ⟨by show a + 1 ≤ n; omega, hn.2⟩
    · rename_i hj
      obtain rfl := Nat.eq_of_beq_eq_true hj
      have := h _ _ (sem 1 k0 t b0 _ _ a n nm zs2 (den_flat rfl 0) (by show some (s j) = _; rw [hs])) rfl
      injection this with this
      have := of_decide_eq_false this
      exact ⟨hn.1, by show n ≤ a; omega⟩
    · exact hn
  · rename_i nm k0 t b0 nm2 k2 j zs a zs2 b
    split
    · rename_i hj
      obtain rfl := Nat.eq_of_beq_eq_true hj
      have := h _ _ (sem 1 k0 t b0 _ _ n a nm zs2 (by show some (s j) = _; rw [hs]) (den_flat rfl 0)) rfl
      injection this with this
      have := of_decide_eq_true this
      exact ⟨hn.1, by show n ≤ a - 1; omega⟩
    · rename_i hj
      obtain rfl := Nat.eq_of_beq_eq_true hj
      have := h _ _ (sem 1 k0 t b0 _ _ n a nm zs2 (by show some (s j) = _; rw [hs]) (den_flat rfl 0)) rfl
      injection this with this
      have := of_decide_eq_false this
      exact ⟨by show a ≤ n; omega, hn.2⟩
    · exact hn
  · exact hn

theorem dead_ok {cx : Cx} {R : Addr → Option Value} {s : Nat → Value} {i : Nat} (ht : tyOk 6 (s i) = true) {c : List (Value × Bool)} (hc : deadC c i = true) : ¬ ∀ e b, (e, b) ∈ c → Holds s (uRd cx R) e b := by
  intro h
  obtain ⟨k, n, hk, hk2⟩ := ty_int (by omega) ht
  obtain rfl : k = .i64 := by cases k <;> first | rfl | cases hk2
  have hn : -9223372036854775808 ≤ n ∧ n ≤ 9223372036854775807 := by
    rw [hk] at ht
    simp [tyOk, IntKind.min, IntKind.max, IntKind.bits, IntKind.signed] at ht
    omega
  obtain ⟨p, hp, hc⟩ := List.any_eq_true.1 hc
  obtain ⟨q, hq, hc⟩ := List.any_eq_true.1 hc
  have h1 := bnd_ok hk hn (h p.1 p.2 hp)
  have h2 := bnd_ok hk hn (h q.1 q.2 hq)
  have := of_decide_eq_true hc
  omega

section
variable {P : Program} {ex : List (FuncId × ExtK)} {me : List (TypeId × String × FuncId)} {gv : List (Nat × Tr Value)} {orc : List (Value × Bool) → List (FuncId × OrcF)} {U : Nat → List Value → Option Value}

/-- What is reckoned of a call on all ways, where it reads what came in. -/
theorem toldR (hx : ∀ as, ExtOk P (cxOf P ex me gv (orc as) as U)) (hmix : P.follows .mixedOrders = true) {n d : Nat} {f : FuncId} {b : Bool} {N : Nat} {args args' : List Value} {t : PT} {fs : List (Value × Bool)} {cl : List (Nat × List (Value × Bool))}
    (hcl : (cl.all fun c => deadC c.2 c.1 && hasI c.1 args) = true)
    (h : walkT (fun as => tellsA (cxOf P ex me gv (orc as) as U) b (evFn (cxOf P ex me gv (orc as) as U) n d (.fn f) args ⟨.nil, N, N⟩)) (cl.map (·.2)) t fs = true) {w : World} {R : Addr → Option Value} (hw : Old w R) {s : Nat → Value}
    (hargs : RVs ⟨fun _ => none, s, uRd (cxOf P ex me gv (orc []) [] U) R⟩ args args') (hfs : ∀ e b, (e, b) ∈ fs → Holds s (uRd (cxOf P ex me gv (orc []) [] U) R) e b)
    (hgv : ∀ g t, (g, t) ∈ gv → ∃ cs ty fr, w.heap[g]? = some (.cells cs ty fr) ∧ ∀ (i : Nat) (v : Value), t.get i = some v → GC v cs[i]?) :
    Calls P f ⟨args'⟩ w (fun e w' => e = .returned (.bool b) ∧ Below w.heap.size w w') := by
  refine walkT_ok (fun c hc => ?_) (fun as ha hh => ?_) t fs h hfs
  · obtain ⟨q, hq, rfl⟩ := List.mem_map.1 hc
    have := List.all_eq_true.1 hcl q hq
    rw [Bool.and_eq_true] at this
    exact dead_ok (hasI_ok this.2 hargs) this.1
  cases he : evFn (cxOf P ex me gv (orc as) as U) n d (.fn f) args ⟨.nil, N, N⟩ with
  | none => rw [he] at ha; cases ha
  | some l =>
    rw [he] at ha
    have inv : Inv ⟨fun _ => none, s, uRd (cxOf P ex me gv (orc []) [] U) R⟩ (⟨.nil, N, N⟩ : Hp) w.heap := ⟨(fun _ _ _ h1 => by cases h1), (fun _ _ _ _ h1 => by cases h1), (fun _ _ h1 => by cases h1), (fun _ _ h1 => by rw [Tr.get_nil] at h1; cases h1)⟩
    have gw : GW (cxOf P ex me gv (orc []) [] U) ⟨fun _ => none, s, uRd (cxOf P ex me gv (orc []) [] U) R⟩ w :=
      ⟨fun g t hg => ⟨hgv g t hg, fun _ _ h1 => by cases h1⟩, ⟨fun k vs hk => uRd_ok _ R k vs hk, fun _ _ h1 => by cases h1⟩, fun a v hv => ⟨(hw a v hv).2, fun _ _ h1 => by cases h1⟩⟩
    have gw := gw_as gw hh
    obtain ⟨-, hC⟩ := calls_ok (cx_ok P ex me gv (orc as) as U) (hx as) hmix n d (.fn f) args _ _ he ⟨fun _ => none, s, uRd (cxOf P ex me gv (orc []) [] U) R⟩ args' w gw inv hargs (fun r _ x _ _ => rfl)
    refine hC.mono fun e w' ⟨r, hp', hm, m', h2, h3⟩ => ?_
    have hb := List.all_eq_true.1 ha _ hm
    rcases h3 with ⟨v, v', rfl, rfl, hv⟩ | ⟨v, v', rfl, rfl, hv⟩
    · have hb : (match boolA (cxOf P ex me gv (orc as) as U) v with | some c => c == b | none => false) = true := hb
      split at hb
      · rename_i c hc
        have hcb : c = b := by simpa using hb
        subst hcb
        obtain rfl := boolA_ok (gw.as.mono h2.le) hv hc
        exact ⟨rfl, h2.os, h2.tape, h2.output, h2.size, fun k hk => h2.keep k hk (fun b e _ h1 => by cases h1)⟩
      · cases hb
    · cases hb

/-- Some truth is told. -/
noncomputable def anyB (P : Program) (ex : List (FuncId × ExtK)) (me : List (TypeId × String × FuncId)) (gv : List (Nat × Tr Value)) (orc : List (Value × Bool) → List (FuncId × OrcF)) (U : Nat → List Value → Option Value) (fi : FI) (as : List (Value × Bool)) (fm : Fm) (hp : Hp) : Bool :=
  match fm.ds, resA (cxOf P ex me gv (orc as) as U) fm.tm hp fi.results with
  | [], some [v] => match v with
    | .bool _ => true
    | v => symOf 1 v
  | _, _ => false

theorem any_call {f : FuncId} {fi : FI} {N n d B : Nat} {args args' : List Value} {fs : List (Value × Bool)} {p : Plan} (hx : ∀ as, ExtOk P (cxOf P ex me gv (orc as) as U)) (hmix : P.follows .mixedOrders = true)
    (hfi : (cxOf P ex me gv (orc []) [] U).f f = some fi) (hle : Nat.ble args.length fi.ntmps = true)
    (h : chk P ex me gv orc U n d fi.ntmps (anyB P ex me gv orc U fi) p fi.body { G := ⟨Tr.putList args .nil 0, []⟩, Gh := ⟨.nil, N, N⟩, fs := fs, B := B } { nrm := none, exs := [] } = true)
    {w0 : World} {R : Addr → Option Value} {s : Nat → Value} (hw : Old w0 R) (hargs : RVs ⟨fun _ => none, s, uRd (cxOf P ex me gv (orc []) [] U) R⟩ args args')
    (hfs : ∀ e b, (e, b) ∈ fs → Holds s (uRd (cxOf P ex me gv (orc []) [] U) R) e b)
    (hgv : ∀ g t, (g, t) ∈ gv → ∃ cs ty fr, w0.heap[g]? = some (.cells cs ty fr) ∧ ∀ (i : Nat) (v : Value), t.get i = some v → GC v cs[i]?) :
    Calls P f ⟨args'⟩ w0 (fun e w' => (∃ b, e = .returned (.bool b)) ∧ Below w0.heap.size w0 w') := by
  obtain ⟨fn, hfn, hfo⟩ := (cx_ok P ex me gv (orc []) [] U).fn f fi hfi
  obtain ⟨p1, p2, p3, p4⟩ := fi_parts hfo
  refine (callsIn_wide (n := 0)).1 (callsIn_of_wp_marks hfn p1 trivial ?_ rfl)
  have T0 : Top (cxOf P ex me gv (orc []) [] U) w0 R s fi.ntmps ⟨Tr.putList args .nil 0, []⟩ ⟨.nil, N, N⟩ w0 { tmps := (⟨args'⟩ : Array Value) ++ Array.replicate (fn.ntmps - (⟨args'⟩ : Array Value).size) undef, defers := [] } := by
    refine ⟨fun _ => none, ⟨.inl ⟨rfl, rfl⟩, enter_tr (P := P) hargs p2 (Nat.le_of_ble_eq_true hle) [], trivial, Nat.le_refl _, ⟨(fun _ _ _ h1 => by cases h1), (fun _ _ _ _ h1 => by cases h1), (fun _ _ h1 => by cases h1), (fun _ _ h1 => by rw [Tr.get_nil] at h1; cases h1)⟩,
      ⟨fun g t hg => ⟨hgv g t hg, fun _ _ h1 => by cases h1⟩, ⟨fun k vs hk => uRd_ok _ R k vs hk, fun _ _ h1 => by cases h1⟩, fun a v hv => ⟨(hw a v hv).2, fun _ _ h1 => by cases h1⟩⟩⟩, fun _ _ => rfl, (fun _ _ h1 => by cases h1), Below.refl _ _⟩
  refine chk_ok hx hmix p fi.body _ _ h s s _ w0 _ ⟨fun _ _ => rfl, T0, hfs⟩ ⟨(fun A hn => by cases hn), (fun A i x hn => by cases hn), (fun id A he => by cases he), fun s' fm hp as a w T hh hf => ?_⟩
  obtain ⟨f', fs', hn, hi, hb⟩ := T
  unfold anyB at hf
  split at hf
  case h_2 => cases hf
  rename_i v hds hres
  have hm := fs'.mks
  rw [hds] at hm
  have hdf := hm.nil
  obtain ⟨v', r1, r2⟩ := results_ok (fn := fn) (cx_ok P ex me gv (orc as) as U) fs'.tr fs'.inv (by rw [p3]; exact hres)
  have hv' : ∃ b, v' = .bool b := by
    split at hf
    · rename_i b
      exact ⟨b, r1.flat_iff rfl⟩
    · exact symOf_bool hf r1
  obtain ⟨b, rfl⟩ := hv'
  show LeavesInM _ 0 P fn a.tmps _ a.defers .returning w
  rw [hdf]
  exact ⟨_, r2, ⟨b, rfl⟩, hb⟩
end

/-! Arguments, of which all can be read. -/
def deepable (P : Program) (t : TypeId) : Bool :=
  match P.underlying t with
  | some (.slice _) => true
  | some .string => true
  | _ => false
def deepF (P : Program) (u : TypeId) (i : Nat) : List (Value × Bool) :=
  match deepable P u with
  | true => [(sy 1 9 [num 4, num u, unk (cellTy P u) i], true)]
  | false => []
def deepFs (P : Program) : List TypeId → Nat → List (Value × Bool)
  | [], _ => []
  | u :: us, i => deepF P u i ++ deepFs P us (i + 1)
def factsOf (P : Program) : List TypeId → Nat → List (Value × Bool)
  | [], _ => []
  | t :: ts, b => (match flatT P 30 t with
    | some us => deepFs P us b
    | none => []) ++ factsOf P ts (b + symSize P t)

section
variable {P : Program} {R : Addr → Option Value} {s : Nat → Value} {u : Nat → List Value → Option Value} (hu : ∀ vs, u 8 vs = opRd P R 8 vs)
include hu
theorem deepF_ok {t : TypeId} {i : Nat} {v : Value} (hs : s i = v) (hR : ∃ f, Rds P R f t [v]) : ∀ e b, (e, b) ∈ deepF P t i → Holds s u e b := by
  intro e b he d x hd ht
  unfold deepF at he
  split at he
  · have he := List.mem_singleton.1 he
    injection he with h1 h2
    subst h1; subst h2
    obtain ⟨d', l, rfl, k1, k2⟩ := den_fn hd
    obtain ⟨a, b, c, rfl, q1, q2, q3⟩ := map3 k1
    obtain rfl := den_one q1 (den_flat rfl 0)
    obtain rfl := den_one q2 (den_flat rfl 0)
    have hc : c = v := by
      rw [← hs]
      exact den_one q3 (show den s u 1 (unk (cellTy P t) i) = some (s i) from rfl)
    subst hc
    rw [hu] at k2
    have k2 : some (Value.bool (deepB P R t c)) = some x := k2
    injection k2 with k2
    rw [← k2]
    congr 1
    exact @decide_eq_true _ (Classical.propDecidable _) hR
  · cases he
theorem deepFs_ok : ∀ (us : List TypeId) (b : Nat) (vs : List Value), us.length = vs.length → (∀ i, i < vs.length → s (b + i) = vs.getD i undef) →
    (∀ (q : Nat) (t : TypeId) (v : Value), us[q]? = some t → vs[q]? = some v → ∃ f, Rds P R f t [v]) → ∀ e c, (e, c) ∈ deepFs P us b → Holds s u e c := by
  intro us
  induction us with
  | nil => intro b vs _ _ _ e c he; cases he
  | cons t us ih =>
    intro b vs hl hs hR e c he
    cases vs with
    | nil => cases hl
    | cons v vs =>
      rcases List.mem_append.1 he with he | he
      · exact deepF_ok hu (v := v) (by have := hs 0 (by simp); simpa using this) (hR 0 t v rfl rfl) e c he
      · refine ih (b + 1) vs (by simpa using hl) (fun i hi => ?_) (fun q t' v' h1 h2 => hR (q + 1) t' v' (by simpa using h1) (by simpa using h2)) e c he
        have := hs (i + 1) (by simpa using hi)
        rw [show b + 1 + i = b + (i + 1) by omega, this]
        simp
theorem factsOf_ok {w : World} {r : Reach} {b0 : Nat} : ∀ (ts : List TypeId) (vs : List Value) (base : Nat), ts.length = vs.length →
    (∀ (j : Nat) t v, ts[j]? = some t → vs[j]? = some v → Value.okWide P w r b0 t v) → (∀ (j : Nat) t v, ts[j]? = some t → vs[j]? = some v → ∃ f, Rds P R f t (vcells v)) →
    (∀ i, i < (vs.flatMap vcells).length → s (base + i) = (vs.flatMap vcells).getD i undef) → ∀ e c, (e, c) ∈ factsOf P ts base → Holds s u e c := by
  intro ts
  induction ts with
  | nil => intro vs base _ _ _ _ e c he; cases he
  | cons t ts ih =>
    intro vs base hl hok hR hs e c he
    cases vs with
    | nil => cases hl
    | cons v vs =>
      simp only [List.flatMap_cons, List.length_append] at hs
      have hs1 : ∀ i, i < (vcells v).length → s (base + i) = (vcells v).getD i undef := fun i hi => by
        rw [hs i (by omega)]
        simp [List.getD_eq_getElem?_getD, List.getElem?_append_left hi]
      obtain ⟨-, hsz⟩ := sym_val (u := u) (s := s) (base := base) (hok 0 t v rfl rfl) hs1
      obtain ⟨f, hf⟩ := hR 0 t v rfl rfl
      rcases List.mem_append.1 he with he | he
      · split at he
        · rename_i us hus
          exact deepFs_ok hu us base (vcells v) (flatT_len hus hf).symm hs1 (fun q t' v' h1 h2 => flatT_ok 30 t us hus f _ hf q t' v' h1 h2) e c he
        · cases he
      · refine ih vs _ (by simpa using hl) (fun j t' v' a b => hok (j + 1) t' v' (by simpa using a) (by simpa using b)) (fun j t' v' a b => hR (j + 1) t' v' (by simpa using a) (by simpa using b)) (fun i hi => ?_) e c he
        rw [hsz, Nat.add_assoc, hs _ (by omega)]
        rw [List.getD_eq_getElem?_getD, List.getD_eq_getElem?_getD, List.getElem?_append_right (by omega), Nat.add_sub_cancel_left]
end

theorem sym_deep {P : Program} {R : Addr → Option Value} {w : World} {r : Reach} {b0 : Nat} {ts args : List _} (hl : ts.length = args.length) (hok : ∀ (j : Nat) t v, ts[j]? = some t → args[j]? = some v → Value.okWide P w r b0 t v)
    (hR : ∀ (j : Nat) t v, ts[j]? = some t → args[j]? = some v → ∃ f, Rds P R f t (vcells v)) {u : Nat → List Value → Option Value} (hu : ∀ vs, u 8 vs = opRd P R 8 vs) :
    ∃ s, RVs ⟨fun _ => none, s, u⟩ (symArgs P ts 0) args ∧ ∀ e c, (e, c) ∈ factsOf P ts 0 → Holds s u e c :=
  ⟨fun i => (args.flatMap vcells).getD i undef, sym_list u _ ts args 0 hl hok (fun i hi => by rw [Nat.zero_add]), factsOf_ok hu ts args 0 hl hok hR (fun i hi => by rw [Nat.zero_add])⟩

/-! A contract that tells some truth of what can be read. -/
def oneTy (P : Program) (t : TypeId) : Bool :=
  match P.underlying t with
  | some (.struct _) => false
  | some (.array _ _) => false
  | some _ => true
  | none => false
def nilSl : Value → Bool
  | .slice none n _ => Nat.beq n 0
  | _ => false
/-- A cell of a type, of which all can be read. -/
noncomputable def cellOk (P : Program) (as : List (Value × Bool)) (u : TypeId) (v : Value) : Bool :=
  match P.underlying u with
  | some (.slice _) => (follows P as [num 4, num u, v] && symFlat v) || nilSl v
  | some .string => ((follows P as [num 4, num u, v] && symFlat v) || (isSym v && Nat.beq (symTy v) 2)) || (match v with
    | .string s => Nat.blt s.size 9223372036854775808
    | _ => false)
  | some (.struct _) => false
  | some (.array _ _) => false
  | some _ => (isSym v && Nat.beq (symTy v) (cellTy P u)) || (flat v && tyOk (cellTy P u) v)
  | none => false
noncomputable def cellsOk (P : Program) (as : List (Value × Bool)) (ts : List TypeId) : Nat → List Value → Bool
  | _, [] => true
  | i, v :: l => (match ts[i % ts.length]? with
    | some u => cellOk P as u v
    | none => false) && cellsOk P as ts (i + 1) l
/-- A row that the program laid. -/
noncomputable def rowOk (P : Program) (as : List (Value × Bool)) (hp : Hp) (t : TypeId) (v : Value) : Bool :=
  match P.underlying t, v with
  | some (.slice e), .slice (some a) n c => match hp.tr.get a.block, flatT P 30 e with
    | some (.cells _ _ _ none _), some ts => match getRow hp a (n * ts.length), Nat.beq ts.length (P.cellsOf e) && (Nat.ble n c && (Nat.blt n 9223372036854775808 && Nat.ble (n * P.bytesOf e) 140737488351232)) with
      | some l, true => Nat.blt 0 n && cellsOk P as ts 0 l
      | _, _ => false
    | _, _ => false
  | _, _ => false
noncomputable def argOk (P : Program) (as : List (Value × Bool)) (hp : Hp) (t : TypeId) (v : Value) : Bool := cellOk P as t v || rowOk P as hp t v
noncomputable def argsOk (P : Program) (as : List (Value × Bool)) (hp : Hp) : List TypeId → List Value → Bool
  | [], [] => true
  | t :: ts, v :: vs => argOk P as hp t v && argsOk P as hp ts vs
  | _, _ => false
noncomputable def anyO (P : Program) (ts : List TypeId) (as : List (Value × Bool)) : OrcF := fun args hp =>
  match argsOk P as hp ts args with
  | true => some [(.ret (.bool true), hp), (.ret (.bool false), hp)]
  | false => none

theorem cellOk_ok {P : Program} {cx : Cx} (hP : cx.P = P) {m : Emb} {w : World} (gw : GW cx m w) {t : TypeId} {v v' : Value} (h : cellOk P cx.as t v = true) (hv : RV m v v') :
    ∃ f, Rds P (fun a => w.cell? a) f t [v'] := by
  subst hP
  have deep : (follows cx.P cx.as [num 4, num t, v] && symFlat v) = true → ∃ f, Rds cx.P (fun a => w.cell? a) f t [v'] := fun h => by
    rw [Bool.and_eq_true] at h
    obtain ⟨d, hden⟩ := hv.den_iff h.2
    have := follows_ok (r := fun a => m.u 5 [.pointer (some a)]) (cx := cx) (fun k vs hk => gw.as.rd k vs hk) (fun vs => gw.as.ops 0 vs (by omega)) (fun _ => rfl) gw.as.as h.1 (mapO_of (den_flat rfl d) (mapO_of (den_flat rfl d) (mapO_of (den_mono (Nat.le_succ d) hden) rfl))) (b := deepB cx.P (fun a => m.u 5 [.pointer (some a)]) t v') rfl
    obtain ⟨f, hf⟩ := @of_decide_eq_true _ (Classical.propDecidable _) this
    exact ⟨f, rds_mono (fun a v hv => (gw.frz a v hv).1) f t _ hf f (Nat.le_refl _)⟩
  unfold cellOk at h
  split at h
  · rename_i e hu
    rw [Bool.or_eq_true] at h
    rcases h with h | h
    · exact deep h
    · unfold nilSl at h
      split at h
      · rename_i n c
        obtain rfl := Nat.eq_of_beq_eq_true h
        rw [hv.flat_iff rfl]
        refine ⟨1, ?_⟩
        unfold Rds
        rw [hu]
      · cases h
  · rename_i hu
    rw [Bool.or_eq_true, Bool.or_eq_true] at h
    rcases h with (h | h) | h
    · exact deep h
    · rw [Bool.and_eq_true] at h
      have ht := (hv.sym_iff h.1).2
      rw [Nat.eq_of_beq_eq_true h.2] at ht
      obtain ⟨st, rfl, hst⟩ := ty_str ht
      refine ⟨1, ?_⟩
      unfold Rds
      rw [hu]
      exact hst
    · split at h
      · rename_i st
        rw [hv.flat_iff rfl]
        refine ⟨1, ?_⟩
        unfold Rds
        rw [hu]
        exact Nat.blt_eq.mp h
      · cases h
  · cases h
  · cases h
  · rename_i d hn1 hn2 hn3 hn4 hu
    refine ⟨1, ?_⟩
    have ht : tyOk (cellTy cx.P t) v' = true := by
      rw [Bool.or_eq_true, Bool.and_eq_true, Bool.and_eq_true] at h
      rcases h with ⟨h1, h2⟩ | ⟨h1, h2⟩
      · have := (hv.sym_iff h1).2
        rwa [Nat.eq_of_beq_eq_true h2] at this
      · rw [hv.flat_iff h1]; exact h2
    unfold Rds
    rw [hu]
    cases d <;> first
      | exact ht
      | (exact absurd rfl (hn1 _))
      | (exact absurd rfl hn2)
      | (exact absurd rfl (hn3 _))
      | (exact absurd rfl (hn4 _ _))
  · cases h

theorem cellsOk_ok {P : Program} {cx : Cx} (hP : cx.P = P) {m : Emb} {w : World} (gw : GW cx m w) {ts : List TypeId} : ∀ (l l' : List Value) (i : Nat), cellsOk P cx.as ts i l = true → RVs m l l' →
    ∀ (q : Nat) (u : TypeId) (v : Value), ts[(i + q) % ts.length]? = some u → l'[q]? = some v → ∃ f, Rds P (fun a => w.cell? a) f u [v] := by
  intro l
  induction l with
  | nil => intro l' i _ hv q u v _ h2; rw [hv.nil_left] at h2; simp at h2
  | cons x l ih =>
    intro l' i h hv q u v h1 h2
    obtain ⟨x', tl, rfl, k1, k2⟩ := hv.head
    have h : ((match ts[i % ts.length]? with
      | some u => cellOk P cx.as u x
      | none => false) && cellsOk P cx.as ts (i + 1) l) = true := h
    rw [Bool.and_eq_true] at h
    cases q with
    | zero =>
      simp at h1 h2
      subst h2
      have h0 := h.1
      rw [h1] at h0
      exact cellOk_ok hP gw h0 k1
    | succ q => exact ih tl (i + 1) h.2 k2 q u v (by rw [show i + 1 + q = i + (q + 1) by omega]; exact h1) (by simpa using h2)

theorem rowOk_ok {P : Program} {cx : Cx} (hok : CxOk P cx) {m : Emb} {hp : Hp} {w : World} (gw : GW cx m w) (inv : Inv m hp w.heap) {t : TypeId} {v v' : Value} (h : rowOk P cx.as hp t v = true) (hv : RV m v v') :
    ∃ f, Rds P (fun a => w.cell? a) f t [v'] := by
  unfold rowOk at h
  split at h
  case h_2 => cases h
  rename_i e a n c hu
  split at h
  case h_2 => cases h
  rename_i tb kb eb sb ts hob hts
  split at h
  case h_2 => cases h
  rename_i l hl hb
  simp only [Bool.and_eq_true] at h hb
  obtain ⟨b1, b2, b3, b4⟩ := hb
  have b1 := Nat.eq_of_beq_eq_true b1
  have b2 := Nat.le_of_ble_eq_true b2
  have b3 := Nat.blt_eq.mp b3
  have b4 := Nat.le_of_ble_eq_true b4
  have hn := Nat.blt_eq.mp h.1
  obtain ⟨a', c', rfl, hrs⟩ := hv.slice_iff
  have hc : c' = c := by
    obtain ⟨-, en, hen, hr⟩ := hrs
    obtain ⟨-, ho, -⟩ := inv.obj _ en _ hen hob (by simp)
    rcases hr with ⟨-, -, rfl⟩ | ⟨tot, z, h4, -⟩
    · rfl
    · rw [h4] at ho; cases ho
  subst hc
  obtain ⟨l', k1, k2, -, k4⟩ := rs_first (P := P) hok inv hrs hl (fun h0 => by omega)
  have hcell := cellsOk_ok hok.prog gw l l' 0 h.2 k1
  obtain ⟨f, hf⟩ := bound_all (Q := fun f i => Rds P (fun a => w.cell? a) f e ((l'.drop (i * ts.length)).take ts.length)) (fun f g i hfg h => rds_le h hfg) n (fun i hi => by
    have hle : (i + 1) * ts.length ≤ n * ts.length := Nat.mul_le_mul_right _ hi
    rw [Nat.succ_mul] at hle
    refine flatT_mk 30 e ts hts _ (by rw [List.length_take, List.length_drop]; omega) (fun q u v hq hvq => ?_)
    have hqt : q < ts.length := (List.getElem?_eq_some_iff.1 hq).1
    rw [List.getElem?_take, if_pos hqt, List.getElem?_drop] at hvq
    refine hcell (i * ts.length + q) u v ?_ hvq
    rw [Nat.zero_add, Nat.mul_comm, Nat.mul_add_mod, Nat.mod_eq_of_lt hqt]
    exact hq)
  refine ⟨f + 1, ?_⟩
  unfold Rds
  rw [hu]
  refine ⟨b2, ⟨b3, b4⟩, fun i hi => ⟨_, ?_, fun j v hj => ?_, hf i hi⟩⟩
  · have hle : (i + 1) * ts.length ≤ n * ts.length := Nat.mul_le_mul_right _ hi
    rw [Nat.succ_mul] at hle
    rw [List.length_take, List.length_drop, ← b1]
    omega
  · have hjt : j < ts.length := by
      have := (List.getElem?_eq_some_iff.1 hj).1
      rw [List.length_take] at this
      omega
    rw [List.getElem?_take, if_pos hjt, List.getElem?_drop] at hj
    rw [← b1]
    exact k4 _ v hj

theorem argsOk_ok {P : Program} {cx : Cx} (hok : CxOk P cx) {m : Emb} {hp : Hp} {w : World} (gw : GW cx m w) (inv : Inv m hp w.heap) : ∀ (ts : List TypeId) (vs vs' : List Value), argsOk P cx.as hp ts vs = true → ts.all (oneTy P) = true → RVs m vs vs' → ts.length = vs'.length ∧
    ∀ (j : Nat) t v, ts[j]? = some t → vs'[j]? = some v → tyOk (cellTy P t) v = true ∧ (deepable P t = true → ∃ f, Rds P (fun a => w.cell? a) f t [v]) := by
  intro ts
  induction ts with
  | nil =>
    intro vs vs' h _ hv
    cases vs with
    | nil => rw [hv.nil_left]; exact ⟨rfl, fun j t v h1 => by simp at h1⟩
    | cons v vs => cases h
  | cons t ts ih =>
    intro vs vs' h h1 hv
    cases vs with
    | nil => cases h
    | cons v vs =>
      have h : (argOk P cx.as hp t v && argsOk P cx.as hp ts vs) = true := h
      rw [Bool.and_eq_true] at h
      rw [List.all_cons, Bool.and_eq_true] at h1
      obtain ⟨x, tl, rfl, g1, g2⟩ := hv.head
      obtain ⟨k1, k2⟩ := ih vs tl h.2 h1.2 g2
      refine ⟨by simp [k1], fun j t' v' q1 q2 => ?_⟩
      cases j with
      | zero =>
        simp at q1 q2
        subst q1; subst q2
        have hR : ∃ f, Rds P (fun a => w.cell? a) f t [x] := by
          have h0 := h.1
          unfold argOk at h0
          rw [Bool.or_eq_true] at h0
          rcases h0 with h0 | h0
          · exact cellOk_ok hok.prog gw h0 g1
          · exact rowOk_ok hok gw inv h0 g1
        refine ⟨?_, fun _ => hR⟩
        obtain ⟨f, hf⟩ := hR
        refine rds_ty hf ?_
        have := h1.1
        unfold oneTy at this
        split at this
        · cases this
        · cases this
        · rename_i d hn1 hn2 hu
          split
          · rename_i fs h2; rw [hu] at h2; exact absurd (Option.some.inj h2) (hn1 fs)
          · rename_i n e h2; rw [hu] at h2; exact absurd (Option.some.inj h2) (hn2 n e)
          · trivial
        · cases this
      | succ j => exact k2 j t' v' (by simpa using q1) (by simpa using q2)

theorem one_args {P : Program} {R : Addr → Option Value} {u : Nat → List Value → Option Value} (hu : ∀ vs, u 8 vs = opRd P R 8 vs) {s : Nat → Value} : ∀ (ts : List TypeId) (vs : List Value) (base : Nat), ts.all (oneTy P) = true → ts.length = vs.length →
    (∀ (j : Nat) t v, ts[j]? = some t → vs[j]? = some v → tyOk (cellTy P t) v = true ∧ (deepable P t = true → ∃ f, Rds P R f t [v])) → (∀ i, i < vs.length → s (base + i) = vs.getD i undef) →
    RVs ⟨fun _ => none, s, u⟩ (symArgs P ts base) vs ∧ ∀ e c, (e, c) ∈ factsOf P ts base → Holds s u e c := by
  intro ts
  induction ts with
  | nil =>
    intro vs base _ hl _ _
    cases vs with
    | nil => exact ⟨RVs.nil _, fun e c he => by cases he⟩
    | cons v vs => cases hl
  | cons t ts ih =>
    intro vs base h1 hl hok hs
    cases vs with
    | nil => cases hl
    | cons v vs =>
      rw [List.all_cons, Bool.and_eq_true] at h1
      have hone := h1.1
      have e1 : symSize P t = 1 ∧ symVal P t base = unk (cellTy P t) base ∧ (flatT P 30 t = some [t]) := by
        unfold oneTy at hone
        unfold symSize symVal flatT
        cases hx : P.underlying t with
        | none => rw [hx] at hone; cases hone
        | some dd => cases dd <;> first
          | exact ⟨rfl, rfl, rfl⟩
          | (rw [hx] at hone; cases hone)
      obtain ⟨q1, q2⟩ := hok 0 t v rfl rfl
      have hs0 : s base = v := by have := hs 0 (by simp); simpa using this
      obtain ⟨k1, k2⟩ := ih vs (base + 1) h1.2 (by simpa using hl) (fun j t' v' a b => hok (j + 1) t' v' (by simpa using a) (by simpa using b)) (fun i hi => by
        have := hs (i + 1) (by simpa using hi)
        rw [show base + 1 + i = base + (i + 1) by omega, this]
        simp)
      refine ⟨?_, fun e c he => ?_⟩
      · show RVs _ (symVal P t base :: symArgs P ts (base + symSize P t)) (v :: vs)
        rw [e1.1, e1.2.1]
        refine RVs.cons ?_ k1
        have := RV.given (m := ⟨fun _ => none, s, u⟩) (ty := cellTy P t) (i := base) (by show tyOk _ (s base) = true; rw [hs0]; exact q1)
        have e' : (⟨fun _ => none, s, u⟩ : Emb).s base = v := hs0
        rw [e'] at this
        exact this
      · have he : (e, c) ∈ (match flatT P 30 t with | some us => deepFs P us base | none => []) ++ factsOf P ts (base + symSize P t) := he
        rw [e1.1, e1.2.2] at he
        rcases List.mem_append.1 he with he | he
        · have he : (e, c) ∈ deepF P t base ++ [] := he
          rw [List.append_nil] at he
          cases hd : deepable P t with
          | true => exact deepF_ok hu hs0 (q2 hd) e c he
          | false => unfold deepF at he; rw [hd] at he; cases he
        · exact k2 e c he

theorem any_is {P : Program} {ex : List (FuncId × ExtK)} {me : List (TypeId × String × FuncId)} {gv : List (Nat × Tr Value)} {orc : List (Value × Bool) → List (FuncId × OrcF)} {U : Nat → List Value → Option Value}
    (hx : ∀ as, ExtOk P (cxOf P ex me gv (orc as) as U)) (hmix : P.follows .mixedOrders = true) {f : FuncId} {fi : FI} {N n d B : Nat} {ts : List TypeId} {p : Plan} (he : ∀ (l : Array Value) (w : World), (callFunc f l).run P w = .ok (.enter f l) w)
    (hfi : (cxOf P ex me gv (orc []) [] U).f f = some fi) (h1 : ts.all (oneTy P) = true) (hle : Nat.ble (symArgs P ts 0).length fi.ntmps = true)
    (h : chk P ex me gv orc U n d fi.ntmps (anyB P ex me gv orc U fi) p fi.body { G := ⟨Tr.putList (symArgs P ts 0) .nil 0, []⟩, Gh := ⟨.nil, N, N⟩, fs := factsOf P ts 0, B := B } { nrm := none, exs := [] } = true)
    {ex' : List (FuncId × ExtK)} {me' : List (TypeId × String × FuncId)} {orc' : List (FuncId × OrcF)} {as : List (Value × Bool)} {U' : Nat → List Value → Option Value} : OrcIs P (cxOf P ex' me' gv orc' as U') f (anyO P ts as) := by
  refine ⟨he, fun args hp l hl r hr => ?_, fun args hp l hl m args' w gw inv hargs _ => ?_⟩
  · unfold anyO at hl
    split at hl
    · injection hl with hl
      subst hl
      simp only [List.mem_cons, List.not_mem_nil, or_false] at hr
      rcases hr with rfl | rfl <;> exact Grow.refl _
    · cases hl
  · unfold anyO at hl
    split at hl
    case h_2 => cases hl
    rename_i hok
    injection hl with hl
    subst hl
    obtain ⟨k1, k2⟩ := argsOk_ok (cx_ok P ex' me' gv orc' as U') gw inv ts args args' hok h1 hargs
    have hw : Old w (fun a => w.cell? a) := fun a v hv => ⟨World.block_lt_of_cell? w _ hv, hv⟩
    obtain ⟨r1, r2⟩ := one_args (u := uRd (cxOf P ex me gv (orc []) [] U) (fun a => w.cell? a)) (s := fun i => args'.getD i undef) (fun vs => uRd_rd _ _ 8 vs (by omega)) ts args' 0 h1 k1 k2 (fun i _ => by rw [Nat.zero_add])
    refine (any_call hx hmix hfi hle h hw r1 r2 (fun g t hg => (gw.at_ g t hg).1)).mono fun e w' ⟨⟨b, he⟩, hb⟩ => ?_
    refine ⟨.ret (.bool b), hp, by cases b <;> simp, m, Step.below inv hb, .inl ⟨.bool b, .bool b, rfl, he, .flat _ rfl⟩⟩
/-- The row's data, read. -/
theorem vcells_eq (v : Value) : vcells v = v.cells.toList := by cases v <;> rfl
theorem deepL_nil {P : Program} {us : List TypeId} {H : Type} {gs : List (DataW H)} {R : Addr → Option Value} (_ : (DataW.weightsEach P us gs).all (· ≤ reachBytes) = true) : ∀ (j : Nat) t v, ([] : List TypeId)[j]? = some t → ([] : List Value)[j]? = some v → ∃ f, Rds P R f t (vcells v) := fun j t v h => by simp at h
theorem deepL_cons {H : Type} {enc : TypeId × Value → H} {P : Program} {w : World} {base : Nat} {held : Bool} {t : TypeId} {v : Value} {d : DataW H} {ps : List MemPlace} {ts : List TypeId} {vs : List Value} {us : List TypeId} {gs : List (DataW H)}
    (h : DataW.Trod enc P w base (fun _ => true) held t v d ps) (hw : (DataW.weightsEach P (t :: us) (d :: gs)).all (· ≤ reachBytes) = true)
    (k : (DataW.weightsEach P us gs).all (· ≤ reachBytes) = true → ∀ (j : Nat) t v, ts[j]? = some t → vs[j]? = some v → ∃ f, Rds P (fun a => w.cell? a) f t (vcells v)) :
    ∀ (j : Nat) t' v', (t :: ts)[j]? = some t' → (v :: vs)[j]? = some v' → ∃ f, Rds P (fun a => w.cell? a) f t' (vcells v') := by
  rw [DataW.weightsEach, List.all_append, Bool.and_eq_true] at hw
  intro j t' v' h1 h2
  cases j with
  | zero =>
    simp at h1 h2
    subst h1; subst h2
    obtain ⟨f, hf⟩ := h
    exact ⟨f, by rw [vcells_eq]; exact rds_of_trod f _ _ _ hf (fun q hq => of_decide_eq_true (List.all_eq_true.1 hw.1 q hq))⟩
  | succ j => exact k hw.2 j t' v' (by simpa using h1) (by simpa using h2)
theorem old_all (w : World) : Old w (fun a => w.cell? a) := fun a v hv => ⟨World.block_lt_of_cell? w _ hv, hv⟩

/-- The wrap of a plain row, with the data's weights. -/
theorem handed_sized {H : Type} {enc : TypeId × Value → H} {a : Assume} {C : Checked} {os : Os} {f : FuncId} {fn : Func} {s : ChangeSpec} {conds : List PathCond} {apart fresh handsOn again : Bool}
    (own : ownKnob C.prog.godebug = none) (started : os.Started) (noInit : C.prog.inits.idxOf? f = none) (hfn : C.prog.funcs[f]? = some fn)
    (witness : ∃ (w : World) (tape : Tape) (i : Input), w.os = os ∧ (w.forCall tape i).Shaped C.prog ∧ i.vars = [] ∧ Input.okWide C.prog (w.forCall tape i) .any w.heap.size f i ∧
      s.pre6 enc C.prog fn conds apart (w.forCall tape i).memory i.args ∧ a.holds C.prog (lone (Frame.enter C.prog f i.args .normal) [] (w.forCall tape i)))
    (contract : ∀ (W : World) (base : Nat) (args : Array Value) (ds gs : List (DataW H)) (before : List MemPlace),
      (∀ (j : Nat) t v, fn.params[j]? = some t → args[j]? = some v → Value.okWide C.prog W .any base t v) →
      DataW.Whole enc C.prog fn.params.toList s.vars apart W args.toList ds gs before →
      conds.all (PathCond.test C.prog ⟨fn.params.toList, ds, s.plain.varTypes C.prog, gs⟩) = true →
      (DataW.weightsEach C.prog (fn.params.toList ++ s.plain.varTypes C.prog) (ds ++ gs)).all (· ≤ reachBytes) = true →
      a.holds C.prog (lone (Frame.enter C.prog f args .normal) [] W) →
      Calls C.prog f args W fun e W' => ∃ v, e = .returned v ∧ s.post enc C.prog fn apart fresh handsOn again W args v W') :
    ReturnsInHanded a C os f .any (s.pre6 enc C.prog fn conds apart) (s.post enc C.prog fn apart fresh handsOn again) := by
  refine returnsInHanded_of_calls own started noInit witness ?_
  intro w tape i _ _ _ hok hpre hholds
  obtain ⟨_, _, _, fn', hfn', _, _, _, _, hval⟩ := hok
  obtain rfl : fn' = fn := Option.some.inj (hfn'.symm.trans hfn)
  obtain ⟨⟨ds, gs, before, hw, hc⟩, hz⟩ := hpre
  have hw' := DataW.Whole.of_heap (w' := w.forCall tape i) (by rfl) hw
  refine (contract (w.forCall tape i) w.heap.size i.args ds gs before hval hw' hc (hz.weights hw) hholds).mono fun e W' ⟨v, he, hp⟩ => ?_
  subst he
  exact ChangeSpec.post_blind hp

noncomputable def fiGet (P : Program) (f : FuncId) : FI :=
  match (cxOf P [] [] [] []).f f with
  | some x => x
  | none => ⟨.skip, 0, []⟩
theorem fiGet_ok {P : Program} {f : FuncId} (h : ((cxOf P [] [] [] []).f f).isSome = true) (ex : List (FuncId × ExtK)) (me : List (TypeId × String × FuncId)) (gv : List (Nat × Tr Value)) (orc : List (FuncId × OrcF)) (as : List (Value × Bool)) (U : Nat → List Value → Option Value) :
    (cxOf P ex me gv orc as U).f f = some (fiGet P f) := by
  show (cxOf P [] [] [] []).f f = some (fiGet P f)
  unfold fiGet
  cases hx : (cxOf P [] [] [] []).f f with
  | none => rw [hx] at h; cases h
  | some x => rfl
end Go.Proofs.YtejnaedignfmoaaGreatDoor.Ev
