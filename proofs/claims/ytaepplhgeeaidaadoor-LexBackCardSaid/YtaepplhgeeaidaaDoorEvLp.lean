import Derived.Test.YtaepplhgeeaidaaDoorEvTr
import Derived.ControlIn
set_option linter.unusedVariables false
set_option linter.unusedSimpArgs false
set_option linter.unusedSectionVars false
namespace Go.Proofs.YtaepplhgeeaidaaDoor.Ev
open Go Go.RowKit
noncomputable def uRd (cx : Cx) (R : Addr → Option Value) (k : Nat) (vs : List Value) : Option Value :=
  if k = 5 then (match vs with
    | [.pointer (some a)] => R a
    | _ => none) else if k < 4 then opSem cx k vs else if k < 16 then opRd cx.P R k vs else cx.U (k - 16) vs
theorem uRd_ok (cx : Cx) (R : Addr → Option Value) (k : Nat) (vs : List Value) (hk : k ≠ 5) :
    uRd cx R k vs = if k < 4 then opSem cx k vs else if k < 16 then opRd cx.P (fun a => uRd cx R 5 [.pointer (some a)]) k vs else cx.U (k - 16) vs := by
  show (if k = 5 then _ else _) = _
  rw [if_neg hk]
  rfl
def Old (w0 : World) (R : Addr → Option Value) : Prop := ∀ a v, R a = some v → a.block < w0.heap.size ∧ w0.cell? a = some v
def Top (cx : Cx) (w0 : World) (R : Addr → Option Value) (s : Nat → Value) (sz : Nat) (fm : Fm) (hp : Hp) (w : World) (a : Act) : Prop :=
  ∃ f : Nat → Option Ent, FS cx none none w0.heap.size sz ⟨f, s, uRd cx R⟩ fm hp w a ∧ (∀ b, hp.nx ≤ b → f b = none) ∧ (∀ b e, f b = some e → e.live = true → w0.heap.size ≤ e.c) ∧ Below w0.heap.size w0 w
def notPan : AX → Bool
  | .pan _ => false
  | _ => true
def exitOf : AX → Exit
  | .normal => .normal
  | .exit id => .exit id
  | _ => .ret
theorem exitOf_ok {m : Emb} {x : AX} {e : Exit} (h : notPan x = true) (hx : ExR m x e) : e = exitOf x := by
  cases x <;> first
    | exact hx
    | cases h
section
variable {P : Program} {ex : List (FuncId × ExtK)} {me : List (TypeId × String × FuncId)} {gv : List (Nat × Tr Value)} {orc : List (Value × Bool) → List (FuncId × OrcF)} {U : Nat → List Value → Option Value}
theorem gw_as {m : Emb} {w : World} {as : List (Value × Bool)} (gw : GW (cxOf P ex me gv (orc []) [] U) m w) (h : ∀ e b, (e, b) ∈ as → isSym e = true → Holds m.s m.u e b) : GW (cxOf P ex me gv (orc as) as U) m w :=
  ⟨gw.1, ⟨fun k vs hk => gw.as.1 k vs hk, h⟩, gw.frz⟩
theorem gw_no {m : Emb} {w : World} {as : List (Value × Bool)} (gw : GW (cxOf P ex me gv (orc as) as U) m w) : GW (cxOf P ex me gv (orc []) [] U) m w :=
  ⟨gw.1, ⟨fun k vs hk => gw.as.1 k vs hk, fun _ _ h => by cases h⟩, gw.frz⟩
noncomputable def goodC (good : List (Value × Bool) → List (AX × Fm × Hp) → Bool) (as : List (Value × Bool)) (r : CS) : Bool :=
  match r with
  | some l => (l.all fun o => notPan o.1) && good as l
  | none => false
theorem piece (hx : ∀ as, ExtOk P (cxOf P ex me gv (orc as) as U)) (hmix : P.follows .mixedOrders = true) {n d sz : Nat} {c : Code} {fm : Fm} {hp : Hp} {good : List (Value × Bool) → List (AX × Fm × Hp) → Bool}
    {cl : List (List (Value × Bool))} {t : PT} {as0 : List (Value × Bool)}
    (h : walkT (fun as => goodC good as (evCode (cxOf P ex me gv (orc as) as U) (evFn (cxOf P ex me gv (orc as) as U) n d) sz n none c fm hp)) cl t as0 = true)
    {w0 : World} {R : Addr → Option Value} {s : Nat → Value} {w : World} {a : Act} {Q : Exit → Act → World → Prop}
    (hcl : ∀ c, c ∈ cl → ¬ ∀ e b, (e, b) ∈ c → Holds s (uRd (cxOf P ex me gv (orc []) [] U) R) e b)
    (h0 : ∀ e b, (e, b) ∈ as0 → Holds s (uRd (cxOf P ex me gv (orc []) [] U) R) e b)
    (T : Top (cxOf P ex me gv (orc []) [] U) w0 R s sz fm hp w a)
    (hq : ∀ as l, evCode (cxOf P ex me gv (orc as) as U) (evFn (cxOf P ex me gv (orc as) as U) n d) sz n none c fm hp = some l → good as l = true → (∀ e b, (e, b) ∈ as → isSym e = true → Holds s (uRd (cxOf P ex me gv (orc []) [] U) R) e b) →
      ∀ o, o ∈ l → ∀ w' a', Top (cxOf P ex me gv (orc []) [] U) w0 R s sz o.2.1 o.2.2 w' a' → Q (exitOf o.1) a' w') : c.wpIn (Fw none) 0 P Q a w := by
  refine walkT_ok hcl (fun as ha hh => ?_) t as0 h h0
  obtain ⟨f, fs, hf, hi, hb⟩ := T
  have ha : goodC good as (evCode (cxOf P ex me gv (orc as) as U) (evFn (cxOf P ex me gv (orc as) as U) n d) sz n none c fm hp) = true := ha
  unfold goodC at ha
  split at ha
  case h_2 => cases ha
  rename_i l hl
  rw [Bool.and_eq_true] at ha
  have ok := cx_ok P ex me gv (orc as) as U
  have hcall := calls_ok ok (hx as) hmix n d
  have hg := evFn_grow (cxOf P ex me gv (orc as) as U) (fun f o h => ((hx as).orc f o h).2.1) n d
  have fs1 : FS (cxOf P ex me gv (orc as) as U) none none w0.heap.size sz ⟨f, s, uRd (cxOf P ex me gv (orc []) [] U) R⟩ fm hp w a := ⟨fs.rn, fs.tr, fs.mks, fs.big, fs.inv, gw_as fs.gw hh⟩
  refine evCode_ok (r0 := none) (ro := none) ok (hx as) hcall hg (draws_ok ok (hx as) hmix hcall hg) c _ fm hp w a l Q fs1 (fun o ho => fun b hb _ => hf b hb) hl (fun o ho m' w' a' e st fs' hxr => ?_)
  have hp1 := List.all_eq_true.1 ha.1 o ho
  rw [exitOf_ok hp1 hxr]
  obtain ⟨f', s', u'⟩ := m'
  have hs : s' = s := st.le.s
  have hu : u' = uRd (cxOf P ex me gv (orc []) [] U) R := st.le.u
  subst hs
  subst hu
  refine hq as l hl ha.2 hh o ho w' a' ⟨f', ⟨fs'.rn, fs'.tr, fs'.mks, fs'.big, fs'.inv, gw_no fs'.gw⟩, fun b hb => ?_, fun b e he hl2 => ?_, ?_⟩
  · have := st.far b hb
    exact this.trans (hf b (Nat.le_trans st.nx hb))
  · by_cases hbn : b < o.2.2.nx
    · rcases st.rng b e hbn he hl2 with ⟨b0, e0, k1, k2, k3, k4⟩ | k
      · rw [← k4]; exact hi b0 e0 k2 k3
      · exact Nat.le_trans hb.size k
    · have := (st.far b (by omega)).symm.trans he
      exact hi b e this hl2
  · exact ⟨st.os.trans hb.os, st.tape.trans hb.tape, st.output.trans hb.output, Nat.le_trans hb.size st.size, fun k hk => (st.keep k (Nat.lt_of_lt_of_le hk hb.size) (fun b e _ he hl2 => by have := hi b e he hl2; omega)).trans (hb.block k hk)⟩
end
theorem least_ex (p : Nat → Prop) : (∃ k, p k) → ∃ k, p k ∧ ∀ j, p j → k ≤ j := by
  rintro ⟨k, hk⟩
  induction k using Nat.strongRecOn with
  | _ k ih =>
    by_cases h : ∃ j, j < k ∧ p j
    · obtain ⟨j, h1, h2⟩ := h
      exact ih j h1 h2
    · exact ⟨k, hk, fun j hj => Nat.le_of_not_lt (fun hl => h ⟨j, hl, hj⟩)⟩
theorem wpIn_loop_ex {F : Fence} {n : Nat} {P : Program} {Q : Exit → Act → World → Prop} {a : Act} {w : World} {c : Code} {α : Type} (J : α → Act → World → Prop) (μ : α → Nat) (h₀ : ∃ x, J x a w)
    (round : ∀ x a w, J x a w → c.wpIn F n P (Exit.then (fun a' w' => ∃ x', J x' a' w' ∧ μ x' < μ x) Q) a w) : (Code.loop c).wpIn F n P Q a w := by
  classical
  have key : ∀ a w, (∃ x, J x a w) → ∃ k, (∃ x, J x a w ∧ μ x = k) ∧ ∀ j, (∃ x, J x a w ∧ μ x = j) → k ≤ j := fun a w ⟨x, hx⟩ => least_ex _ ⟨_, x, hx, rfl⟩
  let ν : Act → World → Nat := fun a w => if h : ∃ x, J x a w then Classical.choose (key a w h) else 0
  refine wpIn_loop (fun a w => ∃ x, J x a w) ν h₀ (fun a w hx => ?_)
  have hν : ν a w = Classical.choose (key a w hx) := dif_pos hx
  obtain ⟨⟨x, h1, h2⟩, -⟩ := Classical.choose_spec (key a w hx)
  refine wpIn_mono (round x a w h1) (fun e a' w' h => ?_)
  cases e <;> first
    | exact h
    | skip
  obtain ⟨x', h3, h4⟩ := h
  refine ⟨⟨x', h3⟩, ?_⟩
  have hν' : ν a' w' = Classical.choose (key a' w' ⟨x', h3⟩) := dif_pos ⟨x', h3⟩
  rw [hν, hν', ← h2]
  exact Nat.lt_of_le_of_lt ((Classical.choose_spec (key a' w' ⟨x', h3⟩)).2 _ ⟨x', h3, rfl⟩) h4
def cleanV (B N : Nat) : Nat → Value → Bool
  | 0, _ => false
  | d + 1, v => match v with
    | .func (.methodOf k _) xs _ => match k with
      | 0 => match xs.toList with
        | [.int _ (.ofNat i)] => Nat.blt i B
        | _ => false
      | _ + 1 => xs.toList.all (cleanV B N d)
    | .func (.yield b) xs _ => Nat.blt b N && xs.toList.all (cleanV B N d)
    | .func _ xs ys => xs.toList.all (cleanV B N d) && ys.toList.all (cleanV B N d)
    | .iface _ v => cleanV B N d v
    | .agg xs => xs.toList.all (cleanV B N d)
    | .tuple xs => xs.toList.all (cleanV B N d)
    | .pointer (some a) => Nat.blt a.block N
    | .slice (some a) _ _ => Nat.blt a.block N
    | .map (some b) => Nat.blt b N
    | _ => true
abbrev Ms := List (Nat × Nat × Value)
theorem den_clean {B N : Nat} {s s' : Nat → Value} {u : Nat → List Value → Option Value} (hs : ∀ i, i < B → s' i = s i) : ∀ (d n : Nat) (e v : Value), cleanV B N n e = true → den s u d e = some v → den s' u d e = some v := by
  intro d
  induction d with
  | zero => intro n e v _ h; cases h
  | succ d ih =>
    intro n e v hc h
    cases n with
    | zero => cases hc
    | succ n =>
      have hl : ∀ (l r : List Value), l.all (cleanV B N n) = true → mapO (den s u d) l = some r → mapO (den s' u d) l = some r := by
        intro l
        induction l with
        | nil => intro r _ hr; exact hr
        | cons x l ihl =>
          intro r hx hr
          rw [List.all_cons, Bool.and_eq_true] at hx
          obtain ⟨y, ys, k1, k2, rfl⟩ := mapO_cons hr
          exact mapO_of (ih n x y hx.1 k1) (ihl ys hx.2 k2)
      change den1 s u (mapO (den s u d)) e = some v at h
      show den1 s' u (mapO (den s' u d)) e = some v
      unfold den1 at h ⊢
      unfold cleanV at hc
      split at h
      · rename_i k nm xs ys
        simp only at hc ⊢
        split at h
        · simp only at hc ⊢
          split at h
          · rename_i k2 i hxs
            rw [hxs] at hc
            simp only at hc ⊢
            rw [hs i (Nat.blt_eq.mp hc)]
            exact h
          · cases h
        · simp only at hc ⊢
          split at h
          · rename_i vs hvs
            rw [hl _ _ hc hvs]
            exact h
          · cases h
      · rename_i hne
        split
        · rename_i hf; rw [hf] at h; exact h
        · rename_i hf; rw [hf] at h; exact h
theorem all_getD {p : Value → Bool} {xs : List Value} (h : xs.all p = true) {i : Nat} (hi : i < xs.length) : p (xs.getD i undef) = true := by
  rw [List.all_eq_true] at h
  have : xs.getD i undef = xs[i] := by simp [List.getD_eq_getElem?_getD, List.getElem?_eq_getElem hi]
  rw [this]
  exact h _ (List.getElem_mem hi)
theorem rv_clean {B N : Nat} {m : Emb} {f' : Nat → Option Ent} {s' : Nat → Value} (hf' : ∀ b, b < N → f' b = m b) (hs : ∀ i, i < B → s' i = m.s i) {v v' : Value} (h : RV m v v') : ∀ n, cleanV B N n v = true → RV ⟨f', s', m.u⟩ v v' := by
  induction h with
  | flat v hf => intro n _; exact .flat v hf
  | ptr a a' h =>
    intro n hc
    cases n with
    | zero => cases hc
    | succ n =>
      obtain ⟨h1, e, h2, h3⟩ := h
      exact .ptr a a' ⟨h1, e, (hf' _ (Nat.blt_eq.mp hc)).trans h2, h3⟩
  | slice a a' n c c' h =>
    intro k hc
    cases k with
    | zero => cases hc
    | succ k =>
      obtain ⟨h1, e, h2, h3⟩ := h
      exact .slice a a' n c c' ⟨h1, e, (hf' _ (Nat.blt_eq.mp hc)).trans h2, h3⟩
  | map b c h =>
    intro n hc
    cases n with
    | zero => cases hc
    | succ n =>
      obtain ⟨e, h2, h3⟩ := h
      exact .map b c ⟨e, (hf' _ (Nat.blt_eq.mp hc)).trans h2, h3⟩
  | func fn hfn xs xs' ys ys' hx hy _ _ i1 i2 =>
    intro n hc
    cases n with
    | zero => cases hc
    | succ n =>
      have hc : (xs.all (cleanV B N n) && ys.all (cleanV B N n)) = true := by
        cases fn <;> first
          | exact hc
          | cases hfn
      rw [Bool.and_eq_true] at hc
      exact .func fn hfn xs xs' ys ys' hx hy (fun i hi => i1 i hi n (all_getD hc.1 hi)) (fun i hi => i2 i hi n (all_getD hc.2 hi))
  | yield b c h =>
    intro n hc
    cases n with
    | zero => cases hc
    | succ n =>
      have hc : (Nat.blt b N && true) = true := hc
      rw [Bool.and_true] at hc
      obtain ⟨e, h2, h3⟩ := h
      exact .yield b c ⟨e, (hf' _ (Nat.blt_eq.mp hc)).trans h2, h3⟩
  | seq b x k c' a' _ hk h i =>
    intro n hc
    cases n with
    | zero => cases hc
    | succ n =>
      have hc : (Nat.blt b N && (cleanV B N n x && true)) = true := hc
      rw [Bool.and_true, Bool.and_eq_true] at hc
      obtain ⟨e, tot, z, h2, h3⟩ := h
      exact .seq b x k c' a' (i n hc.2) hk ⟨e, tot, z, (hf' _ (Nat.blt_eq.mp hc.1)).trans h2, h3⟩
  | seqp b x kd j z o a' _ h i =>
    intro n hc
    cases n with
    | zero => cases hc
    | succ n =>
      have hc : (Nat.blt b N && (cleanV B N n x && (cleanV B N n (.int .u64 (.ofNat z)) && (cleanV B N n (.int .u64 (.ofNat o)) && true)))) = true := hc
      simp only [Bool.and_eq_true] at hc
      obtain ⟨e, h2, h3⟩ := h
      exact .seqp b x kd j z o a' (i n hc.2.1) ⟨e, (hf' _ (Nat.blt_eq.mp hc.1)).trans h2, h3⟩
  | glob g o h => intro n _; exact .glob g o h
  | iface t v v' _ i =>
    intro n hc
    cases n with
    | zero => cases hc
    | succ n => exact .iface t v v' (i n hc)
  | agg xs xs' hx _ i =>
    intro n hc
    cases n with
    | zero => cases hc
    | succ n => exact .agg xs xs' hx (fun j hj => i j hj n (all_getD hc hj))
  | tuple xs xs' hx _ i =>
    intro n hc
    cases n with
    | zero => cases hc
    | succ n => exact .tuple xs xs' hx (fun j hj => i j hj n (all_getD hc hj))
  | sym k nm xs ys v d hd ht => intro n hc; exact .sym k nm xs ys v d (den_clean hs d n _ _ hc hd) ht
def Fits (s : Nat → Value) (u : Nat → List Value → Option Value) (s' : Nat → Value) (L : Ms) : Prop := ∀ x, x ∈ L → ∀ d v, den s u d x.2.2 = some v → s' x.1 = v
def Are (s : Nat → Value) (u : Nat → List Value → Option Value) (L : Ms) : Prop := ∀ x, x ∈ L → ∃ d v, den s u d x.2.2 = some v ∧ tyOk x.2.1 v = true
def keysLt {α : Type} (nx : Nat) (t : Tr α) (f : Nat → Nat) : Bool := t.pairs.all fun p => Nat.blt (f p.1) nx
theorem keysLt_ok {α : Type} {nx : Nat} (t : Tr α) (f : Nat → Nat) (hk : keysLt nx t f = true) (k : Nat) (v : α) (h : t.get k = some v) : f k < nx :=
  Nat.blt_eq.mp (List.all_eq_true.1 hk _ (Tr.pairs_of h))
theorem Top.tmp {cx : Cx} {w0 : World} {R : Addr → Option Value} {s : Nat → Value} {sz : Nat} {fm : Fm} {hp : Hp} {w : World} {a : Act} (T : Top cx w0 R s sz fm hp w a) {t ty i : Nat} (h : fm.tm.get t = some (unk ty i)) : tyOk ty (s i) = true := by
  obtain ⟨f, fs, -⟩ := T
  obtain ⟨h1, h2⟩ := given_iff (fs.tr.val t _ h)
  rw [← h1] at h2
  exact h2
end Go.Proofs.YtaepplhgeeaidaaDoor.Ev
