/- Functions with loops: frames that are known in part, pieces of code on all ways, loops by what stays so. -/
import Derived.Test.YtejnaedignfmoaaGreatDoorEvTr
import Derived.ControlIn
set_option linter.unusedVariables false
set_option linter.unusedSimpArgs false
set_option linter.unusedSectionVars false
namespace Go.Proofs.YtejnaedignfmoaaGreatDoor.Ev
open Go Go.RowKit

/-- The known operations, what is read of memory that nobody writes to, the user's functions. -/
noncomputable def uRd (cx : Cx) (R : Addr → Option Value) (k : Nat) (vs : List Value) : Option Value :=
  if k = 5 then (match vs with
    | [.pointer (some a)] => R a
    | _ => none) else if k < 4 then opSem cx k vs else if k < 16 then opRd cx.P R k vs else cx.U (k - 16) vs
theorem uRd_5 (cx : Cx) (R : Addr → Option Value) (a : Addr) : uRd cx R 5 [.pointer (some a)] = R a := rfl
theorem uRd_ok (cx : Cx) (R : Addr → Option Value) (k : Nat) (vs : List Value) (hk : k ≠ 5) :
    uRd cx R k vs = if k < 4 then opSem cx k vs else if k < 16 then opRd cx.P (fun a => uRd cx R 5 [.pointer (some a)]) k vs else cx.U (k - 16) vs := by
  show (if k = 5 then _ else _) = _
  rw [if_neg hk]
  rfl

/-- What is read lies in the first world's blocks. -/
def Old (w0 : World) (R : Addr → Option Value) : Prop := ∀ a v, R a = some v → a.block < w0.heap.size ∧ w0.cell? a = some v

/-- A frame of a call that began in the world 'w0'. -/
def Top (cx : Cx) (w0 : World) (R : Addr → Option Value) (s : Nat → Value) (sz : Nat) (fm : Fm) (hp : Hp) (w : World) (a : Act) : Prop :=
  ∃ f : Nat → Option Ent, FS cx none none w0.heap.size sz ⟨f, s, uRd cx R⟩ fm hp w a ∧ (∀ b, hp.nx ≤ b → f b = none) ∧ (∀ b e, f b = some e → e.live = true → w0.heap.size ≤ e.c) ∧ Below w0.heap.size w0 w

def notPan : AX → Bool
  | .pan _ => false
  | _ => true
def exitOf : AX → Exit
  | .normal => .normal
  | .exit id => .exit id
  | _ => .ret
theorem exitOf_ok {m : Emb} {x : AX} {e : Exit} (h : notPan x = true) (hx : ExR m x e) : e = exitOf x := by
  cases x <;> first
    | exact hx
    | cases h

section
variable {P : Program} {ex : List (FuncId × ExtK)} {me : List (TypeId × String × FuncId)} {gv : List (Nat × Tr Value)} {orc : List (Value × Bool) → List (FuncId × OrcF)} {U : Nat → List Value → Option Value}

theorem gw_as {m : Emb} {w : World} {as : List (Value × Bool)} (gw : GW (cxOf P ex me gv (orc []) [] U) m w) (h : ∀ e b, (e, b) ∈ as → isSym e = true → Holds m.s m.u e b) : GW (cxOf P ex me gv (orc as) as U) m w :=
  ⟨gw.1, ⟨fun k vs hk => gw.as.1 k vs hk, h⟩, gw.frz⟩
theorem gw_no {m : Emb} {w : World} {as : List (Value × Bool)} (gw : GW (cxOf P ex me gv (orc as) as U) m w) : GW (cxOf P ex me gv (orc []) [] U) m w :=
  ⟨gw.1, ⟨fun k vs hk => gw.as.1 k vs hk, fun _ _ h => by cases h⟩, gw.frz⟩

noncomputable def goodC (good : List (Value × Bool) → List (AX × Fm × Hp) → Bool) (as : List (Value × Bool)) (r : CS) : Bool :=
  match r with
  | some l => (l.all fun o => notPan o.1) && good as l
  | none => false

/-- A piece of code that is reckoned, on all ways. -/
theorem piece (hx : ∀ as, ExtOk P (cxOf P ex me gv (orc as) as U)) (hmix : P.follows .mixedOrders = true) {n d sz : Nat} {c : Code} {fm : Fm} {hp : Hp} {good : List (Value × Bool) → List (AX × Fm × Hp) → Bool}
    {cl : List (List (Value × Bool))} {t : PT} {as0 : List (Value × Bool)}
    (h : walkT (fun as => goodC good as (evCode (cxOf P ex me gv (orc as) as U) (evFn (cxOf P ex me gv (orc as) as U) n d) sz n none c fm hp)) cl t as0 = true)
    {w0 : World} {R : Addr → Option Value} {s : Nat → Value} {w : World} {a : Act} {Q : Exit → Act → World → Prop}
    (hcl : ∀ c, c ∈ cl → ¬ ∀ e b, (e, b) ∈ c → Holds s (uRd (cxOf P ex me gv (orc []) [] U) R) e b)
    (h0 : ∀ e b, (e, b) ∈ as0 → Holds s (uRd (cxOf P ex me gv (orc []) [] U) R) e b)
    (T : Top (cxOf P ex me gv (orc []) [] U) w0 R s sz fm hp w a)
    (hq : ∀ as l, evCode (cxOf P ex me gv (orc as) as U) (evFn (cxOf P ex me gv (orc as) as U) n d) sz n none c fm hp = some l → good as l = true → (∀ e b, (e, b) ∈ as → isSym e = true → Holds s (uRd (cxOf P ex me gv (orc []) [] U) R) e b) →
      ∀ o, o ∈ l → ∀ w' a', Top (cxOf P ex me gv (orc []) [] U) w0 R s sz o.2.1 o.2.2 w' a' → Q (exitOf o.1) a' w') : c.wpIn (Fw none) 0 P Q a w := by
  refine walkT_ok hcl (fun as ha hh => ?_) t as0 h h0
  obtain ⟨f, fs, hf, hi, hb⟩ := T
  have ha : goodC good as (evCode (cxOf P ex me gv (orc as) as U) (evFn (cxOf P ex me gv (orc as) as U) n d) sz n none c fm hp) = true := ha
  unfold goodC at ha
  split at ha
  case h_2 => cases ha
  rename_i l hl
  rw [Bool.and_eq_true] at ha
  have ok := cx_ok P ex me gv (orc as) as U
  have hcall := calls_ok ok (hx as) hmix n d
  have hg := evFn_grow (cxOf P ex me gv (orc as) as U) (fun f o h => ((hx as).orc f o h).2.1) n d
  have fs1 : FS (cxOf P ex me gv (orc as) as U) none none w0.heap.size sz ⟨f, s, uRd (cxOf P ex me gv (orc []) [] U) R⟩ fm hp w a := ⟨fs.rn, fs.tr, fs.mks, fs.big, fs.inv, gw_as fs.gw hh⟩
  refine evCode_ok (r0 := none) (ro := none) ok (hx as) hcall hg (draws_ok ok (hx as) hmix hcall hg) c _ fm hp w a l Q fs1 (fun o ho => fun b hb _ => hf b hb) hl (fun o ho m' w' a' e st fs' hxr => ?_)
  have hp1 := List.all_eq_true.1 ha.1 o ho
  rw [exitOf_ok hp1 hxr]
  obtain ⟨f', s', u'⟩ := m'
  have hs : s' = s := st.le.s
  have hu : u' = uRd (cxOf P ex me gv (orc []) [] U) R := st.le.u
  subst hs
  subst hu
  refine hq as l hl ha.2 hh o ho w' a' ⟨f', ⟨fs'.rn, fs'.tr, fs'.mks, fs'.big, fs'.inv, gw_no fs'.gw⟩, fun b hb => ?_, fun b e he hl2 => ?_, ?_⟩
  · have := st.far b hb
    exact this.trans (hf b (Nat.le_trans st.nx hb))
  · by_cases hbn : b < o.2.2.nx
    · rcases st.rng b e hbn he hl2 with ⟨b0, e0, k1, k2, k3, k4⟩ | k
      · rw [← k4]; exact hi b0 e0 k2 k3
      · exact Nat.le_trans hb.size k
    · have := (st.far b (by omega)).symm.trans he
      exact hi b e this hl2
  · exact ⟨st.os.trans hb.os, st.tape.trans hb.tape, st.output.trans hb.output, Nat.le_trans hb.size st.size, fun k hk => (st.keep k (Nat.lt_of_lt_of_le hk hb.size) (fun b e _ he hl2 => by have := hi b e he hl2; omega)).trans (hb.block k hk)⟩
end

theorem least_ex (p : Nat → Prop) : (∃ k, p k) → ∃ k, p k ∧ ∀ j, p j → k ≤ j := by
  rintro ⟨k, hk⟩
  induction k using Nat.strongRecOn with
  | _ k ih =>
    by_cases h : ∃ j, j < k ∧ p j
    · obtain ⟨j, h1, h2⟩ := h
      exact ih j h1 h2
    · exact ⟨k, hk, fun j hj => Nat.le_of_not_lt (fun hl => h ⟨j, hl, hj⟩)⟩

/-- A loop: what holds at its head, for some 'x', and falls. -/
theorem wpIn_loop_ex {F : Fence} {n : Nat} {P : Program} {Q : Exit → Act → World → Prop} {a : Act} {w : World} {c : Code} {α : Type} (J : α → Act → World → Prop) (μ : α → Nat) (h₀ : ∃ x, J x a w)
    (round : ∀ x a w, J x a w → c.wpIn F n P (Exit.then (fun a' w' => ∃ x', J x' a' w' ∧ μ x' < μ x) Q) a w) : (Code.loop c).wpIn F n P Q a w := by
  classical
  have key : ∀ a w, (∃ x, J x a w) → ∃ k, (∃ x, J x a w ∧ μ x = k) ∧ ∀ j, (∃ x, J x a w ∧ μ x = j) → k ≤ j := fun a w ⟨x, hx⟩ => least_ex _ ⟨_, x, hx, rfl⟩
  let ν : Act → World → Nat := fun a w => if h : ∃ x, J x a w then Classical.choose (key a w h) else 0
  refine wpIn_loop (fun a w => ∃ x, J x a w) ν h₀ (fun a w hx => ?_)
  have hν : ν a w = Classical.choose (key a w hx) := dif_pos hx
  obtain ⟨⟨x, h1, h2⟩, -⟩ := Classical.choose_spec (key a w hx)
  refine wpIn_mono (round x a w h1) (fun e a' w' h => ?_)
  cases e <;> first
    | exact h
    | skip
  obtain ⟨x', h3, h4⟩ := h
  refine ⟨⟨x', h3⟩, ?_⟩
  have hν' : ν a' w' = Classical.choose (key a' w' ⟨x', h3⟩) := dif_pos ⟨x', h3⟩
  rw [hν, hν', ← h2]
  exact Nat.lt_of_le_of_lt ((Classical.choose_spec (key a' w' ⟨x', h3⟩)).2 _ ⟨x', h3, rfl⟩) h4

/-! A frame in general: in places stand symbols from 'B' on, whatever they are. -/
/-- No symbol from 'B' on, no block from 'N' on. -/
def cleanV (B N : Nat) : Nat → Value → Bool
  | 0, _ => false
  | d + 1, v => match v with
    | .func (.methodOf k _) xs _ => match k with
      | 0 => match xs.toList with
        | [.int _ (.ofNat i)] => Nat.blt i B
        | _ => false
      | _ + 1 => xs.toList.all (cleanV B N d)
    | .func (.yield b) xs _ => Nat.blt b N && xs.toList.all (cleanV B N d)
    | .func _ xs ys => xs.toList.all (cleanV B N d) && ys.toList.all (cleanV B N d)
    | .iface _ v => cleanV B N d v
    | .agg xs => xs.toList.all (cleanV B N d)
    | .tuple xs => xs.toList.all (cleanV B N d)
    | .pointer (some a) => Nat.blt a.block N
    | .slice (some a) _ _ => Nat.blt a.block N
    | .map (some b) => Nat.blt b N
    | _ => true

/-- What stands for the symbols: number, kind, expression. -/
abbrev Ms := List (Nat × Nat × Value)

mutual
def matchV (B N : Nat) : Nat → Value → Value → Option Ms
  | 0, _, _ => none
  | d + 1, p, e => match p with
    | .func (.methodOf 0 nm) ⟨[.int k (.ofNat i)]⟩ ⟨[.int k2 (.ofNat ty)]⟩ => match Nat.ble B i with
      | true => match (isSym e && Nat.beq (symTy e) ty) || (flat e && tyOk ty e) with
        | true => some [(i, ty, e)]
        | false => none
      | false => match vEq 60 p e with
        | true => some []
        | false => none
    | .agg ps => match e with
      | .agg es => matchL B N d ps.toList es.toList
      | _ => none
    | p => match vEq 60 p e && cleanV B N 60 p with
      | true => some []
      | false => none
def matchL (B N : Nat) : Nat → List Value → List Value → Option Ms
  | 0, _, _ => none
  | _ + 1, [], [] => some []
  | d + 1, p :: ps, e :: es => match matchV B N d p e, matchL B N d ps es with
    | some l, some l' => some (l ++ l')
    | _, _ => none
  | _ + 1, _, _ => none
end

theorem den_clean {B N : Nat} {s s' : Nat → Value} {u : Nat → List Value → Option Value} (hs : ∀ i, i < B → s' i = s i) : ∀ (d n : Nat) (e v : Value), cleanV B N n e = true → den s u d e = some v → den s' u d e = some v := by
  intro d
  induction d with
  | zero => intro n e v _ h; cases h
  | succ d ih =>
    intro n e v hc h
    cases n with
    | zero => cases hc
    | succ n =>
      have hl : ∀ (l r : List Value), l.all (cleanV B N n) = true → mapO (den s u d) l = some r → mapO (den s' u d) l = some r := by
        intro l
        induction l with
        | nil => intro r _ hr; exact hr
        | cons x l ihl =>
          intro r hx hr
          rw [List.all_cons, Bool.and_eq_true] at hx
          obtain ⟨y, ys, k1, k2, rfl⟩ := mapO_cons hr
          exact mapO_of (ih n x y hx.1 k1) (ihl ys hx.2 k2)
      change den1 s u (mapO (den s u d)) e = some v at h
      show den1 s' u (mapO (den s' u d)) e = some v
      unfold den1 at h ⊢
      unfold cleanV at hc
      split at h
      · rename_i k nm xs ys
        simp only at hc ⊢
        split at h
        · simp only at hc ⊢
          split at h
          · rename_i k2 i hxs
            rw [hxs] at hc
            simp only at hc ⊢
            rw [hs i (Nat.blt_eq.mp hc)]
            exact h
          · cases h
        · simp only at hc ⊢
          split at h
          · rename_i vs hvs
            rw [hl _ _ hc hvs]
            exact h
          · cases h
      · rename_i hne
        split
        · rename_i hf; rw [hf] at h; exact h
        · rename_i hf; rw [hf] at h; exact h

theorem all_getD {p : Value → Bool} {xs : List Value} (h : xs.all p = true) {i : Nat} (hi : i < xs.length) : p (xs.getD i undef) = true := by
  rw [List.all_eq_true] at h
  have : xs.getD i undef = xs[i] := by simp [List.getD_eq_getElem?_getD, List.getElem?_eq_getElem hi]
  rw [this]
  exact h _ (List.getElem_mem hi)

theorem rv_clean {B N : Nat} {m : Emb} {f' : Nat → Option Ent} {s' : Nat → Value} (hf' : ∀ b, b < N → f' b = m b) (hs : ∀ i, i < B → s' i = m.s i) {v v' : Value} (h : RV m v v') : ∀ n, cleanV B N n v = true → RV ⟨f', s', m.u⟩ v v' := by
  induction h with
  | flat v hf => intro n _; exact .flat v hf
  | ptr a a' h =>
    intro n hc
    cases n with
    | zero => cases hc
    | succ n =>
      obtain ⟨h1, e, h2, h3⟩ := h
      exact .ptr a a' ⟨h1, e, (hf' _ (Nat.blt_eq.mp hc)).trans h2, h3⟩
  | slice a a' n c c' h =>
    intro k hc
    cases k with
    | zero => cases hc
    | succ k =>
      obtain ⟨h1, e, h2, h3⟩ := h
      exact .slice a a' n c c' ⟨h1, e, (hf' _ (Nat.blt_eq.mp hc)).trans h2, h3⟩
  | map b c h =>
    intro n hc
    cases n with
    | zero => cases hc
    | succ n =>
      obtain ⟨e, h2, h3⟩ := h
      exact .map b c ⟨e, (hf' _ (Nat.blt_eq.mp hc)).trans h2, h3⟩
  | func fn hfn xs xs' ys ys' hx hy _ _ i1 i2 =>
    intro n hc
    cases n with
    | zero => cases hc
    | succ n =>
      have hc : (xs.all (cleanV B N n) && ys.all (cleanV B N n)) = true := by
        cases fn <;> first
          | exact hc
          | cases hfn
      rw [Bool.and_eq_true] at hc
      exact .func fn hfn xs xs' ys ys' hx hy (fun i hi => i1 i hi n (all_getD hc.1 hi)) (fun i hi => i2 i hi n (all_getD hc.2 hi))
  | yield b c h =>
    intro n hc
    cases n with
    | zero => cases hc
    | succ n =>
      have hc : (Nat.blt b N && true) = true := hc
      rw [Bool.and_true] at hc
      obtain ⟨e, h2, h3⟩ := h
      exact .yield b c ⟨e, (hf' _ (Nat.blt_eq.mp hc)).trans h2, h3⟩
  | seq b x k c' a' _ hk h i =>
    intro n hc
    cases n with
    | zero => cases hc
    | succ n =>
      have hc : (Nat.blt b N && (cleanV B N n x && true)) = true := hc
      rw [Bool.and_true, Bool.and_eq_true] at hc
      obtain ⟨e, tot, z, h2, h3⟩ := h
      exact .seq b x k c' a' (i n hc.2) hk ⟨e, tot, z, (hf' _ (Nat.blt_eq.mp hc.1)).trans h2, h3⟩
  | seqp b x kd j z o a' _ h i =>
    intro n hc
    cases n with
    | zero => cases hc
    | succ n =>
      have hc : (Nat.blt b N && (cleanV B N n x && (cleanV B N n (.int .u64 (.ofNat z)) && (cleanV B N n (.int .u64 (.ofNat o)) && true)))) = true := hc
      simp only [Bool.and_eq_true] at hc
      obtain ⟨e, h2, h3⟩ := h
      exact .seqp b x kd j z o a' (i n hc.2.1) ⟨e, (hf' _ (Nat.blt_eq.mp hc.1)).trans h2, h3⟩
  | glob g o h => intro n _; exact .glob g o h
  | iface t v v' _ i =>
    intro n hc
    cases n with
    | zero => cases hc
    | succ n => exact .iface t v v' (i n hc)
  | agg xs xs' hx _ i =>
    intro n hc
    cases n with
    | zero => cases hc
    | succ n => exact .agg xs xs' hx (fun j hj => i j hj n (all_getD hc hj))
  | tuple xs xs' hx _ i =>
    intro n hc
    cases n with
    | zero => cases hc
    | succ n => exact .tuple xs xs' hx (fun j hj => i j hj n (all_getD hc hj))
  | sym k nm xs ys v d hd ht => intro n hc; exact .sym k nm xs ys v d (den_clean hs d n _ _ hc hd) ht

/-- What 's'' tells of the symbols. -/
def Fits (s : Nat → Value) (u : Nat → List Value → Option Value) (s' : Nat → Value) (L : Ms) : Prop := ∀ x, x ∈ L → ∀ d v, den s u d x.2.2 = some v → s' x.1 = v
/-- The expressions are values of their kinds. -/
def Are (s : Nat → Value) (u : Nat → List Value → Option Value) (L : Ms) : Prop := ∀ x, x ∈ L → ∃ d v, den s u d x.2.2 = some v ∧ tyOk x.2.1 v = true

theorem match_ok {B N : Nat} {m : Emb} {f' : Nat → Option Ent} {s' : Nat → Value} (hf' : ∀ b, b < N → f' b = m b) (hs : ∀ i, i < B → s' i = m.s i) : ∀ (d : Nat),
    (∀ (p e v' : Value) (L : Ms), matchV B N d p e = some L → RV m e v' → Are m.s m.u L ∧ (Fits m.s m.u s' L → RV ⟨f', s', m.u⟩ p v')) ∧
    (∀ (ps es vs' : List Value) (L : Ms), matchL B N d ps es = some L → RVs m es vs' → Are m.s m.u L ∧ (Fits m.s m.u s' L → RVs ⟨f', s', m.u⟩ ps vs')) := by
  intro d
  induction d with
  | zero => exact ⟨fun _ _ _ _ h => by simp [matchV] at h, fun _ _ _ _ h => by simp [matchL] at h⟩
  | succ d ih =>
    have nilA : Are m.s m.u [] := fun x hx => by cases hx
    refine ⟨fun p e v' L h hv => ?_, fun ps es vs' L h hv => ?_⟩
    · unfold matchV at h
      split at h
      · rename_i nm k i k2 ty
        split at h
        · split at h
          case h_2 => cases h
          rename_i hb hk
          injection h with h
          subst h
          have key : ∃ d, den m.s m.u d e = some v' ∧ tyOk ty v' = true := by
            rw [Bool.or_eq_true, Bool.and_eq_true, Bool.and_eq_true] at hk
            rcases hk with ⟨k1, k3⟩ | ⟨k1, k3⟩
            · obtain ⟨⟨d', hd'⟩, ht⟩ := hv.sym_iff k1
              exact ⟨d', hd', by rw [← Nat.eq_of_beq_eq_true k3]; exact ht⟩
            · rw [hv.flat_iff k1]
              exact ⟨1, den_flat k1 0, k3⟩
          obtain ⟨d', hd', ht⟩ := key
          refine ⟨fun x hx => by rw [List.mem_singleton.1 hx]; exact ⟨d', v', hd', ht⟩, fun hf => ?_⟩
          have hsi : s' i = v' := hf _ (List.mem_singleton.2 rfl) d' v' hd'
          exact .sym 0 nm _ _ v' 1 (by show some (s' i) = some v'; rw [hsi]) ht
        · split at h
          case h_2 => cases h
          rename_i he
          injection h with h
          subst h
          obtain rfl := vEq_ok 60 _ _ he
          refine ⟨nilA, fun _ => rv_clean hf' hs hv 1 ?_⟩
          show Nat.blt i B = true
          have hb : Nat.ble B i = false := by assumption
          exact Nat.blt_eq.mpr (Nat.lt_of_not_le (fun hl => by rw [Nat.ble_eq_true_of_le hl] at hb; cases hb))
      · rename_i ps
        split at h
        · rename_i es
          obtain ⟨ps⟩ := ps
          obtain ⟨es⟩ := es
          obtain ⟨es', rfl, h1⟩ := hv.agg_iff
          obtain ⟨k1, k2⟩ := ih.2 ps es es' L h h1
          exact ⟨k1, fun hf => .agg _ _ (k2 hf).1 (k2 hf).2⟩
        · cases h
      · split at h
        case h_2 => cases h
        rename_i he
        injection h with h
        subst h
        rw [Bool.and_eq_true] at he
        obtain rfl := vEq_ok 60 _ _ he.1
        exact ⟨nilA, fun _ => rv_clean hf' hs hv 60 he.2⟩
    · unfold matchL at h
      split at h
      · cases h
      · injection h with h
        subst h
        exact ⟨nilA, fun _ => by rw [hv.nil_left]; exact .nil _⟩
      · rename_i d0 p ps e es hd0
        obtain rfl : d0 = d := by omega
        split at h
        case h_2 => cases h
        rename_i l l' h1 h2
        injection h with h
        subst h
        obtain ⟨e', t, rfl, q1, q2⟩ := hv.head
        obtain ⟨k1, k2⟩ := ih.1 p e e' l h1 q1
        obtain ⟨k3, k4⟩ := ih.2 ps es t l' h2 q2
        refine ⟨fun x hx => ?_, fun hf => ?_⟩
        · rcases List.mem_append.1 hx with hx | hx
          · exact k1 x hx
          · exact k3 x hx
        · exact .cons (k2 fun x hx => hf x (List.mem_append.2 (.inl hx))) (k4 fun x hx => hf x (List.mem_append.2 (.inr hx)))
      · cases h

/-! The frames, place by place. -/
noncomputable def trMatchL (B N : Nat) (t : Tr Value) : List (Nat × Value) → Option Ms
  | [] => some []
  | x :: l => match (match t.get x.1 with
      | some e => matchV B N 60 x.2 e
      | none => none), trMatchL B N t l with
    | some a, some b => some (a ++ b)
    | _, _ => none
noncomputable def trMatch (B N : Nat) (t t' : Tr Value) : Option Ms := trMatchL B N t' t.pairs
noncomputable def rowMatch (B N : Nat) (t t' : Tr Value) : Nat → Option Ms
  | 0 => some []
  | n + 1 => match t.get n, t'.get n with
    | some p, some e => match matchV B N 60 p e, rowMatch B N t t' n with
      | some a, some b => some (a ++ b)
      | _, _ => none
    | _, _ => none
noncomputable def obMatch (B N : Nat) : AObj → Option AObj → Option Ms
  | .dead, _ => some []
  | .cells t n ty op str, some (.cells t' n' ty' op' str') => match Nat.beq n n', Nat.beq ty ty', decide (op = op'), (!str' || str) with
    | true, true, true, true => rowMatch B N t t' n
    | _, _, _, _ => none
  | .seq e n ks ty, some (.seq e' n' ks' ty') => match lEq Nat.beq ks ks', Nat.beq ty ty', matchV B N 60 n n' with
    | true, true, some l => match e with
      | .func (.methodOf 0 _) ⟨[.int _ (.ofNat i)]⟩ _ => match Nat.ble B i with
        | true => some ((i, 20, e') :: l)
        | false => match vEq 60 e e' with
          | true => some l
          | false => none
      | e => match vEq 60 e e' && cleanV B N 60 e with
        | true => some l
        | false => none
    | _, _, _ => none
  | _, _ => none
noncomputable def hpMatchL (B N : Nat) (t : Tr AObj) : List (Nat × AObj) → Option Ms
  | [] => some []
  | x :: l => match obMatch B N x.2 (t.get x.1), hpMatchL B N t l with
    | some a, some b => some (a ++ b)
    | _, _ => none
noncomputable def hpMatch (B N : Nat) (t t' : Tr AObj) : Option Ms := hpMatchL B N t' t.pairs
def keysLt {α : Type} (nx : Nat) (t : Tr α) (f : Nat → Nat) : Bool := t.pairs.all fun p => Nat.blt (f p.1) nx
noncomputable def absM (B : Nat) (G : Fm) (Gh : Hp) (fm : Fm) (hp : Hp) : Option Ms :=
  match G.ds, fm.ds, Nat.ble Gh.nx hp.nx, keysLt Gh.nx Gh.tr id with
  | [], [], true, true => match trMatch B Gh.nx G.tm fm.tm, hpMatch B Gh.nx Gh.tr hp.tr with
    | some a, some b => some (a ++ b)
    | _, _ => none
  | _, _, _, _ => none

theorem keysLt_ok {α : Type} {nx : Nat} (t : Tr α) (f : Nat → Nat) (hk : keysLt nx t f = true) (k : Nat) (v : α) (h : t.get k = some v) : f k < nx :=
  Nat.blt_eq.mp (List.all_eq_true.1 hk _ (Tr.pairs_of h))

theorem trMatchL_ok {B N : Nat} {t' : Tr Value} : ∀ (l : List (Nat × Value)) (L : Ms), trMatchL B N t' l = some L → ∀ k p, (k, p) ∈ l → ∃ e L', t'.get k = some e ∧ matchV B N 60 p e = some L' ∧ ∀ x, x ∈ L' → x ∈ L
  | [], _, _, k, p, h => by cases h
  | x :: l, L, hm, k, p, h => by
    unfold trMatchL at hm
    split at hm
    case h_2 => cases hm
    rename_i a b h1 h2
    injection hm with hm
    subst hm
    rcases List.mem_cons.1 h with rfl | h
    · split at h1
      · rename_i e he
        exact ⟨e, a, he, h1, fun x hx => List.mem_append.2 (.inl hx)⟩
      · cases h1
    · obtain ⟨e, L', k1, k2, k3⟩ := trMatchL_ok l b h2 k p h
      exact ⟨e, L', k1, k2, fun x hx => List.mem_append.2 (.inr (k3 x hx))⟩
theorem trMatch_ok {B N : Nat} (t t' : Tr Value) (L : Ms) (hm : trMatch B N t t' = some L) (k : Nat) (p : Value) (h : t.get k = some p) : ∃ e L', t'.get k = some e ∧ matchV B N 60 p e = some L' ∧ ∀ x, x ∈ L' → x ∈ L :=
  trMatchL_ok _ L hm k p (Tr.pairs_of h)
theorem hpMatchL_ok {B N : Nat} {t' : Tr AObj} : ∀ (l : List (Nat × AObj)) (L : Ms), hpMatchL B N t' l = some L → ∀ k ob, (k, ob) ∈ l → ∃ L', obMatch B N ob (t'.get k) = some L' ∧ ∀ x, x ∈ L' → x ∈ L
  | [], _, _, k, p, h => by cases h
  | x :: l, L, hm, k, p, h => by
    unfold hpMatchL at hm
    split at hm
    case h_2 => cases hm
    rename_i a b h1 h2
    injection hm with hm
    subst hm
    rcases List.mem_cons.1 h with rfl | h
    · exact ⟨a, h1, fun x hx => List.mem_append.2 (.inl hx)⟩
    · obtain ⟨L', k2, k3⟩ := hpMatchL_ok l b h2 k p h
      exact ⟨L', k2, fun x hx => List.mem_append.2 (.inr (k3 x hx))⟩
theorem hpMatch_ok {B N : Nat} (t t' : Tr AObj) (L : Ms) (hm : hpMatch B N t t' = some L) (k : Nat) (ob : AObj) (h : t.get k = some ob) : ∃ L', obMatch B N ob (t'.get k) = some L' ∧ ∀ x, x ∈ L' → x ∈ L :=
  hpMatchL_ok _ L hm k ob (Tr.pairs_of h)

theorem rowMatch_ok {B N : Nat} {t t' : Tr Value} : ∀ (n : Nat) (L : Ms), rowMatch B N t t' n = some L → ∀ i, i < n → ∃ p e L', t.get i = some p ∧ t'.get i = some e ∧ matchV B N 60 p e = some L' ∧ ∀ x, x ∈ L' → x ∈ L
  | 0, _, _, i, hi => absurd hi (Nat.not_lt_zero i)
  | n + 1, L, h, i, hi => by
    unfold rowMatch at h
    split at h
    case h_2 => cases h
    rename_i p e hp he
    split at h
    case h_2 => cases h
    rename_i a b h1 h2
    injection h with h
    subst h
    by_cases hin : i = n
    · subst hin
      exact ⟨p, e, a, hp, he, h1, fun x hx => List.mem_append.2 (.inl hx)⟩
    · obtain ⟨p', e', L', k1, k2, k3, k4⟩ := rowMatch_ok n b h2 i (by omega)
      exact ⟨p', e', L', k1, k2, k3, fun x hx => List.mem_append.2 (.inr (k4 x hx))⟩

/-- A frame is one of the general form, the symbols standing for what is there. -/
theorem Top.abs {cx : Cx} {w0 : World} {R : Addr → Option Value} {s : Nat → Value} {sz : Nat} {fm : Fm} {hp : Hp} {w : World} {a : Act} (has : cx.as = []) (T : Top cx w0 R s sz fm hp w a) {B : Nat} {G : Fm} {Gh : Hp} {L : Ms} (h : absM B G Gh fm hp = some L)
    {s' : Nat → Value} (hs : ∀ i, i < B → s' i = s i) (hf : Fits s (uRd cx R) s' L) : Top cx w0 R s' sz G Gh w a := by
  obtain ⟨f, fs, hn, hi, hb⟩ := T
  unfold absM at h
  split at h
  case h_2 => cases h
  rename_i d1 d2 hnx hky
  split at h
  case h_2 => cases h
  rename_i A1 A2 h1 h2
  injection h with h
  subst h
  have hnx := Nat.le_of_ble_eq_true hnx
  let f' : Nat → Option Ent := fun b => if b < Gh.nx then f b else none
  have hf' : ∀ b, b < Gh.nx → f' b = (⟨f, s, uRd cx R⟩ : Emb) b := fun b hb => if_pos hb
  have sub : ∀ b e, f' b = some e → f b = some e := fun b e he => by
    by_cases hbn : b < Gh.nx
    · rwa [show f' b = f b from if_pos hbn] at he
    · rw [show f' b = none from if_neg hbn] at he; cases he
  have hs' : ∀ i, i < B → s' i = (⟨f, s, uRd cx R⟩ : Emb).s i := hs
  have rv : ∀ {p e v' : Value} {L' : Ms}, matchV B Gh.nx 60 p e = some L' → (∀ x, x ∈ L' → x ∈ A1 ++ A2) → RV ⟨f, s, uRd cx R⟩ e v' → RV ⟨f', s', uRd cx R⟩ p v' := fun hm hsub hv =>
    ((match_ok hf' hs' 60).1 _ _ _ _ hm hv).2 (fun x hx => hf x (hsub x hx))
  refine ⟨f', ⟨.inl ⟨rfl, rfl⟩, ⟨fs.tr.size, rfl, fun t v hv => ?_⟩, ?_, fs.big, ⟨fun b e ob he hob hd => ?_, fun b b' e e' h1 h2 => fs.inv.inj b b' e e' (sub _ _ h1) (sub _ _ h2), fun b e he => fs.inv.low b e (sub _ _ he), fun b ob hob => keysLt_ok _ id hky b ob hob⟩,
    ⟨fun g t hg => ⟨(fs.gw.at_ g t hg).1, fun b e he => (fs.gw.at_ g t hg).2 b e (sub _ _ he)⟩, ⟨fun k vs hk => fs.gw.as.1 k vs hk, fun e b he => by rw [has] at he; cases he⟩, fun x v hv => ⟨(fs.gw.frz x v hv).1, fun b e he => (fs.gw.frz x v hv).2 b e (sub _ _ he)⟩⟩⟩, fun b hbn => if_neg (by omega), fun b e he => hi b e (sub _ _ he), hb⟩
  · obtain ⟨e, L', k1, k2, k3⟩ := trMatch_ok _ _ _ h1 t v hv
    exact rv k2 (fun x hx => List.mem_append.2 (.inl (k3 x hx))) (fs.tr.val t e k1)
  · have := fs.mks
    rw [d2] at this
    rw [this.nil, d1]
    trivial
  · obtain ⟨L', k1, k2⟩ := hpMatch_ok _ _ _ h2 b ob hob
    unfold obMatch at k1
    split at k1
    · exact absurd rfl hd
    · rename_i t n ty op str t' n' ty' op' str' hg
      split at k1
      case h_2 => cases k1
      rename_i e1 e2 e3 e4
      obtain rfl := Nat.eq_of_beq_eq_true e1
      obtain rfl := Nat.eq_of_beq_eq_true e2
      obtain rfl := of_decide_eq_true e3
      obtain ⟨q1, q2⟩ := fs.inv.obj b e _ (sub _ _ he) hg (by simp)
      obtain ⟨r1, cs, fr, r2, r3, r4, r5, r6⟩ := q2
      refine ⟨q1, r1, cs, fr, r2, fun i hin => ?_, r4, r5, ?_⟩
      · obtain ⟨p, x, L3, j1, j2, j3, j4⟩ := rowMatch_ok _ _ k1 i hin
        obtain ⟨v, v', u1, u2, u3⟩ := r3 i hin
        rw [j2] at u1
        obtain rfl := Option.some.inj u1
        exact ⟨p, v', j1, u2, rv j3 (fun x hx => List.mem_append.2 (.inr (k2 x (j4 x hx)))) u3⟩
      · obtain ⟨z, z1, z2⟩ := r6
        refine ⟨z, z1, fun hz => ?_⟩
        have := z2 hz
        subst this
        simpa using e4
    · rename_i x n ks ty x' n' ks' ty' hg
      split at k1
      case h_2 => cases k1
      rename_i l e1 e2 e3
      obtain rfl := lEq_ok (fun _ _ => Nat.eq_of_beq_eq_true) _ _ e1
      obtain rfl := Nat.eq_of_beq_eq_true e2
      obtain ⟨q1, cells, cs, fr, ⟨⟨dd, r1⟩, ⟨k, r2, r3⟩, r4⟩, r5⟩ := fs.inv.obj b e _ (sub _ _ he) hg (by simp)
      refine ⟨q1, cells, cs, fr, ⟨?_, ⟨k, ?_, r3⟩, r4⟩, r5⟩
      · split at k1
        · rename_i nm kk i ys
          split at k1
          · injection k1 with k1
            subst k1
            refine ⟨1, ?_⟩
            have hx := hf (i, 20, x') (List.mem_append.2 (.inr (k2 _ List.mem_cons_self))) dd _ r1
            show some (s' i) = _
            rw [hx]
          · split at k1
            case h_2 => cases k1
            rename_i hv
            obtain rfl := vEq_ok 60 _ _ hv
            have hb : Nat.ble B i = false := by assumption
            exact ⟨dd, den_clean (B := B) (N := Gh.nx) hs dd 1 _ _ (Nat.blt_eq.mpr (Nat.lt_of_not_le (fun hl => by rw [Nat.ble_eq_true_of_le hl] at hb; cases hb))) r1⟩
        · split at k1
          case h_2 => cases k1
          rename_i hv
          rw [Bool.and_eq_true] at hv
          obtain rfl := vEq_ok 60 _ _ hv.1
          exact ⟨dd, den_clean hs dd 60 _ _ hv.2 r1⟩
      · refine rv e3 (fun y hy => List.mem_append.2 (.inr (k2 y ?_))) r2
        split at k1
        · split at k1
          · injection k1 with k1
            subst k1
            exact List.mem_cons_of_mem _ hy
          · split at k1
            case h_2 => cases k1
            injection k1 with k1
            subst k1
            exact hy
        · split at k1
          case h_2 => cases k1
          injection k1 with k1
          subst k1
          exact hy
    · cases k1

theorem fits_of {s s' : Nat → Value} {u : Nat → List Value → Option Value} {L : Ms} (h : ∀ x, x ∈ L → ∃ d, den s u d x.2.2 = some (s' x.1)) : Fits s u s' L := fun x hx d v hv => by
  obtain ⟨d', hd⟩ := h x hx
  have e1 := den_mono (Nat.le_max_left d d') hv
  have e2 := den_mono (Nat.le_max_right d d') hd
  rw [e1] at e2
  exact (Option.some.inj e2).symm

/-- A temporary that holds a symbol. -/
theorem Top.tmp {cx : Cx} {w0 : World} {R : Addr → Option Value} {s : Nat → Value} {sz : Nat} {fm : Fm} {hp : Hp} {w : World} {a : Act} (T : Top cx w0 R s sz fm hp w a) {t ty i : Nat} (h : fm.tm.get t = some (unk ty i)) : tyOk ty (s i) = true := by
  obtain ⟨f, fs, -⟩ := T
  obtain ⟨h1, h2⟩ := given_iff (fs.tr.val t _ h)
  rw [← h1] at h2
  exact h2

section
variable {P : Program} {ex : List (FuncId × ExtK)} {me : List (TypeId × String × FuncId)} {gv : List (Nat × Tr Value)} {orc : List (Value × Bool) → List (FuncId × OrcF)} {U : Nat → List Value → Option Value}

/-- The call has ended with a truth. -/
noncomputable def doneB (cx : Cx) (fi : FI) (b : Bool) (o : AX × Fm × Hp) : Bool :=
  match o.1, o.2.1.ds, resA cx o.2.1.tm o.2.2 fi.results with
  | .ret, [], some [v] => match boolA cx v with
    | some c => c == b
    | none => false
  | _, _, _ => false

def Done (P : Program) (ex : List (FuncId × ExtK)) (me : List (TypeId × String × FuncId)) (gv : List (Nat × Tr Value)) (orc : List (Value × Bool) → List (FuncId × OrcF)) (U : Nat → List Value → Option Value)
    (w0 : World) (R : Addr → Option Value) (fi : FI) (b : Bool) (e : Exit) (a : Act) (w : World) : Prop :=
  e = .ret ∧ ∃ s fm hp as, Top (cxOf P ex me gv (orc []) [] U) w0 R s fi.ntmps fm hp w a ∧ (∀ e b, (e, b) ∈ as → isSym e = true → Holds s (uRd (cxOf P ex me gv (orc []) [] U) R) e b) ∧ doneB (cxOf P ex me gv (orc as) as U) fi b (.ret, fm, hp) = true

/-- A call, by its body. -/
theorem top_call {f : FuncId} {fi : FI} {b : Bool} {N : Nat} {args args' : List Value} {w0 : World} {R : Addr → Option Value} {s : Nat → Value} (hw : Old w0 R) (hfi : (cxOf P ex me gv (orc []) [] U).f f = some fi) (hle : args.length ≤ fi.ntmps)
    (hargs : RVs ⟨fun _ => none, s, uRd (cxOf P ex me gv (orc []) [] U) R⟩ args args')
    (hgv : ∀ g t, (g, t) ∈ gv → ∃ cs ty fr, w0.heap[g]? = some (.cells cs ty fr) ∧ ∀ (i : Nat) (v : Value), t.get i = some v → GC v cs[i]?)
    (h : ∀ a, Top (cxOf P ex me gv (orc []) [] U) w0 R s fi.ntmps ⟨Tr.putList args .nil 0, []⟩ ⟨.nil, N, N⟩ w0 a → fi.body.wpIn (Fw none) 0 P (Done P ex me gv orc U w0 R fi b) a w0) :
    Calls P f ⟨args'⟩ w0 (fun e w' => e = .returned (.bool b) ∧ Below w0.heap.size w0 w') := by
  obtain ⟨fn, hfn, hfo⟩ := (cx_ok P ex me gv (orc []) [] U).fn f fi hfi
  obtain ⟨p1, p2, p3, p4⟩ := fi_parts hfo
  refine (callsIn_wide (n := 0)).1 (callsIn_of_wp_marks hfn p1 trivial ?_ rfl)
  have T0 : Top (cxOf P ex me gv (orc []) [] U) w0 R s fi.ntmps ⟨Tr.putList args .nil 0, []⟩ ⟨.nil, N, N⟩ w0 { tmps := (⟨args'⟩ : Array Value) ++ Array.replicate (fn.ntmps - (⟨args'⟩ : Array Value).size) undef, defers := [] } := by
    refine ⟨fun _ => none, ⟨.inl ⟨rfl, rfl⟩, enter_tr (P := P) hargs p2 hle [], trivial, Nat.le_refl _, ⟨(fun _ _ _ h1 => by cases h1), (fun _ _ _ _ h1 => by cases h1), (fun _ _ h1 => by cases h1), (fun _ _ h1 => by rw [Tr.get_nil] at h1; cases h1)⟩,
      ⟨fun g t hg => ⟨hgv g t hg, fun _ _ h1 => by cases h1⟩, ⟨fun k vs hk => uRd_ok _ R k vs hk, fun _ _ h1 => by cases h1⟩, fun a v hv => ⟨(hw a v hv).2, fun _ _ h1 => by cases h1⟩⟩⟩, fun _ _ => rfl, (fun _ _ h1 => by cases h1), Below.refl _ _⟩
  refine wpIn_mono (h _ T0) (fun e a w hd => ?_)
  obtain ⟨rfl, s', fm, hp, as, ⟨f', fs, hn, hi, hb⟩, hh, hd⟩ := hd
  unfold doneB at hd
  simp only at hd
  split at hd
  case h_2 => cases hd
  rename_i hds hres
  rename_i v
  split at hd
  case h_2 => cases hd
  rename_i c hc
  have hcb : c = b := by simpa using hd
  subst hcb
  have hm := fs.mks
  rw [hds] at hm
  have hdf := hm.nil
  have ok := cx_ok P ex me gv (orc as) as U
  obtain ⟨v', r1, r2⟩ := results_ok (fn := fn) ok fs.tr fs.inv (by rw [p3]; exact hres)
  have hv' : v' = .bool c := boolA_ok (gw_as fs.gw hh).as r1 hc
  subst hv'
  show LeavesInM _ 0 P fn a.tmps _ a.defers .returning w
  rw [hdf]
  exact ⟨_, r2, rfl, hb⟩
end
end Go.Proofs.YtejnaedignfmoaaGreatDoor.Ev
