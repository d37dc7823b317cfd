import Derived.Test.YtaepplhgeeaidaaDoorEvAl
set_option linter.unusedVariables false
set_option linter.unusedSimpArgs false
set_option linter.unusedSectionVars false
namespace Go.Proofs.YtaepplhgeeaidaaDoor.Ev
open Go Go.RowKit
section
variable {s : Nat → Value} {u : Nat → List Value → Option Value}
theorem Holds_of {e : Value} {b : Bool} (h : denS s u e = some (.bool b)) : Holds s u e b := fun d v hd _ => by
  rw [denS_of hd] at h
  exact Option.some.inj h
end
inductive VT where
  | go (p : Nat) (r : List (Nat × Nat)) (L : Ms)
  | ret (vs : List Value) (rs : List (Nat × AObj))
  | node (e : Value) (t f : VT)
  | dead
noncomputable def upd (s : Nat → Value) (u : Nat → List Value → Option Value) (L : Ms) : Nat → Value := fun i => match getL i L with
  | some e => match denS s u e with
    | some v => v
    | none => s i
  | none => s i
def At (u : Nat → List Value → Option Value) (X : Nat → (Nat → Value) → Prop) (Q : (Nat → Value) → List Value → List (Nat × AObj) → Prop) (s : Nat → Value) : VT → Prop
  | .go p _ L => X p (upd s u L)
  | .ret vs rs => Q s vs rs
  | .node e t f => match denS s u e with
    | some (.bool true) => At u X Q s t
    | some (.bool false) => At u X Q s f
    | _ => False
  | .dead => False
def EndsN (u : Nat → List Value → Option Value) (tab : List VT) (Q : (Nat → Value) → List Value → List (Nat × AObj) → Prop) : Nat → Nat → (Nat → Value) → Prop
  | 0, _, _ => False
  | n + 1, p, s => At u (EndsN u tab Q n) Q s (tab.getD p .dead)
def Ends (u : Nat → List Value → Option Value) (tab : List VT) (Q : (Nat → Value) → List Value → List (Nat × AObj) → Prop) (p : Nat) (s : Nat → Value) : Prop := ∃ n, EndsN u tab Q n p s
section
variable {u : Nat → List Value → Option Value} {tab : List VT} {Q : (Nat → Value) → List Value → List (Nat × AObj) → Prop}
theorem Ends_mk {p : Nat} {s : Nat → Value} (h : At u (Ends u tab Q) Q s (tab.getD p .dead)) : Ends u tab Q p s := by
  have key : ∀ t : VT, At u (Ends u tab Q) Q s t → ∃ n, At u (EndsN u tab Q n) Q s t := by
    intro t
    induction t with
    | go p r L => exact fun h => h
    | ret vs rs => exact fun h => ⟨0, h⟩
    | dead => exact fun h => h.elim
    | node e t f iht ihf =>
      intro h
      unfold At at h
      split at h
      · rename_i hd
        obtain ⟨n, hn⟩ := iht h
        exact ⟨n, by unfold At; rw [hd]; exact hn⟩
      · rename_i hd
        obtain ⟨n, hn⟩ := ihf h
        exact ⟨n, by unfold At; rw [hd]; exact hn⟩
      · exact h.elim
  obtain ⟨n, hn⟩ := key _ h
  exact ⟨n + 1, hn⟩
end
def ren : List (Nat × Nat) → Nat → Option Nat
  | [], _ => none
  | p :: l, b => match Nat.beq p.1 b with
    | true => some p.2
    | false => ren l b
def renIs (r : List (Nat × Nat)) (b b' : Nat) : Bool := match ren r b with
  | some x => Nat.beq x b'
  | none => false
def renOk (r : List (Nat × Nat)) (nx : Nat) : Bool := r.all fun p => Nat.blt p.1 nx && r.all fun q => !Nat.beq p.2 q.2 || Nat.beq p.1 q.1
theorem ren_mem {r : List (Nat × Nat)} {b x : Nat} (h : ren r b = some x) : (b, x) ∈ r := by
  induction r with
  | nil => cases h
  | cons p l ih =>
    unfold ren at h
    split at h
    · rename_i hb
      injection h with h
      obtain ⟨p1, p2⟩ := p
      obtain rfl := Nat.eq_of_beq_eq_true hb
      subst h
      exact List.mem_cons_self
    · exact List.mem_cons_of_mem _ (ih h)
theorem renIs_ok {r : List (Nat × Nat)} {b b' : Nat} (h : renIs r b b' = true) : ren r b = some b' := by
  unfold renIs at h
  split at h
  · rename_i x hx
    rw [hx, Nat.eq_of_beq_eq_true h]
  · cases h
theorem renOk_lt {r : List (Nat × Nat)} {nx b x : Nat} (h : renOk r nx = true) (hb : ren r b = some x) : b < nx := by
  have := List.all_eq_true.1 h _ (ren_mem hb)
  rw [Bool.and_eq_true] at this
  exact Nat.blt_eq.mp this.1
theorem renOk_inj {r : List (Nat × Nat)} {nx b b' x : Nat} (h : renOk r nx = true) (hb : ren r b = some x) (hb' : ren r b' = some x) : b = b' := by
  have := List.all_eq_true.1 h _ (ren_mem hb)
  rw [Bool.and_eq_true] at this
  have := List.all_eq_true.1 this.2 _ (ren_mem hb')
  rw [Nat.beq_refl, Bool.not_true, Bool.false_or] at this
  exact Nat.eq_of_beq_eq_true this
mutual
def matchR (ops : Nat → Bool) (r : List (Nat × Nat)) (B : Nat) : Nat → Value → Value → Option Ms
  | 0, _, _ => none
  | d + 1, p, e => match p with
    | .func (.methodOf 0 nm) ⟨[.int k (.ofNat i)]⟩ ⟨[.int k2 (.ofNat ty)]⟩ => match Nat.ble B i with
      | true => match (isSym e && Nat.beq (symTy e) ty) || (flat e && tyOk ty e) with
        | true => some [(i, ty, e)]
        | false => none
      | false => match vEq 60 p e with
        | true => some []
        | false => none
    | .agg ps => match e with
      | .agg es => matchRL ops r B d ps.toList es.toList
      | _ => none
    | .func (.yield b) ⟨[p]⟩ ⟨[]⟩ => match e with
      | .func (.yield b') ⟨[e]⟩ ⟨[]⟩ => match renIs r b b' with
        | true => matchR ops r B d p e
        | false => none
      | .slice (some a) n c => match renIs r b a.block && (Nat.beq a.off 0 && (Nat.ble 1 n && (Nat.ble n c && ops a.block))) with
        | true => matchR ops r B d p (.int .i64 (.ofNat n))
        | false => none
      | _ => none
    | .func (.func g) ⟨ps⟩ ⟨qs⟩ => match e with
      | .func (.func g') ⟨es⟩ ⟨fs⟩ => match Nat.beq g g', matchRL ops r B d ps es, matchRL ops r B d qs fs with
        | true, some l, some l' => some (l ++ l')
        | _, _, _ => none
      | _ => none
    | .pointer (some a) => match e with
      | .pointer (some a') => match renIs r a.block a'.block && Nat.beq a.off a'.off, a.spot with
        | true, none => some []
        | _, _ => none
      | _ => none
    | .slice (some a) n c => match e with
      | .slice (some a') n' c' => match renIs r a.block a'.block && (Nat.beq a.off a'.off && (Nat.beq n n' && Nat.beq c c')), a.spot with
        | true, none => some []
        | _, _ => none
      | _ => none
    | p => match vEq 60 p e && cleanV B 0 60 p with
      | true => some []
      | false => none
def matchRL (ops : Nat → Bool) (r : List (Nat × Nat)) (B : Nat) : Nat → List Value → List Value → Option Ms
  | 0, _, _ => none
  | _ + 1, [], [] => some []
  | d + 1, p :: ps, e :: es => match matchR ops r B d p e, matchRL ops r B d ps es with
    | some l, some l' => some (l ++ l')
    | _, _ => none
  | _ + 1, _, _ => none
end
theorem matchR_ok {ops : Nat → Bool} {r : List (Nat × Nat)} {B : Nat} {m : Emb} {f' : Nat → Option Ent} {s' : Nat → Value} (hops : ∀ b e, ops b = true → m b = some e → ∃ tot z, e.op = some (tot, z)) (hf' : ∀ b x, ren r b = some x → f' b = m x) (hs : ∀ i, i < B → s' i = m.s i) : ∀ (d : Nat),
    (∀ (p e v' : Value) (L : Ms), matchR ops r B d p e = some L → RV m e v' → Are m.s m.u L ∧ (Fits m.s m.u s' L → RV ⟨f', s', m.u⟩ p v')) ∧
    (∀ (ps es vs' : List Value) (L : Ms), matchRL ops r B d ps es = some L → RVs m es vs' → Are m.s m.u L ∧ (Fits m.s m.u s' L → RVs ⟨f', s', m.u⟩ ps vs')) := by
  intro d
  induction d with
  | zero => exact ⟨fun _ _ _ _ h => by simp [matchR] at h, fun _ _ _ _ h => by simp [matchRL] at h⟩
  | succ d ih =>
    have nilA : Are m.s m.u [] := fun x hx => by cases hx
    refine ⟨fun p e v' L h hv => ?_, fun ps es vs' L h hv => ?_⟩
    · unfold matchR at h
      split at h
      · rename_i nm k i k2 ty
        split at h
        · split at h
          case h_2 => cases h
          rename_i hb hk
          injection h with h
          subst h
          have key : ∃ d, den m.s m.u d e = some v' ∧ tyOk ty v' = true := by
            rw [Bool.or_eq_true, Bool.and_eq_true, Bool.and_eq_true] at hk
            rcases hk with ⟨k1, k3⟩ | ⟨k1, k3⟩
            · obtain ⟨⟨d', hd'⟩, ht⟩ := hv.sym_iff k1
              exact ⟨d', hd', by rw [← Nat.eq_of_beq_eq_true k3]; exact ht⟩
            · rw [hv.flat_iff k1]
              exact ⟨1, den_flat k1 0, k3⟩
          obtain ⟨d', hd', ht⟩ := key
          refine ⟨fun x hx => by rw [List.mem_singleton.1 hx]; exact ⟨d', v', hd', ht⟩, fun hf => ?_⟩
          have hsi : s' i = v' := hf _ (List.mem_singleton.2 rfl) d' v' hd'
          exact .sym 0 nm _ _ v' 1 (by show some (s' i) = some v'; rw [hsi]) ht
        · split at h
          case h_2 => cases h
          rename_i he
          injection h with h
          subst h
          obtain rfl := vEq_ok 60 _ _ he
          refine ⟨nilA, fun _ => rv_clean (N := 0) (fun b hb => absurd hb (Nat.not_lt_zero b)) hs hv 1 ?_⟩
          show Nat.blt i B = true
          have hb : Nat.ble B i = false := by assumption
          exact Nat.blt_eq.mpr (Nat.lt_of_not_le (fun hl => by rw [Nat.ble_eq_true_of_le hl] at hb; cases hb))
      · rename_i ps
        split at h
        · rename_i es
          obtain ⟨ps⟩ := ps
          obtain ⟨es⟩ := es
          obtain ⟨es', rfl, h1⟩ := hv.agg_iff
          obtain ⟨k1, k2⟩ := ih.2 ps es es' L h h1
          exact ⟨k1, fun hf => .agg _ _ (k2 hf).1 (k2 hf).2⟩
        · cases h
      · rename_i b p
        split at h
        · rename_i b' e
          split at h
          case h_2 => cases h
          rename_i hr
          have hr := renIs_ok hr
          cases hv with
          | flat _ h => simp [Ev.flat] at h
          | func _ hn _ _ _ _ _ _ _ _ => simp [noYield] at hn
          | seq _ n k c' a' hn hc hb =>
            obtain ⟨k1, k2⟩ := ih.1 p e _ L h hn
            obtain ⟨en, tot, z, he, ha⟩ := hb
            exact ⟨k1, fun hf => .seq b p k c' a' (k2 hf) hc ⟨en, tot, z, (hf' b b' hr).trans he, ha⟩⟩
        · rename_i a n c
          split at h
          case h_2 => cases h
          rename_i hr
          simp only [Bool.and_eq_true] at hr
          obtain ⟨h1, h2, h3, h5, h4⟩ := hr
          have h1 := renIs_ok h1
          have h2 := Nat.eq_of_beq_eq_true h2
          have h3 := Nat.le_of_ble_eq_true h3
          have h5 := Nat.le_of_ble_eq_true h5
          obtain ⟨a', c', rfl, hsp, en, he, hrs⟩ := hv.slice_iff
          obtain ⟨tot, z, hop⟩ := hops _ _ h4 he
          obtain ⟨k1, k2⟩ := ih.1 p _ _ L h (.flat (.int .i64 (.ofNat n)) rfl)
          rcases hrs with ⟨q1, -⟩ | ⟨tot', z', q1, q2, q3, q4, q5, q6⟩
          · rw [q1] at hop; cases hop
          · have q7 : a'.off = en.o + a.off := by rcases q4 with q4 | q4 <;> omega
            clear q4
            refine ⟨k1, fun hf => .seq b p n c' a' (k2 hf) ?_ ⟨en, tot', z', (hf' b _ h1).trans he, q1, ?_, ?_⟩⟩
            · exact Nat.le_trans h5 q5
            · obtain ⟨ab, ao, asp⟩ := a'
              simp only at q2 q3 q7
              subst q2; subst q3
              rw [q7, h2]
              rfl
            · rw [q7, h2] at q6
              exact q6
        · cases h
      · rename_i g ps qs
        split at h
        case h_2 => cases h
        rename_i g' es fs
        split at h
        case h_2 => cases h
        rename_i l l' hg h1 h2
        injection h with h
        subst h
        obtain rfl := Nat.eq_of_beq_eq_true hg
        obtain ⟨xs', ys', rfl, w1, w2⟩ := hv.func_iff rfl
        obtain ⟨k1, k2⟩ := ih.2 ps es xs' l h1 w1
        obtain ⟨k3, k4⟩ := ih.2 qs fs ys' l' h2 w2
        refine ⟨fun x hx => ?_, fun hf => ?_⟩
        · rcases List.mem_append.1 hx with hx | hx
          · exact k1 x hx
          · exact k3 x hx
        · have r1 := k2 fun x hx => hf x (List.mem_append.2 (.inl hx))
          have r2 := k4 fun x hx => hf x (List.mem_append.2 (.inr hx))
          exact .func _ rfl _ _ _ _ r1.1 r2.1 r1.2 r2.2
      · rename_i a
        split at h
        case h_2 => cases h
        rename_i a'
        split at h
        case h_2 => cases h
        rename_i hr hsp
        injection h with h
        subst h
        rw [Bool.and_eq_true] at hr
        have h1 := renIs_ok hr.1
        have h2 := Nat.eq_of_beq_eq_true hr.2
        obtain ⟨x, rfl, q1, en, q2, q3⟩ := hv.ptr_iff
        exact ⟨nilA, fun _ => .ptr a x ⟨hsp, en, (hf' _ _ h1).trans q2, by rw [h2]; exact q3⟩⟩
      · rename_i a n c
        split at h
        case h_2 => cases h
        rename_i a' n' c'
        split at h
        case h_2 => cases h
        rename_i hr hsp
        injection h with h
        subst h
        simp only [Bool.and_eq_true] at hr
        obtain ⟨h1, h2, h3, h4⟩ := hr
        have h1 := renIs_ok h1
        have h2 := Nat.eq_of_beq_eq_true h2
        obtain rfl := Nat.eq_of_beq_eq_true h3
        obtain rfl := Nat.eq_of_beq_eq_true h4
        obtain ⟨x, cx, rfl, q1, en, q2, q3⟩ := hv.slice_iff
        exact ⟨nilA, fun _ => .slice a x n c cx ⟨hsp, en, (hf' _ _ h1).trans q2, by rw [h2]; exact q3⟩⟩
      · split at h
        case h_2 => cases h
        rename_i he
        injection h with h
        subst h
        rw [Bool.and_eq_true] at he
        obtain rfl := vEq_ok 60 _ _ he.1
        exact ⟨nilA, fun _ => rv_clean (N := 0) (fun b hb => absurd hb (Nat.not_lt_zero b)) hs hv 60 he.2⟩
    · unfold matchRL at h
      split at h
      · cases h
      · injection h with h
        subst h
        exact ⟨nilA, fun _ => by rw [hv.nil_left]; exact .nil _⟩
      · rename_i d0 p ps e es hd0
        obtain rfl : d0 = d := by omega
        split at h
        case h_2 => cases h
        rename_i l l' h1 h2
        injection h with h
        subst h
        obtain ⟨e', t, rfl, q1, q2⟩ := hv.head
        obtain ⟨k1, k2⟩ := ih.1 p e e' l h1 q1
        obtain ⟨k3, k4⟩ := ih.2 ps es t l' h2 q2
        refine ⟨fun x hx => ?_, fun hf => ?_⟩
        · rcases List.mem_append.1 hx with hx | hx
          · exact k1 x hx
          · exact k3 x hx
        · exact .cons (k2 fun x hx => hf x (List.mem_append.2 (.inl hx))) (k4 fun x hx => hf x (List.mem_append.2 (.inr hx)))
      · cases h
noncomputable def trR (ops : Nat → Bool) (r : List (Nat × Nat)) (B : Nat) (t : Tr Value) : List (Nat × Value) → Option Ms
  | [] => some []
  | x :: l => match (match t.get x.1 with
      | some e => matchR ops r B 60 x.2 e
      | none => none), trR ops r B t l with
    | some a, some b => some (a ++ b)
    | _, _ => none
noncomputable def rowR (ops : Nat → Bool) (r : List (Nat × Nat)) (B : Nat) (t t' : Tr Value) : Nat → Option Ms
  | 0 => some []
  | n + 1 => match t.get n, t'.get n with
    | some p, some e => match matchR ops r B 60 p e, rowR ops r B t t' n with
      | some a, some b => some (a ++ b)
      | _, _ => none
    | _, _ => none
noncomputable def obR (ops : Nat → Bool) (r : List (Nat × Nat)) (B : Nat) : AObj → Option AObj → Option Ms
  | .cells t n ty op str, some (.cells t' n' ty' op' str') => match Nat.beq n n', Nat.beq ty ty', decide (op = op'), (!str' || str) with
    | true, true, true, true => rowR ops r B t t' n
    | _, _, _, _ => none
  | .seq e n ks ty, some (.cells t nb ty' (some z) _) => match Nat.beq z ks.length && (Nat.beq ty ty' && Nat.beq nb (Nat.div nb z * z)), matchR ops r B 60 n (.int .i64 (.ofNat (Nat.div nb z))), Tr.list nb t 0 with
    | true, some l, some cs => match cellsK ks 0 cs, e with
      | true, .func (.methodOf 0 _) ⟨[.int _ (.ofNat i)]⟩ _ => match Nat.ble B i with
        | true => some ((i, 20, sy 0 11 (num 3 :: cs)) :: l)
        | false => none
      | _, _ => none
    | _, _, _ => none
  | .seq e n ks ty, some (.seq e' n' ks' ty') => match lEq Nat.beq ks ks', Nat.beq ty ty', matchR ops r B 60 n n' with
    | true, true, some l => match e with
      | .func (.methodOf 0 _) ⟨[.int _ (.ofNat i)]⟩ _ => match Nat.ble B i with
        | true => some ((i, 20, e') :: l)
        | false => none
      | _ => none
    | _, _, _ => none
  | _, _ => none
noncomputable def hpR (ops : Nat → Bool) (r : List (Nat × Nat)) (B : Nat) (t : Tr AObj) : List (Nat × AObj) → Option Ms
  | [] => some []
  | x :: l => match (match ren r x.1 with
      | some k => obR ops r B x.2 (t.get k)
      | none => none), hpR ops r B t l with
    | some a, some b => some (a ++ b)
    | _, _ => none
noncomputable def opsOf (hp : Hp) (b : Nat) : Bool := match hp.tr.get b with
  | some (.cells _ _ _ (some _) _) => true
  | _ => false
noncomputable def absR (r : List (Nat × Nat)) (B : Nat) (G : Fm) (Gh : Hp) (fm : Fm) (hp : Hp) : Option Ms :=
  match G.ds, fm.ds, renOk r Gh.nx, keysLt Gh.nx Gh.tr id with
  | [], [], true, true => match trR (opsOf hp) r B fm.tm G.tm.pairs, hpR (opsOf hp) r B hp.tr Gh.tr.pairs with
    | some a, some b => some (a ++ b)
    | _, _ => none
  | _, _, _, _ => none
section
variable {ops : Nat → Bool} {r : List (Nat × Nat)} {B : Nat}
theorem trR_ok {t' : Tr Value} : ∀ (l : List (Nat × Value)) (L : Ms), trR ops r B t' l = some L → (∀ k p, (k, p) ∈ l → ∃ e L', t'.get k = some e ∧ matchR ops r B 60 p e = some L' ∧ ∀ x, x ∈ L' → x ∈ L) ∧
    (∀ x, x ∈ L → ∃ k p e L', t'.get k = some e ∧ matchR ops r B 60 p e = some L' ∧ x ∈ L')
  | [], L, h => by
    simp only [trR] at h
    injection h with h
    subst h
    exact ⟨(fun k p h => by cases h), (fun x h => by cases h)⟩
  | y :: l, L, hm => by
    unfold trR at hm
    split at hm
    case h_2 => cases hm
    rename_i a b h1 h2
    injection hm with hm
    subst hm
    obtain ⟨i1, i2⟩ := trR_ok l b h2
    split at h1
    case h_2 => cases h1
    rename_i e he
    refine ⟨fun k p h => ?_, fun x hx => ?_⟩
    · rcases List.mem_cons.1 h with rfl | h
      · exact ⟨e, a, he, h1, fun x hx => List.mem_append.2 (.inl hx)⟩
      · obtain ⟨e, L', k1, k2, k3⟩ := i1 k p h
        exact ⟨e, L', k1, k2, fun x hx => List.mem_append.2 (.inr (k3 x hx))⟩
    · rcases List.mem_append.1 hx with hx | hx
      · exact ⟨y.1, y.2, e, a, he, h1, hx⟩
      · exact i2 x hx
theorem hpR_ok {t' : Tr AObj} : ∀ (l : List (Nat × AObj)) (L : Ms), hpR ops r B t' l = some L → (∀ k ob, (k, ob) ∈ l → ∃ k' L', ren r k = some k' ∧ obR ops r B ob (t'.get k') = some L' ∧ ∀ x, x ∈ L' → x ∈ L) ∧
    (∀ x, x ∈ L → ∃ k ob k' L', ren r k = some k' ∧ obR ops r B ob (t'.get k') = some L' ∧ x ∈ L')
  | [], L, h => by
    simp only [hpR] at h
    injection h with h
    subst h
    exact ⟨(fun k p h => by cases h), (fun x h => by cases h)⟩
  | y :: l, L, hm => by
    unfold hpR at hm
    split at hm
    case h_2 => cases hm
    rename_i a b h1 h2
    injection hm with hm
    subst hm
    obtain ⟨i1, i2⟩ := hpR_ok l b h2
    split at h1
    case h_2 => cases h1
    rename_i k' hk'
    refine ⟨fun k ob h => ?_, fun x hx => ?_⟩
    · rcases List.mem_cons.1 h with rfl | h
      · exact ⟨k', a, hk', h1, fun x hx => List.mem_append.2 (.inl hx)⟩
      · obtain ⟨k2, L', j0, j1, j2⟩ := i1 k ob h
        exact ⟨k2, L', j0, j1, fun x hx => List.mem_append.2 (.inr (j2 x hx))⟩
    · rcases List.mem_append.1 hx with hx | hx
      · exact ⟨y.1, y.2, k', a, hk', h1, hx⟩
      · exact i2 x hx
theorem rowR_ok {t t' : Tr Value} : ∀ (n : Nat) (L : Ms), rowR ops r B t t' n = some L → (∀ i, i < n → ∃ p e L', t.get i = some p ∧ t'.get i = some e ∧ matchR ops r B 60 p e = some L' ∧ ∀ x, x ∈ L' → x ∈ L) ∧
    (∀ x, x ∈ L → ∃ i p e L', i < n ∧ t.get i = some p ∧ t'.get i = some e ∧ matchR ops r B 60 p e = some L' ∧ x ∈ L')
  | 0, L, h => by
    simp only [rowR] at h
    injection h with h
    subst h
    exact ⟨(fun i hi => absurd hi (Nat.not_lt_zero i)), (fun x h => by cases h)⟩
  | n + 1, L, h => by
    unfold rowR at h
    split at h
    case h_2 => cases h
    rename_i p e hp he
    split at h
    case h_2 => cases h
    rename_i a b h1 h2
    injection h with h
    subst h
    obtain ⟨i1, i2⟩ := rowR_ok n b h2
    refine ⟨fun i hi => ?_, fun x hx => ?_⟩
    · by_cases hin : i = n
      · subst hin
        exact ⟨p, e, a, hp, he, h1, fun x hx => List.mem_append.2 (.inl hx)⟩
      · obtain ⟨p', e', L', k1, k2, k3, k4⟩ := i1 i (by omega)
        exact ⟨p', e', L', k1, k2, k3, fun x hx => List.mem_append.2 (.inr (k4 x hx))⟩
    · rcases List.mem_append.1 hx with hx | hx
      · exact ⟨n, p, e, a, by omega, hp, he, h1, hx⟩
      · obtain ⟨i, p', e', L', k0, k1, k2, k3, k4⟩ := i2 x hx
        exact ⟨i, p', e', L', by omega, k1, k2, k3, k4⟩
end
theorem Top.absR {cx : Cx} {w0 : World} {R : Addr → Option Value} {s : Nat → Value} {sz : Nat} {fm : Fm} {hp : Hp} {w : World} {a : Act} (has : cx.as = []) (T : Top cx w0 R s sz fm hp w a) {r : List (Nat × Nat)} {B : Nat} {G : Fm} {Gh : Hp} {L : Ms} (h : Ev.absR r B G Gh fm hp = some L)
    {s' : Nat → Value} (hs : ∀ i, i < B → s' i = s i) (hf : Fits s (uRd cx R) s' L) : Top cx w0 R s' sz G Gh w a := by
  obtain ⟨f, fs, hn, hi, hb⟩ := T
  unfold Ev.absR at h
  split at h
  case h_2 => cases h
  rename_i d1 d2 hnx hky
  split at h
  case h_2 => cases h
  rename_i A1 A2 h1 h2
  injection h with h
  subst h
  obtain ⟨t1, t2⟩ := trR_ok _ _ h1
  obtain ⟨p1, p2⟩ := hpR_ok _ _ h2
  let f' : Nat → Option Ent := fun b => match ren r b with
    | some x => f x
    | none => none
  have hf' : ∀ b x, ren r b = some x → f' b = (⟨f, s, uRd cx R⟩ : Emb) x := fun b x hb => by
    show (match ren r b with | some x => f x | none => none) = f x
    rw [hb]
  have sub : ∀ b e, f' b = some e → ∃ x, ren r b = some x ∧ f x = some e := fun b e he => by
    have he : (match ren r b with | some x => f x | none => none) = some e := he
    split at he
    · rename_i x hx
      exact ⟨x, hx, he⟩
    · cases he
  have hs' : ∀ i, i < B → s' i = (⟨f, s, uRd cx R⟩ : Emb).s i := hs
  have hops : ∀ b e, opsOf hp b = true → (⟨f, s, uRd cx R⟩ : Emb) b = some e → ∃ tot z, e.op = some (tot, z) := fun b e ho he => by
    unfold opsOf at ho
    split at ho
    · rename_i t n ty z str hg
      obtain ⟨-, q1, -⟩ := fs.inv.obj b e _ he hg (by simp)
      cases hop : e.op with
      | none => rw [hop] at q1; cases q1
      | some p => exact ⟨p.1, p.2, rfl⟩
    · cases ho
  have rv : ∀ {p e v' : Value} {L' : Ms}, matchR (opsOf hp) r B 60 p e = some L' → (∀ x, x ∈ L' → x ∈ A1 ++ A2) → RV ⟨f, s, uRd cx R⟩ e v' → RV ⟨f', s', uRd cx R⟩ p v' := fun hm hsub hv =>
    ((matchR_ok hops hf' hs' 60).1 _ _ _ _ hm hv).2 (fun x hx => hf x (hsub x hx))
  refine ⟨f', ⟨.inl ⟨rfl, rfl⟩, ⟨fs.tr.size, rfl, fun t v hv => ?_⟩, ?_, fs.big, ⟨fun b e ob he hob hd => ?_, fun b b' e e' h1 h2 l1 l2 hc => ?_, fun b e he => ?_, fun b ob hob => keysLt_ok _ id hky b ob hob⟩,
    ⟨fun g t hg => ⟨(fs.gw.at_ g t hg).1, fun b e he => ?_⟩, ⟨fun k vs hk => fs.gw.as.1 k vs hk, fun e b he => by rw [has] at he; cases he⟩, fun x v hv => ⟨(fs.gw.frz x v hv).1, fun b e he => ?_⟩⟩⟩, fun b hbn => ?_, fun b e he => ?_, hb⟩
  · obtain ⟨e, L', k1, k2, k3⟩ := t1 t v (Tr.pairs_of hv)
    exact rv k2 (fun x hx => List.mem_append.2 (.inl (k3 x hx))) (fs.tr.val t e k1)
  · have := fs.mks
    rw [d2] at this
    rw [this.nil, d1]
    trivial
  · obtain ⟨x, hx, hfx⟩ := sub b e he
    obtain ⟨k', L', k0, k1, k2⟩ := p1 b ob (Tr.pairs_of hob)
    have hk : k' = x := Option.some.inj (k0.symm.trans hx)
    subst hk
    unfold obR at k1
    split at k1
    · rename_i t n ty op str t' n' ty' op' str' hg
      split at k1
      case h_2 => cases k1
      rename_i e1 e2 e3 e4
      obtain rfl := Nat.eq_of_beq_eq_true e1
      obtain rfl := Nat.eq_of_beq_eq_true e2
      obtain rfl := of_decide_eq_true e3
      obtain ⟨q1, q2⟩ := fs.inv.obj k' e _ hfx hg (by simp)
      obtain ⟨r1, cs, fr, r2, r3, r4, r5, r6⟩ := q2
      obtain ⟨w1, -⟩ := rowR_ok _ _ k1
      refine ⟨q1, r1, cs, fr, r2, fun i hin => ?_, r4, r5, ?_⟩
      · obtain ⟨p, x, L3, j1, j2, j3, j4⟩ := w1 i hin
        obtain ⟨v, v', u1, u2, u3⟩ := r3 i hin
        rw [j2] at u1
        obtain rfl := Option.some.inj u1
        exact ⟨p, v', j1, u2, rv j3 (fun x hx => List.mem_append.2 (.inr (k2 x (j4 x hx)))) u3⟩
      · obtain ⟨z, z1, z2⟩ := r6
        refine ⟨z, z1, fun hz => ?_⟩
        have := z2 hz
        subst this
        simpa using e4
    · rename_i x n ks ty t nb ty' z str hg
      split at k1
      case h_2 => cases k1
      rename_i l cs0 e1 e2 e3
      simp only [Bool.and_eq_true] at e1
      obtain ⟨g1, g2, g3⟩ := e1
      have g1 := Nat.eq_of_beq_eq_true g1
      obtain rfl := Nat.eq_of_beq_eq_true g2
      have g3 := Nat.eq_of_beq_eq_true g3
      split at k1
      case h_2 => cases k1
      rename_i nm kk i ys hck
      split at k1
      case h_2 => cases k1
      injection k1 with k1
      subst k1
      obtain ⟨q1, q2, cs, fr, r2, r3, r4, r5, r6⟩ := fs.inv.obj k' e _ hfx hg (by simp)
      obtain ⟨hl1, hl2⟩ := Tr.list_spec nb t 0 cs0 e3
      obtain ⟨cs', hcs'⟩ : ∃ cs' : List Value, RVs ⟨f, s, uRd cx R⟩ cs0 cs' ∧ ∀ i v, cs'[i]? = some v → cs[e.o + i]? = some v := by
        refine ⟨(List.range nb).map fun i => (cs[e.o + i]?).getD undef, RVs.of_at (by simp [hl1]) (fun i v v' h1 h2 => ?_), fun i v hi => ?_⟩
        · have hi : i < nb := by rw [← hl1]; exact (List.getElem?_eq_some_iff.1 h1).1
          obtain ⟨u, u', w1, w2, w3⟩ := r3 i hi
          rw [hl2 i hi, Nat.zero_add, w1] at h1
          simp only [List.getElem?_map, List.getElem?_range hi, Option.map_some, w2, Option.getD_some] at h2
          injection h1 with h1
          injection h2 with h2
          subst h1; subst h2
          exact w3
        · have hi2 : i < nb := by
            have := (List.getElem?_eq_some_iff.1 hi).1
            simpa using this
          obtain ⟨u, u', w1, w2, w3⟩ := r3 i hi2
          simp only [List.getElem?_map, List.getElem?_range hi2, Option.map_some, w2, Option.getD_some] at hi
          injection hi with hi
          rw [w2, hi]
      obtain ⟨y1, y2⟩ := cellsK_ok hck hcs'.1
      obtain ⟨tot, z', hz'⟩ := hops k' e (by unfold opsOf; rw [hg]) hfx
      have hzz : z' = z := by
        rw [hz'] at q2
        simpa using q2.symm
      subst hzz
      have htot := r5 _ _ hz'
      refine ⟨q1, cs', cs, fr, ⟨⟨1, ?_⟩, ⟨Nat.div nb z', ?_, ?_⟩, fun q v hv => ⟨?_, hcs'.2 q v hv⟩⟩, r2, frOk_wide r6, ?_⟩
      · have hden : denS s (uRd cx R) (sy 0 11 (num 3 :: cs0)) = some (.agg ⟨cs'⟩) := by
          have as : AsOk cx ⟨f, s, uRd cx R⟩ := fs.gw.as
          rw [denS_app, mapO_of (denS_flat rfl) (hcs'.1.to_denS y1)]
          show uRd cx R 10 _ = _
          have := as.seq (num 3 :: cs')
          exact this
        obtain ⟨dd, hdd⟩ := denS_iff.1 hden
        have hx := hf (i, 20, sy 0 11 (num 3 :: cs0)) (List.mem_append.2 (.inr (k2 _ List.mem_cons_self))) dd _ hdd
        show some (s' i) = _
        rw [hx]
      · exact rv e2 (fun y hy => List.mem_append.2 (.inr (k2 y (List.mem_cons_of_mem _ hy)))) (.flat _ rfl)
      · rw [← hcs'.1.1, hl1, ← g1]
        exact g3
      · have := y2 q v hv
        rwa [Nat.zero_add] at this
      · rw [hz', htot, g1]
    · rename_i x n ks ty x' n' ks' ty' hg
      split at k1
      case h_2 => cases k1
      rename_i l e1 e2 e3
      obtain rfl := lEq_ok (fun _ _ => Nat.eq_of_beq_eq_true) _ _ e1
      obtain rfl := Nat.eq_of_beq_eq_true e2
      obtain ⟨q1, cells, cs, fr, ⟨⟨dd, r1⟩, ⟨k, r2, r3⟩, r4⟩, r5⟩ := fs.inv.obj k' e _ hfx hg (by simp)
      split at k1
      case h_2 => cases k1
      rename_i nm kk i ys
      split at k1
      case h_2 => cases k1
      injection k1 with k1
      subst k1
      refine ⟨q1, cells, cs, fr, ⟨⟨1, ?_⟩, ⟨k, ?_, r3⟩, r4⟩, r5⟩
      · have hx := hf (i, 20, x') (List.mem_append.2 (.inr (k2 _ List.mem_cons_self))) dd _ r1
        show some (s' i) = _
        rw [hx]
      · exact rv e3 (fun y hy => List.mem_append.2 (.inr (k2 y (List.mem_cons_of_mem _ hy)))) r2
    · cases k1
  · obtain ⟨x, hx, hfx⟩ := sub b e h1
    obtain ⟨x', hx', hfx'⟩ := sub b' e' h2
    have := fs.inv.inj x x' e e' hfx hfx' l1 l2 hc
    subst this
    exact renOk_inj hnx hx hx'
  · obtain ⟨x, hx, hfx⟩ := sub b e he
    exact fs.inv.low x e hfx
  · obtain ⟨x, hx, hfx⟩ := sub b e he
    exact (fs.gw.at_ g t hg).2 x e hfx
  · obtain ⟨y, hy, hfy⟩ := sub b e he
    exact (fs.gw.frz x v hv).2 y e hfy
  · cases hx : f' b with
    | none => rfl
    | some e =>
      obtain ⟨x, hx, -⟩ := sub b e hx
      have := renOk_lt hnx hx
      omega
  · obtain ⟨x, hx, hfx⟩ := sub b e he
    exact hi x e hfx
def consL (L : Ms) : Bool := L.all fun x => match getL x.1 L with
  | some e => vEq 60 e x.2.2
  | none => false
theorem upd_fits {s : Nat → Value} {u : Nat → List Value → Option Value} {L : Ms} (h : consL L = true) : Fits s u (upd s u L) L := fun x hx d v hv => by
  have hc := List.all_eq_true.1 h x hx
  split at hc
  · rename_i e he
    obtain rfl := vEq_ok 60 _ _ hc
    unfold upd
    rw [he]
    simp only [denS_of hv]
  · cases hc
theorem upd_low {s : Nat → Value} {u : Nat → List Value → Option Value} {L : Ms} {B : Nat} (h : (L.all fun x => Nat.ble B x.1) = true) {i : Nat} (hi : i < B) : upd s u L i = s i := by
  unfold upd
  split
  · rename_i e he
    obtain ⟨ty, hm⟩ := getL_mem he
    have := Nat.le_of_ble_eq_true (List.all_eq_true.1 h _ hm)
    omega
  · rfl
inductive TP where
  | run
  | seq (p : TP) (ms : List Nat) (q : TP)
  | block (p : TP)
  | loop (hs : List Nat) (p : TP)
  | cond (as : List Nat) (p : TP) (bs : List Nat) (q : TP)
  | scope (p : TP)
noncomputable def condRun (cx : Cx) (x : Operand) (G : Fm) (Gh : Hp) : CS :=
  match evX G.tm x with
  | some v => match boolA cx v with
    | some true => some [(.exit 0, G, Gh)]
    | some false => some [(.exit 1, G, Gh)]
    | none => none
  | none => none
def msEq (L L' : Ms) : Bool := lEq (fun x y => Nat.beq x.1 y.1 && (Nat.beq x.2.1 y.2.1 && vEq 60 x.2.2 y.2.2)) L L'
theorem msEq_ok {L L' : Ms} (h : msEq L L' = true) : L = L' := lEq_ok (fun x y h => by
  simp only [Bool.and_eq_true] at h
  exact Prod.ext (Nat.eq_of_beq_eq_true h.1) (Prod.ext (Nat.eq_of_beq_eq_true h.2.1) (vEq_ok 60 _ _ h.2.2))) _ _ h
def memN (p : Nat) (l : List Nat) : Bool := l.any fun q => Nat.beq q p
theorem memN_ok {p : Nat} {l : List Nat} (h : memN p l = true) : p ∈ l := by
  obtain ⟨q, hq, he⟩ := List.any_eq_true.1 h
  rw [← Nat.eq_of_beq_eq_true he]
  exact hq
def exL (id : Nat) : List (Nat × List Nat) → Option (List Nat)
  | [] => none
  | p :: l => match Nat.beq p.1 id with
    | true => some p.2
    | false => exL id l
noncomputable def rowsOk (hp : Hp) (rs : List (Nat × AObj)) : Bool := rs.all fun r => match r.2, hp.tr.get r.1 with
  | .seq e n ks ty, some (.seq e' n' ks' ty') => vEq 60 e e' && (vEq 60 n n' && (lEq Nat.beq ks ks' && Nat.beq ty ty'))
  | _, _ => false
theorem rowsOk_ok {hp : Hp} {rs : List (Nat × AObj)} (h : rowsOk hp rs = true) : ∀ b ob, (b, ob) ∈ rs → hp.tr.get b = some ob := fun b ob hm => by
  have := List.all_eq_true.1 h _ hm
  split at this
  · rename_i e n ks ty e' n' ks' ty' h1 h2
    simp only [Bool.and_eq_true] at this
    simp only at h1 h2
    rw [h1, h2, vEq_ok 60 _ _ this.1, vEq_ok 60 _ _ this.2.1, lEq_ok (fun _ _ => Nat.eq_of_beq_eq_true) _ _ this.2.2.1, Nat.eq_of_beq_eq_true this.2.2.2]
  · cases this
noncomputable def goOk (P : Program) (pls : List Asrt) (as : List (Value × Bool)) (p : Nat) (r : List (Nat × Nat)) (L : Ms) (fm : Fm) (hp : Hp) : Bool :=
  match pls[p]? with
  | some A => match absR r A.B A.G A.Gh fm hp with
    | some L' => msEq L' L && (consL L && ((L.all fun x => Nat.ble A.B x.1) && A.fs.all fun f => match cleanV A.B 0 60 f.1, asN f.1 as with
      | true, some b => b == f.2 && isSym f.1
      | _, _ => false))
    | none => false
  | none => false
noncomputable def landT (P : Program) (pls : List Asrt) (cx : List (Value × Bool) → Cx) (res : List ResultVar) (nrm : List Nat) (exs : List (Nat × List Nat)) (v : VT) (as : List (Value × Bool)) (o : AX × Fm × Hp) : Bool :=
  match v with
  | .go p r L => match o.1 with
    | .normal => memN p nrm && goOk P pls as p r L o.2.1 o.2.2
    | .exit id => match exL id exs with
      | some ps => memN p ps && goOk P pls as p r L o.2.1 o.2.2
      | none => false
    | _ => false
  | .ret vs rs => match o.1, o.2.1.ds, resA (cx as) o.2.1.tm o.2.2 res with
    | .ret, [], some vs' => lEq (vEq 60) vs' vs && rowsOk o.2.2 rs
    | _, _, _ => false
  | _ => false
section
variable {P : Program} {ex : List (FuncId × ExtK)} {me : List (TypeId × String × FuncId)} {gv : List (Nat × Tr Value)} {orc : List (Value × Bool) → List (FuncId × OrcF)} {U : Nat → List Value → Option Value}
noncomputable def goodT (P : Program) (pls : List Asrt) (cx : List (Value × Bool) → Cx) (res : List ResultVar) (nrm : List Nat) (exs : List (Nat × List Nat)) (v : VT) (as : List (Value × Bool)) (l : List (AX × Fm × Hp)) : Bool :=
  match l with
  | [o] => landT P pls cx res nrm exs v as o
  | _ => false
noncomputable def chkV (P : Program) (pls : List Asrt) (cx : List (Value × Bool) → Cx) (res : List ResultVar) (run : List (Value × Bool) → CS) (nrm : List Nat) (exs : List (Nat × List Nat)) (v : VT) : List (Value × Bool) → Bool :=
  VT.rec (motive := fun _ => List (Value × Bool) → Bool) (fun p r L as => goodC (goodT P pls cx res nrm exs (.go p r L)) as (run as))
    (fun vs rs as => goodC (goodT P pls cx res nrm exs (.ret vs rs)) as (run as))
    (fun e _ _ h1 h2 as => Bool.rec (motive := fun _ => Bool) false (Bool.rec (motive := fun _ => Bool) false (h2 ((e, false) :: as)) (h1 ((e, true) :: as))) (isSym e))
    (fun as => true) v
noncomputable def chkT (P : Program) (ex : List (FuncId × ExtK)) (me : List (TypeId × String × FuncId)) (gv : List (Nat × Tr Value)) (orc : List (Value × Bool) → List (FuncId × OrcF)) (U : Nat → List Value → Option Value) (n d sz : Nat)
    (res : List ResultVar) (pls : List Asrt) (tab : List VT) : TP → Code → List Nat → List Nat → List (Nat × List Nat) → Bool
  | .run, c, As, nrm, exs => As.all fun p => match pls[p]? with
    | some A => chkV P pls (fun as => cxOf P ex me gv (orc as) as U) res (fun as => evCode (cxOf P ex me gv (orc as) as U) (evFn (cxOf P ex me gv (orc as) as U) n d) sz n none c A.G A.Gh) nrm exs (tab.getD p .dead) A.fs
    | none => false
  | .seq p ms q, c, As, nrm, exs => match c with
    | .seq a b => chkT P ex me gv orc U n d sz res pls tab p a As ms exs && chkT P ex me gv orc U n d sz res pls tab q b ms nrm exs
    | _ => false
  | .block p, c, As, nrm, exs => match c with
    | .block id a => chkT P ex me gv orc U n d sz res pls tab p a As nrm ((id, nrm) :: exs)
    | _ => false
  | .loop hs p, c, As, nrm, exs => match c with
    | .loop a => (As.all fun p => memN p hs) && chkT P ex me gv orc U n d sz res pls tab p a hs hs exs
    | _ => false
  | .cond as p bs q, c, As, nrm, exs => match c with
    | .cond x a b => (As.all fun p => match pls[p]? with
      | some A => chkV P pls (fun as => cxOf P ex me gv (orc as) as U) res (fun as => condRun (cxOf P ex me gv (orc as) as U) x A.G A.Gh) [] [(0, as), (1, bs)] (tab.getD p .dead) A.fs
      | none => false) && (chkT P ex me gv orc U n d sz res pls tab p a as nrm exs && chkT P ex me gv orc U n d sz res pls tab q b bs nrm exs)
    | _ => false
  | .scope p, c, As, nrm, exs => match c with
    | .scope a => chkT P ex me gv orc U n d sz res pls tab p a As nrm exs
    | _ => false
structure GoesT (cx : Cx) (w0 : World) (R : Addr → Option Value) (sz : Nat) (res : List ResultVar) (cxa : List (Value × Bool) → Cx) (pls : List Asrt) (tab : List VT) (Q : (Nat → Value) → List Value → List (Nat × AObj) → Prop) (n : Nat) (nrm : List Nat) (exs : List (Nat × List Nat)) (Qx : Exit → Act → World → Prop) : Prop where
  on : ∀ p, p ∈ nrm → ∀ A, pls[p]? = some A → ∀ n' s a w, n' < n → Top cx w0 R s sz A.G A.Gh w a → (∀ e b, (e, b) ∈ A.fs → Holds s (uRd cx R) e b) → EndsN (uRd cx R) tab Q n' p s → Qx .normal a w
  out : ∀ id ps, exL id exs = some ps → ∀ p, p ∈ ps → ∀ A, pls[p]? = some A → ∀ n' s a w, n' < n → Top cx w0 R s sz A.G A.Gh w a → (∀ e b, (e, b) ∈ A.fs → Holds s (uRd cx R) e b) → EndsN (uRd cx R) tab Q n' p s → Qx (.exit id) a w
  fin : ∀ s fm hp as a w vs rs, Top cx w0 R s sz fm hp w a → (∀ e b, (e, b) ∈ as → isSym e = true → Holds s (uRd cx R) e b) → fm.ds = [] → resA (cxa as) fm.tm hp res = some vs → rowsOk hp rs = true → Q s vs rs → Qx .ret a w
theorem GoesT.le {cx : Cx} {w0 : World} {R : Addr → Option Value} {sz : Nat} {res : List ResultVar} {cxa : List (Value × Bool) → Cx} {pls : List Asrt} {tab : List VT} {Q : (Nat → Value) → List Value → List (Nat × AObj) → Prop} {n n' : Nat} {nrm : List Nat} {exs : List (Nat × List Nat)} {Qx : Exit → Act → World → Prop}
    (h : GoesT cx w0 R sz res cxa pls tab Q n nrm exs Qx) (hn : n' ≤ n) : GoesT cx w0 R sz res cxa pls tab Q n' nrm exs Qx :=
  ⟨fun p hp A hA k s a w hk => h.on p hp A hA k s a w (by omega), fun id ps he p hp A hA k s a w hk => h.out id ps he p hp A hA k s a w (by omega), h.fin⟩
theorem chkV_ok {sz : Nat} {res : List ResultVar} {pls : List Asrt} {tab : List VT} {nrm : List Nat} {exs : List (Nat × List Nat)} {run : List (Value × Bool) → CS} {Gl : Prop}
    {w0 : World} {R : Addr → Option Value} {s : Nat → Value} {Q : (Nat → Value) → List Value → List (Nat × AObj) → Prop} {Qx : Exit → Act → World → Prop} {k : Nat}
    (hrun : ∀ (good : List (Value × Bool) → List (AX × Fm × Hp) → Bool) (as0 : List (Value × Bool)), goodC good as0 (run as0) = true → (∀ e b, (e, b) ∈ as0 → Holds s (uRd (cxOf P ex me gv (orc []) [] U) R) e b) →
      (∀ as l, run as = some l → good as l = true → (∀ e b, (e, b) ∈ as → isSym e = true → Holds s (uRd (cxOf P ex me gv (orc []) [] U) R) e b) → ∀ o, o ∈ l → ∀ w' a', Top (cxOf P ex me gv (orc []) [] U) w0 R s sz o.2.1 o.2.2 w' a' → Qx (exitOf o.1) a' w') → Gl)
    (hW : GoesT (cxOf P ex me gv (orc []) [] U) w0 R sz res (fun as => cxOf P ex me gv (orc as) as U) pls tab Q (k + 1) nrm exs Qx) :
    ∀ (v : VT) (as : List (Value × Bool)), chkV P pls (fun as => cxOf P ex me gv (orc as) as U) res run nrm exs v as = true →
      (∀ e b, (e, b) ∈ as → Holds s (uRd (cxOf P ex me gv (orc []) [] U) R) e b) → At (uRd (cxOf P ex me gv (orc []) [] U) R) (EndsN (uRd (cxOf P ex me gv (orc []) [] U) R) tab Q k) Q s v → Gl := by
  intro v
  induction v with
  | dead => intro as _ _ h; exact h.elim
  | node e t f iht ihf =>
    intro as h ha hA
    have h : Bool.rec (motive := fun _ => Bool) false (Bool.rec (motive := fun _ => Bool) false (chkV P pls (fun as => cxOf P ex me gv (orc as) as U) res run nrm exs f ((e, false) :: as)) (chkV P pls (fun as => cxOf P ex me gv (orc as) as U) res run nrm exs t ((e, true) :: as))) (isSym e) = true := h
    obtain ⟨-, h⟩ := band_rec h
    obtain ⟨h1, h2⟩ := band_rec h
    have add : ∀ b, Holds s (uRd (cxOf P ex me gv (orc []) [] U) R) e b → ∀ e' b', (e', b') ∈ (e, b) :: as → Holds s (uRd (cxOf P ex me gv (orc []) [] U) R) e' b' := fun b hb e' b' hm => by
      rcases List.mem_cons.1 hm with hm | hm
      · injection hm with x y; subst x; subst y; exact hb
      · exact ha e' b' hm
    unfold At at hA
    split at hA
    · rename_i hd
      exact iht _ h1 (add true (Holds_of hd)) hA
    · rename_i hd
      exact ihf _ h2 (add false (Holds_of hd)) hA
    · exact hA.elim
  | go p r L =>
    intro as h ha hA
    refine hrun (goodT P pls (fun as => cxOf P ex me gv (orc as) as U) res nrm exs (.go p r L)) as h ha (fun as l hl hg hh o ho w' a' T' => ?_)
    unfold goodT at hg
    split at hg
    case h_2 => cases hg
    rename_i o'
    obtain rfl := List.mem_singleton.1 ho
    obtain ⟨x, fm, hp⟩ := o
    have key : goOk P pls as p r L fm hp = true → ∃ A', pls[p]? = some A' ∧ Top (cxOf P ex me gv (orc []) [] U) w0 R (upd s (uRd (cxOf P ex me gv (orc []) [] U) R) L) sz A'.G A'.Gh w' a' ∧ ∀ e b, (e, b) ∈ A'.fs → Holds (upd s (uRd (cxOf P ex me gv (orc []) [] U) R) L) (uRd (cxOf P ex me gv (orc []) [] U) R) e b := fun hk => by
      unfold goOk at hk
      split at hk
      case h_2 => cases hk
      rename_i A' hA'
      split at hk
      case h_2 => cases hk
      rename_i L' hL'
      simp only [Bool.and_eq_true] at hk
      obtain ⟨k1, k2, k3, k4⟩ := hk
      obtain rfl := msEq_ok k1
      have low := fun i hi => upd_low (s := s) (u := uRd (cxOf P ex me gv (orc []) [] U) R) k3 (i := i) hi
      refine ⟨A', hA', Top.absR rfl T' hL' low (upd_fits k2), fun e b he d v hd ht => ?_⟩
      have hf := List.all_eq_true.1 k4 _ he
      simp only at hf
      split at hf
      case h_2 => cases hf
      rename_i b' hcl hb'
      rw [Bool.and_eq_true] at hf
      have hbb : b' = b := by simpa using hf.1
      subst hbb
      exact hh e b' (asN_mem hb') hf.2 d v (den_clean (fun i hi => (low i hi).symm) _ _ _ _ hcl hd) ht
    unfold landT at hg
    simp only at hg
    split at hg
    · rw [Bool.and_eq_true] at hg
      obtain ⟨A', h1, h2, h3⟩ := key hg.2
      exact hW.on p (memN_ok hg.1) A' h1 k _ a' w' (Nat.lt_succ_self _) h2 h3 hA
    · rename_i id
      split at hg
      case h_2 => cases hg
      rename_i ps hps
      rw [Bool.and_eq_true] at hg
      obtain ⟨A', h1, h2, h3⟩ := key hg.2
      exact hW.out id ps hps p (memN_ok hg.1) A' h1 k _ a' w' (Nat.lt_succ_self _) h2 h3 hA
    · cases hg
  | ret vs rs =>
    intro as h ha hA
    refine hrun (goodT P pls (fun as => cxOf P ex me gv (orc as) as U) res nrm exs (.ret vs rs)) as h ha (fun as l hl hg hh o ho w' a' T' => ?_)
    unfold goodT at hg
    split at hg
    case h_2 => cases hg
    rename_i o'
    obtain rfl := List.mem_singleton.1 ho
    obtain ⟨x, fm, hp⟩ := o
    unfold landT at hg
    simp only at hg
    split at hg
    case h_2 => cases hg
    rename_i vs' hds hres
    rw [Bool.and_eq_true] at hg
    obtain rfl := lEq_ok (vEq_ok 60) _ _ hg.1
    exact hW.fin s fm hp as a' w' vs' rs T' hh hds hres hg.2 hA
theorem chkT_ok (hx : ∀ as, ExtOk P (cxOf P ex me gv (orc as) as U)) (hmix : P.follows .mixedOrders = true) {n d sz : Nat} {res : List ResultVar} {pls : List Asrt} {tab : List VT} {w0 : World} {R : Addr → Option Value} {Q : (Nat → Value) → List Value → List (Nat × AObj) → Prop} :
    ∀ (t : TP) (c : Code) (As nrm : List Nat) (exs : List (Nat × List Nat)), chkT P ex me gv orc U n d sz res pls tab t c As nrm exs = true → ∀ p, p ∈ As → ∀ A, pls[p]? = some A → ∀ (k : Nat) (s : Nat → Value) (a : Act) (w : World) (Qx : Exit → Act → World → Prop),
      Top (cxOf P ex me gv (orc []) [] U) w0 R s sz A.G A.Gh w a → (∀ e b, (e, b) ∈ A.fs → Holds s (uRd (cxOf P ex me gv (orc []) [] U) R) e b) → EndsN (uRd (cxOf P ex me gv (orc []) [] U) R) tab Q k p s →
      GoesT (cxOf P ex me gv (orc []) [] U) w0 R sz res (fun as => cxOf P ex me gv (orc as) as U) pls tab Q k nrm exs Qx → c.wpIn (Fw none) 0 P Qx a w := by
  intro t
  induction t with
  | run =>
    intro c As nrm exs h p hp A hA k s a w Qx T hf hE hW
    have h := List.all_eq_true.1 h p hp
    simp only [hA] at h
    cases k with
    | zero => exact hE.elim
    | succ k => exact chkV_ok (fun good as0 hg h0 hq => piece (t := .leaf) (cl := []) (as0 := as0) (good := good) hx hmix hg (fun c hc => by cases hc) h0 T (fun as l hl hgl hh o ho w' a' T' => hq as l hl hgl hh o ho w' a' T')) hW _ _ h hf hE
  | seq t1 ms t2 ih1 ih2 =>
    intro c As nrm exs h p hp A hA k s a w Qx T hf hE hW
    cases c with
    | seq c1 c2 =>
      have h : (chkT P ex me gv orc U n d sz res pls tab t1 c1 As ms exs && chkT P ex me gv orc U n d sz res pls tab t2 c2 ms nrm exs) = true := h
      rw [Bool.and_eq_true] at h
      refine wpIn_seq (ih1 c1 As ms exs h.1 p hp A hA k s a w _ T hf hE ⟨fun p' hp' A' hA' k' s' a' w' hk T' hf' hE' => ?_, fun id ps he p' hp' A' hA' k' s' a' w' hk T' hf' hE' => hW.out id ps he p' hp' A' hA' k' s' a' w' hk T' hf' hE', fun s fm hp as a w vs rs T hh hd hr h1 h2 => hW.fin s fm hp as a w vs rs T hh hd hr h1 h2⟩)
      exact ih2 c2 ms nrm exs h.2 p' hp' A' hA' k' s' a' w' Qx T' hf' hE' (hW.le (by omega))
    | _ => cases h
  | block t ih =>
    intro c As nrm exs h p hp A hA k s a w Qx T hf hE hW
    cases c with
    | block id c1 =>
      have h : chkT P ex me gv orc U n d sz res pls tab t c1 As nrm ((id, nrm) :: exs) = true := h
      refine wpIn_block (ih c1 As nrm _ h p hp A hA k s a w _ T hf hE ⟨fun p' hp' A' hA' k' s' a' w' hk T' hf' hE' => hW.on p' hp' A' hA' k' s' a' w' hk T' hf' hE', fun id' ps he p' hp' A' hA' k' s' a' w' hk T' hf' hE' => ?_, fun s fm hp as a w vs rs T hh hd hr h1 h2 => hW.fin s fm hp as a w vs rs T hh hd hr h1 h2⟩)
      unfold exL at he
      show if id' = id then Qx .normal a' w' else Qx (.exit id') a' w'
      split at he
      · rename_i hk2
        injection he with he
        subst he
        rw [if_pos (Nat.eq_of_beq_eq_true hk2).symm]
        exact hW.on p' hp' A' hA' k' s' a' w' hk T' hf' hE'
      · rename_i hk2
        rw [if_neg (fun hh => by rw [hh, Nat.beq_refl] at hk2; cases hk2)]
        exact hW.out id' ps he p' hp' A' hA' k' s' a' w' hk T' hf' hE'
    | _ => cases h
  | loop hs t ih =>
    intro c As nrm exs h p hp A hA k s a w Qx T hf hE hW
    cases c with
    | loop c1 =>
      have h : ((As.all fun p => memN p hs) && chkT P ex me gv orc U n d sz res pls tab t c1 hs hs exs) = true := h
      rw [Bool.and_eq_true] at h
      have hps := memN_ok (List.all_eq_true.1 h.1 p hp)
      refine wpIn_loop_ex (α := Nat × Nat × (Nat → Value)) (fun x a w => x.2.1 ≤ k ∧ x.1 ∈ hs ∧ ∃ A, pls[x.1]? = some A ∧ Top (cxOf P ex me gv (orc []) [] U) w0 R x.2.2 sz A.G A.Gh w a ∧ (∀ e b, (e, b) ∈ A.fs → Holds x.2.2 (uRd (cxOf P ex me gv (orc []) [] U) R) e b) ∧ EndsN (uRd (cxOf P ex me gv (orc []) [] U) R) tab Q x.2.1 x.1 x.2.2) (fun x => x.2.1) ⟨(p, k, s), Nat.le_refl _, hps, A, hA, T, hf, hE⟩ (fun x a w hx => ?_)
      obtain ⟨q, k1, s1⟩ := x
      obtain ⟨hk1, hq, A1, hA1, T1, hf1, hE1⟩ := hx
      refine ih c1 hs hs exs h.2 q hq A1 hA1 k1 s1 a w _ T1 hf1 hE1 ⟨fun p' hp' A' hA' k' s' a' w' hk T' hf' hE' => ?_, fun id ps he p' hp' A' hA' k' s' a' w' hk T' hf' hE' => hW.out id ps he p' hp' A' hA' k' s' a' w' (by have : k1 ≤ k := hk1; omega) T' hf' hE', fun s fm hp as a w vs rs T hh hd hr h1 h2 => hW.fin s fm hp as a w vs rs T hh hd hr h1 h2⟩
      exact ⟨(p', k', s'), ⟨by have : k1 ≤ k := hk1; show k' ≤ k; omega, hp', A', hA', T', hf', hE'⟩, hk⟩
    | _ => cases h
  | cond ps t1 qs t2 ih1 ih2 =>
    intro c As nrm exs h p hp A hA k s a w Qx T hf hE hW
    cases c with
    | cond x c1 c2 =>
      have h : ((As.all fun p => match pls[p]? with
        | some A => chkV P pls (fun as => cxOf P ex me gv (orc as) as U) res (fun as => condRun (cxOf P ex me gv (orc as) as U) x A.G A.Gh) [] [(0, ps), (1, qs)] (tab.getD p .dead) A.fs
        | none => false) && (chkT P ex me gv orc U n d sz res pls tab t1 c1 ps nrm exs && chkT P ex me gv orc U n d sz res pls tab t2 c2 qs nrm exs)) = true := h
      simp only [Bool.and_eq_true] at h
      obtain ⟨h0, h1, h2⟩ := h
      have h0 := List.all_eq_true.1 h0 p hp
      simp only [hA] at h0
      cases k with
      | zero => exact hE.elim
      | succ k =>
        let Qc : Exit → Act → World → Prop := fun e a' w' => match e with
          | .exit 0 => c1.wpIn (Fw none) 0 P Qx a' w'
          | .exit 1 => c2.wpIn (Fw none) 0 P Qx a' w'
          | .exit _ => False
          | _ => True
        refine chkV_ok (sz := sz) (w0 := w0) (Qx := Qc) (fun good as0 hg h00 hq => ?_) ⟨(fun p hp => by cases hp), fun id l he p' hp' A' hA' k' s' a' w' hk T' hf' hE' => ?_, fun s fm hp as a w vs rs T hh hd hr h1 h2 => trivial⟩ _ _ h0 hf hE
        · unfold goodC at hg
          split at hg
          case h_2 => cases hg
          rename_i l hl
          rw [Bool.and_eq_true] at hg
          have hh : ∀ e b, (e, b) ∈ as0 → isSym e = true → Holds s (uRd (cxOf P ex me gv (orc []) [] U) R) e b := fun e b he _ => h00 e b he
          have key := hq as0 l hl hg.2 hh
          have hl2 := hl
          unfold condRun at hl2
          split at hl2
          case h_2 => cases hl2
          rename_i v hv
          obtain ⟨f, fs, hn, hi, hb⟩ := T
          have as1 := (gw_as fs.gw hh).as
          split at hl2
          · rename_i hb1
            injection hl2 with hl2
            subst hl2
            exact wpIn_cond_true (boolA_ok as1 (evX_ok fs.tr hv) hb1) (key _ (List.mem_singleton.2 rfl) w a ⟨f, fs, hn, hi, hb⟩)
          · rename_i hb1
            injection hl2 with hl2
            subst hl2
            exact wpIn_cond_false (boolA_ok as1 (evX_ok fs.tr hv) hb1) (key _ (List.mem_singleton.2 rfl) w a ⟨f, fs, hn, hi, hb⟩)
          · cases hl2
        · unfold exL at he
          split at he
          · rename_i hk2
            injection he with he
            subst he
            obtain rfl := Nat.eq_of_beq_eq_true hk2
            exact ih1 c1 ps nrm exs h1 p' hp' A' hA' k' s' a' w' Qx T' hf' hE' (hW.le (by omega))
          · unfold exL at he
            split at he
            · rename_i hk2
              injection he with he
              subst he
              obtain rfl := Nat.eq_of_beq_eq_true hk2
              exact ih2 c2 qs nrm exs h2 p' hp' A' hA' k' s' a' w' Qx T' hf' hE' (hW.le (by omega))
            · cases he
    | _ => cases h
  | scope t ih =>
    intro c As nrm exs h p hp A hA k s a w Qx T hf hE hW
    cases c with
    | scope c1 =>
      have h : chkT P ex me gv orc U n d sz res pls tab t c1 As nrm exs = true := h
      exact wpIn_scope_straight (ih c1 As nrm exs h p hp A hA k s a w _ T hf hE ⟨fun p' hp' A' hA' k' s' a' w' hk T' hf' hE' => hW.on p' hp' A' hA' k' s' a' w' hk T' hf' hE', fun id ps he p' hp' A' hA' k' s' a' w' hk T' hf' hE' => hW.out id ps he p' hp' A' hA' k' s' a' w' hk T' hf' hE', fun s fm hp as a w vs rs T hh hd hr h1 h2 => hW.fin s fm hp as a w vs rs T hh hd hr h1 h2⟩)
    | _ => cases h
theorem ts_call {f : FuncId} {fi : FI} {N n d B0 : Nat} {args args' : List Value} {fs0 : List (Value × Bool)} {t : TP} {pls : List Asrt} {tab : List VT} (hx : ∀ as, ExtOk P (cxOf P ex me gv (orc as) as U)) (hmix : P.follows .mixedOrders = true)
    (hfi : (cxOf P ex me gv (orc []) [] U).f f = some fi) (hle : Nat.ble args.length fi.ntmps = true)
    (h0 : pls[0]? = some { G := ⟨Tr.putList args .nil 0, []⟩, Gh := ⟨.nil, N, N⟩, fs := fs0, B := B0 })
    (h : chkT P ex me gv orc U n d fi.ntmps fi.results pls tab t fi.body [0] [] [] = true)
    {w0 : World} {R : Addr → Option Value} {s : Nat → Value} (hw : Old w0 R) (hargs : RVs ⟨fun _ => none, s, uRd (cxOf P ex me gv (orc []) [] U) R⟩ args args')
    (hfs : ∀ e b, (e, b) ∈ fs0 → Holds s (uRd (cxOf P ex me gv (orc []) [] U) R) e b)
    (hgv : ∀ g t, (g, t) ∈ gv → ∃ cs ty fr, w0.heap[g]? = some (.cells cs ty fr) ∧ ∀ (i : Nat) (v : Value), t.get i = some v → GC v cs[i]?)
    {Q : (Nat → Value) → List Value → List (Nat × AObj) → Prop} (hE : Ends (uRd (cxOf P ex me gv (orc []) [] U) R) tab Q 0 s) {Post : Ending → World → Prop}
    (hQ : ∀ s vs rs m hp w v', m.s = s → m.u = uRd (cxOf P ex me gv (orc []) [] U) R → Q s vs rs → RV m (oneA vs) v' → Inv m hp w.heap → rowsOk hp rs = true → Below w0.heap.size w0 w →
      (∀ b e, m b = some e → e.live = true → w0.heap.size ≤ e.c) → Post (.returned v') w) :
    Calls P f ⟨args'⟩ w0 Post := by
  obtain ⟨fn, hfn, hfo⟩ := (cx_ok P ex me gv (orc []) [] U).fn f fi hfi
  obtain ⟨p1, p2, p3, p4⟩ := fi_parts hfo
  refine (callsIn_wide (n := 0)).1 (callsIn_of_wp_marks hfn p1 trivial ?_ rfl)
  have T0 : Top (cxOf P ex me gv (orc []) [] U) w0 R s fi.ntmps ⟨Tr.putList args .nil 0, []⟩ ⟨.nil, N, N⟩ w0 { tmps := (⟨args'⟩ : Array Value) ++ Array.replicate (fn.ntmps - (⟨args'⟩ : Array Value).size) undef, defers := [] } := by
    refine ⟨fun _ => none, ⟨.inl ⟨rfl, rfl⟩, enter_tr (P := P) hargs p2 (Nat.le_of_ble_eq_true hle) [], trivial, Nat.le_refl _, ⟨(fun _ _ _ h1 => by cases h1), (fun _ _ _ _ h1 => by cases h1), (fun _ _ h1 => by cases h1), (fun _ _ h1 => by rw [Tr.get_nil] at h1; cases h1)⟩,
      ⟨fun g t hg => ⟨hgv g t hg, fun _ _ h1 => by cases h1⟩, ⟨fun k vs hk => uRd_ok _ R k vs hk, fun _ _ h1 => by cases h1⟩, fun a v hv => ⟨(hw a v hv).2, fun _ _ h1 => by cases h1⟩⟩⟩, fun _ _ => rfl, (fun _ _ h1 => by cases h1), Below.refl _ _⟩
  obtain ⟨k, hE⟩ := hE
  refine chkT_ok hx hmix t fi.body [0] [] [] h 0 (List.mem_singleton.2 rfl) _ h0 k s _ w0 _ T0 hfs hE ⟨(fun p hp => by cases hp), (fun id ps he => by cases he), fun s' fm hp as a w vs rs T hh hds hres hro hq => ?_⟩
  obtain ⟨f', fs', hn, hi, hb⟩ := T
  have hm := fs'.mks
  rw [hds] at hm
  have hdf := hm.nil
  obtain ⟨v', r1, r2⟩ := results_ok (fn := fn) (cx_ok P ex me gv (orc as) as U) fs'.tr fs'.inv (by rw [p3]; exact hres)
  show LeavesInM _ 0 P fn a.tmps _ a.defers .returning w
  rw [hdf]
  exact ⟨_, r2, hQ s' vs rs _ hp w v' rfl rfl hq r1 fs'.inv hro hb hi⟩
end
noncomputable def denV (s : Nat → Value) (u : Nat → List Value → Option Value) : Nat → Value → Option Value
  | 0, _ => none
  | d + 1, v => match v with
    | .agg xs => match mapO (denV s u d) xs.toList with
      | some l => some (.agg ⟨l⟩)
      | none => none
    | .tuple xs => match mapO (denV s u d) xs.toList with
      | some l => some (.tuple ⟨l⟩)
      | none => none
    | v => denS s u v
theorem denV_ok {m : Emb} : ∀ (d : Nat) {v v' r : Value}, RV m v v' → denV m.s m.u d v = some r → v' = r := by
  intro d
  induction d with
  | zero => intro v v' r _ h; cases h
  | succ d ih =>
    intro v v' r hv h
    have lst : ∀ (xs xs' l : List Value), RVs m xs xs' → mapO (denV m.s m.u d) xs = some l → xs' = l := by
      intro xs
      induction xs with
      | nil => intro xs' l hx hl; rw [hx.nil_left]; exact Option.some.inj hl
      | cons x xs ihx =>
        intro xs' l hx hl
        obtain ⟨x', t, rfl, k1, k2⟩ := hx.head
        obtain ⟨y, ys, q1, q2, rfl⟩ := mapO_cons hl
        rw [ih k1 q1, ihx t ys k2 q2]
    unfold denV at h
    split at h
    · rename_i xs
      obtain ⟨xs⟩ := xs
      obtain ⟨xs', rfl, h1⟩ := hv.agg_iff
      split at h
      · rename_i l hl
        injection h with h
        rw [← h, lst _ _ _ h1 hl]
      · cases h
    · rename_i xs
      obtain ⟨xs⟩ := xs
      obtain ⟨xs', rfl, h1⟩ := hv.tuple_iff
      split at h
      · rename_i l hl
        injection h with h
        rw [← h, lst _ _ _ h1 hl]
      · cases h
    · obtain ⟨d', hd⟩ := denS_iff.1 h
      by_cases hs : symFlat v = true
      · obtain ⟨d2, hd2⟩ := hv.den_iff hs
        exact den_one hd2 hd
      · exfalso
        apply hs
        cases d' with
        | zero => cases hd
        | succ d' =>
          change den1 _ _ _ v = some r at hd
          unfold den1 at hd
          split at hd
          · rfl
          · split at hd
            · rename_i hf; simp [symFlat, hf]
            · cases hd
end Go.Proofs.YtaepplhgeeaidaaDoor.Ev
