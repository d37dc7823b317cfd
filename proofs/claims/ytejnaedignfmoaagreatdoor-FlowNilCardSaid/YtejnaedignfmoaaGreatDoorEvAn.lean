/- Code with loops, by what holds at its places; what is between them is reckoned. -/
import Derived.Test.YtejnaedignfmoaaGreatDoorEvLp
set_option linter.unusedVariables false
set_option linter.unusedSimpArgs false
set_option linter.unusedSectionVars false
namespace Go.Proofs.YtejnaedignfmoaaGreatDoor.Ev
open Go Go.RowKit

/-- What holds at a place: the frame and its memory in general, what is taken for granted. The symbols from 'B' on are its own. -/
structure Asrt where
  G : Fm
  Gh : Hp
  fs : List (Value × Bool)
  B : Nat

/-- How a code is gone through. -/
inductive Plan where
  | run (t : PT)
  | seq (p : Plan) (m : Asrt) (q : Plan)
  | block (p : Plan)
  | loop (i : Nat) (x : Value) (B1 : Nat) (p : Plan)

/-- Where it may go: on (a number goes up, below a slice's length), or out of a block. -/
structure Ways where
  nrm : Option (Asrt × Option (Nat × Value))
  exs : List (Nat × Asrt)
def exAt (id : Nat) : List (Nat × Asrt) → Option Asrt
  | [] => none
  | p :: l => match Nat.beq p.1 id with
    | true => some p.2
    | false => exAt id l
def exDrop (id : Nat) : List (Nat × Asrt) → List (Nat × Asrt)
  | [] => []
  | p :: l => match Nat.beq p.1 id with
    | true => exDrop id l
    | false => p :: exDrop id l
theorem exAt_drop {id k : Nat} {A : Asrt} : ∀ {l : List (Nat × Asrt)}, exAt k (exDrop id l) = some A → k ≠ id ∧ exAt k l = some A := by
  intro l
  induction l with
  | nil => intro h; cases h
  | cons p l ih =>
    intro h
    unfold exDrop at h
    split at h
    · rename_i hp
      obtain ⟨h1, h2⟩ := ih h
      refine ⟨h1, ?_⟩
      unfold exAt
      rw [Nat.eq_of_beq_eq_true hp, show Nat.beq id k = false from Bool.eq_false_iff.2 fun hb => h1 (Nat.eq_of_beq_eq_true hb).symm]
      exact h2
    · rename_i hp
      unfold exAt at h ⊢
      split at h
      · rename_i hk
        have e := Nat.eq_of_beq_eq_true hk
        refine ⟨fun hh => ?_, h⟩
        rw [e, hh, Nat.beq_refl] at hp
        cases hp
      · rename_i hk
        obtain ⟨h1, h2⟩ := ih h
        exact ⟨h1, h2⟩

theorem exAt_mem {id : Nat} {A : Asrt} : ∀ {l : List (Nat × Asrt)}, exAt id l = some A → ∃ k, (k, A) ∈ l := by
  intro l
  induction l with
  | nil => intro h; cases h
  | cons p l ih =>
    intro h
    unfold exAt at h
    split at h
    · injection h with h
      subst h
      exact ⟨p.1, List.mem_cons_self⟩
    · obtain ⟨k, hk⟩ := ih h
      exact ⟨k, List.mem_cons_of_mem _ hk⟩

/-! An expression of a place, said by what stands for its symbols. -/
def getL (i : Nat) : Ms → Option Value
  | [] => none
  | x :: l => match Nat.beq x.1 i with
    | true => some x.2.2
    | false => getL i l
def mapL (f : Value → Option Value) : List Value → Option (List Value)
  | [] => some []
  | x :: l => match f x, mapL f l with
    | some y, some ys => some (y :: ys)
    | _, _ => none
def substL (B : Nat) (L : Ms) : Nat → Value → Option Value
  | 0, _ => none
  | d + 1, v => match v with
    | .func (.methodOf k nm) ⟨xs⟩ ys => match k with
      | 0 => match xs with
        | [.int _ (.ofNat i)] => match Nat.blt i B with
          | true => some v
          | false => getL i L
        | _ => none
      | k + 1 => match mapL (substL B L d) xs with
        | some l => some (.func (.methodOf (k + 1) nm) ⟨l⟩ ys)
        | none => none
    | v => match flat v with
      | true => some v
      | false => none

theorem getL_mem {i : Nat} {e : Value} : ∀ {L : Ms}, getL i L = some e → ∃ ty, (i, ty, e) ∈ L := by
  intro L
  induction L with
  | nil => intro h; cases h
  | cons x l ih =>
    intro h
    unfold getL at h
    split at h
    · rename_i hx
      injection h with h
      obtain ⟨j, ty, v⟩ := x
      have := Nat.eq_of_beq_eq_true hx
      subst h
      subst this
      exact ⟨ty, List.mem_cons_self⟩
    · obtain ⟨ty, h⟩ := ih h
      exact ⟨ty, List.mem_cons_of_mem _ h⟩

theorem subst_den {s s' : Nat → Value} {u : Nat → List Value → Option Value} {B : Nat} {L : Ms} (hs : ∀ i, i < B → s' i = s i) (hL : ∀ x, x ∈ L → ∃ d, den s u d x.2.2 = some (s' x.1)) :
    ∀ (n : Nat) (e e' : Value), substL B L n e = some e' → ∀ (d : Nat) (v : Value), den s' u d e = some v → ∃ d', den s u d' e' = some v := by
  intro n
  induction n with
  | zero => intro e e' h; cases h
  | succ n ih =>
    intro e e' h d v hd
    have hl : ∀ (xs l : List Value), mapL (substL B L n) xs = some l → ∀ (d : Nat) (vs : List Value), mapO (den s' u d) xs = some vs → ∃ d', mapO (den s u d') l = some vs := by
      intro xs
      induction xs with
      | nil =>
        intro l h d vs hv
        injection h with h
        subst h
        exact ⟨0, hv⟩
      | cons x xs ihx =>
        intro l h d vs hv
        unfold mapL at h
        split at h
        case h_2 => cases h
        rename_i y ys h1 h2
        injection h with h
        subst h
        obtain ⟨a, t, q1, q2, rfl⟩ := mapO_cons hv
        obtain ⟨d1, k1⟩ := ih x y h1 d a q1
        obtain ⟨d2, k2⟩ := ihx ys h2 d t q2
        exact ⟨max d1 d2, mapO_of (den_mono (Nat.le_max_left d1 d2) k1) (mapO_mono (fun _ _ => den_mono (Nat.le_max_right d1 d2)) _ _ k2)⟩
    unfold substL at h
    split at h
    · rename_i k nm xs ys
      split at h
      · split at h
        case h_2 => cases h
        rename_i k2 i
        have hd : s' i = v := by
          cases d with
          | zero => cases hd
          | succ d => exact Option.some.inj hd
        split at h
        · rename_i hi
          injection h with h
          subst h
          refine ⟨1, ?_⟩
          show some (s i) = _
          rw [← hs i (Nat.blt_eq.mp hi), hd]
        · obtain ⟨ty, hm⟩ := getL_mem h
          obtain ⟨d', hd'⟩ := hL _ hm
          exact ⟨d', by rw [← hd]; exact hd'⟩
      · rename_i k
        split at h
        case h_2 => cases h
        rename_i l hm
        injection h with h
        subst h
        obtain ⟨d', vs, rfl, q1, q2⟩ := den_fn hd
        obtain ⟨d2, k2⟩ := hl xs l hm d' vs q1
        exact ⟨d2 + 1, den_fn_of k2 q2⟩
    · rename_i hne
      split at h
      case h_2 => cases h
      rename_i hf
      injection h with h
      subst h
      rw [den_one hd (den_flat hf 0)]
      exact ⟨1, den_flat hf 0⟩

def distinctL : Ms → Bool
  | [] => true
  | x :: l => (l.all fun y => !Nat.beq y.1 x.1) && distinctL l
theorem distinct_one : ∀ {L : Ms}, distinctL L = true → ∀ x y, x ∈ L → y ∈ L → x.1 = y.1 → x = y := by
  intro L
  induction L with
  | nil => intro _ x y hx; cases hx
  | cons z l ih =>
    intro h x y hx hy he
    simp only [distinctL, Bool.and_eq_true, List.all_eq_true] at h
    rcases List.mem_cons.1 hx with hx' | hx' <;> rcases List.mem_cons.1 hy with hy' | hy'
    · rw [hx', hy']
    · have := h.1 y hy'
      rw [← hx', he, Nat.beq_refl] at this
      cases this
    · have := h.1 x hx'
      rw [← hy', he, Nat.beq_refl] at this
      cases this
    · exact ih h.2 x y hx' hy' he

/-- Does a fact of a place follow? -/
noncomputable def entA (P : Program) (as : List (Value × Bool)) (B : Nat) (L : Ms) (f : Value × Bool) : Bool :=
  match substL B L 20 f.1 with
  | some e => match asN e as with
    | some b => b == f.2 && isSym e
    | none => match f.2, e with
      | true, .func (.methodOf 9 _) ⟨xs⟩ _ => follows P as xs
      | _, _ => false
  | none => false
def nilT (t : Tr AObj) : Bool := t.pairs.isEmpty
noncomputable def intoA (P : Program) (as : List (Value × Bool)) (Bm : Nat) (A : Asrt) (fm : Fm) (hp : Hp) : Option Ms :=
  match Nat.ble A.B Bm, nilT A.Gh.tr, absM A.B A.G A.Gh fm hp with
  | true, true, some L => match distinctL L, L.all (fun x => Nat.ble A.B x.1), A.fs.all (entA P as A.B L) with
    | true, true, true => some L
    | _, _, _ => none
  | _, _, _ => none
/-- A number of a place is the next one of what it was, and what it was is below a slice's length. -/
noncomputable def risesA (P : Program) (as : List (Value × Bool)) (Bm : Nat) (L : Ms) (i : Nat) (x : Value) : Bool :=
  match getL i L with
  | some e => match nextOf e with
    | some y => vEq 60 y (unk 6 i) && (Nat.blt i Bm && (cleanV Bm 0 60 x && (lenTy P (deepTy P as 20 x) && (inS as x y && (natS as y && totS P as 9 x)))))
    | none => false
  | none => false
noncomputable def landA (P : Program) (fin : List (Value × Bool) → Fm → Hp → Bool) (W : Ways) (Bm : Nat) (as : List (Value × Bool)) (o : AX × Fm × Hp) : Bool :=
  match o.1 with
  | .normal => match W.nrm with
    | some (A, none) => (intoA P as Bm A o.2.1 o.2.2).isSome
    | some (A, some (i, x)) => match intoA P as Bm A o.2.1 o.2.2 with
      | some L => risesA P as Bm L i x
      | none => false
    | none => false
  | .exit id => match exAt id W.exs with
    | some A => (intoA P as Bm A o.2.1 o.2.2).isSome
    | none => false
  | .ret => fin as o.2.1 o.2.2
  | .pan _ => false
noncomputable def landAll (P : Program) (fin : List (Value × Bool) → Fm → Hp → Bool) (W : Ways) (Bm : Nat) (as : List (Value × Bool)) (l : List (AX × Fm × Hp)) : Bool := l.all (landA P fin W Bm as)

section
variable {P : Program} {ex : List (FuncId × ExtK)} {me : List (TypeId × String × FuncId)} {gv : List (Nat × Tr Value)} {orc : List (Value × Bool) → List (FuncId × OrcF)} {U : Nat → List Value → Option Value}

noncomputable def chk (P : Program) (ex : List (FuncId × ExtK)) (me : List (TypeId × String × FuncId)) (gv : List (Nat × Tr Value)) (orc : List (Value × Bool) → List (FuncId × OrcF)) (U : Nat → List Value → Option Value) (n d sz : Nat)
    (fin : List (Value × Bool) → Fm → Hp → Bool) : Plan → Code → Asrt → Ways → Bool
  | .run t, c, A, W => walkT (fun as => goodC (landAll P fin W A.B) as (evCode (cxOf P ex me gv (orc as) as U) (evFn (cxOf P ex me gv (orc as) as U) n d) sz n none c A.G A.Gh)) [] t A.fs
  | .seq p m q, c, A, W => match c with
    | .seq a b => Nat.ble m.B A.B && (chk P ex me gv orc U n d sz fin p a A { nrm := some (m, none), exs := W.exs } && chk P ex me gv orc U n d sz fin q b m W)
    | _ => false
  | .block p, c, A, W => match c with
    | .block id a => match W.nrm with
      | some (A', none) => chk P ex me gv orc U n d sz fin p a A { nrm := W.nrm, exs := (id, A') :: W.exs }
      | _ => chk P ex me gv orc U n d sz fin p a A { nrm := W.nrm, exs := exDrop id W.exs }
    | _ => false
  | .loop i x B1 p, c, A, W => match c with
    | .loop a => (W.exs.all fun e => Nat.ble e.2.B A.B) && (Nat.ble A.B B1 && (cleanV A.B 0 60 x && chk P ex me gv orc U n d sz fin p a { G := A.G, Gh := A.Gh, fs := A.fs, B := B1 } { nrm := some (A, some (i, x)), exs := W.exs }))
    | _ => false

/-- The state at a place. -/
def AS (cx : Cx) (w0 : World) (R : Addr → Option Value) (sz : Nat) (s0 s : Nat → Value) (A : Asrt) (a : Act) (w : World) : Prop :=
  (∀ i, i < A.B → s i = s0 i) ∧ Top cx w0 R s sz A.G A.Gh w a ∧ ∀ e b, (e, b) ∈ A.fs → Holds s (uRd cx R) e b
def LenIs (u : Nat → List Value → Option Value) (s : Nat → Value) (x : Value) (n : Nat) : Prop := ∃ d A c, den s u d x = some (.slice A n c)
/-- What is to be shown of where it goes. -/
structure Goes (cx : Cx) (w0 : World) (R : Addr → Option Value) (sz : Nat) (fin : List (Value × Bool) → Fm → Hp → Bool) (W : Ways) (s0 : Nat → Value) (Q : Exit → Act → World → Prop) : Prop where
  on : ∀ A, W.nrm = some (A, none) → ∀ s a w, AS cx w0 R sz s0 s A a w → Q .normal a w
  up : ∀ A i x, W.nrm = some (A, some (i, x)) → ∀ s a w, AS cx w0 R sz s0 s A a w → (∃ n j, LenIs (uRd cx R) s0 x n ∧ s0 i = .int .i64 (.ofNat j) ∧ j < n ∧ s i = .int .i64 (.ofNat (j + 1))) → Q .normal a w
  out : ∀ id A, exAt id W.exs = some A → ∀ s a w, AS cx w0 R sz s0 s A a w → Q (.exit id) a w
  fin : ∀ s fm hp as a w, Top cx w0 R s sz fm hp w a → (∀ e b, (e, b) ∈ as → isSym e = true → Holds s (uRd cx R) e b) → fin as fm hp = true → Q .ret a w

theorem trL_from {B N : Nat} {t' : Tr Value} : ∀ (l : List (Nat × Value)) (L : Ms), trMatchL B N t' l = some L → ∀ x, x ∈ L → ∃ k p e L', t'.get k = some e ∧ matchV B N 60 p e = some L' ∧ x ∈ L'
  | [], L, h, x, hx => by
    simp only [trMatchL] at h
    injection h with h
    subst h
    cases hx
  | y :: l, L, hm, x, hx => by
    unfold trMatchL at hm
    split at hm
    case h_2 => cases hm
    rename_i a b h1 h2
    injection hm with hm
    subst hm
    rcases List.mem_append.1 hx with hx | hx
    · split at h1
      · rename_i e he
        exact ⟨y.1, y.2, e, a, he, h1, hx⟩
      · cases h1
    · exact trL_from l b h2 x hx
theorem tr_from {B N : Nat} (t t' : Tr Value) (L : Ms) (h : trMatch B N t t' = some L) : ∀ x, x ∈ L → ∃ k p e L', t'.get k = some e ∧ matchV B N 60 p e = some L' ∧ x ∈ L' := trL_from _ L h

open Classical in
theorem into_ok {cx : Cx} (has : cx.as = []) {w0 : World} {R : Addr → Option Value} {s0 s : Nat → Value} {sz : Nat} {fm : Fm} {hp : Hp} {w : World} {a : Act} {as : List (Value × Bool)} {Bm : Nat} {A : Asrt} {L : Ms}
    (T : Top cx w0 R s sz fm hp w a) (hrd : ∀ k vs, (4 ≤ k ∧ k < 16 ∧ k ≠ 5) → uRd cx R k vs = opRd P R k vs) (hop : ∀ vs, uRd cx R 0 vs = opSem cx 0 vs)
    (ha : ∀ e b, (e, b) ∈ as → isSym e = true → Holds s (uRd cx R) e b) (hs : ∀ i, i < Bm → s i = s0 i) (h : intoA P as Bm A fm hp = some L) :
    ∃ s', AS cx w0 R sz s0 s' A a w ∧ (∀ i, i < A.B → s' i = s i) ∧ ∀ x, x ∈ L → ∃ d, den s (uRd cx R) d x.2.2 = some (s' x.1) := by
  unfold intoA at h
  split at h
  case h_2 => cases h
  rename_i L0 hB hn hL
  split at h
  case h_2 => cases h
  rename_i h1 h2 h3
  injection h with h
  subst h
  have hB := Nat.le_of_ble_eq_true hB
  have T' := T
  obtain ⟨f, fsx, hfn, hi, hbl⟩ := T'
  have are : ∀ x, x ∈ L0 → ∃ d v, den s (uRd cx R) d x.2.2 = some v := by
    intro x hx
    have hL2 := hL
    unfold absM at hL2
    split at hL2
    case h_2 => cases hL2
    split at hL2
    case h_2 => cases hL2
    rename_i A1 A2 q1 q2
    injection hL2 with hL2
    subst hL2
    have hA2 : A2 = [] := by
      have hn : A.Gh.tr.pairs.isEmpty = true := hn
      have q2 : hpMatchL A.B A.Gh.nx hp.tr A.Gh.tr.pairs = some A2 := q2
      rw [List.isEmpty_iff.1 hn] at q2
      injection q2 with q2
      exact q2.symm
    subst hA2
    rw [List.append_nil] at hx
    obtain ⟨k, p, e, L', k1, k2, k3⟩ := tr_from _ _ _ q1 x hx
    obtain ⟨d, v, g1, -⟩ := ((match_ok (f' := f) (s' := s) (m := ⟨f, s, uRd cx R⟩) (fun _ _ => rfl) (fun _ _ => rfl) 60).1 p e _ L' k2 (fsx.tr.val k e k1)).1 x k3
    exact ⟨d, v, g1⟩
  let s' : Nat → Value := fun i => if i < A.B then s i else if hx : ∃ x, x ∈ L0 ∧ x.1 = i then Classical.choose (Classical.choose_spec (are _ (Classical.choose_spec hx).1)) else s i
  have e1 : ∀ i, i < A.B → s' i = s i := fun i hi => if_pos hi
  have e2 : ∀ x, x ∈ L0 → ∃ d, den s (uRd cx R) d x.2.2 = some (s' x.1) := by
    intro x hx
    have hge := Nat.le_of_ble_eq_true (List.all_eq_true.1 h2 x hx)
    have hex : ∃ y, y ∈ L0 ∧ y.1 = x.1 := ⟨x, hx, rfl⟩
    have hse : s' x.1 = Classical.choose (Classical.choose_spec (are _ (Classical.choose_spec hex).1)) := by
      show (if x.1 < A.B then s x.1 else if hx : ∃ y, y ∈ L0 ∧ y.1 = x.1 then _ else s x.1) = _
      rw [if_neg (by omega), dif_pos hex]
    have hy := Classical.choose_spec hex
    have hxy := distinct_one h1 _ x hy.1 hx hy.2
    have := Classical.choose_spec (Classical.choose_spec (are _ hy.1))
    rw [hse]
    refine ⟨Classical.choose (are _ hy.1), ?_⟩
    rw [← this]
    congr 1
    rw [hxy]
  have T2 := T.abs has hL e1 (fits_of e2)
  refine ⟨s', ⟨fun i hi => by rw [e1 i hi, hs i (by omega)], T2, fun e b he d v hd ht => ?_⟩, e1, e2⟩
  have h3 := List.all_eq_true.1 h3 (e, b) he
  unfold entA at h3
  split at h3
  case h_2 => cases h3
  rename_i e' hsub
  obtain ⟨d', hd'⟩ := subst_den e1 e2 20 e e' hsub d v hd
  split at h3
  · rename_i b' hb'
    rw [Bool.and_eq_true] at h3
    obtain ⟨h3, hsym⟩ := h3
    have hbb : b' = b := by simpa using h3
    subst hbb
    exact ha e' b' (asN_mem hb') hsym d' v hd' ht
  · split at h3
    case h_2 => cases h3
    rename_i nm xs ys hb2 he2
    obtain ⟨d2, l, rfl, k1, k2⟩ := den_fn hd'
    have k3 := k2
    rw [hrd 8 _ (by omega)] at k3
    obtain ⟨c, rfl⟩ := ty_bool ht
    have := follows_ok (r := R) (cx := cx) hrd hop (fun _ => rfl) (fun e b he hs d v hd ht => ha e b he hs d v hd ht) h3 k1 k3
    subst this
    rw [show b = true from hb2]
theorem uRd_rd (cx : Cx) (R : Addr → Option Value) (k : Nat) (vs : List Value) (hk : 4 ≤ k ∧ k < 16 ∧ k ≠ 5) : uRd cx R k vs = opRd cx.P R k vs := by
  unfold uRd
  rw [if_neg (by omega), if_neg (by omega), if_pos (by omega)]
theorem uRd_op (cx : Cx) (R : Addr → Option Value) (vs : List Value) : uRd cx R 0 vs = opSem cx 0 vs := by
  unfold uRd
  rw [if_neg (by omega), if_pos (by omega)]

theorem chk_ok (hx : ∀ as, ExtOk P (cxOf P ex me gv (orc as) as U)) (hmix : P.follows .mixedOrders = true) {n d sz : Nat} {fin : List (Value × Bool) → Fm → Hp → Bool} {w0 : World} {R : Addr → Option Value} :
    ∀ (p : Plan) (c : Code) (A : Asrt) (W : Ways), chk P ex me gv orc U n d sz fin p c A W = true → ∀ (s0 s : Nat → Value) (a : Act) (w : World) (Q : Exit → Act → World → Prop),
      AS (cxOf P ex me gv (orc []) [] U) w0 R sz s0 s A a w → Goes (cxOf P ex me gv (orc []) [] U) w0 R sz fin W s0 Q → c.wpIn (Fw none) 0 P Q a w := by
  intro p
  induction p with
  | run t =>
    intro c A W h s0 s a w Q hA hW
    have h : walkT (fun as => goodC (landAll P fin W A.B) as (evCode (cxOf P ex me gv (orc as) as U) (evFn (cxOf P ex me gv (orc as) as U) n d) sz n none c A.G A.Gh)) [] t A.fs = true := h
    refine piece hx hmix h (fun c hc => by cases hc) hA.2.2 hA.2.1 (fun as l hl hg hh o ho w' a' T' => ?_)
    have hg := List.all_eq_true.1 hg o ho
    obtain ⟨x, fm, hp⟩ := o
    have into := fun {A' : Asrt} {L : Ms} (h : intoA P as A.B A' fm hp = some L) => into_ok (P := P) (s0 := s0) rfl T' (fun k vs hk => uRd_rd _ R k vs hk) (fun vs => uRd_op _ R vs) hh hA.1 h
    cases x with
    | normal =>
      have hg : (match W.nrm with
        | some (A', none) => (intoA P as A.B A' fm hp).isSome
        | some (A', some (i, x)) => match intoA P as A.B A' fm hp with
          | some L => risesA P as A.B L i x
          | none => false
        | none => false) = true := hg
      split at hg
      · rename_i A' hn
        obtain ⟨L, hL⟩ := Option.isSome_iff_exists.1 hg
        obtain ⟨s', h1, -⟩ := into hL
        exact hW.on A' hn s' a' w' h1
      · rename_i A' i x hn
        split at hg
        case h_2 => cases hg
        rename_i L hL
        obtain ⟨s', h1, h2, h3⟩ := into hL
        refine hW.up A' i x hn s' a' w' h1 ?_
        unfold risesA at hg
        split at hg
        case h_2 => cases hg
        rename_i e he
        split at hg
        case h_2 => cases hg
        rename_i y hy
        simp only [Bool.and_eq_true] at hg
        obtain ⟨g1, g2, g3, g4, g5, g6, g7⟩ := hg
        obtain rfl := vEq_ok 60 _ _ g1
        have hi := Nat.blt_eq.mp g2
        have hrd := fun k vs hk => uRd_rd (cxOf P ex me gv (orc []) [] U) R k vs hk
        have hop := fun vs => uRd_op (cxOf P ex me gv (orc []) [] U) R vs
        have has : ∀ e b, (e, b) ∈ as → isSym e = true → ∀ d v, den s (uRd (cxOf P ex me gv (orc []) [] U) R) d e = some v → tyOk 1 v = true → v = .bool b := fun e b he hs d v hd ht => hh e b he hs d v hd ht
        have hyd : den s (uRd (cxOf P ex me gv (orc []) [] U) R) 1 (unk 6 i) = some (s i) := rfl
        obtain ⟨j, hj⟩ := natS_ok hrd has g6 hyd
        obtain ⟨dx, xv, hxd⟩ := tot_ok (r := R) hrd hop (fun _ => rfl) has 9 x g7
        unfold lenTy at g4
        split at g4
        case h_2 => cases g4
        rename_i t' ht'
        split at g4
        case h_2 => cases g4
        rename_i e' hu
        obtain ⟨f, hR⟩ := deepTy_ok (r := R) hrd hop (fun _ => rfl) has 20 x t' ht' _ _ hxd
        obtain ⟨A0, n0, c0, rfl, hA0, hn0⟩ := rds_slice hu hR
        have hin := inS_ok hrd hop has hA0 g5 (den_mono (Nat.le_max_left dx 1) hxd) (den_mono (Nat.le_max_right dx 1) hyd)
        rw [hj] at hin hyd
        have hlt : j < n0 := by
          unfold tIn at hin
          split at hin
          · rename_i n' c' k' j' hh1 hh2
            injection hh1 with _ q _
            injection hh2 with _ q2
            injection q2 with q2
            subst q; subst q2
            exact Nat.blt_eq.mp hin
          · cases hin
        obtain ⟨ty, hm⟩ := getL_mem he
        obtain ⟨d', hd'⟩ := h3 _ hm
        have hnext := next_ok hop hy hd' hyd hlt hn0
        exact ⟨n0, j, ⟨dx, A0, c0, den_clean (s' := s0) (fun i hi => (hA.1 i hi).symm) _ _ _ _ g3 hxd⟩, by rw [← hA.1 i hi]; exact hj, hlt, hnext⟩
      · cases hg
    | exit id =>
      have hg : (match exAt id W.exs with
        | some A' => (intoA P as A.B A' fm hp).isSome
        | none => false) = true := hg
      split at hg
      case h_2 => cases hg
      rename_i A' hn
      obtain ⟨L, hL⟩ := Option.isSome_iff_exists.1 hg
      obtain ⟨s', h1, -⟩ := into hL
      exact hW.out id A' hn s' a' w' h1
    | ret => exact hW.fin s fm hp as a' w' T' hh hg
    | pan v => cases hg
  | seq p m q ihp ihq =>
    intro c A W h s0 s a w Q hA hW
    cases c with
    | seq c1 c2 =>
      have h : (Nat.ble m.B A.B && (chk P ex me gv orc U n d sz fin p c1 A { nrm := some (m, none), exs := W.exs } && chk P ex me gv orc U n d sz fin q c2 m W)) = true := h
      simp only [Bool.and_eq_true] at h
      obtain ⟨-, h1, h2⟩ := h
      refine wpIn_seq (ihp c1 A _ h1 s0 s a w _ hA ⟨fun A' hn s' a' w' hs => ?_, (fun A' i x hn => by cases hn), fun id A' he s' a' w' hs => hW.out id A' he s' a' w' hs, fun s fm hp as a w T hh hf => hW.fin s fm hp as a w T hh hf⟩)
      injection hn with hn
      injection hn with hn _
      subst hn
      exact ihq c2 m W h2 s0 s' a' w' Q hs hW
    | _ => cases h
  | block p ih =>
    intro c A W h s0 s a w Q hA hW
    cases c with
    | block id c1 =>
      have h : (match W.nrm with
        | some (A', none) => chk P ex me gv orc U n d sz fin p c1 A { nrm := W.nrm, exs := (id, A') :: W.exs }
        | _ => chk P ex me gv orc U n d sz fin p c1 A { nrm := W.nrm, exs := exDrop id W.exs }) = true := h
      refine wpIn_block ?_
      split at h
      · rename_i A' hn
        refine ih c1 A _ h s0 s a w _ hA ⟨fun A2 h2 s' a' w' hs => hW.on A2 h2 s' a' w' hs, fun A2 i x h2 => hW.up A2 i x h2, fun k A2 he s' a' w' hs => ?_, fun s fm hp as a w T hh hf => hW.fin s fm hp as a w T hh hf⟩
        unfold exAt at he
        show if k = id then Q .normal a' w' else Q (.exit k) a' w'
        split at he
        · rename_i hk
          injection he with he
          subst he
          rw [if_pos (Nat.eq_of_beq_eq_true hk).symm]
          exact hW.on A' hn s' a' w' hs
        · rename_i hk
          rw [if_neg (fun hh => by rw [hh, Nat.beq_refl] at hk; cases hk)]
          exact hW.out k A2 he s' a' w' hs
      · refine ih c1 A _ h s0 s a w _ hA ⟨fun A2 h2 s' a' w' hs => hW.on A2 h2 s' a' w' hs, fun A2 i x h2 => hW.up A2 i x h2, fun k A2 he s' a' w' hs => ?_, fun s fm hp as a w T hh hf => hW.fin s fm hp as a w T hh hf⟩
        obtain ⟨h1, h2⟩ := exAt_drop he
        show if k = id then Q .normal a' w' else Q (.exit k) a' w'
        rw [if_neg h1]
        exact hW.out k A2 h2 s' a' w' hs
    | _ => cases h
  | loop i x B1 p ih =>
    intro c A W h s0 s a w Q hA hW
    cases c with
    | loop c1 =>
      have h : ((W.exs.all fun e => Nat.ble e.2.B A.B) && (Nat.ble A.B B1 && (cleanV A.B 0 60 x && chk P ex me gv orc U n d sz fin p c1 { G := A.G, Gh := A.Gh, fs := A.fs, B := B1 } { nrm := some (A, some (i, x)), exs := W.exs }))) = true := h
      simp only [Bool.and_eq_true] at h
      obtain ⟨h1, h2, h3, h4⟩ := h
      have hB1 := Nat.le_of_ble_eq_true h2
      classical
      let N : Nat := if hN : ∃ n, LenIs (uRd (cxOf P ex me gv (orc []) [] U) R) s0 x n then Classical.choose hN else 0
      let ofI : Value → Nat := fun v => match v with
        | .int _ (.ofNat j) => j
        | _ => 0
      refine wpIn_loop_ex (α := Nat → Value) (fun s1 a w => AS (cxOf P ex me gv (orc []) [] U) w0 R sz s0 s1 A a w) (fun s1 => N - ofI (s1 i)) ⟨s, hA⟩ (fun s1 a w hs1 => ?_)
      refine ih c1 _ _ h4 s1 s1 a w _ ⟨fun _ _ => rfl, hs1.2⟩ ⟨(fun A' hn => by cases hn), fun A' i' x' hn s' a' w' hs hm => ?_, fun id A' he s' a' w' hs => ?_, fun s fm hp as a w T hh hf => hW.fin s fm hp as a w T hh hf⟩
      · injection hn with hn
        injection hn with hn hn2
        injection hn2 with hn2
        injection hn2 with hn2 hn3
        subst hn; subst hn2; subst hn3
        obtain ⟨n', j, ⟨dl, Al, cl, hl⟩, hj, hlt, hj'⟩ := hm
        have hl0 : LenIs (uRd (cxOf P ex me gv (orc []) [] U) R) s0 x n' := ⟨dl, Al, cl, den_clean (s' := s0) (fun i hi => (hs1.1 i hi).symm) _ _ _ _ h3 hl⟩
        have hN : N = n' := by
          have hex : ∃ n, LenIs (uRd (cxOf P ex me gv (orc []) [] U) R) s0 x n := ⟨n', hl0⟩
          have hc := Classical.choose_spec hex
          show (if hN : ∃ n, LenIs (uRd (cxOf P ex me gv (orc []) [] U) R) s0 x n then Classical.choose hN else 0) = n'
          rw [dif_pos hex]
          obtain ⟨d1, A1, c1', q1⟩ := hc
          obtain ⟨d2, A2, c2', q2⟩ := hl0
          have := den_one q1 q2
          injection this
        refine ⟨s', ⟨fun i hi => (hs.1 i hi).trans (hs1.1 i hi), hs.2⟩, ?_⟩
        show N - ofI (s' i) < N - ofI (s1 i)
        rw [hj, hj', hN]
        show n' - (j + 1) < n' - j
        omega
      · refine hW.out id A' he s' a' w' ⟨fun i hi => ?_, hs.2⟩
        have hle : A'.B ≤ A.B := by
          obtain ⟨k, hk⟩ := exAt_mem he
          exact Nat.le_of_ble_eq_true (List.all_eq_true.1 h1 _ hk)
        rw [hs.1 i hi, hs1.1 i (by omega)]
    | _ => cases h
end
end Go.Proofs.YtejnaedignfmoaaGreatDoor.Ev
