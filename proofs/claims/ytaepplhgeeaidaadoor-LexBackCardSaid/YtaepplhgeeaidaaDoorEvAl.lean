import Derived.Test.YtaepplhgeeaidaaDoorEvAn
set_option linter.unusedVariables false
set_option linter.unusedSimpArgs false
set_option linter.unusedSectionVars false
namespace Go.Proofs.YtaepplhgeeaidaaDoor.Ev
open Go Go.RowKit
def deepable (P : Program) (t : TypeId) : Bool :=
  match P.underlying t with
  | some (.slice _) => true
  | some .string => true
  | _ => false
def deepF (P : Program) (u : TypeId) (i : Nat) : List (Value × Bool) :=
  match deepable P u with
  | true => [(sy 1 9 [num 4, num u, unk (cellTy P u) i], true)]
  | false => []
def deepFs (P : Program) : List TypeId → Nat → List (Value × Bool)
  | [], _ => []
  | u :: us, i => deepF P u i ++ deepFs P us (i + 1)
section
variable {P : Program} {R : Addr → Option Value} {s : Nat → Value} {u : Nat → List Value → Option Value} (hu : ∀ vs, u 8 vs = opRd P R 8 vs)
include hu
theorem deepF_ok {t : TypeId} {i : Nat} {v : Value} (hs : s i = v) (hR : ∃ f, Rds P R f t [v]) : ∀ e b, (e, b) ∈ deepF P t i → Holds s u e b := by
  intro e b he d x hd ht
  unfold deepF at he
  split at he
  · have he := List.mem_singleton.1 he
    injection he with h1 h2
    subst h1; subst h2
    obtain ⟨d', l, rfl, k1, k2⟩ := den_fn hd
    obtain ⟨a, b, c, rfl, q1, q2, q3⟩ := map3 k1
    obtain rfl := den_one q1 (den_flat rfl 0)
    obtain rfl := den_one q2 (den_flat rfl 0)
    have hc : c = v := by
      rw [← hs]
      exact den_one q3 (show den s u 1 (unk (cellTy P t) i) = some (s i) from rfl)
    subst hc
    rw [hu] at k2
    have k2 : some (Value.bool (deepB P R t c)) = some x := k2
    injection k2 with k2
    rw [← k2]
    congr 1
    exact @decide_eq_true _ (Classical.propDecidable _) hR
  · cases he
theorem deepFs_ok : ∀ (us : List TypeId) (b : Nat) (vs : List Value), us.length = vs.length → (∀ i, i < vs.length → s (b + i) = vs.getD i undef) →
    (∀ (q : Nat) (t : TypeId) (v : Value), us[q]? = some t → vs[q]? = some v → ∃ f, Rds P R f t [v]) → ∀ e c, (e, c) ∈ deepFs P us b → Holds s u e c := by
  intro us
  induction us with
  | nil => intro b vs _ _ _ e c he; cases he
  | cons t us ih =>
    intro b vs hl hs hR e c he
    cases vs with
    | nil => cases hl
    | cons v vs =>
      rcases List.mem_append.1 he with he | he
      · exact deepF_ok hu (v := v) (by have := hs 0 (by simp); simpa using this) (hR 0 t v rfl rfl) e c he
      · refine ih (b + 1) vs (by simpa using hl) (fun i hi => ?_) (fun q t' v' h1 h2 => hR (q + 1) t' v' (by simpa using h1) (by simpa using h2)) e c he
        have := hs (i + 1) (by simpa using hi)
        rw [show b + 1 + i = b + (i + 1) by omega, this]
        simp
end
def nilSl : Value → Bool
  | .slice none n _ => Nat.beq n 0
  | _ => false
noncomputable def cellOk (P : Program) (as : List (Value × Bool)) (u : TypeId) (v : Value) : Bool :=
  match P.underlying u with
  | some (.slice _) => (follows P as [num 4, num u, v] && symFlat v) || nilSl v
  | some .string => ((follows P as [num 4, num u, v] && symFlat v) || (isSym v && Nat.beq (symTy v) 2)) || (match v with
    | .string s => Nat.blt s.size 9223372036854775808
    | _ => false)
  | some (.struct _) => false
  | some (.array _ _) => false
  | some _ => (isSym v && Nat.beq (symTy v) (cellTy P u)) || (flat v && tyOk (cellTy P u) v)
  | none => false
theorem cellOk_ok {P : Program} {cx : Cx} (hP : cx.P = P) {m : Emb} {w : World} (gw : GW cx m w) {t : TypeId} {v v' : Value} (h : cellOk P cx.as t v = true) (hv : RV m v v') :
    ∃ f, Rds P (fun a => w.cell? a) f t [v'] := by
  subst hP
  have deep : (follows cx.P cx.as [num 4, num t, v] && symFlat v) = true → ∃ f, Rds cx.P (fun a => w.cell? a) f t [v'] := fun h => by
    rw [Bool.and_eq_true] at h
    obtain ⟨d, hden⟩ := hv.den_iff h.2
    have := follows_ok (r := fun a => m.u 5 [.pointer (some a)]) (cx := cx) (fun k vs hk => gw.as.rd k vs hk) (fun vs => gw.as.ops 0 vs (by omega)) (fun _ => rfl) gw.as.as h.1 (mapO_of (den_flat rfl d) (mapO_of (den_flat rfl d) (mapO_of (den_mono (Nat.le_succ d) hden) rfl))) (b := deepB cx.P (fun a => m.u 5 [.pointer (some a)]) t v') rfl
    obtain ⟨f, hf⟩ := @of_decide_eq_true _ (Classical.propDecidable _) this
    exact ⟨f, rds_mono (fun a v hv => (gw.frz a v hv).1) f t _ hf f (Nat.le_refl _)⟩
  unfold cellOk at h
  split at h
  · rename_i e hu
    rw [Bool.or_eq_true] at h
    rcases h with h | h
    · exact deep h
    · unfold nilSl at h
      split at h
      · rename_i n c
        obtain rfl := Nat.eq_of_beq_eq_true h
        rw [hv.flat_iff rfl]
        refine ⟨1, ?_⟩
        unfold Rds
        rw [hu]
      · cases h
  · rename_i hu
    rw [Bool.or_eq_true, Bool.or_eq_true] at h
    rcases h with (h | h) | h
    · exact deep h
    · rw [Bool.and_eq_true] at h
      have ht := (hv.sym_iff h.1).2
      rw [Nat.eq_of_beq_eq_true h.2] at ht
      obtain ⟨st, rfl, hst⟩ := ty_str ht
      refine ⟨1, ?_⟩
      unfold Rds
      rw [hu]
      exact hst
    · split at h
      · rename_i st
        rw [hv.flat_iff rfl]
        refine ⟨1, ?_⟩
        unfold Rds
        rw [hu]
        exact Nat.blt_eq.mp h
      · cases h
  · cases h
  · cases h
  · rename_i d hn1 hn2 hn3 hn4 hu
    refine ⟨1, ?_⟩
    have ht : tyOk (cellTy cx.P t) v' = true := by
      rw [Bool.or_eq_true, Bool.and_eq_true, Bool.and_eq_true] at h
      rcases h with ⟨h1, h2⟩ | ⟨h1, h2⟩
      · have := (hv.sym_iff h1).2
        rwa [Nat.eq_of_beq_eq_true h2] at this
      · rw [hv.flat_iff h1]; exact h2
    unfold Rds
    rw [hu]
    cases d <;> first
      | exact ht
      | (exact absurd rfl (hn1 _))
      | (exact absurd rfl hn2)
      | (exact absurd rfl (hn3 _))
      | (exact absurd rfl (hn4 _ _))
  · cases h
theorem vcells_eq (v : Value) : vcells v = v.cells.toList := by cases v <;> rfl
theorem deepL_nil {P : Program} {us : List TypeId} {H : Type} {gs : List (DataW H)} {R : Addr → Option Value} (_ : (DataW.weightsEach P us gs).all (· ≤ reachBytes) = true) : ∀ (j : Nat) t v, ([] : List TypeId)[j]? = some t → ([] : List Value)[j]? = some v → ∃ f, Rds P R f t (vcells v) := fun j t v h => by simp at h
theorem deepL_cons {H : Type} {enc : TypeId × Value → H} {P : Program} {w : World} {base : Nat} {held : Bool} {t : TypeId} {v : Value} {d : DataW H} {ps : List MemPlace} {ts : List TypeId} {vs : List Value} {us : List TypeId} {gs : List (DataW H)}
    (h : DataW.Trod enc P w base (fun _ => true) held t v d ps) (hw : (DataW.weightsEach P (t :: us) (d :: gs)).all (· ≤ reachBytes) = true)
    (k : (DataW.weightsEach P us gs).all (· ≤ reachBytes) = true → ∀ (j : Nat) t v, ts[j]? = some t → vs[j]? = some v → ∃ f, Rds P (fun a => w.cell? a) f t (vcells v)) :
    ∀ (j : Nat) t' v', (t :: ts)[j]? = some t' → (v :: vs)[j]? = some v' → ∃ f, Rds P (fun a => w.cell? a) f t' (vcells v') := by
  rw [DataW.weightsEach, List.all_append, Bool.and_eq_true] at hw
  intro j t' v' h1 h2
  cases j with
  | zero =>
    simp at h1 h2
    subst h1; subst h2
    obtain ⟨f, hf⟩ := h
    exact ⟨f, by rw [vcells_eq]; exact rds_of_trod f _ _ _ hf (fun q hq => of_decide_eq_true (List.all_eq_true.1 hw.1 q hq))⟩
  | succ j => exact k hw.2 j t' v' (by simpa using h1) (by simpa using h2)
theorem old_all (w : World) : Old w (fun a => w.cell? a) := fun a v hv => ⟨World.block_lt_of_cell? w _ hv, hv⟩
end Go.Proofs.YtaepplhgeeaidaaDoor.Ev
