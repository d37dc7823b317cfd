/- Arguments that are not known, by their types. -/
import Derived.Test.YtejnaedignfmoaaGreatDoorEvS
set_option linter.unusedVariables false
set_option linter.unusedSimpArgs false
namespace Go.Proofs.YtejnaedignfmoaaGreatDoor.Ev
open Go Go.RowKit

theorem tyOk_kind (k : IntKind) (n : Int) (h : k.has n) : tyOk (kindCode k) (.int k n) = true := by
  obtain ⟨h1, h2⟩ := h
  simp [tyOk, h1, h2]

theorem cell_ty {P : Program} {w : World} {r : Reach} {base : Nat} {t : TypeId} {v : Value} (h : Cell.okWide P w r base t v) : tyOk (cellTy P t) v = true := by
  unfold Cell.okWide Cell.ok at h
  unfold cellTy
  generalize P.underlying t = o at h ⊢
  rcases o with _ | d
  · cases v <;> first
      | exact h.elim
      | simp at h
  · cases d <;> cases v <;> first
      | rfl
      | exact h.elim
      | (obtain ⟨rfl, h2⟩ := h; exact tyOk_kind _ _ h2)
      | (have h : (_ : Int) ≤ IntKind.i64.max := h; have e : IntKind.i64.max = 9223372036854775807 := by decide
         rw [e] at h; simp [tyOk]; omega)
      | (simp at h; done)

/-- The cells of a value. -/
def vcells : Value → List Value
  | .agg cs => cs.toList
  | v => [v]

/-- The symbols of a type's value, numbered from a place on. -/
def symSize (P : Program) (t : TypeId) : Nat :=
  match P.underlying t with
  | some (.struct _) | some (.array _ _) => P.cellsOf t
  | _ => 1
def symCells (P : Program) (t : TypeId) (base : Nat) : List Value :=
  match P.cellTypes P.depth t with
  | none => []
  | some ts => (List.range (P.cellsOf t)).map fun i => unk (match ts[i % ts.length]? with | some u => cellTy P u | none => 0) (base + i)
def symVal (P : Program) (t : TypeId) (base : Nat) : Value :=
  match P.underlying t with
  | some (.struct _) | some (.array _ _) => .agg ⟨symCells P t base⟩
  | _ => unk (cellTy P t) base
def symArgs (P : Program) : List TypeId → Nat → List Value
  | [], _ => []
  | t :: ts, b => symVal P t b :: symArgs P ts (b + symSize P t)

def zeroCell (P : Program) (t : TypeId) : Value :=
  match P.underlying t with
  | some .bool => .bool false
  | some (.int k) => .int k 0
  | some (.float k) => .float k 0
  | some (.complex k) => .complex k 0 0
  | some .string => .string ⟨#[]⟩
  | some (.slice _) => .slice none 0 0
  | some (.map _ _) => .map none
  | some (.interface _) => .nilIface
  | some (.func ..) => .nilFunc
  | some (.chan ..) => .chan none
  | _ => .pointer none
def zeroVal (P : Program) (t : TypeId) : Value :=
  match P.underlying t with
  | some (.struct _) | some (.array _ _) => match P.cellTypes P.depth t with
    | none => .agg #[]
    | some ts => .agg ⟨(List.range (P.cellsOf t)).map fun i => match ts[i % ts.length]? with | some u => zeroCell P u | none => .nilIface⟩
  | _ => zeroCell P t
def zeroArgs (P : Program) (ts : List TypeId) : List Value := ts.map (zeroVal P)

theorem sym_val {P : Program} {w : World} {r : Reach} {b0 : Nat} {t : TypeId} {v : Value} (h : Value.okWide P w r b0 t v) (u : Nat → List Value → Option Value) (s : Nat → Value) (base : Nat)
    (hs : ∀ i, i < (vcells v).length → s (base + i) = (vcells v).getD i undef) : RV ⟨fun _ => none, s, u⟩ (symVal P t base) v ∧ symSize P t = (vcells v).length := by
  have row : ∀ cs, v = .agg cs → cs.size = P.cellsOf t → Row.okWide P w r b0 t cs → RV ⟨fun _ => none, s, u⟩ (.agg ⟨symCells P t base⟩) v ∧ P.cellsOf t = (vcells v).length := by
    rintro cs rfl hsz ⟨ts, h1, ⟨n, hn⟩, h3⟩
    refine ⟨?_, by simp [vcells, hsz]⟩
    have hc : symCells P t base = (List.range (P.cellsOf t)).map fun i => unk (match ts[i % ts.length]? with | some u => cellTy P u | none => 0) (base + i) := by
      unfold symCells; rw [h1]
    rw [hc]
    refine .agg _ cs.toList (by simp [hsz]) (fun i hi => ?_)
    simp only [List.length_map, List.length_range] at hi
    have hi' : i < cs.size := by omega
    obtain ⟨q, hq, hok⟩ := h3 i cs[i] (by simp [hi'])
    have e1 : ((List.range (P.cellsOf t)).map fun i => unk (match ts[i % ts.length]? with | some u => cellTy P u | none => 0) (base + i)).getD i undef = unk (cellTy P q) (base + i) := by
      simp [List.getD_eq_getElem?_getD, hi, hq]
    have e2 : cs.toList.getD i undef = cs[i] := by simp [List.getD_eq_getElem?_getD, hi']
    rw [e1, e2]
    have e3 : s (base + i) = cs[i] := by rw [hs i (by simp [vcells, hi'])]; simpa [vcells] using e2
    rw [← e3]
    exact RV.given (m := ⟨fun _ => none, s, u⟩) (by show tyOk _ (s (base + i)) = true; rw [e3]; exact cell_ty hok)
  have one : Cell.okWide P w r b0 t v → RV ⟨fun _ => none, s, u⟩ (unk (cellTy P t) base) v ∧ 1 = (vcells v).length := by
    intro h
    have ht := cell_ty h
    have hv : vcells v = [v] := by cases v <;> first | rfl | (simp [tyOk] at ht)
    have e : s base = v := by have := hs 0 (by rw [hv]; simp); simpa [hv] using this
    refine ⟨?_, by rw [hv]; rfl⟩
    have := RV.given (m := ⟨fun _ => none, s, u⟩) (ty := cellTy P t) (i := base) (by show tyOk _ (s base) = true; rw [e]; exact ht)
    have e' : (⟨fun _ => none, s, u⟩ : Emb).s base = v := e
    rw [e'] at this
    exact this
  unfold Value.okWide at h
  unfold symVal symSize
  split at h
  · rename_i hu
    obtain ⟨cs, h1, h2, h3⟩ := h
    simp only [hu]
    exact row cs h1 h2 h3
  · rename_i hu
    obtain ⟨cs, h1, h2, h3⟩ := h
    simp only [hu]
    exact row cs h1 h2 h3
  · rename_i hu1 hu2
    split
    · rename_i f hu; exact absurd hu (hu1 f)
    · rename_i a b hu; exact absurd hu (hu2 a b)
    · exact one h

theorem sym_list {P : Program} {w : World} {r : Reach} {b0 : Nat} (u : Nat → List Value → Option Value) (s : Nat → Value) : ∀ (ts : List TypeId) (vs : List Value) (base : Nat), ts.length = vs.length →
    (∀ (j : Nat) t v, ts[j]? = some t → vs[j]? = some v → Value.okWide P w r b0 t v) → (∀ i, i < (vs.flatMap vcells).length → s (base + i) = (vs.flatMap vcells).getD i undef) →
    RVs ⟨fun _ => none, s, u⟩ (symArgs P ts base) vs := by
  intro ts
  induction ts with
  | nil =>
    intro vs base hl _ _
    cases vs with
    | nil => exact RVs.nil _
    | cons v vs => cases hl
  | cons t ts ih =>
    intro vs base hl hok hs
    cases vs with
    | nil => cases hl
    | cons v vs =>
      simp only [List.flatMap_cons, List.length_append] at hs
      obtain ⟨h1, h2⟩ := sym_val (u := u) (s := s) (base := base) (hok 0 t v rfl rfl) (fun i hi => by
        rw [hs i (by omega)]
        simp [List.getD_eq_getElem?_getD, List.getElem?_append_left hi])
      refine RVs.cons h1 (ih vs _ (by simpa using hl) (fun j t' v' a b => hok (j + 1) t' v' (by simpa using a) (by simpa using b)) (fun i hi => ?_))
      rw [h2, Nat.add_assoc, hs _ (by omega)]
      rw [List.getD_eq_getElem?_getD, List.getD_eq_getElem?_getD, List.getElem?_append_right (by omega), Nat.add_sub_cancel_left]

/-- Whatever the arguments are: they are those of the symbols. -/
theorem sym_args {P : Program} {w : World} {r : Reach} {b0 : Nat} {ts : Array TypeId} {args : List Value} (hl : ts.size = args.length)
    (hok : ∀ (j : Nat) t v, ts[j]? = some t → args[j]? = some v → Value.okWide P w r b0 t v) (u : Nat → List Value → Option Value) :
    ∃ s, RVs ⟨fun _ => none, s, u⟩ (symArgs P ts.toList 0) args :=
  ⟨fun i => (args.flatMap vcells).getD i undef, sym_list u _ ts.toList args 0 (by simpa using hl) (fun j t v a b => hok j t v (by simpa using a) b) (fun i hi => by rw [Nat.zero_add])⟩
end Go.Proofs.YtejnaedignfmoaaGreatDoor.Ev
