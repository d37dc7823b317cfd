/- Literals, new memory, appends: what the reckoner says of them, the model says. -/
import Derived.Test.YtnfmghfddjkpaaaEvH
set_option linter.unusedVariables false
set_option linter.unusedSimpArgs false
namespace Go.Proofs.Ytnfmghfddjkpaaa.Ev
open Go Go.RowKit

def Turns (P : Program) (m : Emb) (hp : Hp) (w : World) (s : Sem Value) (v : Value) (hp' : Hp) : Prop := ∃ m' v' w', s.run P w = .ok v' w' ∧ Step m hp w m' hp' w' ∧ RV m' v v'

theorem Reads.turns {P : Program} {m : Emb} {hp : Hp} {w : World} {s : Sem Value} {v : Value} (inv : Inv m hp w.heap) (h : Reads P m w s v) : Turns P m hp w s v hp :=
  let ⟨v', h1, h2⟩ := h
  ⟨m, v', w, h1, .refl inv, h2⟩

/-! Rows as lists. -/
/-- A trie and an array hold the same 'n' values. -/
def Same (m : Emb) (t : Tr Value) (cs : Array Value) (n : Nat) : Prop := ∀ i, i < n → ∃ v v', t.get i = some v ∧ cs[i]? = some v' ∧ RV m v v'

theorem Same.list {m : Emb} {l l' : List Value} (h : RVs m l l') : Same m (Tr.putList l .nil 0) ⟨l'⟩ l.length := fun i hi => by
  obtain ⟨v', h1, h2⟩ := h.at_ (List.getElem?_eq_getElem hi)
  exact ⟨l[i], v', by rw [Tr.get_putList, if_pos (by omega), Nat.sub_zero]; exact List.getElem?_eq_getElem hi, by simpa using h1, h2⟩

theorem Same.put {m : Emb} {t : Tr Value} {cs : Array Value} {n o : Nat} {l l' : List Value} (h : Same m t cs n) (hl : RVs m l l') (hle : o + l'.length ≤ cs.size) : Same m (Tr.putList l t o) (writeL cs o l') n := fun i hi => by
  obtain ⟨v, v', h1, h2, h3⟩ := h i hi
  have hlen := hl.1
  rw [Tr.get_putList, writeL_get _ _ _ _ hle]
  by_cases hin : o ≤ i ∧ i < o + l.length
  · rw [if_pos hin, if_pos (by omega)]
    have hv : l[i - o]? = some (l[i - o]'(by omega)) := List.getElem?_eq_getElem _
    obtain ⟨u', k1, k2⟩ := hl.at_ hv
    exact ⟨_, u', hv, k1, k2⟩
  · rw [if_neg hin, if_neg (by omega)]
    exact ⟨v, v', h1, h2, h3⟩

theorem foldl_write : ∀ (l : List Value) (k o : Nat) (cs : Array Value), (l.zipIdx k).foldl (fun cs (x : Value × Nat) => cs.setIfInBounds (o + x.2) x.1) cs = writeL cs (o + k) l := by
  intro l
  induction l with
  | nil => intro k o cs; rfl
  | cons x l ih =>
    intro k o cs
    rw [List.zipIdx_cons, List.foldl_cons, ih (k + 1) o, writeL]
    rfl

theorem foldl_writeA (v : Value) (o : Nat) (cs : Array Value) : v.cells.zipIdx.foldl (fun cs (x : Value × Nat) => cs.setIfInBounds (o + x.2) x.1) cs = writeL cs o (cellsOf v) := by
  rw [← Array.foldl_toList, Array.toList_zipIdx, foldl_write, cells_list]
  rfl

def RVp (m : Emb) (ps ps' : List (Nat × Value)) : Prop := ps.map (·.1) = ps'.map (·.1) ∧ RVs m (ps.map (·.2)) (ps'.map (·.2))

theorem fillA_ok {m : Emb} {place : Nat → Option (Nat × Nat)} {n : Nat} : ∀ (ps ps' : List (Nat × Value)) (t : Tr Value) (cs : Array Value) (t2 : Tr Value), RVp m ps ps' → Same m t cs n → cs.size = n → fillA place n ps t = some t2 →
    ∃ cs2, Instr.fill place cs ps' = some cs2 ∧ cs2.size = n ∧ Same m t2 cs2 n := by
  intro ps
  induction ps with
  | nil =>
    intro ps' t cs t2 hp hs hn h
    have : ps' = [] := by
      have := hp.1
      cases ps' with
      | nil => rfl
      | cons _ _ => simp at this
    subst this
    have h : some t = some t2 := h
    injection h with h
    subst h
    exact ⟨cs, rfl, hn, hs⟩
  | cons p ps ih =>
    intro ps' t cs t2 hp hs hn h
    cases ps' with
    | nil => have := hp.1; simp at this
    | cons p' ps' =>
      obtain ⟨i, v⟩ := p
      obtain ⟨i', v'⟩ := p'
      obtain ⟨h1, h2⟩ := hp
      simp only [List.map_cons, List.cons.injEq] at h1 h2
      obtain ⟨rfl, h1⟩ := h1
      obtain ⟨x', tl, he, h3, h4⟩ := h2.head
      injection he with he1 he2
      subst he1 he2
      have h : (match place i with
        | none => none
        | some (off, size) => match Nat.beq (len (cellsOf v)) size, Nat.ble (off + size) n with
          | true, true => fillA place n ps (Tr.putList (cellsOf v) t off)
          | _, _ => none) = some t2 := h
      simp only [Instr.fill]
      split at h
      · cases h
      · rename_i off size hpl
        split at h
        · rename_i hb1 hb2
          have hb1 := Nat.eq_of_beq_eq_true hb1
          have hb2 := Nat.le_of_ble_eq_true hb2
          rw [len_eq] at hb1
          have hc := h3.cells
          have hsz : v'.cells.size = size := by rw [cells_size, ← hc.1]; exact hb1
          simp only [hpl]
          rw [if_neg (by rw [hsz, hn]; simp; omega)]
          have hfold : v'.cells.zipIdx.foldl (fun cs (x : Value × Nat) => match x with | (c, j) => cs.setIfInBounds (off + j) c) cs = writeL cs off (cellsOf v') := foldl_writeA v' off cs
          rw [hfold]
          exact ih ps' _ _ t2 ⟨h1, h4⟩ (hs.put hc (by rw [← hc.1, hb1, hn]; omega)) (by rw [writeL_size]; exact hn) h
        · cases h

theorem same_list {m : Emb} {t : Tr Value} {cs : Array Value} {n : Nat} {l : List Value} (hs : Same m t cs n) (hn : cs.size = n) (h : Tr.list n t 0 = some l) : RVs m l cs.toList := by
  obtain ⟨h1, h2⟩ := Tr.list_spec _ _ _ _ h
  refine .of_at (by simp [h1, hn]) (fun i v v' hv hv' => ?_)
  have hi : i < n := by
    rcases Nat.lt_or_ge i n with hlt | hge
    · exact hlt
    · rw [List.getElem?_eq_none (by omega)] at hv; cases hv
  obtain ⟨u, u', k1, k2, k3⟩ := hs i hi
  rw [h2 i hi, Nat.zero_add, k1] at hv
  injection hv with hv
  subst hv
  have : cs.toList[i]? = some u' := by simpa using k2
  rw [this] at hv'
  injection hv' with hv'
  subst hv'
  exact k3

/-- The zero value holds no address. -/
noncomputable def allFlat (l : List Value) : Bool := List.rec (motive := fun _ => Bool) true (fun x _ ih => match flat x with
  | true => ih
  | false => false) l
theorem allFlat_rv {m : Emb} {l : List Value} (h : allFlat l = true) : RVs m l l := by
  induction l with
  | nil => exact .nil m
  | cons x l ih =>
    have h : (match flat x with
      | true => allFlat l
      | false => false) = true := h
    split at h
    · rename_i hf; exact .cons (.flat _ hf) (ih h)
    · cases h
end Go.Proofs.Ytnfmghfddjkpaaa.Ev
