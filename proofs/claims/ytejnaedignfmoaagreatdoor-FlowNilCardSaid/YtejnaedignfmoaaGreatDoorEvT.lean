/- Tables of the program that a call reads: from the words of a row that lists them to what the reckoner asks. -/
import Derived.Test.YtejnaedignfmoaaGreatDoorEvZ
import Derived.ProofKit
import Derived.OpenShut
import Derived.LaidMore
import Derived.MakeChecks
set_option linter.unusedVariables false
set_option linter.unusedSimpArgs false
namespace Go.Proofs.YtejnaedignfmoaaGreatDoor.Ev
open Go Go.RowKit

theorem laid_var {P : Program} {w : World} : ∀ {l : List (String × DataW Unit)} {ps : List MemPlace}, DataW.LaidVars P w l ps → ∀ {nm : String} {d : DataW Unit}, (nm, d) ∈ l →
    ∃ g t cs fuel p, P.globalNamed nm = some g ∧ (P.globals[g]?).map (·.type) = some t ∧ w.var? P nm = some cs ∧ DataW.trod (fun _ => ()) P w 0 (fun _ => true) false fuel t cs.toList = some (d, p) := by
  intro l
  induction l with
  | nil => intro ps _ nm d h; cases h
  | cons x l ih =>
    intro ps h nm d hm
    obtain ⟨n, d0⟩ := x
    obtain ⟨g, t, cs, fuel, p, q, h1, h2, h3, h4, h5, h6⟩ := h
    rcases List.mem_cons.1 hm with he | hm
    · injection he with e1 e2
      subst e1 e2
      exact ⟨g, t, cs, fuel, p, h1, h2, h3, h4⟩
    · exact ih h5 hm

theorem ints_of_trod {P : Program} {w : World} {H : Type} {enc : TypeId × Value → H} {base : Nat} {spare : Nat → Bool} {held : Bool} {fuel n : Nat} {t e : TypeId} {k : IntKind} {cs : List Value} {zs : List Int} {p : List MemPlace}
    (ht : P.underlying t = some (.array n e)) (he : P.underlying e = some (.int k)) (hc : P.cellsOf e = 1)
    (h : DataW.trod enc P w base spare held fuel t cs = some (.agg (zs.map fun z => .lit (.int k z)), p)) (i : Nat) (z : Int) (hz : zs[i]? = some z) : cs[i]? = some (.int k z) := by
  obtain ⟨xs, m, -, hx, -, hn, hall⟩ := DataW.trod_array ht h
  injection hx with hx1 hx2
  injection hx1 with hx1
  have hlen : xs.length = zs.length := by have := congrArg List.length hx1; simpa using this.symm
  have hi : i < zs.length := (List.getElem?_eq_some_iff.1 hz).1
  have hi' : i < n := by omega
  have h1 := hall i hi'
  rw [hc] at h1
  have hxi : xs[i]? = some xs[i] := List.getElem?_eq_getElem (by omega)
  rw [hxi] at h1
  obtain ⟨r, e1, e2, -⟩ := DataW.trod_int he h1
  have h3 : (xs.map (·.1))[i]? = some (DataW.lit (.int k z)) := by rw [← hx1]; simp [hz]
  rw [List.getElem?_map, hxi] at h3
  simp only [Option.map_some, Option.some.injEq] at h3
  rw [e2] at h3
  simp only [DataW.lit.injEq, Lit.int.injEq, true_and] at h3
  subst h3
  have h4 : ((cs.drop (i * 1)).take 1)[0]? = some (.int k r) := by rw [e1]; rfl
  simpa using h4

/-- A listed table of integers, as the reckoner asks of it. -/
theorem table_of {P : Program} {w : World} {l : List (String × DataW Unit)} (hl : laidMet P l w) {nm : String} {g n : Nat} {t e : TypeId} {k : IntKind} {zs : List Int}
    (hm : (nm, DataW.agg (zs.map fun z => .lit (.int k z))) ∈ l) (hg : P.globalNamed nm = some g) (hgt : (P.globals[g]?).map (·.type) = some t)
    (ht : P.underlying t = some (.array n e)) (he : P.underlying e = some (.int k)) (hc : P.cellsOf e = 1) :
    ∃ cs ty fr, w.heap[g]? = some (.cells cs ty fr) ∧ ∀ (i : Nat) (v : Value), (Tr.putList (zs.map (Value.int k)) .nil 0).get i = some v → GC v cs[i]? := by
  obtain ⟨ps, hv, -, -⟩ := hl
  obtain ⟨g', t', cs, fuel, p, h1, h2, h3, h4⟩ := laid_var hv hm
  obtain rfl := Option.some.inj (hg.symm.trans h1)
  obtain rfl := Option.some.inj (hgt.symm.trans h2)
  unfold World.var? at h3
  rw [hg] at h3
  simp only [Option.bind_some] at h3
  split at h3
  · rename_i cs' ty fr hh
    injection h3 with h3
    subst h3
    refine ⟨cs', ty, fr, hh, fun i v hget => ?_⟩
    rw [Tr.get_putList] at hget
    split at hget
    · rename_i hr
      rw [Nat.sub_zero, List.getElem?_map] at hget
      cases hz : zs[i]? with
      | none => rw [hz] at hget; cases hget
      | some z =>
        rw [hz] at hget
        simp only [Option.map_some, Option.some.injEq] at hget
        subst hget
        exact .inl ⟨rfl, by simpa using ints_of_trod ht he hc h4 i z hz⟩
    · rw [Tr.get_nil] at hget; cases hget
  · cases h3

/-! A listed table of any shape, cell by cell. -/
def flatEach (go : TypeId → DataW Unit → List (Nat × Value)) : List (Nat × TypeId) → List (DataW Unit) → List (Nat × Value)
  | (o, t) :: r, d :: ds => (go t d).map (fun x => (o + x.1, x.2)) ++ flatEach go r ds
  | _, _ => []
def flatW (P : Program) : Nat → TypeId → DataW Unit → List (Nat × Value)
  | 0, _, _ => []
  | n + 1, t, d => match P.underlying t, d with
    | some .bool, .lit (.bool b) => [(0, .bool b)]
    | some (.int k), .lit (.int _ z) => [(0, .int k z)]
    | some .string, .lit (.string s) => [(0, .string ⟨⟨s⟩⟩)]
    | some (.struct fs), .agg ps => flatEach (flatW P n) (fs.toList.map fun f => (f.offset, f.type)) ps
    | some (.array m e), .agg ps => flatEach (flatW P n) ((List.range m).map fun i => (i * P.cellsOf e, e)) ps
    | _, _ => []

theorem flatEach_mem {go : TypeId → DataW Unit → List (Nat × Value)} : ∀ {l : List (Nat × TypeId)} {ds : List (DataW Unit)} {i : Nat} {v : Value}, (i, v) ∈ flatEach go l ds →
    ∃ (k o : Nat) (t : TypeId) (d : DataW Unit) (j : Nat), l[k]? = some (o, t) ∧ ds[k]? = some d ∧ (j, v) ∈ go t d ∧ i = o + j
  | [], _, i, v, h => by simp [flatEach] at h
  | (o, t) :: r, [], i, v, h => by simp [flatEach] at h
  | (o, t) :: r, d :: ds, i, v, h => by
    unfold flatEach at h
    rcases List.mem_append.1 h with h | h
    · obtain ⟨⟨j, u⟩, hj, he⟩ := List.mem_map.1 h
      injection he with e1 e2
      subst e1 e2
      exact ⟨0, o, t, d, j, rfl, rfl, hj, rfl⟩
    · obtain ⟨k, o', t', d', j, h1, h2, h3, h4⟩ := flatEach_mem h
      exact ⟨k + 1, o', t', d', j, h1, h2, h3, h4⟩

theorem get_part {cs : List Value} {o c j : Nat} {v : Value} (h : ((cs.drop o).take c)[j]? = some v) : cs[o + j]? = some v := by
  rw [List.getElem?_take] at h
  split at h
  · rwa [List.getElem?_drop] at h
  · cases h

theorem flatW_mem {P : Program} {w : World} {enc : TypeId × Value → Unit} {base : Nat} {spare : Nat → Bool} {held : Bool} : ∀ (n : Nat) {fuel : Nat} {t : TypeId} {cs : List Value} {d : DataW Unit} {p : List MemPlace},
    DataW.trod enc P w base spare held fuel t cs = some (d, p) → ∀ {i : Nat} {v : Value}, (i, v) ∈ flatW P n t d → cs[i]? = some v := by
  intro n
  induction n with
  | zero => intro fuel t cs d p h i v hm; cases hm
  | succ n ih =>
    intro fuel t cs d p h i v hm
    unfold flatW at hm
    split at hm
    · rename_i b ht
      obtain ⟨b', rfl, hx⟩ := DataW.trod_bool ht h
      injection hx with hx
      injection hx with hx
      injection hx with hx
      subst hx
      rw [List.mem_singleton] at hm
      injection hm with e1 e2
      subst e1 e2
      rfl
    · rename_i k k' z ht
      obtain ⟨z', rfl, hx, -⟩ := DataW.trod_int ht h
      injection hx with hx
      injection hx with hx
      injection hx with hx1 hx
      subst hx
      rw [List.mem_singleton] at hm
      injection hm with e1 e2
      subst e1 e2
      rfl
    · rename_i s ht
      obtain ⟨s', rfl, hx, -⟩ := DataW.trod_string ht h
      injection hx with hx
      injection hx with hx
      injection hx with hx
      subst hx
      rw [List.mem_singleton] at hm
      injection hm with e1 e2
      subst e1 e2
      rfl
    · rename_i fs ps ht
      obtain ⟨xs, m, -, hx, -, hn, hall⟩ := DataW.trod_struct ht h
      injection hx with hx
      injection hx with hx
      subst hx
      obtain ⟨k, o, te, de, j, h1, h2, h3, rfl⟩ := flatEach_mem hm
      rw [List.getElem?_map] at h1 h2
      obtain ⟨f, hf, hf2⟩ := Option.map_eq_some_iff.1 h1
      obtain ⟨x, hx, hx2⟩ := Option.map_eq_some_iff.1 h2
      injection hf2 with e1 e2
      subst e1 e2 hx2
      have := hall k f (by simpa using hf)
      rw [hx] at this
      exact get_part (ih this h3)
    · rename_i mm e ps ht
      obtain ⟨xs, m, -, hx, -, hn, hall⟩ := DataW.trod_array ht h
      injection hx with hx
      injection hx with hx
      subst hx
      obtain ⟨k, o, te, de, j, h1, h2, h3, rfl⟩ := flatEach_mem hm
      rw [List.getElem?_map] at h1 h2
      obtain ⟨q, hq, hq2⟩ := Option.map_eq_some_iff.1 h1
      obtain ⟨x, hx, hx2⟩ := Option.map_eq_some_iff.1 h2
      injection hq2 with e1 e2
      have hk : k < mm := by
        have := (List.getElem?_eq_some_iff.1 hq).1
        simpa using this
      have hqk : q = k := by
        rw [List.getElem?_range hk] at hq
        exact (Option.some.inj hq).symm
      subst hqk e1 e2 hx2
      have := hall q hk
      rw [hx] at this
      exact get_part (ih this h3)
    · cases hm

noncomputable def Tr.putSome (l : List (Nat × Value)) : Tr Value := List.rec (motive := fun _ => Tr Value) .nil (fun x _ ih => ih.set x.1 x.2) l

theorem Tr.get_putSome : ∀ {l : List (Nat × Value)} {i : Nat} {v : Value}, (Tr.putSome l).get i = some v → (i, v) ∈ l
  | [], i, v, h => by rw [show Tr.putSome [] = Tr.nil from rfl, Tr.get_nil] at h; cases h
  | x :: l, i, v, h => by
    rw [show Tr.putSome (x :: l) = (Tr.putSome l).set x.1 x.2 from rfl, Tr.get_set] at h
    split at h
    · rename_i he
      injection h with h
      subst he h
      exact List.mem_cons_self
    · exact List.mem_cons_of_mem _ (Tr.get_putSome h)

/-- A listed table, as the reckoner asks of it. -/
theorem table_any {P : Program} {w : World} {l : List (String × DataW Unit)} (hl : laidMet P l w) {nm : String} {g n : Nat} {t : TypeId} {d : DataW Unit} {tab : List (Nat × Value)}
    (hm : (nm, d) ∈ l) (hg : P.globalNamed nm = some g) (hgt : (P.globals[g]?).map (·.type) = some t) (hf : flatW P n t d = tab) (hfl : tab.all (fun x => flat x.2) = true) :
    ∃ cs ty fr, w.heap[g]? = some (.cells cs ty fr) ∧ ∀ (i : Nat) (v : Value), (Tr.putSome tab).get i = some v → GC v cs[i]? := by
  subst hf
  obtain ⟨ps, hv, -, -⟩ := hl
  obtain ⟨g', t', cs, fuel, p, h1, h2, h3, h4⟩ := laid_var hv hm
  obtain rfl := Option.some.inj (hg.symm.trans h1)
  obtain rfl := Option.some.inj (hgt.symm.trans h2)
  unfold World.var? at h3
  rw [hg] at h3
  simp only [Option.bind_some] at h3
  split at h3
  · rename_i cs' ty fr hh
    injection h3 with h3
    subst h3
    refine ⟨cs', ty, fr, hh, fun i v hget => ?_⟩
    have hmem := Tr.get_putSome hget
    exact .inl ⟨List.all_eq_true.1 hfl _ hmem, by simpa using flatW_mem n h4 hmem⟩
  · cases h3
end Go.Proofs.YtejnaedignfmoaaGreatDoor.Ev
