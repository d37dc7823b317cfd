import Derived.Test.YtmfkdhloofmhoaaDoorEvNv
set_option linter.unusedVariables false
set_option linter.unusedSimpArgs false
set_option linter.unusedSectionVars false
namespace Go.Proofs.YtmfkdhloofmhoaaDoor.Ev
open Go Go.RowKit
def eqT (a b : ByteArray) : Bool := a.toList == b.toList
section
variable {cx : Cx} {R : Addr → Option Value}
theorem n_slen (s : ByteArray) : uRd cx R 4 [.string s] = some (.int .i64 (Int.ofNat s.size)) := by rw [uRd_rd _ _ _ _ (by omega)]; rfl
theorem n_seq (t : Nat) (c : Bool) (a b : ByteArray) : uRd cx R 0 [num 11, num t, .bool c, .string a, .string b] = some (.bool (eqT a b)) := by
  rw [uRd_op]
  rfl
theorem n_byte {s : ByteArray} {i : Nat} (h : i < s.size) (k : IntKind) : uRd cx R 10 [num 5, .string s, .int k (.ofNat i)] = some (.int .u8 (Int.ofNat (s[i]!).toNat)) := by
  rw [uRd_rd _ _ _ _ (by omega)]
  show (match s.data.toList[i]? with | some b => some (Value.int .u8 b.toNat) | none => none) = _
  have hl : i < s.data.toList.length := by rw [Array.length_toList]; exact h
  rw [List.getElem?_eq_getElem hl]
  have he : s.data.toList[i] = s[i]! := by
    rw [getElem!_pos s i h]
    rfl
  rw [he]
  rfl
theorem n_t10 (s : ByteArray) (k : IntKind) (i : Nat) : uRd cx R 8 [num 10, .string s, .int k (.ofNat i)] = some (.bool (Nat.blt i s.size)) := by rw [n_tr]; rfl
theorem n_t11 (k : IntKind) (n i : Nat) : uRd cx R 8 [num 11, .int k (.ofNat n), num i] = some (.bool (Nat.ble n i)) := by rw [n_tr]; rfl
theorem n_leq (t : Nat) (c : Bool) (k : IntKind) (a b : Int) : uRd cx R 0 [num 14, num t, .bool c, .int k a, .int k b] = some (.bool (decide (a ≤ b))) := by
  rw [uRd_op]; simp only [opSem, num, binOf]; rw [binA_int (by simp) (by simp)]; rfl
theorem n_lit (l : List Value) : uRd cx R 10 (num 3 :: l) = some (.agg ⟨l⟩) := by rw [uRd_rd _ _ _ _ (by omega)]; rfl
theorem n_cat (a b : List Value) : uRd cx R 10 [num 2, .agg ⟨a⟩, .agg ⟨b⟩] = some (.agg ⟨a ++ b⟩) := by rw [uRd_rd _ _ _ _ (by omega)]; rfl
end
section
variable {α : Type} {enc : α → List Value} {z : Nat}
theorem flat_len (hz : ∀ a, (enc a).length = z) : ∀ l : List α, (l.flatMap enc).length = l.length * z
  | [] => by simp
  | a :: l => by rw [List.flatMap_cons, List.length_append, hz, flat_len hz l, List.length_cons, Nat.succ_mul, Nat.add_comm]
theorem flat_get (hz : ∀ a, (enc a).length = z) : ∀ (l : List α) (i : Nat) (a : α), l[i]? = some a → ∀ o, o < z → (l.flatMap enc)[i * z + o]? = (enc a)[o]?
  | [], i, a, h, o, ho => by cases h
  | b :: l, 0, a, h, o, ho => by
    injection h with h
    subst h
    rw [List.flatMap_cons, Nat.zero_mul, Nat.zero_add, List.getElem?_append_left (by rw [hz]; exact ho)]
  | b :: l, i + 1, a, h, o, ho => by
    have h : l[i]? = some a := h
    rw [List.flatMap_cons, List.getElem?_append_right (by rw [hz, Nat.succ_mul]; omega), hz, ← flat_get hz l i a h o ho]
    congr 1
    rw [Nat.succ_mul]
    omega
theorem flat_rep {v : α} : ∀ n, timesL (enc v) n = (List.replicate n v).flatMap enc
  | 0 => rfl
  | n + 1 => by
    rw [List.replicate_succ, List.flatMap_cons, ← flat_rep n]
    rfl
structure DatG (enc : α → List Value) (z B : Nat) (Q : α → Prop) (R : Addr → Option Value) (x : Addr) (l : List α) : Prop where
  rd : ∀ i a, l[i]? = some a → ∀ o v, (enc a)[o]? = some v → R ((x.add (i * z)).add o) = some v
  all : readN R x (l.length * z) = some (l.flatMap enc)
  few : l.length < 9223372036854775808
  bnd : l.length * B ≤ 140737488351232
  ok : ∀ a, a ∈ l → Q a
def LstG (enc : α → List Value) (z B : Nat) (Q : α → Prop) (R : Addr → Option Value) (ad : Option Addr) (l : List α) : Prop := match ad with
  | none => l = []
  | some x => DatG enc z B Q R x l
variable {P : Program} {R : Addr → Option Value} {B : Nat} {Q : α → Prop} {t e : TypeId}
theorem lstG_of (hu : P.underlying t = some (.slice e)) (hs : P.cellsOf e = z) (hb : P.bytesOf e = B) (hz0 : 0 < z) (hz : ∀ a, (enc a).length = z)
    (he : ∀ f cs, Rds P R f e cs → ∃ a, cs = enc a ∧ Q a) {f : Nat} {v : Value} (h : Rds P R f t [v]) : ∃ ad l c, v = .slice ad (List.length l) c ∧ LstG enc z B Q R ad l ∧ readSl R z v = some (l.flatMap enc) ∧ l.length ≤ c := by
  cases f with
  | zero => exact h.elim
  | succ f =>
    unfold Rds at h
    rw [hu] at h
    cases v with
    | slice ad n c =>
     cases ad with
     | none =>
      have h : n = 0 := h
      subst h
      exact ⟨none, [], c, rfl, rfl, rfl, Nat.zero_le _⟩
     | some x =>
      obtain ⟨h1, h2, h3⟩ := h
      obtain ⟨l, hl, hr⟩ := pick_list (p := fun i (a : α) => (∀ o v, (enc a)[o]? = some v → R ((x.add (i * z)).add o) = some v) ∧ Q a) n (fun i hi => by
        obtain ⟨l', k1, k2, k3⟩ := h3 i hi
        obtain ⟨a, rfl, qa⟩ := he _ _ k3
        rw [hs] at k2
        exact ⟨a, fun o v hv => by rw [Deep.add_add]; exact k2 o v hv, qa⟩)
      subst hl
      have D : readN R x (l.length * z) = some (l.flatMap enc) := readN_of _ _ (flat_len hz l) fun j v hj => by
        have hlt : j < l.length * z := by
          have := (List.getElem?_eq_some_iff.1 hj).1
          rw [flat_len hz] at this
          exact this
        have hd : j / z < l.length := Nat.div_lt_of_lt_mul (by rw [Nat.mul_comm]; exact hlt)
        have hm : j % z < z := Nat.mod_lt _ hz0
        have ej : j / z * z + j % z = j := by rw [Nat.mul_comm]; exact Nat.div_add_mod j z
        have g := flat_get hz l (j / z) l[j / z] (List.getElem?_eq_getElem hd) (j % z) hm
        rw [ej, hj] at g
        have := (hr (j / z) l[j / z] (List.getElem?_eq_getElem hd)).1 (j % z) v g.symm
        rw [Deep.add_add, ej] at this
        exact this
      exact ⟨some x, l, c, rfl, ⟨fun i a hv => (hr _ _ hv).1, D, h2.1, by rw [← hb]; exact h2.2, fun a ha => by
        obtain ⟨i, hi⟩ := List.getElem?_of_mem ha
        exact (hr _ _ hi).2⟩, D, h1⟩
    | _ => exact h.elim
theorem inG (hu : P.underlying t = some (.slice e)) (hs : P.cellsOf e = z) (hb : P.bytesOf e = B) (hz0 : 0 < z) (hz : ∀ a, (enc a).length = z)
    (he : ∀ f cs, Rds P R f e cs → ∃ a, cs = enc a ∧ Q a) {v : Value} {vals : List Value} (h : InOk P R (t, none) v vals) : ∃ ad l c, v = .slice ad (List.length l) c ∧ LstG enc z B Q R ad l ∧ vals = [.agg ⟨l.flatMap enc⟩] ∧ l.length ≤ c := by
  obtain ⟨⟨f, h1⟩, h2⟩ := h
  rw [show P.underlying _ = _ from hu] at h2
  obtain ⟨cs, h3, rfl⟩ := h2
  have hv : vcells v = [v] := by cases v <;> first | rfl | (cases h3)
  rw [hv] at h1
  obtain ⟨ad, l, c, rfl, L, h4, h5⟩ := lstG_of hu hs hb hz0 hz he h1
  rw [hs, h4] at h3
  injection h3 with h3
  subst h3
  exact ⟨ad, l, c, rfl, L, rfl, h5⟩
theorem lstG_few {ad : Option Addr} {l : List α} (L : LstG enc z B Q R ad l) : l.length < 9223372036854775808 ∧ l.length * B ≤ 140737488351232 ∧ ∀ a, a ∈ l → Q a := by
  cases ad with
  | none => have : l = [] := L; subst this; exact ⟨by simp, by simp, fun a h => by cases h⟩
  | some x => have D : DatG enc z B Q R x l := L; exact ⟨D.few, D.bnd, D.ok⟩
theorem lstG_at {ad : Option Addr} {l : List α} (L : LstG enc z B Q R ad l) {i : Nat} (hi : i < l.length) : ∃ x a, ad = some x ∧ l[i]? = some a ∧ Q a ∧ (∀ o v, (enc a)[o]? = some v → R ((x.add (i * z)).add o) = some v) ∧ l.drop i = a :: l.drop (i + 1) := by
  cases ad with
  | none => have : l = [] := L; rw [this] at hi; cases hi
  | some x =>
    have D : DatG enc z B Q R x l := L
    refine ⟨x, l[i], rfl, List.getElem?_eq_getElem hi, D.ok _ (List.getElem_mem hi), D.rd i _ (List.getElem?_eq_getElem hi), List.drop_eq_getElem_cons hi⟩
end
def idxF {α : Type} (p : α → Bool) : Nat → List α → Int
  | _, [] => .negSucc 0
  | i, v :: l => if p v then .ofNat i else idxF p (i + 1) l
end Go.Proofs.YtmfkdhloofmhoaaDoor.Ev
