/- Texts, and rows of structs that came in: what expressions of them come to. -/
import Derived.Test.YtcholmmiieddcaaEvNv
set_option linter.unusedVariables false
set_option linter.unusedSimpArgs false
set_option linter.unusedSectionVars false
namespace Go.Proofs.Ytcholmmiieddcaa.Ev
open Go Go.RowKit
/-- Are texts the same? -/
def eqT (a b : ByteArray) : Bool := a.toList == b.toList
theorem eqT_self (a : ByteArray) : eqT a a = true := by unfold eqT; exact beq_self_eq_true _
theorem eqT_turn (a b : ByteArray) : eqT a b = eqT b a := by
  unfold eqT
  rw [Bool.eq_iff_iff, beq_iff_eq, beq_iff_eq]
  exact eq_comm
section
variable {cx : Cx} {R : Addr → Option Value}
theorem n_slen (s : ByteArray) : uRd cx R 4 [.string s] = some (.int .i64 (Int.ofNat s.size)) := by rw [uRd_rd _ _ _ _ (by omega)]; rfl
theorem n_seq (t : Nat) (c : Bool) (a b : ByteArray) : uRd cx R 0 [num 11, num t, .bool c, .string a, .string b] = some (.bool (eqT a b)) := by
  rw [uRd_op]
  rfl
theorem n_byte {s : ByteArray} {i : Nat} (h : i < s.size) (k : IntKind) : uRd cx R 10 [num 5, .string s, .int k (.ofNat i)] = some (.int .u8 (Int.ofNat (s[i]!).toNat)) := by
  rw [uRd_rd _ _ _ _ (by omega)]
  show (match s.data.toList[i]? with | some b => some (Value.int .u8 b.toNat) | none => none) = _
  have hl : i < s.data.toList.length := by rw [Array.length_toList]; exact h
  rw [List.getElem?_eq_getElem hl]
  have he : s.data.toList[i] = s[i]! := by
    rw [getElem!_pos s i h]
    rfl
  rw [he]
  rfl
theorem n_t10 (s : ByteArray) (k : IntKind) (i : Nat) : uRd cx R 8 [num 10, .string s, .int k (.ofNat i)] = some (.bool (Nat.blt i s.size)) := by rw [n_tr]; rfl
theorem n_t11 (k : IntKind) (n i : Nat) : uRd cx R 8 [num 11, .int k (.ofNat n), num i] = some (.bool (Nat.ble n i)) := by rw [n_tr]; rfl
theorem n_geq (t : Nat) (c : Bool) (k : IntKind) (a b : Int) : uRd cx R 0 [num 16, num t, .bool c, .int k a, .int k b] = some (.bool (decide (a ≥ b))) := by
  rw [uRd_op]; simp only [opSem, num, binOf]; rw [binA_int (by simp) (by simp)]; rfl
theorem n_gtr (t : Nat) (c : Bool) (k : IntKind) (a b : Int) : uRd cx R 0 [num 15, num t, .bool c, .int k a, .int k b] = some (.bool (decide (a > b))) := by
  rw [uRd_op]; simp only [opSem, num, binOf]; rw [binA_int (by simp) (by simp)]; rfl
theorem n_leq (t : Nat) (c : Bool) (k : IntKind) (a b : Int) : uRd cx R 0 [num 14, num t, .bool c, .int k a, .int k b] = some (.bool (decide (a ≤ b))) := by
  rw [uRd_op]; simp only [opSem, num, binOf]; rw [binA_int (by simp) (by simp)]; rfl
theorem n_lit (l : List Value) : uRd cx R 10 (num 3 :: l) = some (.agg ⟨l⟩) := by rw [uRd_rd _ _ _ _ (by omega)]; rfl
theorem n_lit0 {α : Type} (enc : α → List Value) : uRd cx R 10 [num 3] = some (.agg ⟨([] : List α).flatMap enc⟩) := by rw [uRd_rd _ _ _ _ (by omega)]; rfl
theorem n_cat (a b : List Value) : uRd cx R 10 [num 2, .agg ⟨a⟩, .agg ⟨b⟩] = some (.agg ⟨a ++ b⟩) := by rw [uRd_rd _ _ _ _ (by omega)]; rfl
theorem n_rep (k : IntKind) (n : Nat) (ys : List Value) : uRd cx R 10 (num 4 :: .int k (.ofNat n) :: ys) = some (.agg ⟨timesL ys n⟩) := by rw [uRd_rd _ _ _ _ (by omega)]; rfl
end
/-! Rows of structs. -/
section
variable {α : Type} {enc : α → List Value} {z : Nat}
theorem flat_len (hz : ∀ a, (enc a).length = z) : ∀ l : List α, (l.flatMap enc).length = l.length * z
  | [] => by simp
  | a :: l => by rw [List.flatMap_cons, List.length_append, hz, flat_len hz l, List.length_cons, Nat.succ_mul, Nat.add_comm]
theorem flat_get (hz : ∀ a, (enc a).length = z) : ∀ (l : List α) (i : Nat) (a : α), l[i]? = some a → ∀ o, o < z → (l.flatMap enc)[i * z + o]? = (enc a)[o]?
  | [], i, a, h, o, ho => by cases h
  | b :: l, 0, a, h, o, ho => by
    injection h with h
    subst h
    rw [List.flatMap_cons, Nat.zero_mul, Nat.zero_add, List.getElem?_append_left (by rw [hz]; exact ho)]
  | b :: l, i + 1, a, h, o, ho => by
    have h : l[i]? = some a := h
    rw [List.flatMap_cons, List.getElem?_append_right (by rw [hz, Nat.succ_mul]; omega), hz, ← flat_get hz l i a h o ho]
    congr 1
    rw [Nat.succ_mul]
    omega
theorem flat_set (hz : ∀ a, (enc a).length = z) : ∀ {l : List α} {i : Nat} {v : α}, i < l.length → overL (l.flatMap enc) (i * z + 0) (enc v) = (l.set i v).flatMap enc
  | w :: l, 0, v, h => by
    unfold overL
    rw [Nat.zero_mul, List.take_zero, List.nil_append, hz, List.flatMap_cons, List.drop_append_of_le_length (by rw [hz]; omega), List.drop_of_length_le (by rw [hz]; omega)]
    rfl
  | w :: l, i + 1, v, h => by
    have ih := flat_set hz (l := l) (i := i) (v := v) (by simpa using h)
    show _ = enc w ++ (l.set i v).flatMap enc
    rw [← ih]
    unfold overL
    rw [List.flatMap_cons, Nat.succ_mul, Nat.add_zero, Nat.add_comm (i * z) z, List.take_append, List.drop_append]
    simp only [hz]
    rw [List.take_of_length_le (by rw [hz]; omega), List.drop_of_length_le (by rw [hz]; omega), show z + i * z - z = i * z + 0 by omega, show z + i * z + z - z = i * z + 0 + z by omega, List.nil_append, List.append_assoc]
theorem flat_rep {v : α} : ∀ n, timesL (enc v) n = (List.replicate n v).flatMap enc
  | 0 => rfl
  | n + 1 => by
    rw [List.replicate_succ, List.flatMap_cons, ← flat_rep n]
    rfl
structure DatG (enc : α → List Value) (z B : Nat) (Q : α → Prop) (R : Addr → Option Value) (x : Addr) (l : List α) : Prop where
  rd : ∀ i a, l[i]? = some a → ∀ o v, (enc a)[o]? = some v → R ((x.add (i * z)).add o) = some v
  all : readN R x (l.length * z) = some (l.flatMap enc)
  few : l.length < 9223372036854775808
  bnd : l.length * B ≤ 140737488351232
  ok : ∀ a, a ∈ l → Q a
def LstG (enc : α → List Value) (z B : Nat) (Q : α → Prop) (R : Addr → Option Value) (ad : Option Addr) (l : List α) : Prop := match ad with
  | none => l = []
  | some x => DatG enc z B Q R x l
variable {P : Program} {R : Addr → Option Value} {B : Nat} {Q : α → Prop} {t e : TypeId}
theorem lstG_of (hu : P.underlying t = some (.slice e)) (hs : P.cellsOf e = z) (hb : P.bytesOf e = B) (hz0 : 0 < z) (hz : ∀ a, (enc a).length = z)
    (he : ∀ f cs, Rds P R f e cs → ∃ a, cs = enc a ∧ Q a) {f : Nat} {v : Value} (h : Rds P R f t [v]) : ∃ ad l c, v = .slice ad (List.length l) c ∧ LstG enc z B Q R ad l ∧ readSl R z v = some (l.flatMap enc) ∧ l.length ≤ c := by
  cases f with
  | zero => exact h.elim
  | succ f =>
    unfold Rds at h
    rw [hu] at h
    cases v with
    | slice ad n c =>
     cases ad with
     | none =>
      have h : n = 0 := h
      subst h
      exact ⟨none, [], c, rfl, rfl, rfl, Nat.zero_le _⟩
     | some x =>
      obtain ⟨h1, h2, h3⟩ := h
      obtain ⟨l, hl, hr⟩ := pick_list (p := fun i (a : α) => (∀ o v, (enc a)[o]? = some v → R ((x.add (i * z)).add o) = some v) ∧ Q a) n (fun i hi => by
        obtain ⟨l', k1, k2, k3⟩ := h3 i hi
        obtain ⟨a, rfl, qa⟩ := he _ _ k3
        rw [hs] at k2
        exact ⟨a, fun o v hv => by rw [Deep.add_add]; exact k2 o v hv, qa⟩)
      subst hl
      have D : readN R x (l.length * z) = some (l.flatMap enc) := readN_of _ _ (flat_len hz l) fun j v hj => by
        have hlt : j < l.length * z := by
          have := (List.getElem?_eq_some_iff.1 hj).1
          rw [flat_len hz] at this
          exact this
        have hd : j / z < l.length := Nat.div_lt_of_lt_mul (by rw [Nat.mul_comm]; exact hlt)
        have hm : j % z < z := Nat.mod_lt _ hz0
        have ej : j / z * z + j % z = j := by rw [Nat.mul_comm]; exact Nat.div_add_mod j z
        have g := flat_get hz l (j / z) l[j / z] (List.getElem?_eq_getElem hd) (j % z) hm
        rw [ej, hj] at g
        have := (hr (j / z) l[j / z] (List.getElem?_eq_getElem hd)).1 (j % z) v g.symm
        rw [Deep.add_add, ej] at this
        exact this
      exact ⟨some x, l, c, rfl, ⟨fun i a hv => (hr _ _ hv).1, D, h2.1, by rw [← hb]; exact h2.2, fun a ha => by
        obtain ⟨i, hi⟩ := List.getElem?_of_mem ha
        exact (hr _ _ hi).2⟩, D, h1⟩
    | _ => exact h.elim
theorem inG (hu : P.underlying t = some (.slice e)) (hs : P.cellsOf e = z) (hb : P.bytesOf e = B) (hz0 : 0 < z) (hz : ∀ a, (enc a).length = z)
    (he : ∀ f cs, Rds P R f e cs → ∃ a, cs = enc a ∧ Q a) {v : Value} {vals : List Value} (h : InOk P R (t, none) v vals) : ∃ ad l c, v = .slice ad (List.length l) c ∧ LstG enc z B Q R ad l ∧ vals = [.agg ⟨l.flatMap enc⟩] ∧ l.length ≤ c := by
  obtain ⟨⟨f, h1⟩, h2⟩ := h
  rw [show P.underlying _ = _ from hu] at h2
  obtain ⟨cs, h3, rfl⟩ := h2
  have hv : vcells v = [v] := by cases v <;> first | rfl | (cases h3)
  rw [hv] at h1
  obtain ⟨ad, l, c, rfl, L, h4, h5⟩ := lstG_of hu hs hb hz0 hz he h1
  rw [hs, h4] at h3
  injection h3 with h3
  subst h3
  exact ⟨ad, l, c, rfl, L, rfl, h5⟩
theorem lstG_few {ad : Option Addr} {l : List α} (L : LstG enc z B Q R ad l) : l.length < 9223372036854775808 ∧ l.length * B ≤ 140737488351232 ∧ ∀ a, a ∈ l → Q a := by
  cases ad with
  | none => have : l = [] := L; subst this; exact ⟨by simp, by simp, fun a h => by cases h⟩
  | some x => have D : DatG enc z B Q R x l := L; exact ⟨D.few, D.bnd, D.ok⟩
theorem lstG_at {ad : Option Addr} {l : List α} (L : LstG enc z B Q R ad l) {i : Nat} (hi : i < l.length) : ∃ x a, ad = some x ∧ l[i]? = some a ∧ Q a ∧ (∀ o v, (enc a)[o]? = some v → R ((x.add (i * z)).add o) = some v) ∧ l.drop i = a :: l.drop (i + 1) := by
  cases ad with
  | none => have : l = [] := L; rw [this] at hi; cases hi
  | some x =>
    have D : DatG enc z B Q R x l := L
    refine ⟨x, l[i], rfl, List.getElem?_eq_getElem hi, D.ok _ (List.getElem_mem hi), D.rd i _ (List.getElem?_eq_getElem hi), List.drop_eq_getElem_cons hi⟩
theorem n_contG {cx : Cx} {ad : Option Addr} {l : List α} {c : Nat} (L : LstG enc z B Q R ad l) : uRd cx R 9 [num z, .slice ad l.length c] = some (.agg ⟨l.flatMap enc⟩) := by
  cases ad with
  | none =>
    have : l = [] := L
    subst this
    rw [uRd_rd _ _ _ _ (by omega)]
    rfl
  | some x => exact n_cs z x l.length c (l.flatMap enc) (show DatG enc z B Q R x l from L).all
theorem n_t14 {cx : Cx} (ad : Option Addr) (n c : Nat) (k k' : IntKind) (i j : Nat) : uRd cx R 8 [num 14, .slice ad n c, .int k (.ofNat i), .int k' (.ofNat j)] = some (.bool (Nat.ble i j && Nat.ble j n)) := by rw [n_tr]; rfl
theorem n_cutG {cx : Cx} (hz : ∀ a, (enc a).length = z) {ad : Option Addr} {l : List α} {c : Nat} (L : LstG enc z B Q R ad l) {i j : Nat} (hij : i ≤ j) (hj : j ≤ l.length) (hc : l.length ≤ c) (k k' : IntKind) :
    ∃ v, uRd cx R 11 [num z, .slice ad l.length c, .int k (.ofNat i), .int k' (.ofNat j)] = some v ∧ uRd cx R 9 [num z, v] = some (.agg ⟨((l.drop i).take (j - i)).flatMap enc⟩) := by
  have e1 : ∀ v, cutV [num z, .slice ad l.length c, .int k (.ofNat i), .int k' (.ofNat j)] = some v → uRd cx R 11 [num z, .slice ad l.length c, .int k (.ofNat i), .int k' (.ofNat j)] = some v := fun v h => by
    rw [uRd_rd _ _ _ _ (by omega)]; exact h
  have hcut : cutV [num z, .slice ad l.length c, .int k (.ofNat i), .int k' (.ofNat j)] = (match Nat.beq c i with
      | true => some (.slice ad (j - i) (c - i))
      | false => some (.slice (ad.map (·.add (i * z))) (j - i) (c - i))) := by
    show (match Nat.ble i j && Nat.ble j l.length with | true => _ | false => _) = _
    rw [Nat.ble_eq.mpr hij, Nat.ble_eq.mpr hj]
    rfl
  have hlen : ((l.drop i).take (j - i)).length = j - i := by rw [List.length_take, List.length_drop]; omega
  cases ad with
  | none =>
    have : l = [] := L
    subst this
    have h0 : j = 0 := Nat.le_zero.1 hj
    subst h0
    obtain rfl : i = 0 := by omega
    refine ⟨.slice none 0 c, e1 _ ?_, ?_⟩
    · rw [hcut]
      cases Nat.beq c 0 <;> rfl
    · rw [uRd_rd _ _ _ _ (by omega)]
      rfl
  | some x =>
    have D : DatG enc z B Q R x l := L
    cases hb : Nat.beq c i with
    | true =>
      have hci := Nat.eq_of_beq_eq_true hb
      have hji : j = i := by omega
      subst hji
      refine ⟨.slice (some x) (j - j) (c - j), e1 _ (by rw [hcut, hb]), ?_⟩
      rw [Nat.sub_self, List.take_zero]
      exact n_cs z x 0 _ [] (by rw [Nat.zero_mul]; rfl)
    | false =>
      refine ⟨.slice (some (x.add (i * z))) (j - i) (c - i), e1 _ (by rw [hcut, hb]; rfl), ?_⟩
      refine n_cs z _ (j - i) _ _ (readN_of _ _ (by rw [flat_len hz, hlen]) fun q v hq => ?_)
      have hq1 := (List.getElem?_eq_some_iff.1 hq).1
      rw [flat_len hz, hlen] at hq1
      have hz0 : 0 < z := by
        rcases Nat.eq_zero_or_pos z with h | h
        · rw [h, Nat.mul_zero] at hq1; omega
        · exact h
      have hd : q / z < j - i := Nat.div_lt_of_lt_mul (by rw [Nat.mul_comm]; exact hq1)
      have hm : q % z < z := Nat.mod_lt _ hz0
      have eq : q / z * z + q % z = q := by rw [Nat.mul_comm]; exact Nat.div_add_mod q z
      have hl : i + q / z < l.length := by omega
      have hget : ((l.drop i).take (j - i))[q / z]? = some l[i + q / z] := by
        rw [List.getElem?_take, if_pos hd, List.getElem?_drop, List.getElem?_eq_getElem hl]
      have g := flat_get hz _ _ _ hget (q % z) hm
      rw [eq, hq] at g
      have := D.rd _ _ (List.getElem?_eq_getElem hl) _ _ g.symm
      rw [Deep.add_add] at this ⊢
      rw [← this]
      congr 2
      rw [Nat.add_mul]
      omega
end
/-! A tree of tests whose truths are known. -/
def AllT (s : Nat → Value) (u : Nat → List Value → Option Value) : List (Value × Bool) → Prop
  | [] => True
  | p :: l => denS s u p.1 = some (.bool p.2) ∧ AllT s u l
def findT (e : Value) : List (Value × Bool) → Option Bool
  | [] => none
  | p :: l => match vEq 60 p.1 e with
    | true => some p.2
    | false => findT e l
/-- The way that is gone ends with 'true'. -/
def okT (l : List (Value × Bool)) : VT → Bool
  | .node e t f => match findT e l with
    | some true => okT l t
    | some false => okT l f
    | none => false
  | .ret [.bool true] [] => true
  | _ => false
theorem findT_ok {s : Nat → Value} {u : Nat → List Value → Option Value} {e : Value} {b : Bool} : ∀ {l : List (Value × Bool)}, AllT s u l → findT e l = some b → denS s u e = some (.bool b)
  | p :: l, h, hf => by
    unfold findT at hf
    split at hf
    · rename_i hv
      injection hf with hf
      subst hf
      have := vEq_ok 60 _ _ hv
      rw [← this]
      exact h.1
    · exact findT_ok h.2 hf
theorem okT_at {s : Nat → Value} {u : Nat → List Value → Option Value} {X : Nat → (Nat → Value) → Prop} {Q : (Nat → Value) → List Value → List (Nat × AObj) → Prop} {l : List (Value × Bool)} (h : AllT s u l) : ∀ {v : VT}, okT l v = true → Q s [.bool true] [] → At u X Q s v
  | .node e t f, hv, hQ => by
    unfold okT at hv
    split at hv
    · rename_i hf
      exact at_t (findT_ok h hf) (okT_at h hv hQ)
    · rename_i hf
      exact at_f (findT_ok h hf) (okT_at h hv hQ)
    · cases hv
  | .ret vs rs, hv, hQ => by
    unfold okT at hv
    split at hv
    · rename_i heq
      injection heq
    · rename_i heq
      injection heq with h1 h2
      subst h1 h2
      exact hQ
    · cases hv
  | .go _ _ _, hv, _ => by cases hv
  | .dead, hv, _ => by cases hv
/-! A search. -/
def idxF {α : Type} (p : α → Bool) : Nat → List α → Int
  | _, [] => .negSucc 0
  | i, v :: l => if p v then .ofNat i else idxF p (i + 1) l
theorem idx_any {α : Type} (p : α → Bool) : ∀ (l : List α) (i : Nat), decide (idxF p i l ≥ (Int.ofNat 0)) = l.any p
  | [], i => rfl
  | v :: l, i => by
    unfold idxF
    rw [List.any_cons]
    cases hp : p v with
    | true => rw [if_pos rfl, Bool.true_or]; exact decide_eq_true (Int.ofNat_le.2 (Nat.zero_le i))
    | false => rw [if_neg (by simp), Bool.false_or]; exact idx_any p l (i + 1)
theorem idx_none {α : Type} (p : α → Bool) (l : List α) (i : Nat) : decide (idxF p i l < (Int.ofNat 0)) = !(l.any p) := by
  rw [← idx_any p l i]
  by_cases h : idxF p i l < Int.ofNat 0
  · rw [decide_eq_true h, decide_eq_false (by omega)]; rfl
  · rw [decide_eq_false h, decide_eq_true (by omega)]; rfl
theorem idx_i64 {α : Type} (p : α → Bool) : ∀ (l : List α) (i : Nat), i + l.length < 9223372036854775808 → -9223372036854775808 ≤ idxF p i l ∧ idxF p i l ≤ 9223372036854775807
  | [], i, _ => by unfold idxF; decide
  | v :: l, i, h => by
    unfold idxF
    have h' : i + (l.length + 1) < 9223372036854775808 := h
    split
    · show -9223372036854775808 ≤ (i : Int) ∧ (i : Int) ≤ 9223372036854775807
      omega
    · exact idx_i64 p l (i + 1) (by omega)
end Go.Proofs.Ytcholmmiieddcaa.Ev
