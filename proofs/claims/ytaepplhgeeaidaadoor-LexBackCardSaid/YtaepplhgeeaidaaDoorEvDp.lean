import Derived.Test.YtaepplhgeeaidaaDoorEvB
import Derived.Deep.Slices
import Derived.ChangeArms
import GoSem.ClaimJoined
set_option linter.unusedVariables false
set_option linter.unusedSimpArgs false
namespace Go.Proofs.YtaepplhgeeaidaaDoor.Ev
open Go Go.RowKit
section
variable {P : Program} {r : Addr → Option Value}
theorem flatF_ok {go : TypeId → Option (List TypeId)} {sz : TypeId → Nat}
    (hgo : ∀ (t : TypeId) (ts : List TypeId), go t = some ts → ∀ (f : Nat) (cs : List Value), Rds P r f t cs → ∀ (q : Nat) (u : TypeId) (v : Value), ts[q]? = some u → cs[q]? = some v → ∃ f', Rds P r f' u [v]) :
    ∀ (fs : List Field) (off : Nat) (ts : List TypeId), flatF go sz off fs = some ts → ∀ (f : Nat) (cs : List Value), (∀ fd, fd ∈ fs → Rds P r f fd.type ((cs.drop fd.offset).take (sz fd.type))) →
      ∀ (q : Nat) (u : TypeId) (v : Value), ts[q]? = some u → cs[off + q]? = some v → ∃ f', Rds P r f' u [v] := by
  intro fs
  induction fs with
  | nil =>
    intro off ts h f cs _ q u v hq
    simp only [flatF] at h
    injection h with h
    subst h
    simp at hq
  | cons fd fs ih =>
    intro off ts h f cs hr q u v hq hv
    unfold flatF at h
    split at h
    case h_2 => cases h
    rename_i t1 h1
    split at h
    case h_2 => cases h
    rename_i e1 e2
    split at h
    case h_2 => cases h
    rename_i us h2
    injection h with h
    subst h
    have e1 := Nat.eq_of_beq_eq_true e1
    have e2 := Nat.eq_of_beq_eq_true e2
    by_cases hlt : q < t1.length
    · rw [List.getElem?_append_left hlt] at hq
      refine hgo _ _ h1 f _ (hr fd List.mem_cons_self) q u v hq ?_
      rw [e1, List.getElem?_take, if_pos (by omega), List.getElem?_drop]
      exact hv
    · rw [List.getElem?_append_right (by omega)] at hq
      refine ih _ _ h2 f cs (fun fd hm => hr fd (List.mem_cons_of_mem _ hm)) _ u v hq ?_
      rw [show off + t1.length + (q - t1.length) = off + q by omega]
      exact hv
theorem rds_len {f : Nat} {t : TypeId} {cs : List Value} (h : Rds P r f t cs) : (match P.underlying t with
    | some (.struct _) | some (.array _ _) => cs.length = P.cellsOf t
    | _ => ∃ v, cs = [v]) := by
  cases f with
  | zero => exact h.elim
  | succ f =>
    unfold Rds at h
    generalize P.underlying t = o at h ⊢
    rcases o with _ | d
    · exact h.elim
    cases d <;> first
      | exact h.1
      | (simp only at h ⊢; split at h <;> first | exact ⟨_, rfl⟩ | exact h.elim)
theorem flatT_ok : ∀ (d : Nat) (t : TypeId) (ts : List TypeId), flatT P d t = some ts → ∀ (f : Nat) (cs : List Value), Rds P r f t cs → ∀ (q : Nat) (u : TypeId) (v : Value), ts[q]? = some u → cs[q]? = some v → ∃ f', Rds P r f' u [v] := by
  intro d
  induction d with
  | zero => intro t ts h; cases h
  | succ d ih =>
    intro t ts h f cs hr q u v hq hv
    have hlen := rds_len hr
    have one : ts = [t] → (∃ x, cs = [x]) → ∃ f', Rds P r f' u [v] := by
      rintro rfl ⟨x, rfl⟩
      cases q with
      | zero => simp at hq hv; subst hq; subst hv; exact ⟨f, hr⟩
      | succ q => simp at hq
    unfold flatT at h
    split at h
    · rename_i fs hu
      split at h
      case h_2 => cases h
      rename_i us h1
      split at h
      case h_2 => cases h
      rename_i e1
      injection h with h
      subst h
      cases f with
      | zero => exact hr.elim
      | succ f =>
        unfold Rds at hr
        rw [hu] at hr
        exact flatF_ok ih fs.toList 0 us h1 f cs (fun fd hm => by
          obtain ⟨i, hi⟩ := List.mem_iff_getElem?.1 hm
          exact hr.2 i fd (by simpa using hi)) q u v hq (by simpa using hv)
    · rename_i n e hu
      split at h
      case h_2 => cases h
      rename_i us h1
      split at h
      case h_2 => cases h
      rename_i e1 e2
      injection h with h
      subst h
      have e1 := Nat.eq_of_beq_eq_true e1
      have e2 := Nat.eq_of_beq_eq_true e2
      cases f with
      | zero => exact hr.elim
      | succ f =>
        unfold Rds at hr
        rw [hu] at hr
        have hql : q < n * us.length := by
          have := (List.getElem?_eq_some_iff.1 hq).1
          simpa using this
        have hpos : 0 < us.length := by
          rcases Nat.eq_zero_or_pos us.length with h0 | h0
          · rw [h0] at hql; simp at hql
          · exact h0
        have hdiv : q / us.length < n := (Nat.div_lt_iff_lt_mul hpos).2 hql
        have hmod : q % us.length < us.length := Nat.mod_lt _ hpos
        have hq' : us[q % us.length]? = some u := by
          rw [← hq]
          exact (flat_rep us n q hql).symm
        refine ih e us h1 f _ (hr.2 _ hdiv) (q % us.length) u v hq' ?_
        rw [← e1, List.getElem?_take, if_pos hmod, List.getElem?_drop, Nat.mul_comm, Nat.div_add_mod]
        exact hv
    · rename_i hn1 hn2 hu
      injection h with h
      refine one h.symm ?_
      split at hlen
      · rename_i fs h2; rw [hu] at h2; exact absurd (Option.some.inj h2) (hn1 fs)
      · rename_i n e h2; rw [hu] at h2; exact absurd (Option.some.inj h2) (hn2 n e)
      · exact hlen
    · cases h
where
  flat_rep (us : List TypeId) : ∀ (n q : Nat), q < n * us.length → (List.replicate n us).flatten[q]? = us[q % us.length]? := by
    intro n
    induction n with
    | zero => intro q h; simp at h
    | succ n ih =>
      intro q h
      rw [List.replicate_succ, List.flatten_cons]
      by_cases hlt : q < us.length
      · rw [List.getElem?_append_left hlt, Nat.mod_eq_of_lt hlt]
      · rw [List.getElem?_append_right (by omega), ih _ (by rw [Nat.succ_mul] at h; omega)]
        rw [← Nat.mod_eq_sub_mod (by omega)]
theorem rds_ty {f : Nat} {u : TypeId} {v : Value} (h : Rds P r f u [v]) (hn : (match P.underlying u with | some (.struct _) | some (.array _ _) => False | _ => True)) : tyOk (cellTy P u) v = true := by
  cases f with
  | zero => exact h.elim
  | succ f =>
    unfold Rds at h
    have hc : cellTy P u = (match P.underlying u with | some .bool => 1 | some (.int k) => kindCode k | some .string => 2 | _ => 0) := rfl
    rw [hc]
    generalize P.underlying u = o at h hn hc ⊢
    rcases o with _ | d
    · exact h.elim
    cases d <;> first
      | exact hn.elim
      | (simp only at h hc ⊢; rw [← hc]; exact h)
      | (simp only at h ⊢; split at h <;> first | rfl | exact h.elim | (rename_i hh; cases hh; first | rfl | (simp [tyOk]; exact h)))
theorem weightsEach_mem {H : Type} {t : TypeId} {d : DataW H} {q : Nat} : ∀ {ts : List TypeId} {ds : List (DataW H)} {i : Nat}, ts[i]? = some t → ds[i]? = some d → q ∈ DataW.weights P t d → q ∈ DataW.weightsEach P ts ds
  | [], _, i, h, _, _ => by simp at h
  | _ :: _, [], i, _, h, _ => by simp at h
  | t0 :: ts, d0 :: ds, 0, h1, h2, h => by
    simp at h1 h2
    subst h1; subst h2
    rw [DataW.weightsEach]
    exact List.mem_append.2 (.inl h)
  | t0 :: ts, d0 :: ds, i + 1, h1, h2, h => by
    rw [DataW.weightsEach]
    exact List.mem_append.2 (.inr (weightsEach_mem (by simpa using h1) (by simpa using h2) h))
theorem weightsAll_mem {H : Type} {t : TypeId} {d : DataW H} {q : Nat} : ∀ {ds : List (DataW H)} {i : Nat}, ds[i]? = some d → q ∈ DataW.weights P t d → q ∈ DataW.weightsAll P t ds
  | [], i, h, _ => by simp at h
  | d0 :: ds, 0, h2, h => by
    simp at h2
    subst h2
    rw [DataW.weightsAll]
    exact List.mem_append.2 (.inl h)
  | d0 :: ds, i + 1, h2, h => by
    rw [DataW.weightsAll]
    exact List.mem_append.2 (.inr (weightsAll_mem (by simpa using h2) h))
theorem rds_of_trod {H : Type} {enc : TypeId × Value → H} {w : World} {base : Nat} {held : Bool} : ∀ (f : Nat) (t : TypeId) (cs : List Value) (x : DataW H × List MemPlace),
    DataW.trod enc P w base (fun _ => true) held f t cs = some x → (∀ q, q ∈ DataW.weights P t x.1 → q ≤ reachBytes) → Rds P (fun a => w.cell? a) f t cs := by
  intro f
  induction f with
  | zero => intro t cs x h; simp [DataW.trod] at h
  | succ f ih =>
    intro t cs x h hwt
    unfold Rds
    have hc : cellTy P t = (match P.underlying t with | some .bool => 1 | some (.int k) => kindCode k | some .string => 2 | _ => 0) := rfl
    cases hu : P.underlying t with
    | none => unfold DataW.trod at h; rw [hu] at h; simp at h
    | some d =>
      rw [hu] at hc
      cases d with
      | struct fs =>
        obtain ⟨xs, n, hn, hxx, h1, h2, h3⟩ := DataW.trod_struct hu h
        obtain rfl : f = n := by omega
        refine ⟨h1, fun i fd hf => ?_⟩
        have hi : i < xs.length := by
          have := (Array.getElem?_eq_some_iff.1 hf).1
          omega
        refine ih _ _ _ ((h3 i fd hf).trans (List.getElem?_eq_getElem hi)) (fun q hq => hwt q ?_)
        rw [hxx]
        simp only [DataW.weights, hu]
        exact weightsEach_mem (i := i) (by simp [hf]) (by simp [hi]) hq
      | slice e =>
        rcases Deep.open_slice hu h with ⟨rfl, -⟩ | ⟨a, len, cap, m, n, D, Pl, rfl, hb, hl, hm, hmm, -, hi⟩
        · rfl
        · simp only
          rcases DataW.trod_slice hu h with ⟨h0, -⟩ | ⟨a', len', cap', elems, rest, n', hn', hcs, hxx, -, -, -, hel, hat, hrest, -⟩
          · cases h0
          injection hcs with hcs _
          injection hcs with q1 q2 q3
          injection q1 with q1
          subst q1; subst q2; subst q3
          obtain rfl : f = n' := by omega
          have hwx : DataW.weights P t x.1 = (elems.length + rest.length) * P.bytesOf e :: (DataW.weightsAll P e (elems.map (·.1)) ++ DataW.weightsAll P e (rest.map (·.1))) := by
            rw [hxx]
            simp only [DataW.weights, hu, List.length_map]
          refine ⟨hl, ⟨by unfold maxLen at hm; omega, ?_⟩, fun i hil => ?_⟩
          · have := hwt ((elems.length + rest.length) * P.bytesOf e) (by rw [hwx]; exact List.mem_cons_self)
            rw [hel, (hrest rfl).1, show len + (cap - len) = cap by omega] at this
            exact Nat.le_trans (Nat.mul_le_mul_right _ hl) this
          have hb := hat i hil
          rw [List.getElem?_eq_getElem (by omega)] at hb
          obtain ⟨l, hl1, hl2⟩ := Option.bind_eq_some_iff.1 hb
          obtain ⟨_, k1, k2⟩ := World.cells?_some hl1
          refine ⟨l, k1, fun j v hj => ?_, ih _ _ _ hl2 (fun q hq => hwt q ?_)⟩
          · have hjl : j < P.cellsOf e := by
              have := (List.getElem?_eq_some_iff.1 hj).1
              omega
            rw [← Deep.add_add, k2 j hjl, hj]
          · rw [hwx]
            exact List.mem_cons_of_mem _ (List.mem_append.2 (.inl (weightsAll_mem (i := i) (by simp [show i < elems.length by omega]) hq)))
      | array n e =>
        unfold DataW.trod at h
        rw [hu] at h
        simp only at h
        split at h
        case isFalse => cases h
        rename_i hlen
        obtain ⟨xs, hx, hxx⟩ := Option.map_eq_some_iff.1 h
        refine ⟨hlen, fun i hi => ?_⟩
        have h1 := mapM_some_get hx i i (by simp [hi])
        have hxl := mapM_some_length hx
        have : i < xs.length := by rw [hxl]; simpa using hi
        refine ih _ _ _ (h1.trans (List.getElem?_eq_getElem this)) (fun q hq => hwt q ?_)
        rw [← hxx]
        simp only [DataW.weights, hu]
        exact weightsAll_mem (i := i) (by simp [this]) hq
      | string =>
        obtain ⟨s, rfl, -, hs⟩ := DataW.trod_string hu h
        show s.size < _
        unfold maxLen at hs
        omega
      | bool =>
        obtain ⟨b, rfl, -⟩ := DataW.trod_bool hu h
        simp only [hc]
        rfl
      | int k =>
        obtain ⟨n, rfl, -, hw⟩ := DataW.trod_int hu h
        simp only [hc]
        simp only [Lit.wf, decide_eq_true_eq, Bool.and_eq_true] at hw
        simp [tyOk]
        exact .inr hw
      | _ =>
        simp only [hc]
        unfold DataW.trod at h
        rw [hu] at h
        simp only at h
        first
          | (cases h; done)
          | (split at h <;> first
            | rfl
            | (exfalso; simp_all; done))
theorem mapO_cons {f : Value → Option Value} {x : Value} {l r : List Value} (h : mapO f (x :: l) = some r) : ∃ y ys, f x = some y ∧ mapO f l = some ys ∧ r = y :: ys := by
  simp only [mapO] at h
  split at h
  · cases h
  · rename_i y hy
    split at h
    · cases h
    · rename_i ys hys
      injection h with h
      exact ⟨y, ys, hy, hys, h.symm⟩
theorem mapO_of {f : Value → Option Value} {x y : Value} {l ys : List Value} (h : f x = some y) (h2 : mapO f l = some ys) : mapO f (x :: l) = some (y :: ys) := by
  simp only [mapO, h, h2]
theorem den_fn {s : Nat → Value} {u : Nat → List Value → Option Value} {d k : Nat} {nm : String} {xs : List Value} {ys : Array Value} {v : Value} (h : den s u d (.func (.methodOf (k + 1) nm) ⟨xs⟩ ys) = some v) :
    ∃ d' l, d = d' + 1 ∧ mapO (den s u d') xs = some l ∧ u k l = some v := by
  cases d with
  | zero => cases h
  | succ d =>
    have h : (match mapO (den s u d) xs with | some vs => u k vs | none => none) = some v := h
    split at h
    · exact ⟨d, _, rfl, by assumption, h⟩
    · cases h
theorem den_fn_of {s : Nat → Value} {u : Nat → List Value → Option Value} {d k : Nat} {nm : String} {xs l : List Value} {ys : Array Value} {v : Value} (h : mapO (den s u d) xs = some l) (hu : u k l = some v) :
    den s u (d + 1) (.func (.methodOf (k + 1) nm) ⟨xs⟩ ys) = some v := by
  show (match mapO (den s u d) xs with | some vs => u k vs | none => none) = some v
  rw [h]
  exact hu
theorem den_one {s : Nat → Value} {u : Nat → List Value → Option Value} {d d' : Nat} {e v v' : Value} (h : den s u d e = some v) (h' : den s u d' e = some v') : v = v' := by
  have e1 := den_mono (Nat.le_max_left d d') h
  have e2 := den_mono (Nat.le_max_right d d') h'
  rw [e1] at e2
  exact Option.some.inj e2
theorem map1 {f : Value → Option Value} {x : Value} {l : List Value} (h : mapO f [x] = some l) : ∃ a, l = [a] ∧ f x = some a := by
  obtain ⟨y, ys, h1, h2, rfl⟩ := mapO_cons h
  injection h2 with h2
  subst h2
  exact ⟨y, rfl, h1⟩
theorem map2 {f : Value → Option Value} {x y : Value} {l : List Value} (h : mapO f [x, y] = some l) : ∃ a b, l = [a, b] ∧ f x = some a ∧ f y = some b := by
  obtain ⟨a, t, h1, h2, rfl⟩ := mapO_cons h
  obtain ⟨b, rfl, h3⟩ := map1 h2
  exact ⟨a, b, rfl, h1, h3⟩
theorem map3 {f : Value → Option Value} {x y z : Value} {l : List Value} (h : mapO f [x, y, z] = some l) : ∃ a b c, l = [a, b, c] ∧ f x = some a ∧ f y = some b ∧ f z = some c := by
  obtain ⟨a, t, h1, h2, rfl⟩ := mapO_cons h
  obtain ⟨b, c, rfl, h3, h4⟩ := map2 h2
  exact ⟨a, b, c, rfl, h1, h3, h4⟩
theorem map4 {f : Value → Option Value} {w x y z : Value} {l : List Value} (h : mapO f [w, x, y, z] = some l) : ∃ a b c d, l = [a, b, c, d] ∧ f w = some a ∧ f x = some b ∧ f y = some c ∧ f z = some d := by
  obtain ⟨a, t, q, k, rfl⟩ := mapO_cons h
  obtain ⟨b, c, d, rfl, h2, h3, h4⟩ := map3 k
  exact ⟨a, b, c, d, rfl, q, h2, h3, h4⟩
theorem map5 {f : Value → Option Value} {v w x y z : Value} {l : List Value} (h : mapO f [v, w, x, y, z] = some l) : ∃ a b c d e, l = [a, b, c, d, e] ∧ f v = some a ∧ f w = some b ∧ f x = some c ∧ f y = some d ∧ f z = some e := by
  obtain ⟨a, t, h1, h2, rfl⟩ := mapO_cons h
  obtain ⟨b, t', h3, h4, rfl⟩ := mapO_cons h2
  obtain ⟨c, d, e, rfl, h5, h6, h7⟩ := map3 h4
  exact ⟨a, b, c, d, e, rfl, h1, h3, h5, h6, h7⟩
theorem flatT_len {d : Nat} {t : TypeId} {ts : List TypeId} (h : flatT P d t = some ts) {f : Nat} {cs : List Value} (hr : Rds P r f t cs) : cs.length = ts.length := by
  have hlen := rds_len hr
  cases d with
  | zero => cases h
  | succ d =>
    unfold flatT at h
    split at h
    · rename_i fs hu
      split at h
      case h_2 => cases h
      split at h
      case h_2 => cases h
      rename_i e1
      injection h with h
      subst h
      rw [hu] at hlen
      rw [Nat.eq_of_beq_eq_true e1]
      exact hlen
    · rename_i n e hu
      split at h
      case h_2 => cases h
      split at h
      case h_2 => cases h
      rename_i e1 e2
      injection h with h
      subst h
      rw [hu] at hlen
      have e3 : ∀ (l : List TypeId), (List.replicate n l).flatten.length = n * l.length := fun l => by simp
      rw [e3, ← Nat.eq_of_beq_eq_true e2]
      exact hlen
    · rename_i hn1 hn2 hu
      injection h with h
      subst h
      split at hlen
      · rename_i fs h2; rw [hu] at h2; exact absurd (Option.some.inj h2) (hn1 fs)
      · rename_i n e h2; rw [hu] at h2; exact absurd (Option.some.inj h2) (hn2 n e)
      · obtain ⟨v, rfl⟩ := hlen
        rfl
    · cases h
theorem flatF_one {go : TypeId → Option (List TypeId)} {sz : TypeId → Nat} {p : TypeId → Prop} (hgo : ∀ (t : TypeId) (ts : List TypeId), go t = some ts → ∀ u, u ∈ ts → p u) : ∀ (fs : List Field) (off : Nat) (ts : List TypeId), flatF go sz off fs = some ts → ∀ u, u ∈ ts → p u := by
  intro fs
  induction fs with
  | nil =>
    intro off ts h u hu
    simp only [flatF] at h
    injection h with h
    subst h
    cases hu
  | cons fd fs ih =>
    intro off ts h u hu
    unfold flatF at h
    split at h
    case h_2 => cases h
    rename_i t1 h1
    split at h
    case h_2 => cases h
    split at h
    case h_2 => cases h
    rename_i us h2
    injection h with h
    subst h
    rcases List.mem_append.1 hu with hu | hu
    · exact hgo _ _ h1 u hu
    · exact ih _ _ h2 u hu
theorem flatT_one : ∀ (d : Nat) (t : TypeId) (ts : List TypeId), flatT P d t = some ts → ∀ u, u ∈ ts → (match P.underlying u with | some (.struct _) | some (.array _ _) => False | _ => True) := by
  intro d
  induction d with
  | zero => intro t ts h; cases h
  | succ d ih =>
    intro t ts h u hu
    unfold flatT at h
    split at h
    · split at h
      case h_2 => cases h
      rename_i us h1
      split at h
      case h_2 => cases h
      injection h with h
      subst h
      exact flatF_one ih _ _ _ h1 u hu
    · split at h
      case h_2 => cases h
      rename_i us h1
      split at h
      case h_2 => cases h
      injection h with h
      subst h
      obtain ⟨l, hl, hul⟩ := List.mem_flatten.1 hu
      rw [List.eq_of_mem_replicate hl] at hul
      exact ih _ _ h1 u hul
    · rename_i hn1 hn2 hud
      injection h with h
      subst h
      rw [List.mem_singleton.1 hu]
      split
      · rename_i fs h2; rw [hud] at h2; exact absurd (Option.some.inj h2) (hn1 fs)
      · rename_i n e h2; rw [hud] at h2; exact absurd (Option.some.inj h2) (hn2 n e)
      · trivial
    · cases h
theorem flat_one {ty : TypeId} {z q : Nat} {ts : List TypeId} {t : TypeId} (h : elemTs P ty z = some ts) (hq : ts[q]? = some t) : (match P.underlying t with | some (.struct _) | some (.array _ _) => False | _ => True) := by
  unfold elemTs at h
  split at h
  case h_2 => cases h
  split at h
  case h_2 => cases h
  exact flatT_one 30 _ ts h t (List.mem_of_getElem? hq)
theorem rds_mono {r' : Addr → Option Value} (hrr : ∀ a v, r a = some v → r' a = some v) : ∀ (f : Nat) (t : TypeId) (cs : List Value), Rds P r f t cs → ∀ g, f ≤ g → Rds P r' g t cs := by
  intro f
  induction f with
  | zero => intro t cs h; exact h.elim
  | succ f ih =>
    intro t cs h g hg
    cases g with
    | zero => omega
    | succ g =>
      have hfg : f ≤ g := by omega
      unfold Rds at h ⊢
      generalize hu : P.underlying t = o at h ⊢
      rcases o with _ | d
      · exact h
      cases d with
      | slice e =>
        simp only at h ⊢
        split at h
        · exact h
        · obtain ⟨h1, h2, h3⟩ := h
          refine ⟨h1, h2, fun i hi => ?_⟩
          obtain ⟨l, k1, k2, k3⟩ := h3 i hi
          exact ⟨l, k1, fun j v hj => hrr _ _ (k2 j v hj), ih _ _ k3 g hfg⟩
        · exact h.elim
      | struct fs => exact ⟨h.1, fun i fd hf => ih _ _ (h.2 i fd hf) g hfg⟩
      | array n e => exact ⟨h.1, fun i hi => ih _ _ (h.2 i hi) g hfg⟩
      | _ => exact h
theorem rds_le {f g : Nat} {t : TypeId} {cs : List Value} (h : Rds P r f t cs) (hg : f ≤ g) : Rds P r g t cs := rds_mono (fun _ _ h => h) f t cs h g hg
theorem bound_all {Q : Nat → Nat → Prop} (hQ : ∀ f g i, f ≤ g → Q f i → Q g i) : ∀ n, (∀ i, i < n → ∃ f, Q f i) → ∃ f, ∀ i, i < n → Q f i := by
  intro n
  induction n with
  | zero => intro _; exact ⟨0, fun i hi => absurd hi (Nat.not_lt_zero i)⟩
  | succ n ih =>
    intro h
    obtain ⟨f, hf⟩ := ih fun i hi => h i (by omega)
    obtain ⟨g, hg⟩ := h n (by omega)
    refine ⟨max f g, fun i hi => ?_⟩
    by_cases hin : i = n
    · subst hin; exact hQ _ _ _ (Nat.le_max_right f g) hg
    · exact hQ _ _ _ (Nat.le_max_left f g) (hf i (by omega))
theorem flatF_mk {go : TypeId → Option (List TypeId)} {sz : TypeId → Nat}
    (hgo : ∀ (t : TypeId) (ts : List TypeId), go t = some ts → ∀ (cs : List Value), cs.length = ts.length → (∀ (q : Nat) (u : TypeId) (v : Value), ts[q]? = some u → cs[q]? = some v → ∃ f', Rds P r f' u [v]) → ∃ f, Rds P r f t cs) :
    ∀ (fs : List Field) (off : Nat) (ts : List TypeId), flatF go sz off fs = some ts → ∀ (cs : List Value), off + ts.length ≤ cs.length → (∀ (q : Nat) (u : TypeId) (v : Value), ts[q]? = some u → cs[off + q]? = some v → ∃ f', Rds P r f' u [v]) →
      ∀ i, i < fs.length → ∃ f, ∀ fd, fs[i]? = some fd → Rds P r f fd.type ((cs.drop fd.offset).take (sz fd.type)) := by
  intro fs
  induction fs with
  | nil => intro off ts h cs _ _ i hi; exact absurd hi (Nat.not_lt_zero i)
  | cons fd fs ih =>
    intro off ts h cs hlen hc i hi
    unfold flatF at h
    split at h
    case h_2 => cases h
    rename_i t1 h1
    split at h
    case h_2 => cases h
    rename_i e1 e2
    split at h
    case h_2 => cases h
    rename_i us h2
    injection h with h
    subst h
    have e1 := Nat.eq_of_beq_eq_true e1
    have e2 := Nat.eq_of_beq_eq_true e2
    rw [List.length_append] at hlen
    cases i with
    | zero =>
      obtain ⟨f, hf⟩ := hgo _ _ h1 ((cs.drop fd.offset).take (sz fd.type)) (by rw [List.length_take, List.length_drop, e1, ← e2]; omega) (fun q u v hq hv => by
        have hlt : q < t1.length := (List.getElem?_eq_some_iff.1 hq).1
        refine hc q u v (by rw [List.getElem?_append_left hlt]; exact hq) ?_
        rw [e1, List.getElem?_take, if_pos (by omega), List.getElem?_drop] at hv
        exact hv)
      exact ⟨f, fun fd' h' => by simp at h'; subst h'; exact hf⟩
    | succ i =>
      obtain ⟨f, hf⟩ := ih _ _ h2 cs (by omega) (fun q u v hq hv => hc (t1.length + q) u v (by rw [List.getElem?_append_right (by omega), Nat.add_sub_cancel_left]; exact hq) (by rw [← Nat.add_assoc]; exact hv)) i (by simpa using hi)
      exact ⟨f, fun fd' h' => hf fd' (by simpa using h')⟩
theorem flatT_mk : ∀ (d : Nat) (t : TypeId) (ts : List TypeId), flatT P d t = some ts → ∀ (cs : List Value), cs.length = ts.length → (∀ (q : Nat) (u : TypeId) (v : Value), ts[q]? = some u → cs[q]? = some v → ∃ f', Rds P r f' u [v]) → ∃ f, Rds P r f t cs := by
  intro d
  induction d with
  | zero => intro t ts h; cases h
  | succ d ih =>
    intro t ts h cs hlen hc
    unfold flatT at h
    split at h
    · rename_i fs hu
      split at h
      case h_2 => cases h
      rename_i us h1
      split at h
      case h_2 => cases h
      rename_i e1
      injection h with h
      subst h
      have e1 := Nat.eq_of_beq_eq_true e1
      obtain ⟨f, hf⟩ := bound_all (Q := fun f i => ∀ fd, fs.toList[i]? = some fd → Rds P r f fd.type ((cs.drop fd.offset).take (P.cellsOf fd.type))) (fun f g i hfg h fd hfd => rds_le (h fd hfd) hfg) fs.toList.length
        (flatF_mk ih fs.toList 0 us h1 cs (by omega) (fun q u v hq hv => hc q u v hq (by simpa using hv)))
      refine ⟨f + 1, ?_⟩
      unfold Rds
      rw [hu]
      refine ⟨by omega, fun i fd hfd => hf i ?_ fd (by simpa using hfd)⟩
      have := (Array.getElem?_eq_some_iff.1 hfd).1
      simpa using this
    · rename_i n e hu
      split at h
      case h_2 => cases h
      rename_i us h1
      split at h
      case h_2 => cases h
      rename_i e1 e2
      injection h with h
      subst h
      have e1 := Nat.eq_of_beq_eq_true e1
      have e2 := Nat.eq_of_beq_eq_true e2
      have hl : cs.length = n * us.length := by rw [hlen]; simp
      obtain ⟨f, hf⟩ := bound_all (Q := fun f i => Rds P r f e ((cs.drop (i * P.cellsOf e)).take (P.cellsOf e))) (fun f g i hfg h => rds_le h hfg) n (fun i hi => by
        have hle : (i + 1) * us.length ≤ n * us.length := Nat.mul_le_mul_right _ hi
        rw [Nat.succ_mul] at hle
        refine ih e us h1 _ (by rw [List.length_take, List.length_drop, ← e1]; omega) (fun q u v hq hv => ?_)
        have hqu : q < us.length := (List.getElem?_eq_some_iff.1 hq).1
        rw [← e1, List.getElem?_take, if_pos (by omega), List.getElem?_drop] at hv
        refine hc (i * us.length + q) u v ?_ hv
        rw [flatT_ok.flat_rep us n _ (by omega), Nat.mul_comm, Nat.mul_add_mod, Nat.mod_eq_of_lt hqu]
        exact hq)
      refine ⟨f + 1, ?_⟩
      unfold Rds
      rw [hu]
      exact ⟨by omega, hf⟩
    · injection h with h
      subst h
      cases cs with
      | nil => cases hlen
      | cons v l =>
        cases l with
        | nil => exact hc 0 t v rfl rfl
        | cons _ _ => simp at hlen
    · cases h
section
variable {s : Nat → Value} {u : Nat → List Value → Option Value} {as : List (Value × Bool)} {cx : Cx}
  (hrd : ∀ k vs, (4 ≤ k ∧ k < 16 ∧ k ≠ 5) → u k vs = opRd P r k vs) (hop : ∀ vs, u 0 vs = opSem cx 0 vs) (hr : ∀ a, u 5 [.pointer (some a)] = r a)
  (has : ∀ e b, (e, b) ∈ as → isSym e = true → ∀ d v, den s u d e = some v → tyOk 1 v = true → v = .bool b)
theorem asN_mem {e : Value} {b : Bool} : ∀ {l : List (Value × Bool)}, asN e l = some b → (e, b) ∈ l := by
  intro l
  induction l with
  | nil => intro h; cases h
  | cons p l ih =>
    obtain ⟨p1, p2⟩ := p
    intro h0
    have h : (match vEq 60 p1 e with | true => some p2 | false => asN e l) = some b := h0
    clear h0
    split at h
    · rename_i hv
      injection h with h
      obtain rfl := vEq_ok 60 _ _ hv
      subst h
      exact List.mem_cons_self
    · exact List.mem_cons_of_mem _ (ih h)
include hrd has in
theorem factTy_ok {x v : Value} {t : TypeId} {d : Nat} (hd : den s u d x = some v) : ∀ (l : List (Value × Bool)), (∀ p, p ∈ l → p ∈ as) → factTy x l = some t → ∃ f, Rds P r f t [v] := by
  intro l
  induction l with
  | nil => intro _ h; cases h
  | cons p l ih =>
    intro hm h
    have ih := ih fun q hq => hm q (List.mem_cons_of_mem _ hq)
    unfold factTy at h
    split at h
    · rename_i nm k0 t0 y k1
      split at h
      · rename_i hv
        injection h with h
        subst h
        obtain rfl := vEq_ok 60 _ _ hv
        have hmem := hm _ List.mem_cons_self
        have hden : den s u (d + 1 + 1) (.func (.methodOf (8 + 1) nm) ⟨[.int k0 (.ofNat 4), .int .u64 (.ofNat t0), y]⟩ ⟨[.int k1 (.ofNat 1)]⟩) = some (.bool (deepB P r t0 v)) :=
          den_fn_of (mapO_of (den_flat rfl d) (mapO_of (den_flat rfl d) (mapO_of (den_mono (Nat.le_succ d) hd) rfl))) (by rw [hrd 8 _ (by omega)]; rfl)
        have := has _ _ hmem rfl _ _ hden rfl
        injection this with this
        exact @of_decide_eq_true _ (Classical.propDecidable _) this
      · exact ih h
    · exact ih h
include hrd hop has in
theorem factLt_ok {x i : Value} {d n c j : Nat} {A : Option Addr} (hx : den s u d x = some (.slice A n c)) (hi : den s u d i = some (.int .i64 (.ofNat j))) : ∀ (l : List (Value × Bool)), (∀ p, p ∈ l → p ∈ as) → factLt x i l = true → j < n := by
  intro l
  induction l with
  | nil => intro _ h; cases h
  | cons p l ih =>
    intro hm h
    have ih := ih fun q hq => hm q (List.mem_cons_of_mem _ hq)
    unfold factLt at h
    split at h
    · rename_i nm k0 t0 b jj nm2 y zs zs2
      split at h
      · rename_i hv
        rw [Bool.and_eq_true] at hv
        obtain rfl := vEq_ok 60 _ _ hv.1
        obtain rfl := vEq_ok 60 _ _ hv.2
        have hmem := hm _ List.mem_cons_self
        have hlen : den s u (d + 1) (.func (.methodOf (4 + 1) nm2) ⟨[y]⟩ zs) = some (.int .i64 n) := den_fn_of (mapO_of hx rfl) (by rw [hrd 4 _ (by omega)]; rfl)
        have up : ∀ {e v : Value}, den s u d e = some v → den s u (d + 1) e = some v := fun h => den_mono (Nat.le_succ d) h
        have hden : den s u (d + 1 + 1) (.func (.methodOf (0 + 1) nm) ⟨[.int k0 (.ofNat 13), .int .u64 (.ofNat t0), .bool b, jj, .func (.methodOf 5 nm2) ⟨[y]⟩ zs]⟩ zs2) = some (.bool (decide ((Int.ofNat j) < (n : Int)))) :=
          den_fn_of (mapO_of (den_flat rfl d) (mapO_of (den_flat rfl d) (mapO_of (den_flat rfl d) (mapO_of (up hi) (mapO_of hlen rfl))))) (by rw [hop]; rfl)
        have := has _ _ hmem rfl _ _ hden rfl
        injection this with this
        have := of_decide_eq_true this
        simpa using this
      · exact ih h
    · exact ih h
include hrd has in
theorem natS_ok {i iv : Value} {d : Nat} (h2 : natS as i = true) (hi : den s u d i = some iv) : ∃ j, iv = .int .i64 (.ofNat j) := by
  unfold natS at h2
  split at h2
  · rename_i j
    rw [den_one hi (den_flat rfl 0)]
    exact ⟨j, rfl⟩
  · unfold isT at h2
    split at h2
    case h_2 => cases h2
    rename_i h1
    have hden : den s u (d + 1 + 1) (sy 1 9 [.int .u64 (.ofNat 5), i]) = some (.bool (tNat iv)) :=
      den_fn_of (mapO_of (den_flat rfl d) (mapO_of (den_mono (Nat.le_succ d) hi) rfl)) (by rw [hrd 8 _ (by omega)]; rfl)
    have := has _ _ (asN_mem h1) rfl _ _ hden rfl
    injection this with this
    unfold tNat at this
    split at this
    · exact ⟨_, rfl⟩
    · cases this
include hrd hop has in
theorem inS_ok {x i iv : Value} {d n c : Nat} {A : Option Addr} (hA : A = none → n = 0) (h : inS as x i = true) (hx : den s u d x = some (.slice A n c)) (hi : den s u d i = some iv) : tIn (.slice A n c) iv = true := by
  unfold inS at h
  rw [Bool.or_eq_true] at h
  rcases h with h | h
  · unfold isT at h
    split at h
    case h_2 => cases h
    rename_i h1
    have hden : den s u (d + 1 + 1) (sy 1 9 [.int .u64 (.ofNat 1), x, i]) = some (.bool (tIn (.slice A n c) iv)) :=
      den_fn_of (mapO_of (den_flat rfl d) (mapO_of (den_mono (Nat.le_succ d) hx) (mapO_of (den_mono (Nat.le_succ d) hi) rfl))) (by rw [hrd 8 _ (by omega)]; rfl)
    have := has _ _ (asN_mem h1) rfl _ _ hden rfl
    injection this
  · rw [Bool.and_eq_true] at h
    have hn := natS_ok hrd has h.2 hi
    obtain ⟨j, rfl⟩ := hn
    have hlt := factLt_ok hrd hop has hx hi as (fun _ h => h) h.1
    cases A with
    | none => have := hA rfl; omega
    | some a => exact Nat.blt_eq.mpr hlt
include hrd in
theorem path_ok : ∀ (n : Nat) (p x i : Value) (z o : Nat), pathOf n p = some (z, x, i, o) → ∀ (d : Nat) (pv : Value), den s u d p = some pv →
    ∃ d' a nn c k j, d' ≤ d ∧ den s u d' x = some (.slice (some a) nn c) ∧ den s u d' i = some (.int k (.ofNat j)) ∧ pv = .pointer (some (a.add (j * z + o))) := by
  intro n
  induction n with
  | zero => intro p x i z o h; cases h
  | succ n ih =>
    intro p x i z o h d pv hd
    unfold pathOf at h
    split at h
    · rename_i nm k0 z0 x0 i0 zs
      injection h with h
      injection h with h1 h
      injection h with h2 h
      injection h with h3 h4
      subst h1; subst h2; subst h3; subst h4
      obtain ⟨d', l, rfl, k1, k2⟩ := den_fn hd
      obtain ⟨a, b, c, rfl, q1, q2, q3⟩ := map3 k1
      rw [hrd 6 _ (by omega)] at k2
      have e1 : a = .int k0 (.ofNat z0) := (den_one q1 (den_flat rfl 0))
      subst e1
      unfold opRd at k2
      split at k2 <;> first
        | (rename_i hh; cases hh; done)
        | skip
      all_goals first
        | (exfalso; simp_all; done)
        | skip
      rename_i hk1 hl1
      injection hl1 with y1 y2
      injection y1 with _ y1
      injection y1 with y1
      injection y2 with y2 y3
      injection y3 with y3 _
      subst y1; subst y2; subst y3
      injection k2 with k2
      exact ⟨d', _, _, _, _, _, Nat.le_succ _, q2, q3, k2.symm⟩
    · rename_i nm q k0 o0 zs
      split at h
      case h_2 => cases h
      rename_i z' x' i' o' hp
      injection h with h
      injection h with h1 h
      injection h with h2 h
      injection h with h3 h4
      subst h1; subst h2; subst h3; subst h4
      obtain ⟨d', l, rfl, k1, k2⟩ := den_fn hd
      obtain ⟨a, b, rfl, q1, q2⟩ := map2 k1
      have e1 : b = .int k0 (.ofNat o0) := (den_one q2 (den_flat rfl 0))
      subst e1
      obtain ⟨d'', a', nn, c, k, j, w0, w1, w2, rfl⟩ := ih _ _ _ _ _ hp d' a q1
      rw [hrd 7 _ (by omega)] at k2
      have k2 : some (Value.pointer (some ((a'.add (j * z' + o')).add o0))) = some pv := k2
      injection k2 with k2
      refine ⟨d'', a', nn, c, k, j, by omega, w1, w2, ?_⟩
      rw [← k2, Deep.add_add]
      simp only [Nat.add_assoc]
    · cases h
theorem elem_ok {ty : TypeId} {z : Nat} {ts : List TypeId} {f nn c j : Nat} {a : Addr} (h : elemTs P ty z = some ts) (hR : Rds P r f ty [.slice (some a) nn c]) (hj : j < nn) :
    ∀ (o : Nat) (t : TypeId), ts[o]? = some t → ∃ v f', r (a.add (j * z + o)) = some v ∧ Rds P r f' t [v] := by
  intro o t ho
  unfold elemTs at h
  split at h
  case h_2 => cases h
  rename_i e hu
  split at h
  case h_2 => cases h
  rename_i hz
  obtain rfl := Nat.eq_of_beq_eq_true hz
  cases f with
  | zero => exact hR.elim
  | succ f =>
    unfold Rds at hR
    rw [hu] at hR
    obtain ⟨-, -, hR⟩ := hR
    obtain ⟨l, h1, h2, h3⟩ := hR j hj
    have hlen := flatT_len h h3
    have hol : o < l.length := by rw [hlen]; exact (List.getElem?_eq_some_iff.1 ho).1
    obtain ⟨f', hf'⟩ := flatT_ok 30 e ts h f l h3 o t l[o] ho (List.getElem?_eq_getElem hol)
    exact ⟨l[o], f', h2 o _ (List.getElem?_eq_getElem hol), hf'⟩
include hrd hop hr has in
theorem deepTy_ok : ∀ (n : Nat) (x : Value) (t : TypeId), deepTy P as n x = some t → ∀ (d : Nat) (v : Value), den s u d x = some v → ∃ f, Rds P r f t [v] := by
  intro n
  induction n with
  | zero => intro x t h; cases h
  | succ n ih =>
    intro x t h d v hd
    unfold deepTy at h
    split at h
    · rename_i t' hf
      injection h with h
      subst h
      exact factTy_ok hrd has hd as (fun _ h => h) hf
    · split at h
      case h_3 => cases h
      case h_2 =>
        rename_i nm k0 z y lo hi zs hne
        split at h
        case h_2 => cases h
        rename_i ty hty
        split at h
        case h_2 => cases h
        rename_i e hu
        split at h
        case h_2 => cases h
        rename_i hz
        obtain rfl := Nat.eq_of_beq_eq_true hz
        injection h with h
        subst h
        obtain ⟨d', l, rfl, k1, k2⟩ := den_fn hd
        obtain ⟨zv, yv, iv, jv, rfl, q0, q1, q2, q3⟩ := map4 k1
        obtain rfl := den_one q0 (den_flat rfl d')
        rw [hrd 11 _ (by omega)] at k2
        have kc : cutV [_, yv, iv, jv] = some v := k2
        obtain ⟨f, hR⟩ := ih y ty hty _ _ q1
        unfold cutV at kc
        split at kc
        case h_2 => cases kc
        rename_i kk1 z1 A n c kk2 i kk3 j heq
        injection heq with hq1 heq
        injection hq1 with _ hq1
        injection hq1 with hq1
        injection heq with hq2 heq
        injection heq with hq3 heq
        injection heq with hq4 _
        subst hq1 hq2 hq3 hq4
        split at kc
        case h_2 => cases kc
        rename_i hb
        rw [Bool.and_eq_true] at hb
        have h1 := Nat.le_of_ble_eq_true hb.1
        have h2 := Nat.le_of_ble_eq_true hb.2
        cases f with
        | zero => exact hR.elim
        | succ f =>
          unfold Rds at hR
          rw [hu] at hR
          refine ⟨f + 1, ?_⟩
          cases A with
          | none =>
            have hR : n = 0 := hR
            have hv : v = .slice none (j - i) (c - i) := by
              split at kc <;> (injection kc with kc; exact kc.symm)
            subst hv
            unfold Rds
            rw [hu]
            show j - i = 0
            omega
          | some a =>
            obtain ⟨r1, ⟨r2, r3⟩, r4⟩ := hR
            have hmul : (j - i) * P.bytesOf e ≤ n * P.bytesOf e := Nat.mul_le_mul_right _ (by omega)
            split at kc
            · rename_i hci
              have hci := Nat.eq_of_beq_eq_true hci
              injection kc with kc
              subst kc
              unfold Rds
              rw [hu]
              exact ⟨by omega, ⟨by omega, by omega⟩, fun q hq => by omega⟩
            · injection kc with kc
              subst kc
              unfold Rds
              rw [hu]
              refine ⟨by omega, ⟨by omega, by omega⟩, fun q hq => ?_⟩
              obtain ⟨l, e1, e2, e3⟩ := r4 (i + q) (by omega)
              refine ⟨l, e1, fun jj vv hj => ?_, e3⟩
              have := e2 jj vv hj
              rw [Nat.add_mul, Nat.add_assoc] at this
              show r ((a.add (i * P.cellsOf e)).add (q * P.cellsOf e + jj)) = some vv
              rw [Deep.add_add]
              exact this
      rename_i nm p zs
      split at h
      case h_2 => cases h
      rename_i z y i o hp
      split at h
      case h_2 => cases h
      rename_i ty hty
      split at h
      case h_2 => cases h
      rename_i ts he hin
      obtain ⟨d', l, rfl, k1, k2⟩ := den_fn hd
      obtain ⟨pv, rfl, q1⟩ := map1 k1
      obtain ⟨d'', a, nn, c, k, j, -, w1, w2, rfl⟩ := path_ok hrd _ _ _ _ _ _ hp _ _ q1
      obtain ⟨f, hR⟩ := ih y ty hty _ _ w1
      have hj := inS_ok hrd hop has (by intro h; cases h) hin w1 w2
      have hj : j < nn := Nat.blt_eq.mp hj
      obtain ⟨v', f', e1, e2⟩ := elem_ok he hR hj o t h
      rw [hr] at k2
      rw [e1] at k2
      injection k2 with k2
      subst k2
      exact ⟨f', e2⟩
theorem readN_ok {a : Addr} : ∀ (n : Nat) (f : Nat → Option Value), (∀ i, i < n → ∃ v, r (a.add i) = some v) → ∃ l, readN r a n = some l ∧ l.length = n ∧ ∀ i v, l[i]? = some v → r (a.add i) = some v := by
  intro n
  induction n with
  | zero => intro _ _; exact ⟨[], rfl, rfl, fun i v h => by simp at h⟩
  | succ n ih =>
    intro f h
    obtain ⟨l, h1, h2, h3⟩ := ih f fun i hi => h i (by omega)
    obtain ⟨v, hv⟩ := h n (by omega)
    refine ⟨l ++ [v], ?_, by simp [h2], fun i u hu => ?_⟩
    · unfold readN
      rw [h1, hv]
    · by_cases hi : i < l.length
      · rw [List.getElem?_append_left hi] at hu
        exact h3 i u hu
      · rw [List.getElem?_append_right (by omega)] at hu
        have hin : i = n := by
          have := (List.getElem?_eq_some_iff.1 hu).1
          simp at this
          omega
        subst hin
        rw [show i - l.length = 0 by omega] at hu
        simp at hu
        subst hu
        exact hv
theorem cells_of_slice {f : Nat} {t e : TypeId} {ts : List TypeId} {a : Addr} {n c : Nat} (hu : P.underlying t = some (.slice e)) (hR : Rds P r f t [.slice (some a) n c]) (hts : flatT P 30 e = some ts) :
    ∃ l, readN r a (n * ts.length) = some l ∧ l.length = n * ts.length ∧ (∀ i v, l[i]? = some v → r (a.add i) = some v ∧ tyOk ((ts.map (cellTy P)).getD (i % ts.length) 0) v = true) := by
  have hel : ∀ i, i < n * ts.length → ∃ v, r (a.add i) = some v ∧ tyOk ((ts.map (cellTy P)).getD (i % ts.length) 0) v = true := by
    intro i hi
    have hpos : 0 < ts.length := by
      rcases Nat.eq_zero_or_pos ts.length with h0 | h0
      · rw [h0] at hi; simp at hi
      · exact h0
    have hdiv : i / ts.length < n := (Nat.div_lt_iff_lt_mul hpos).2 hi
    have hmod : i % ts.length < ts.length := Nat.mod_lt _ hpos
    have hE : elemTs P t (P.cellsOf e) = some ts := by
      unfold elemTs
      rw [hu]
      simp only [Nat.beq_refl]
      exact hts
    obtain ⟨v, f', h1, h2⟩ := elem_ok hE hR hdiv (i % ts.length) ts[i % ts.length] (List.getElem?_eq_getElem hmod)
    have hlen : P.cellsOf e = ts.length := by
      cases f with
      | zero => exact hR.elim
      | succ f =>
        unfold Rds at hR
        rw [hu] at hR
        obtain ⟨l, k1, -, k3⟩ := hR.2.2 _ hdiv
        rw [← k1]
        exact flatT_len hts k3
    refine ⟨v, ?_, ?_⟩
    · rw [← h1, hlen, Nat.mul_comm, Nat.div_add_mod]
    · have := rds_ty h2 (flatT_one 30 e ts hts _ (List.getElem_mem hmod))
      simpa [List.getD_eq_getElem?_getD, List.getElem?_map, List.getElem?_eq_getElem hmod] using this
  obtain ⟨l, h1, h2, h3⟩ := readN_ok (r := r) (a := a) (n * ts.length) (fun _ => none) fun i hi => by
    obtain ⟨v, hv, -⟩ := hel i hi
    exact ⟨v, hv⟩
  refine ⟨l, h1, h2, fun i v hv => ?_⟩
  have hi : i < n * ts.length := by
    have := (List.getElem?_eq_some_iff.1 hv).1
    omega
  obtain ⟨v', k1, k2⟩ := hel i hi
  have e1 := h3 i v hv
  rw [k1] at e1
  injection e1 with e1
  subst e1
  exact ⟨k1, k2⟩
theorem kinds_ok {ks : List Nat} : ∀ (ts : List TypeId) (a : Addr) (j : Nat), kindsEq P ks ts = true → (∀ (q : Nat) (t : TypeId), ts[q]? = some t → ∃ v f', r (a.add (j + q)) = some v ∧ Rds P r f' t [v] ∧ tyOk (cellTy P t) v = true) → rdAll r a ks j = true := by
  induction ks with
  | nil => intro ts a j _ _; rfl
  | cons k ks ih =>
    intro ts a j h hc
    cases ts with
    | nil => cases h
    | cons t ts =>
      have h : (Nat.beq (cellTy P t) k && kindsEq P ks ts) = true := h
      rw [Bool.and_eq_true] at h
      obtain ⟨v, f', h1, h2, h3⟩ := hc 0 t rfl
      have e := Nat.eq_of_beq_eq_true h.1
      unfold rdAll
      rw [show a.add j = a.add (j + 0) from rfl, h1]
      simp only [← e, h3, Bool.true_and]
      refine ih ts a (j + 1) h.2 (fun q t' hq => ?_)
      obtain ⟨v', f2, g1, g2, g3⟩ := hc (q + 1) t' (by simpa using hq)
      exact ⟨v', f2, by rw [show j + 1 + q = j + (q + 1) by omega]; exact g1, g2, g3⟩
theorem rds_slice {f : Nat} {t e : TypeId} {v : Value} (hu : P.underlying t = some (.slice e)) (hR : Rds P r f t [v]) : ∃ A n c, v = .slice A n c ∧ (A = none → n = 0) ∧ n < 9223372036854775808 := by
  cases f with
  | zero => exact hR.elim
  | succ f =>
    unfold Rds at hR
    rw [hu] at hR
    simp only at hR
    split at hR
    · rename_i n c hh; injection hh with hh _; subst hh; exact ⟨_, _, _, rfl, fun _ => hR, by omega⟩
    · rename_i a n c hh; injection hh with hh _; subst hh; exact ⟨_, _, _, rfl, fun h => (by cases h), by omega⟩
    · exact hR.elim
theorem nextOf_ok {x y : Value} (h : nextOf x = some y) : ∃ nm k0 t b zs, x = .func (.methodOf 1 nm) ⟨[.int k0 (.ofNat 0), .int .u64 (.ofNat t), .bool b, y, .int .i64 (.ofNat 1)]⟩ zs := by
  unfold nextOf at h
  split at h
  · injection h with h
    subst h
    exact ⟨_, _, _, _, _, rfl⟩
  · cases h
theorem wrap_lt {j : Nat} (h : j < 9223372036854775808) : wrapA .i64 (.ofNat j) = .ofNat j := by
  unfold wrapA
  simp only [Nat.blt_eq.mpr h]
include hop in
theorem next_ok {x y : Value} {d n : Nat} {v : Value} (h : nextOf x = some y) (hd : den s u d x = some v) {j : Nat} {d' : Nat} (hy : den s u d' y = some (.int .i64 (.ofNat j))) (hj : j < n) (hn : n < 9223372036854775808) : v = .int .i64 (.ofNat (j + 1)) := by
  obtain ⟨nm, k0, t, b, zs, rfl⟩ := nextOf_ok h
  obtain ⟨d1, l, rfl, k1, k2⟩ := den_fn hd
  obtain ⟨a1, a2, a3, a4, a5, rfl, q1, q2, q3, q4, q5⟩ := map5 k1
  obtain rfl := den_one q1 (den_flat rfl 0)
  obtain rfl := den_one q2 (den_flat rfl 0)
  obtain rfl := den_one q3 (den_flat rfl 0)
  obtain rfl := den_one q5 (den_flat rfl 0)
  obtain rfl := den_one q4 hy
  rw [hop] at k2
  have k2 : some (Value.int .i64 (wrapA .i64 (Int.ofNat j + Int.ofNat 1))) = some v := k2
  rw [show (Int.ofNat j + Int.ofNat 1) = Int.ofNat (j + 1) from rfl, wrap_lt (by omega)] at k2
  injection k2 with k2
  exact k2.symm
theorem given_den {X : Value} (h : givenS X = true) : ∃ d v, den s u d X = some v := by
  unfold givenS at h
  split at h
  · exact ⟨1, _, rfl⟩
  · cases h
include hrd in
theorem path_tot {d : Nat} {x i : Value} {a : Addr} {nn c j : Nat} {k : IntKind} (hx : den s u d x = some (.slice (some a) nn c)) (hi : den s u d i = some (.int k (.ofNat j))) : ∀ (n : Nat) (p : Value) (z o : Nat), pathOf n p = some (z, x, i, o) →
    ∃ d', den s u d' p = some (.pointer (some (a.add (j * z + o)))) := by
  intro n
  induction n with
  | zero => intro p z o h; cases h
  | succ n ih =>
    intro p z o h
    unfold pathOf at h
    split at h
    · rename_i nm k0 z0 x0 i0 zs
      injection h with h
      injection h with h1 h
      injection h with h2 h
      injection h with h3 h4
      subst h1; subst h2; subst h3; subst h4
      exact ⟨d + 1 + 1, den_fn_of (mapO_of (den_flat rfl d) (mapO_of (den_mono (Nat.le_succ d) hx) (mapO_of (den_mono (Nat.le_succ d) hi) rfl))) (by rw [hrd 6 _ (by omega)]; rfl)⟩
    · rename_i nm q k0 o0 zs
      split at h
      case h_2 => cases h
      rename_i z' x' i' o' hp
      injection h with h
      injection h with h1 h
      injection h with h2 h
      injection h with h3 h4
      subst h1; subst h2; subst h3; subst h4
      obtain ⟨d', hd'⟩ := ih _ _ _ hp
      refine ⟨d' + 1 + 1, den_fn_of (mapO_of (den_mono (Nat.le_succ d') hd') (mapO_of (den_flat rfl d') rfl)) ?_⟩
      rw [hrd 7 _ (by omega)]
      show some (Value.pointer (some ((a.add (j * z' + o')).add o0))) = _
      rw [Deep.add_add, Nat.add_assoc]
    · cases h
include hrd hop hr has in
theorem tot_ok : ∀ (n : Nat) (x : Value), totS P as n x = true → ∃ d v, den s u d x = some v := by
  intro n
  induction n with
  | zero => intro x h; cases h
  | succ n ih =>
    intro x h
    unfold totS at h
    split at h
    · rename_i hg
      rw [Bool.or_eq_true] at hg
      rcases hg with hg | hg
      · exact given_den hg
      · exact ⟨1, x, den_flat hg 0⟩
    · split at h
      case h_2 => cases h
      rename_i nm p zs _
      split at h
      case h_2 => cases h
      rename_i z y i o hp
      split at h
      case h_2 => cases h
      rename_i ty hty
      split at h
      case h_2 => cases h
      rename_i ts hts
      simp only [Bool.and_eq_true] at h
      obtain ⟨h1, h2, h3, h4⟩ := h
      obtain ⟨d1, yv, k1⟩ := ih y h1
      obtain ⟨d2, iv, k2⟩ := ih i h2
      have k1 := den_mono (Nat.le_max_left d1 d2) k1
      have k2 := den_mono (Nat.le_max_right d1 d2) k2
      obtain ⟨f, hR⟩ := deepTy_ok hrd hop hr has 20 y ty hty _ _ k1
      have hu : ∃ e, P.underlying ty = some (.slice e) := by
        unfold elemTs at hts
        split at hts
        · exact ⟨_, by assumption⟩
        · cases hts
      obtain ⟨e, hu⟩ := hu
      obtain ⟨A, nn, c, rfl, hA, -⟩ := rds_slice hu hR
      have hin := inS_ok hrd hop has hA h3 k1 k2
      unfold tIn at hin
      split at hin
      · rename_i a n' c' k' j' hh1 hh2
        injection hh1 with q1 q2 q3
        subst q1; subst q2; subst q3
        obtain ⟨d3, hd3⟩ := path_tot hrd k1 k2 9 p z o hp
        have hol := Nat.blt_eq.mp h4
        obtain ⟨v, f', e1, -⟩ := elem_ok hts hR (Nat.blt_eq.mp hin) o ts[o] (List.getElem?_eq_getElem hol)
        exact ⟨d3 + 1, v, den_fn_of (mapO_of hd3 rfl) (by rw [hr]; exact e1)⟩
      · cases hin
include hrd hop hr has in
theorem nextNat_ok {x v : Value} {d : Nat} (h : nextNat P as x = true) (hd : den s u d x = some v) : ∃ j, v = .int .i64 (.ofNat j) := by
  unfold nextNat at h
  split at h
  case h_2 => cases h
  rename_i y hy
  split at h
  case h_2 => cases h
  rename_i X hX
  rw [Bool.and_eq_true, Bool.and_eq_true, Bool.and_eq_true] at h
  obtain ⟨h0, h1, h2, h3⟩ := h
  obtain ⟨nm, k0, t, b, zs, hx⟩ := nextOf_ok hy
  have hyd : ∃ d' yv, den s u d' y = some yv := by
    subst hx
    obtain ⟨d1, l, rfl, k1, k2⟩ := den_fn hd
    obtain ⟨a1, a2, a3, a4, a5, rfl, q1, q2, q3, q4, q5⟩ := map5 k1
    exact ⟨_, _, q4⟩
  obtain ⟨dy, yv, hyd⟩ := hyd
  obtain ⟨dX, XV, hXd⟩ := tot_ok hrd hop hr has 9 X h0
  unfold lenTy at h1
  split at h1
  case h_2 => cases h1
  rename_i t' ht'
  split at h1
  case h_2 => cases h1
  rename_i e hu
  obtain ⟨f, hR⟩ := deepTy_ok hrd hop hr has 20 X t' ht' _ _ hXd
  obtain ⟨A, n, c, rfl, hA, hn⟩ := rds_slice hu hR
  have hin := inS_ok hrd hop has hA h2 (den_mono (Nat.le_max_left dX dy) hXd) (den_mono (Nat.le_max_right dX dy) hyd)
  obtain ⟨j, rfl⟩ := natS_ok hrd has h3 hyd
  have hlt : j < n := by
    unfold tIn at hin
    split at hin
    · rename_i n' c' k' j' hh1 hh2
      injection hh1 with _ q _
      injection hh2 with _ q2
      injection q2 with q2
      subst q; subst q2
      exact Nat.blt_eq.mp hin
    · cases hin
  exact ⟨j + 1, next_ok hop hy hd hyd hlt hn⟩
include hrd hop hr has in
theorem follows_ok {l l' : List Value} {d : Nat} (h : follows P as l = true) (hl : mapO (den s u d) l = some l') {b : Bool} (hb : opRd P r 8 l' = some (.bool b)) : b = true := by
  have lit : ∀ {d : Nat} {k : IntKind} {n : Int} {v : Value}, den s u d (.int k n) = some v → v = .int k n := fun h => den_one h (den_flat rfl 0)
  unfold follows at h
  split at h
  · rename_i k0 k x
    obtain ⟨a, xv, rfl, h1, h2⟩ := map2 hl
    obtain rfl := lit h1
    split at h
    · unfold lenTy at h
      split at h
      case h_2 => cases h
      rename_i t ht
      obtain ⟨f, hR⟩ := deepTy_ok hrd hop hr has 20 x t ht _ _ h2
      have hb : some (Value.bool (tSl xv)) = some (.bool b) := hb
      injection hb with hb
      injection hb with hb
      subst hb
      split at h
      · rename_i e hu
        obtain ⟨A, n, c, rfl, -, hn⟩ := rds_slice hu hR
        exact Nat.blt_eq.mpr hn
      · cases h
    · unfold textTy at h
      split at h
      case h_2 => cases h
      rename_i t ht
      obtain ⟨f, hR⟩ := deepTy_ok hrd hop hr has 20 x t ht _ _ h2
      have hb : some (Value.bool (tSt xv)) = some (.bool b) := hb
      injection hb with hb
      injection hb with hb
      subst hb
      split at h
      · rename_i hu
        cases f with
        | zero => exact hR.elim
        | succ f =>
          unfold Rds at hR
          rw [hu] at hR
          simp only at hR
          split at hR
          · rename_i st hh; injection hh with hh _; subst hh; exact Nat.blt_eq.mpr hR
          · exact hR.elim
      · cases h
    · have hb : some (Value.bool (tNat xv)) = some (.bool b) := hb
      injection hb with hb
      injection hb with hb
      subst hb
      rw [Bool.or_eq_true] at h
      rcases h with h | h
      · obtain ⟨j, rfl⟩ := natS_ok hrd has h h2
        rfl
      · obtain ⟨j, rfl⟩ := nextNat_ok hrd hop hr has h h2
        rfl
    · cases hp : pathOf 9 x with
      | none => rw [hp] at h; cases h
      | some q =>
        obtain ⟨z, y, i, o⟩ := q
        obtain ⟨d', a, nn, c, k, j, -, -, -, rfl⟩ := path_ok hrd _ _ _ _ _ _ hp _ _ h2
        have hb : some (Value.bool true) = some (.bool b) := hb
        injection hb with hb
        injection hb with hb
        exact hb.symm
    · cases h
  · rename_i k0 k y x
    obtain ⟨a, yv, xv, rfl, h1, h2, h3⟩ := map3 hl
    obtain rfl := lit h1
    split at h
    · split at h
      case h_2 => cases h
      rename_i t ht
      rw [Bool.and_eq_true] at h
      obtain ⟨g1, g2⟩ := h
      split at g1
      case h_2 => cases g1
      rename_i e hu
      obtain ⟨f, hR⟩ := deepTy_ok hrd hop hr has 20 y t ht _ _ h2
      obtain ⟨A, n, c, rfl, hA, hn⟩ := rds_slice hu hR
      have hb : some (Value.bool (tIn (.slice A n c) xv)) = some (.bool b) := hb
      injection hb with hb
      injection hb with hb
      subst hb
      exact inS_ok hrd hop has hA g2 h2 h3
    · split at h
      case h_2 => cases h
      rename_i kt t z y' i o hp
      split at h
      case h_2 => cases h
      rename_i ty hty
      split at h
      case h_2 => cases h
      rename_i ts ks he hks hin
      obtain rfl := lit h2
      obtain ⟨d', a, nn, c, k, j, -, w1, w2, rfl⟩ := path_ok hrd _ _ _ _ _ _ hp _ _ h3
      obtain ⟨f, hR⟩ := deepTy_ok hrd hop hr has 20 y' ty hty _ _ w1
      have hj := Nat.blt_eq.mp (inS_ok hrd hop has (by intro h; cases h) hin w1 w2)
      have hb : some (Value.bool (tRd P r t (.pointer (some (a.add (j * z + o)))))) = some (.bool b) := hb
      injection hb with hb
      injection hb with hb
      subst hb
      unfold tRd
      simp only [hks]
      refine kinds_ok (ts.drop o) _ 0 h (fun q t' hq => ?_)
      rw [List.getElem?_drop] at hq
      obtain ⟨v, f', e1, e2⟩ := elem_ok he hR hj (o + q) t' hq
      refine ⟨v, f', by rw [Deep.add_add, Nat.zero_add, Nat.add_assoc]; exact e1, e2, rds_ty e2 ?_⟩
      exact flat_one he hq
    · split at h
      case h_2 => cases h
      rename_i kt t u' ht
      obtain rfl := Nat.eq_of_beq_eq_true h
      obtain rfl := lit h2
      obtain ⟨f, hR⟩ := deepTy_ok hrd hop hr has 20 x t ht _ _ h3
      have hb : some (Value.bool (deepB P r t xv)) = some (.bool b) := hb
      injection hb with hb
      injection hb with hb
      subst hb
      exact @decide_eq_true _ (Classical.propDecidable _) ⟨f, hR⟩
    · split at h
      case h_2 => cases h
      rename_i kt e u' ht
      split at h
      case h_2 => cases h
      rename_i e' hu
      obtain rfl := Nat.eq_of_beq_eq_true h
      obtain rfl := lit h2
      obtain ⟨f, hR⟩ := deepTy_ok hrd hop hr has 20 x _ ht _ _ h3
      have hb : some (Value.bool (deepE P r e xv)) = some (.bool b) := hb
      injection hb with hb
      injection hb with hb
      subst hb
      exact @decide_eq_true _ (Classical.propDecidable _) ⟨_, f, hu, hR⟩
    · cases h
  · cases h
end
end
open Classical in
noncomputable def denS (s : Nat → Value) (u : Nat → List Value → Option Value) (e : Value) : Option Value :=
  if h : ∃ d v, den s u d e = some v then some (Classical.choose (Classical.choose_spec h)) else none
section
variable {s : Nat → Value} {u : Nat → List Value → Option Value}
theorem denS_of {d : Nat} {e v : Value} (h : den s u d e = some v) : denS s u e = some v := by
  have hex : ∃ d v, den s u d e = some v := ⟨d, v, h⟩
  unfold denS
  rw [dif_pos hex]
  have := Classical.choose_spec (Classical.choose_spec hex)
  rw [den_one this h]
theorem denS_iff {e v : Value} : denS s u e = some v ↔ ∃ d, den s u d e = some v := by
  refine ⟨fun h => ?_, fun ⟨d, h⟩ => denS_of h⟩
  unfold denS at h
  split at h
  · rename_i hex
    injection h with h
    have := Classical.choose_spec (Classical.choose_spec hex)
    rw [h] at this
    exact ⟨_, this⟩
  · cases h
theorem mapS_iff : ∀ {xs l : List Value}, mapO (denS s u) xs = some l ↔ ∃ d, mapO (den s u d) xs = some l := by
  intro xs
  induction xs with
  | nil => intro l; exact ⟨fun h => ⟨0, h⟩, fun ⟨_, h⟩ => h⟩
  | cons x xs ih =>
    intro l
    refine ⟨fun h => ?_, fun ⟨d, h⟩ => ?_⟩
    · obtain ⟨y, ys, k1, k2, rfl⟩ := mapO_cons h
      obtain ⟨d1, q1⟩ := denS_iff.1 k1
      obtain ⟨d2, q2⟩ := ih.1 k2
      exact ⟨max d1 d2, mapO_of (den_mono (Nat.le_max_left d1 d2) q1) (mapO_mono (fun _ _ => den_mono (Nat.le_max_right d1 d2)) _ _ q2)⟩
    · obtain ⟨y, ys, k1, k2, rfl⟩ := mapO_cons h
      exact mapO_of (denS_of k1) (ih.2 ⟨d, k2⟩)
theorem denS_unk (ty i : Nat) : denS s u (unk ty i) = some (s i) := denS_of (d := 1) rfl
theorem denS_flat {v : Value} (h : flat v = true) : denS s u v = some v := denS_of (den_flat h 0)
theorem denS_app (ty k : Nat) (xs : List Value) : denS s u (sy ty (k + 1) xs) = (mapO (denS s u) xs).bind (u k) := by
  cases h : denS s u (sy ty (k + 1) xs) with
  | some v =>
    obtain ⟨d, hd⟩ := denS_iff.1 h
    obtain ⟨d', l, rfl, h1, h2⟩ := den_fn hd
    rw [mapS_iff.2 ⟨d', h1⟩]
    exact h2.symm
  | none =>
    cases hm : mapO (denS s u) xs with
    | none => rfl
    | some l =>
      show none = u k l
      cases hu : u k l with
      | none => rfl
      | some v =>
        obtain ⟨d, hd⟩ := mapS_iff.1 hm
        have : den s u (d + 1) (sy ty (k + 1) xs) = some v := den_fn_of hd hu
        rw [denS_of this] at h
        cases h
end
end Go.Proofs.YtaepplhgeeaidaaDoor.Ev
