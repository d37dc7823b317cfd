import Derived.Test.YtaepplhgeeaidaaDoorLxD
import Derived.Test.YtaepplhgeeaidaaDoorLxN
import Derived.Lib.AtoiErrMem
import Derived.Lib.AppendIntMem
set_option linter.unusedVariables false
set_option linter.unusedSimpArgs false
set_option linter.unusedSectionVars false
set_option maxRecDepth 100000
namespace Go.Proofs.YtaepplhgeeaidaaDoor
open Go Go.RowKit Ev
theorem gv_on {w w' : World} (hg : GvOk lxTabs w) (hb : Below w.heap.size w w') : GvOk lxTabs w' := fun g t h => by
  obtain ⟨cs, ty, fr, h1, h2⟩ := hg g t h
  exact ⟨cs, ty, fr, (hb.block g (Array.getElem?_eq_some_iff.1 h1).1).trans h1, h2⟩
theorem pow_get : ∀ i, i < 20 → (Tr.putSome lxTab2).get i = some (.int .u64 (Lib.pow10Tab.getD i 0))
  | 0, _ | 1, _ | 2, _ | 3, _ | 4, _ | 5, _ | 6, _ | 7, _ | 8, _ | 9, _ | 10, _ | 11, _ | 12, _ | 13, _ | 14, _ | 15, _ | 16, _ | 17, _ | 18, _ | 19, _ => by kernel_rfl
  | i + 20, h => absurd h (by omega)
theorem pow_end : (Tr.putSome lxTab2).get 20 = some (.tuple ⟨[.bool true, .bool true]⟩) := by kernel_rfl
theorem tab_of {w : World} (hg : GvOk lxTabs w) : Lib.TabIs Tryd.prog w "internal/strconv.uint64pow10" .u64 Lib.pow10Tab := by
  obtain ⟨cs, ty, fr, k1, k2⟩ := hg 0 (Tr.putSome lxTab2) (by simp [lxTabs])
  have hn : cs[20]? = none := by
    rcases k2 20 _ pow_end with ⟨hf, -⟩ | ⟨-, h⟩
    · cases hf
    · exact h
  have hs : cs.size ≤ 20 := by
    rcases Nat.lt_or_ge 20 cs.size with h | h
    · rw [Array.getElem?_eq_getElem h] at hn; cases hn
    · exact h
  have e : cs = (Lib.pow10Tab.map fun z => Value.int .u64 z).toArray := by
    apply Array.ext_getElem?
    intro i
    rcases Nat.lt_or_ge i 20 with h | h
    · rw [(k2 i _ (pow_get i h)).flat rfl]
      have : (Lib.pow10Tab.map fun z => Value.int .u64 z)[i]? = some (.int .u64 (Lib.pow10Tab.getD i 0)) := by
        rw [List.getElem?_map, List.getD_eq_getElem?_getD, List.getElem?_eq_getElem (show i < Lib.pow10Tab.length from h)]
        rfl
      simpa using this.symm
    · rw [Array.getElem?_eq_none (by omega), Array.getElem?_eq_none (by show _ ≤ i; rw [List.size_toArray, List.length_map]; exact h)]
  unfold Lib.TabIs World.var?
  rw [show Tryd.prog.globalNamed "internal/strconv.uint64pow10" = some 0 by kernel_rfl]
  simp only [Option.bind_some, k1]
  rw [← e]
theorem err_of {w : World} (hg : GvOk lxTabs w) {g : Nat} (hm : (g, someIface) ∈ lxTabs) : ∃ x, w.cell? ⟨g, 0, none⟩ = some x ∧ (x = .nilIface ∨ ∃ te pe, x = .iface te pe) := by
  obtain ⟨cs, ty, fr, k1, k2⟩ := hg g someIface hm
  rcases k2 0 _ someIface_get with ⟨hf, -⟩ | ⟨-, x, hx, hi⟩
  · cases hf
  · exact ⟨x, by rw [cell_of k1]; exact hx, hi⟩
theorem in_str {R : Addr → Option Value} {t : ByteArray} (ht : QT t) : InOk Tryd.prog R (9, none) (.string t) [.string t] := by
  refine ⟨⟨1, ?_⟩, ?_⟩
  · unfold Rds
    rw [Tryd.underlying9]
    exact ht
  · rw [show Tryd.prog.underlying _ = _ from Tryd.underlying9]
    exact ⟨rfl, rfl⟩
theorem digits_any (t : ByteArray) (ht : QT t) (w : World) : Calls Tryd.prog 38 #[.string t, .func (.func 29) #[] #[]] w fun e w' => e = .returned (.int .i64 ((runF digB (tl t) : Nat) : Int)) ∧ Below w.heap.size w w' := by
  obtain ⟨cs, ⟨hl, hc⟩, hC⟩ := rd_is w [.string t, .func (.func 29) ⟨[]⟩ ⟨[]⟩] _ (fun g t hg => by cases hg) ⟨[.string t], [], rfl, in_str ht, [], [], rfl, ⟨rfl, rfl, rfl⟩, rfl⟩
  refine hC.mono fun e w' ⟨he, hb⟩ => ⟨?_, hb⟩
  match cs, hl with
  | [x], _ =>
    have e0 : some (Value.int .i64 (Int.ofNat (runF digB (tl t)))) = some x := (hc 0 6 x rfl rfl).2
    injection e0 with e0
    subst e0
    exact he
theorem clone_any (u : ByteArray) (hu : u.size ≤ 1048576) (w : World) : Calls Tryd.prog 51 #[.string u] w fun e w' => e = .returned (.string u) ∧ Below w.heap.size w w' := by
  have q : QT u := by show u.size < 9223372036854775808; omega
  obtain ⟨cs, ⟨hl, hc⟩, hC⟩ := cl_is w [.string u] _ (fun g t hg => by cases hg) ⟨[.string u], [], rfl, in_str q, rfl⟩ (fun j hj => ⟨u, by rw [List.mem_singleton.1 hj]; rfl, fun _ => hu, fun h => by rw [List.mem_singleton.1 hj] at h; cases h⟩)
  refine hC.mono fun e w' ⟨he, hb⟩ => ⟨?_, hb⟩
  match cs, hl with
  | [x], _ =>
    have e0 : some (Value.string u) = some x := (hc 0 2 x rfl rfl).2
    injection e0 with e0
    subst e0
    exact he
theorem let_eq (c : Nat) : ((decide (97 ≤ c) && decide (c ≤ 122)) || c == 95) = letB c := by
  unfold letB lowB
  rw [Bool.eq_iff_iff]
  simp
theorem parse_rng {x : B8} {v : Int} (h : Lib.parseIntB 64 x = .ok v) : -9223372036854775808 ≤ v ∧ v ≤ 9223372036854775807 := by
  unfold Lib.parseIntB at h
  split at h
  · cases h
  · simp only at h
    split at h
    · cases h
    · cases h
    · split at h
      · cases h
      · split at h
        · cases h
        · rename_i h1 h2
          injection h with h
          subst h
          constructor <;> (split <;> omega)
theorem ok_num {x : B8} (hx : x.length < 9223372036854775808) : OkTk (numF valF x).1 := by
  have o0 : OkTk tok0 := ⟨rfl, by decide, rfl, rfl⟩
  unfold numF
  split
  · exact o0
  · split
    · rename_i v hv
      exact ⟨rfl, (by rw [List.length_take]; omega), val_rng hv, rfl⟩
    · exact o0
theorem num_le {x : B8} (hx : 0 < x.length) : (numF valF x).2 ≤ x.length := by
  unfold numF
  split
  · exact Nat.zero_le _
  · split
    · exact digN_le (by intro h; rw [h] at hx; cases hx)
    · exact Nat.zero_le _
theorem list_eq (u : ByteArray) : u.toList = tl u := by
  unfold ByteArray.toList
  rw [loop_eq u _ 0 [] rfl]
  rfl
section
variable {w : World} (hg : GvOk lxTabs w)
include hg
theorem parse_ok (u : ByteArray) (hu : u.size ≤ 1048576) {v : Int} (hv : Lib.parseIntB 64 (tl u) = .ok v) : ∀ w', Below w.heap.size w w' → Calls Tryd.prog 42 #[.string u, .int .i64 10, .int .i64 64] w' fun e w2 => e = .returned (.tuple #[.int .i64 v, .nilIface]) ∧ Below w'.heap.size w' w2 := fun w' _ =>
  (Tryd.strconv_ParseInt_10_at64_ok u (by omega) v hv w').mono fun e w2 ⟨he, hw⟩ => ⟨he, by
    rcases hw with rfl | ⟨t, rfl⟩
    · exact Below.refl _ _
    · exact Lib.bytesWorld_below _ _ _⟩
theorem parse_bad (u : ByteArray) (hu : u.size ≤ 1048576) (hv : ∀ v, Lib.parseIntB 64 (tl u) ≠ .ok v) : ∀ w', Below w.heap.size w w' → Calls Tryd.prog 42 #[.string u, .int .i64 10, .int .i64 64] w' fun e w2 => ∃ x ty N, e = .returned (.tuple #[.int .i64 x, .iface ty (.pointer (some ⟨N, 0, none⟩))]) ∧ Below w'.heap.size w' w2 := fun w' hb => by
  have hg' := gv_on hg hb
  cases h : Lib.parseIntB 64 (tl u)
  · rename_i v
    exact absurd h (hv v)
  · obtain ⟨x, h1, h2⟩ := err_of hg' (g := 2) (by simp [lxTabs])
    exact (Tryd.strconv_ParseInt_10_at64_syntax u (by omega) h x w' h1 h2).mono fun e w2 ⟨N, he, _, _, hb⟩ => ⟨_, _, N, he, hb⟩
  · obtain ⟨x, h1, h2⟩ := err_of hg' (g := 3) (by simp [lxTabs])
    exact (Tryd.strconv_ParseInt_10_at64_range u (by omega) h x w' h1 h2).mono fun e w2 ⟨N, he, _, _, hb⟩ => ⟨_, _, N, he, hb⟩
theorem fmt_any {v : Int} (hv : -9223372036854775808 ≤ v ∧ v ≤ 9223372036854775807) : ∀ w', Below w.heap.size w w' → Calls Tryd.prog 20 #[.int .i64 v, .int .i64 10] w' fun e w2 => e = .returned (.string ⟨(Lib.itoa v).toArray⟩) ∧ Below w'.heap.size w' w2 := fun w' hb =>
  (Tryd.strconv_FormatInt_10 v hv.1 hv.2 w' (tab_of (gv_on hg hb))).mono fun e w2 ⟨he, k, os, hw⟩ => ⟨he, hw ▸ Lib.below_grow _ _ (Nat.le_refl _) _ _⟩
end
def nuA (x : B8) : Value := .tuple #[.agg #[.int .i64 (numF valF x).1.1, .string (tx (numF valF x).1.2.1), .int .i64 (numF valF x).1.2.2.1, .int .i64 (numF valF x).1.2.2.2], .int .i64 ((numF valF x).2 : Int)]
theorem nu_any (t : ByteArray) (h0 : 0 < t.size) (h2 : t.size ≤ 1048576) (w : World) (hg : GvOk lxTabs w) : Calls Tryd.prog 31 #[.string t] w fun e w' => e = .returned (nuA (tl t)) ∧ Below w.heap.size w w' := by
  have hts : (tl t).length = t.size := rfl
  have hx : tl (t.extract 1 t.size) = (tl t).drop 1 := by
    have := ext_tx (tl t) 1 t.size
    rw [tx_tl] at this
    rw [this, tl_tx, List.take_of_length_le (by rw [List.length_drop]; omega)]
  have hrun : ∀ w', Below w.heap.size w w' → Calls Tryd.prog 38 #[.string (t.extract 1 t.size), .func (.func 29) #[] #[]] w' fun e w2 => e = .returned (.int .i64 ((runF digB ((tl t).drop 1) : Nat) : Int)) ∧ Below w'.heap.size w' w2 := fun w' _ => by
    have := digits_any (t.extract 1 t.size) (by show (t.extract 1 t.size).size < 9223372036854775808; rw [ByteArray.size_extract]; omega) w'
    rwa [hx] at this
  have hk : runF digB ((tl t).drop 1) + 1 ≤ t.size := by
    have := run_le digB ((tl t).drop 1)
    rw [List.length_drop, hts] at this
    omega
  have hd : digN (tl t) = 1 + runF digB ((tl t).drop 1) := rfl
  generalize runF digB ((tl t).drop 1) = k at hrun hk hd
  have hp : t.extract 0 (1 + k) = tx ((tl t).take (1 + k)) := by
    have := ext_tx (tl t) 0 (1 + k)
    rwa [tx_tl] at this
  have hps : (t.extract 0 (1 + k)).size ≤ 1048576 := by rw [ByteArray.size_extract]; omega
  have hpl : tl (t.extract 0 (1 + k)) = (tl t).take (1 + k) := by rw [hp]; rfl
  have hpe : (t.extract 0 (1 + k)).toList = (tl t).take (1 + k) := by rw [list_eq, hpl]
  have hz : ∀ x, numF valF x = (tok0, 0) → nuA x = .tuple #[.agg #[.int .i64 0, .string ⟨#[]⟩, .int .i64 0, .int .i64 0], .int .i64 0] := fun x h => by unfold nuA; rw [h]; rfl
  have hcl : ∀ w', Below w.heap.size w w' → Calls Tryd.prog 51 #[.string (t.extract 0 (1 + k))] w' fun e w2 => e = .returned (.string (t.extract 0 (1 + k))) ∧ Below w'.heap.size w' w2 := fun w' _ => clone_any _ hps w'
  have hlet : ∀ (h : 1 + k < t.size) (b : Bool), letB (t[1 + k]).toNat = b → ∀ w', Calls Tryd.prog 26 #[.int .u8 ((t[1 + k]).toNat : Int)] w' fun e w2 => e = .returned (.bool b) ∧ Below w'.heap.size w' w2 := fun h b hb w' => by
    have := letter_any (t[1 + k]).toNat w'
    rwa [let_eq, hb] at this
  have hget : ∀ (h : 1 + k < t.size), (tl t).getD (1 + k) 0 = t[1 + k] := fun h => by
    rw [List.getD_eq_getElem?_getD, List.getElem?_eq_getElem (by rw [hts]; exact h)]
    rfl
  have hval : valF ((tl t).take (1 + k)) = match Lib.parseIntB 64 ((tl t).take (1 + k)) with
    | .ok v => if Lib.itoa v = (tl t).take (1 + k) then some v else none
    | _ => none := rfl
  have hno : ¬ (digN (tl t) < (tl t).length ∧ letB ((tl t).getD (digN (tl t)) 0).toNat = true) → numF valF (tl t) = match valF ((tl t).take (1 + k)) with
    | some n => ((2, (tl t).take (1 + k), n, 0), 1 + k)
    | none => (tok0, 0) := fun h => by
    unfold numF
    rw [if_neg h, hd]
    cases valF ((tl t).take (1 + k)) <;> rfl
  have hbad : valF ((tl t).take (1 + k)) = none → ¬ (digN (tl t) < (tl t).length ∧ letB ((tl t).getD (digN (tl t)) 0).toNat = true) → nuA (tl t) = .tuple #[.agg #[.int .i64 0, .string ⟨#[]⟩, .int .i64 0, .int .i64 0], .int .i64 0] := fun h1 h => hz _ (by rw [hno h, h1])
  have hgood : ∀ v, valF ((tl t).take (1 + k)) = some v → ¬ (digN (tl t) < (tl t).length ∧ letB ((tl t).getD (digN (tl t)) 0).toNat = true) → nuA (tl t) = .tuple #[.agg #[.int .i64 2, .string (t.extract 0 (1 + k)), .int .i64 v, .int .i64 0], .int .i64 (1 + (k : Int))] := fun v h1 h => by
    unfold nuA
    rw [hno h, h1, hp]
    simp
  by_cases hlt : 1 + k < t.size
  · cases hb : letB (t[1 + k]).toNat with
    | true =>
      rw [hz (tl t) (by unfold numF; rw [if_pos ⟨by rw [hd, hts]; exact hlt, by rw [hd, hget hlt]; exact hb⟩])]
      exact nu_letter t k (by omega) h2 w hrun (hlet hlt true hb)
    | false =>
      have hcond : ¬ (digN (tl t) < (tl t).length ∧ letB ((tl t).getD (digN (tl t)) 0).toNat = true) := fun h => by
        have := h.2
        rw [hd, hget hlt, hb] at this
        cases this
      cases hP : Lib.parseIntB 64 ((tl t).take (1 + k)) with
      | ok v =>
        by_cases hi : Lib.itoa v = (tl t).take (1 + k)
        · rw [hgood v (by rw [hval, hP]; exact if_pos hi) hcond]
          exact nu_good_l t k (by omega) h2 w hrun (hlet hlt false hb) v (parse_ok hg _ hps (by rw [hpl]; exact hP)) (fmt_any hg (parse_rng hP)) hcl (by rw [hpe]; exact beq_iff_eq.2 hi)
        · rw [hbad (by rw [hval, hP]; exact if_neg hi) hcond]
          exact nu_other_l t k (by omega) h2 w hrun (hlet hlt false hb) v (parse_ok hg _ hps (by rw [hpl]; exact hP)) (fmt_any hg (parse_rng hP)) (by rw [hpe]; exact beq_eq_false_iff_ne.2 hi)
      | _ =>
        rw [hbad (by rw [hval, hP]) hcond]
        exact nu_bad_l t k (by omega) h2 w hrun (hlet hlt false hb) (parse_bad hg _ hps (fun v h => by rw [hpl, hP] at h; cases h))
  · have hcond : ¬ (digN (tl t) < (tl t).length ∧ letB ((tl t).getD (digN (tl t)) 0).toNat = true) := fun h => by
      have := h.1
      rw [hd, hts] at this
      omega
    cases hP : Lib.parseIntB 64 ((tl t).take (1 + k)) with
    | ok v =>
      by_cases hi : Lib.itoa v = (tl t).take (1 + k)
      · rw [hgood v (by rw [hval, hP]; exact if_pos hi) hcond]
        exact nu_good_e t k (by omega) h2 w hrun v (parse_ok hg _ hps (by rw [hpl]; exact hP)) (fmt_any hg (parse_rng hP)) hcl (by rw [hpe]; exact beq_iff_eq.2 hi)
      · rw [hbad (by rw [hval, hP]; exact if_neg hi) hcond]
        exact nu_other_e t k (by omega) h2 w hrun v (parse_ok hg _ hps (by rw [hpl]; exact hP)) (fmt_any hg (parse_rng hP)) (by rw [hpe]; exact beq_eq_false_iff_ne.2 hi)
    | _ =>
      rw [hbad (by rw [hval, hP]) hcond]
      exact nu_bad_e t k (by omega) h2 w hrun (parse_bad hg _ hps (fun v h => by rw [hpl, hP] at h; cases h))
theorem nu_is : NuIs := by
  intro w args' vals hg hin hli
  match args', hin with
  | [v0], ⟨a, b, hv, h0, hd⟩ =>
    obtain rfl : b = [] := hd
    obtain ⟨t, rfl, rfl, ht⟩ := in_T h0
    subst hv
    obtain ⟨t', e1, e2, -⟩ := hli 0 (by simp)
    have e1 : Value.string t = .string t' := e1
    injection e1 with e1
    subst e1
    have e2 := e2 (by omega)
    obtain ⟨t', e1, -, e3⟩ := hli 1000 (by simp)
    have e1 : Value.string t = .string t' := e1
    injection e1 with e1
    subst e1
    have e3 := e3 (by omega)
    have ok := ok_num (x := tl t) ht
    have le := num_le (x := tl t) e3
    refine ⟨[.int .i64 (numF valF (tl t)).1.1, .string (tx (numF valF (tl t)).1.2.1), .int .i64 (numF valF (tl t)).1.2.2.1, .int .i64 (numF valF (tl t)).1.2.2.2, .int .i64 (Int.ofNat (numF valF (tl t)).2)], ⟨rfl, ?_⟩, nu_any t e3 e2 w hg⟩
    intro i k v hk hv
    match i with
    | 0 => injection hk with hk; injection hv with hv; subst hk; subst hv; exact ⟨ok.1, rfl⟩
    | 1 => injection hk with hk; injection hv with hv; subst hk; subst hv; exact ⟨str_ty ok.2.1, rfl⟩
    | 2 => injection hk with hk; injection hv with hv; subst hk; subst hv; exact ⟨ok.2.2.1, rfl⟩
    | 3 => injection hk with hk; injection hv with hv; subst hk; subst hv; exact ⟨ok.2.2.2, rfl⟩
    | 4 => injection hk with hk; injection hv with hv; subst hk; subst hv; exact ⟨nat_i64 (Nat.lt_of_le_of_lt le ht), rfl⟩
    | i + 5 => cases hk
end Go.Proofs.YtaepplhgeeaidaaDoor
