/- The closure of a reader, at the rule 'truth'. -/
import Derived.Test.YtfdgajfpmeaieaaRdr
namespace Go.Proofs.Ytfdgajfpmeaieaa
open Go.RowKit

set_option maxHeartbeats 2000000 in
theorem clos_truth (R : List UInt8 → Nat → Nat × Nat × Nat) (m lo r q : Nat) (l : List UInt8) (w : World) (h : Rdr w lo r l q)
    (hR : ∀ (A : Option Addr) (c n : Nat), Rd w r (.slice A n c) (u8s l) → n = l.length → Calls Try.prog 93 #[.slice A n c, .int .u64 (m : Int)] w fun e w' => e = tupR (R l m) ∧ w = w')
    (hn : (R l m).2.1 ≤ l.length) :
    Calls Try.prog 79 #[.func (.func 93) #[] #[], .int .u64 (m : Int), .pointer (some ⟨r + 1, 0, none⟩)] w (Took w lo r (att R m l q)) := by
  obtain ⟨A, n, c, hnl, hlo, h1, h2, hrd⟩ := h
  have HLO := Lib.hid hlo
  clear hlo
  have c0 : w.cell? ⟨r, 0, none⟩ = some (.slice A n c) := (cell_of_row w r 0 _ _ _ h1).trans rfl
  have c1 : w.cell? ⟨r, 1, none⟩ = some (.int .i64 (q : Int)) := (cell_of_row w r 1 _ _ _ h1).trans rfl
  have c2 : w.cell? ⟨r + 1, 0, none⟩ = some (.pointer (some ⟨r, 0, none⟩)) := (cell_of_row w (r + 1) 0 _ _ _ h2).trans rfl
  have f0 : w.frozen? ⟨r, 0, none⟩ = false := frozen_of_row w r 0 _ _ h1
  have f1 : w.frozen? ⟨r, 1, none⟩ = false := frozen_of_row w r 1 _ _ h1
  have H1 := Lib.hid h1
  have H2 := Lib.hid h2
  have HN := Lib.hid hnl
  have V := hR A c n hrd hnl
  clear hR h1 h2 hnl
  by_cases hq : q ≠ 0
  · have HA : Hid (att R m l q = ((0, []), (l, q))) := Lib.hid (by rw [att, if_pos hq])
    go_enter Try.func79, Try.ntmps79
    go_wp2_with fail
    go_ret2
    rw [HA.out]
    exact ⟨none, 0, 0, rfl, rfl, Rd.nil _ _, ⟨A, n, c, HN.out, HLO.out, H1.out, H2.out, hrd⟩, World.grownBy.refl _ _⟩
  · obtain rfl : q = 0 := by omega
    have HA : Hid (att R m l 0 = if (R l m).2.2 ≠ 0 then ((0, []), (l, (R l m).2.2)) else (((R l m).1, l.take (R l m).2.1), (l.drop (R l m).2.1, 0))) := Lib.hid (by rw [att, if_neg hq])
    unfold tupR at V
    generalize (R l m).1 = x at *
    generalize (R l m).2.1 = k at *
    generalize (R l m).2.2 = t at *
    have hkn : k ≤ n := by rw [HN.out]; exact hn
    have hcn : n ≤ c ∧ c ≤ 9223372036854775807 := by
      obtain ⟨A', c', hv, h1, h2⟩ := hrd.form
      have := HN.out
      injection hv with _ _ h3
      unfold maxLen at h2
      omega
    obtain ⟨hnc, hmx⟩ := hcn
    by_cases ht : t ≠ 0
    · go_enter Try.func79, Try.ntmps79
      go_wp2_with (go_at_call 93; refine V.mono ?_; rintro e w' ⟨rfl, rfl⟩)
      go_ret2
      rw [HA.out, if_pos ht]
      have h1' := heap_setCell_same w r 1 _ _ (.int .i64 (t : Int)) H1.out
      have h2' := (Below.heap_setCell w ⟨r, 1, none⟩ (.int .i64 (t : Int)) (r + 1) (by simp)).trans H2.out
      exact ⟨none, 0, 0, rfl, rfl, Rd.nil _ _, ⟨A, n, c, HN.out, HLO.out, h1', h2', hrd.setCell (Nat.le_refl _) _⟩, ⟨rfl, rfl, rfl, by simp, fun i _ hne => Below.heap_setCell _ _ _ _ (fun e => hne (by rw [e]))⟩⟩
    · obtain rfl : t = 0 := by omega
      have hcut := hrd.cut (i := k) HN.out hkn
      rcases A with _ | ad
      · have hn0 : n = 0 := by
          rcases Nat.eq_zero_or_pos n with h | h
          · exact h
          · obtain ⟨ad, h', _⟩ := hrd.byte (k := 0) (by have := HN.out; omega)
            cases h'
        subst hn0
        obtain rfl : k = 0 := by omega
        simp only [Option.map_none, ite_self, Nat.sub_zero] at hcut
        go_enter Try.func79, Try.ntmps79
        go_wp2_with (go_at_call 93; refine V.mono ?_; rintro e w' ⟨rfl, rfl⟩)
        go_region
        all_goals go_wp2
        all_goals go_ret2
        all_goals (rw [HA.out, if_neg ht]; exact took_of hrd HN.out (Nat.zero_le _) H1.out H2.out HLO.out hcut rfl)
      · by_cases hck : c = k
        · subst hck
          obtain rfl : n = c := by omega
          rw [if_pos rfl, Nat.sub_self] at hcut
          go_enter Try.func79, Try.ntmps79
          go_wp2_with (go_at_call 93; refine V.mono ?_; rintro e w' ⟨rfl, rfl⟩)
          go_region
          all_goals go_wp2
          all_goals go_ret2
          all_goals (rw [HA.out, if_neg ht]; exact took_of hrd HN.out hkn H1.out H2.out HLO.out hcut (Nat.sub_self _).symm)
        · rw [if_neg hck] at hcut
          go_enter Try.func79, Try.ntmps79
          go_wp2_with (go_at_call 93; refine V.mono ?_; rintro e w' ⟨rfl, rfl⟩)
          go_region
          all_goals go_wp2
          all_goals go_ret2
          all_goals (rw [HA.out, if_neg ht]; exact took_of hrd HN.out hkn H1.out H2.out (fun a e => by injection e with e; subst e; rw [block_of_add']; exact HLO.out ad rfl) hcut rfl)
end Go.Proofs.Ytfdgajfpmeaieaa
