import Derived.Test.YtkgflcpgjdbcdaaGreatDoorGrA
namespace Go.Proofs.YtkgflcpgjdbcdaaGreatDoor
set_option linter.unusedVariables false
set_option linter.unusedSimpArgs false
open Go.RowKit Go.Shelf
theorem bcell {W w1 : World} (hb : Below W.heap.size W w1) : (∀ b o, b < W.heap.size → w1.cell? ⟨b, o, none⟩ = W.cell? ⟨b, o, none⟩) ∧ (∀ b o, b < W.heap.size → w1.frozen? ⟨b, o, none⟩ = W.frozen? ⟨b, o, none⟩) :=
  ⟨fun b o h => hb.cell (p := ⟨b, o, none⟩) h, fun b o h => hb.frozen (p := ⟨b, o, none⟩) h⟩
theorem wp_world {P : Program} {c : Code} {Q : Exit → Act → World → Prop} {a : Act} {W0 : World} (S : World → Prop) (I : S W0) (H : ∀ W, S W → c.wp P Q a W) : c.wp P Q a W0 := H W0 I
theorem below_drewN {B : Nat} {w w' : World} (h : Below B w w') (k : Nat) : Below B w (w'.drewN k) := ⟨h.1, h.2, h.3, h.4, h.5⟩
theorem same_of {P : Program} {f : FuncId} {args : Array Value} {w : World} {v : Value} (h : Calls P f args w fun e w' => e = .returned v ∧ w = w') : Calls P f args w fun e w' => e = .returned v ∧ w' = w :=
  h.mono fun _ _ ⟨he, hw⟩ => ⟨he, hw.symm⟩
def outB (S o : Int) : Bool := decide (o ≠ 0 ∨ S < -9223372036854775808 ∨ 9223372036854775807 < S)
def outN (S o : Int) : Int := if outB S o then 0 else S
theorem out_t {S o : Int} (h : o ≠ 0 ∨ S < -9223372036854775808 ∨ 9223372036854775807 < S) : outB S o = true ∧ outN S o = 0 := by
  have e : outB S o = true := by simp only [outB, decide_eq_true_eq]; exact h
  exact ⟨e, by unfold outN; rw [if_pos e]⟩
theorem out_f {S o : Int} (h : ¬(o ≠ 0 ∨ S < -9223372036854775808 ∨ 9223372036854775807 < S)) : outB S o = false ∧ outN S o = S := by
  have e : outB S o = false := by simp only [outB, decide_eq_false_iff_not]; exact h
  exact ⟨e, by unfold outN; rw [e]; rfl⟩
theorem value_any (h l o : Int) (w : World) (hh : SW h) (hl : UW l) (ho : UW o) :
    Calls Tryz.prog 41 #[.agg #[.int .i64 h, .int .u64 l, .int .u64 o]] w fun e w' => e = .returned (.agg #[.int .i64 (outN (h * 18446744073709551616 + l) o), .bool (outB (h * 18446744073709551616 + l) o)]) ∧ Below w.heap.size w w' := by
  obtain ⟨h1, h2⟩ := hh; obtain ⟨l1, l2⟩ := hl; obtain ⟨o1, o2⟩ := ho
  have n1 : -9223372036854775808 ≤ wrap64 l := by unfold wrap64; omega
  have n2 : wrap64 l ≤ 9223372036854775807 := by unfold wrap64; omega
  by_cases g : o = 0
  · subst g
    by_cases g2 : h = wrap64 l / 9223372036854775808
    · have hs : ¬((0 : Int) ≠ 0 ∨ h * 18446744073709551616 + l < -9223372036854775808 ∨ 9223372036854775807 < h * 18446744073709551616 + l) := by unfold wrap64 at g2; omega
      have hv : h * 18446744073709551616 + l = wrap64 l := by unfold wrap64 at g2 ⊢; omega
      obtain ⟨e1, e2⟩ := out_f hs
      rw [e1, e2, hv]
      clear e1 e2 hs hv
      have g3 : (h != wrap64 l / 9223372036854775808) = false := by simpa using g2
      clear g2
      go_enter Tryz.func41, Tryz.ntmps41
      go_wp2
      go_quiet ((go_at_call 56; exact Calls.quiet_of_same (same_of (signs_any _ _ n1 n2))))
      go_wp2_with (go_at_call 27; refine (of_any _ _).mono ?_; rintro e w1 ⟨rfl, hb⟩; have hs := hb.size; obtain ⟨hc, hf⟩ := bcell hb; simp at hs)
      exact bodyPost_ret (v := .agg #[.int .i64 (wrap64 l), .bool false]) (by simp [results, Tryz.results41, go_sem, hc]) rfl ⟨rfl, (by repeat (first | exact Below.refl _ _ | refine Below.drew ?_ | refine below_drewN ?_ _ | refine Below.setCell ?_ (by simp) _ | refine Below.alloc ?_ (by simp; try omega) _ | refine Below.trans ?_ (Below.mono (by assumption) (by simp; try omega))))⟩
    · have hs : ((0 : Int) ≠ 0 ∨ h * 18446744073709551616 + l < -9223372036854775808 ∨ 9223372036854775807 < h * 18446744073709551616 + l) := by unfold wrap64 at g2; omega
      obtain ⟨e1, e2⟩ := out_t hs
      rw [e1, e2]
      clear e1 e2 hs
      have g3 : (h != wrap64 l / 9223372036854775808) = true := by simpa using g2
      clear g2
      go_enter Tryz.func41, Tryz.ntmps41
      go_wp2
      go_quiet ((go_at_call 56; exact Calls.quiet_of_same (same_of (signs_any _ _ n1 n2))))
      go_wp2_with (go_at_call 57; refine (over_any _).mono ?_; rintro e w1 ⟨rfl, hb⟩; have hs := hb.size; obtain ⟨hc, hf⟩ := bcell hb; simp at hs)
      exact bodyPost_ret (v := .agg #[.int .i64 0, .bool true]) (by simp [results, Tryz.results41, go_sem, hc]) rfl ⟨rfl, (by repeat (first | exact Below.refl _ _ | refine Below.drew ?_ | refine below_drewN ?_ _ | refine Below.setCell ?_ (by simp) _ | refine Below.alloc ?_ (by simp; try omega) _ | refine Below.trans ?_ (Below.mono (by assumption) (by simp; try omega))))⟩
  · obtain ⟨e1, e2⟩ := out_t (S := h * 18446744073709551616 + l) (.inl g)
    rw [e1, e2]
    clear e1 e2
    have g3 : (o != 0) = true := by simpa using g
    clear g
    go_enter Tryz.func41, Tryz.ntmps41
    go_wp2
    go_quiet (fail)
    go_wp2_with (go_at_call 57; refine (over_any _).mono ?_; rintro e w1 ⟨rfl, hb⟩; have hs := hb.size; obtain ⟨hc, hf⟩ := bcell hb; simp at hs)
    exact bodyPost_ret (v := .agg #[.int .i64 0, .bool true]) (by simp [results, Tryz.results41, go_sem, hc]) rfl ⟨rfl, (by repeat (first | exact Below.refl _ _ | refine Below.drew ?_ | refine below_drewN ?_ _ | refine Below.setCell ?_ (by simp) _ | refine Below.alloc ?_ (by simp; try omega) _ | refine Below.trans ?_ (Below.mono (by assumption) (by simp; try omega))))⟩
end Go.Proofs.YtkgflcpgjdbcdaaGreatDoor
