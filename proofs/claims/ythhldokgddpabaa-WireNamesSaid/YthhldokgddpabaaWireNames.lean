/- At the landed commit the Go function waterwheellaw01.WireNames, which takes nothing, returns true. No condition. -/
import Derived.Test.YthhldokgddpabaaRows
import Derived.Test.YthhldokgddpabaaNew
import Derived.ProofKit
import Derived.OpenShut
import Derived.ShutString
namespace Go.Proofs.Ythhldokgddpabaa.wireNames
open Go.ChangeShapes Go.WideShapes Go.ChangeAt Go.RowKit
set_option linter.unusedVariables false

theorem own : ownKnob Try.prog.godebug = none := by kernel_rfl

theorem att_r : att numR maxU [1, 0] 0 = ((0, []), ([1, 0], 4)) := by decide +kernel
theorem att_s : att numR maxU [9] 0 = ((0, []), ([9], 4)) := by decide +kernel
theorem numB_0 : numB 0 = [0] := by decide +kernel
theorem numB_5 : numB 5 = [1, 5] := by decide +kernel
theorem numB_min : numB (foldN (-9223372036854775808)) = [8, 255, 255, 255, 255, 255, 255, 255, 255] := by decide +kernel

theorem str_own {w : World} {B n c : Nat} {A : Option Addr} {l : List UInt8} (h : w.ownsRow B 5 1 (.slice A n c) n (u8s l)) : (convert 24 9 (.slice A n c)).run Try.prog w = .ok (.string ⟨l.toArray⟩) w :=
  run_str_rd 24 9 5 Try.underlying24 Try.underlying5 Try.underlying9 (Rd.of_own h)

set_option maxHeartbeats 1000000 in
theorem walk (w : World) :
    Calls Try.prog 3 #[] w fun e w' => e = .returned (.bool true) ∧ Below w.heap.size w w' := by
  have N0 : ∀ W, Calls Try.prog 12 #[.slice none 0 0, .int .u64 0] W (Made W 1 [0]) := fun W => numB_0 ▸ number_any none 0 [] 0 W (Rd.nil _ _) (by simp) (by omega)
  have N5 : ∀ W, Calls Try.prog 12 #[.slice none 0 0, .int .u64 5] W (Made W 2 [1, 5]) := fun W => numB_5 ▸ number_any none 0 [] 5 W (Rd.nil _ _) (by simp) (by omega)
  have S : ∀ W : World, Calls Try.prog 13 #[.slice none 0 0, .int .i64 (-9223372036854775808)] W (Made W 9 [8, 255, 255, 255, 255, 255, 255, 255, 255]) := fun W => numB_min ▸ signed_any none 0 [] (-9223372036854775808) W (Rd.nil _ _) (by simp) (by omega) (by omega)
  have R1 : Rd _ _ _ (u8s [1, 0]) := Rd.new w 5 #[.int .u8 1, .int .u8 0] 2 rfl (by simp [maxLen])
  have Q1 := new_any _ 2 [1, 0] 2 (w.alloc (.cells #[.int .u8 1, .int .u8 0] 5)) (R1.more (by simp)) (by omega) rfl
  go_enter Try.func3, Try.ntmps3
  go_wp2_with fail
  refine Q1.mono ?_
  rintro e w1 ⟨lo1, r1, rfl, g1, g2, h1, hb1⟩
  have b1 : Below w.heap.size w w1 := ((Below.refl _ _).alloc (Nat.le_refl _) _).trans (hb1.mono (by simp))
  have l1 := h1.lt
  clear Q1 R1 hb1
  go_wp2_with fail
  have R2 : Rd _ _ _ (u8s [9]) := Rd.new w1 5 #[.int .u8 9] 1 rfl (by simp [maxLen])
  have Q2 := new_any _ 1 [9] 1 (w1.alloc (.cells #[.int .u8 9] 5)) (R2.more (by simp)) (by omega) rfl
  refine Q2.mono ?_
  rintro e w2 ⟨lo2, r2, rfl, g3, g4, h2, hb2⟩
  have hb2' : Below w1.heap.size w1 w2 := ((Below.refl _ _).alloc (Nat.le_refl _) _).trans (hb2.mono (by simp))
  have b2 := b1.trans (hb2'.mono b1.size)
  have k1 := h1.below hb2'
  simp only [World.size_alloc] at g3
  clear Q2 R2 hb2 hb2' h1 b1
  have P1 := number_read lo1 r1 0 _ w2 k1
  rw [att_r] at P1
  go_wp2_with fail
  refine P1.mono ?_
  rintro e w3 ⟨rfl, h3, hg3⟩
  have k2 := h2.kept hg3 (by omega) g4
  have z3 := hg3.size
  have b3 := b2.grown hg3 b2.size (by intro k hk; injection hk; simp only [World.size_alloc] at g1; omega)
  have P2 := number_read lo2 r2 0 _ w3 k2
  rw [att_s] at P2
  clear P1 h2 hg3 b2 k1 k2
  go_wp2_with fail
  refine P2.mono ?_
  rintro e w4 ⟨rfl, h4, hg4⟩
  have k3 := h3.kept hg4 (by omega) g2
  have b4 := b3.grown hg4 b3.size (by intro k hk; injection hk; simp only [World.size_alloc] at g1; omega)
  clear P2 h3 hg4 b3
  go_wp2_with fail
  refine (lives_any w4).mono ?_
  rintro e w5 ⟨rfl, hb5⟩
  have b5 := b4.trans (hb5.mono b4.size)
  have k5 := k3.below hb5
  have h5 := h4.below hb5
  clear hb5 k3 h4 b4
  go_wp2_with fail
  refine (N0 w5).mono ?_
  rintro e w6 ⟨A6, c6, rfl, o6, hb6⟩
  have s6 := str_own o6
  have b6 := b5.trans (hb6.mono b5.size)
  have k6 := k5.below hb6
  have h6 := h5.below hb6
  clear o6 hb6 b5 k5 h5 N0
  go_wp2_with fail
  refine (N5 w6).mono ?_
  rintro e w7 ⟨A7, c7, rfl, o7, hb7⟩
  have s7 := str_own o7
  have b7 := b6.trans (hb7.mono b6.size)
  have k7 := k6.below hb7
  have h7 := h6.below hb7
  clear o7 hb7 b6 k6 h6 N5 s6
  go_wp2_with fail
  refine (S w7).mono ?_
  rintro e w8 ⟨A8, c8, rfl, o8, hb8⟩
  have s8 := str_own o8
  have b8 := b7.trans (hb8.mono b7.size)
  have E1 := err_read _ _ _ _ _ (k7.below hb8)
  have E2 := err_read _ _ _ _ _ (h7.below hb8)
  clear o8 hb8 b7 k7 h7 S s7
  go_wp2_with fail
  refine E1.mono ?_
  rintro e w9 ⟨rfl, rfl⟩
  go_wp2_with fail
  refine E2.mono ?_
  rintro e w10 ⟨rfl, rfl⟩
  go_wp2
  go_ret
  exact ⟨rfl, b8⟩

set_option maxRecDepth 100000 in
theorem lifted (os : Os) (started : os.Started) (H : Type) (enc : TypeId × Value → H) :
    ReturnsInHanded {} Try.checked os 3 .any (Rows.wireNamesSpec.pre6 enc Try.prog Try.f3 Rows.wireNamesRow.domain false) (Rows.wireNamesSpec.post enc Try.prog Try.f3 false true false false) := by
  refine returnsInHanded_of_change (C := Try.checked) own started (by kernel_rfl) Try.func3
    (ChangeSpec.witness6 (enc := enc) (C := Try.checked) false ⟨#[], #[], []⟩ 8 (by kernel_rfl) (by kernel_rfl) (by kernel_rfl) (by kernel_rfl)) ?_
  intro W base args ds gs before hval0 hW hcnd _
  have hW' := hW
  obtain ⟨p, q, hA0, hV, rfl, hfz, hnd⟩ := hW
  have hA : DataW.TrodAll enc Try.prog W 0 (fun _ => true) true Try.f3.params.toList args.toList ds p := hA0
  rw [Try.params3] at hA
  obtain ⟨hargs, rfl, rfl⟩ := trodAll_nil hA
  obtain rfl : args = #[] := by cases args; simp_all
  obtain ⟨rfl, rfl⟩ := trodVars_none hV
  clear hA0 hval0
  simp only [List.append_nil] at hW'
  refine (walk W).mono fun e W' ⟨he, hb⟩ => ?_
  subst he
  exact ⟨_, rfl, _, _, _, [], _, [], hW', trodAll_mk1 (shut_bool Try.underlying4 _), trodAll_mk0, rfl, hb.frame _, fun h => by cases h⟩

theorem over : Rows.wireNamesRow.holds Try.pinned (OpenSpec.ofChange Rows.wireNamesSpec) :=
  OpenClaim.holds_of_wide 3 Try.f3 rfl rfl rfl rfl rfl rfl rfl ⟨rfl, rfl, rfl, rfl, rfl⟩ rfl rfl rfl rfl rfl (by kernel_rfl) Try.func3 (by kernel_rfl)
    (of_decide_eq_true (by kernel_rfl)) (by unfold Func.isWrapper; first | (rw [if_pos (by decide +kernel)]; kernel_rfl) | (rw [if_neg (by decide +kernel)]; exact ⟨rfl, rfl⟩))
    (fun os started H enc _ => lifted os started H enc)

theorem proved : Rows.WireNamesSaid := over
#print axioms proved
end Go.Proofs.Ythhldokgddpabaa.wireNames
