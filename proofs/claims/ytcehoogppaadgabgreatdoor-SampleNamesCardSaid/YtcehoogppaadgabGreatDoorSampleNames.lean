/- At the landed commit the Go function waterwheellaw04.SampleNames, which takes nothing, returns true, where the tables of Go's library that the row lists hold what the card ties to the program's text. No other condition. The call is reckoned. -/
import Derived.Test.YtcehoogppaadgabGreatDoorRows
import Derived.Test.YtcehoogppaadgabGreatDoorCards
import Derived.Test.YtcehoogppaadgabGreatDoorTie
import Derived.Test.YtcehoogppaadgabGreatDoorEvT
import Derived.ProofKit
import Derived.OpenShut
import Derived.LaidMore
import Derived.SevenTiedAt
import Derived.Deep.DeepLaidRun
namespace Go.Proofs.YtcehoogppaadgabGreatDoor.sampleNames
open Go.ChangeShapes Go.WideShapes Go.ChangeAt Go.RowKit
set_option linter.unusedVariables false
set_option linter.unusedSimpArgs false

theorem own : ownKnob Tryz.prog.godebug = none := by kernel_rfl
theorem mixed : Tryz.prog.follows .mixedOrders = true := by kernel_rfl

theorem e0 : Ev.ExtIs Tryz.prog 160 .cmpstr := ⟨_, Tryz.func160, by kernel_rfl, rfl, by kernel_rfl, by kernel_rfl⟩
theorem e1 : Ev.ExtIs Tryz.prog 128 .noEscape := ⟨_, Tryz.func128, by kernel_rfl, rfl, by kernel_rfl, by kernel_rfl⟩
def pow10 : List Int := [1, 10, 100, 1000, 10000, 100000, 1000000, 10000000, 100000000, 1000000000, 10000000000, 100000000000, 1000000000000, 10000000000000, 100000000000000, 1000000000000000, 10000000000000000, 100000000000000000, 1000000000000000000, 10000000000000000000]
noncomputable def tables : List (Nat × Ev.Tr Value) := [(0, Ev.Tr.putList (pow10.map (Value.int .u64)) .nil 0)]

theorem reckoned : Ev.tells true (Ev.evFn (Ev.cxOf Tryz.prog [(160, .cmpstr), (128, .noEscape)] [] tables) 100000 60 (.fn 3) [] ⟨.nil, 100, 100⟩) = true := by decide +kernel

theorem of_laid {W : World} (h : laidMetH Tryz.prog Rows.sampleNamesRow.laid W) : ∀ g t, (g, t) ∈ tables → ∃ cs ty fr, W.heap[g]? = some (.cells cs ty fr) ∧ ∀ (i : Nat) (v : Value), t.get i = some v → Ev.flat v = true ∧ cs[i]? = some v := by
  rw [MakeChecks.laidMetH_plain _ _ _ (by kernel_rfl)] at h
  intro g t hm
  obtain ⟨rfl, rfl⟩ : g = 0 ∧ t = Ev.Tr.putList (pow10.map (Value.int .u64)) .nil 0 := by simpa [tables] using hm
  exact Ev.table_of h (nm := "internal/strconv.uint64pow10") (n := 20) (t := 169) (e := 69) (k := .u64) (zs := pow10) (by simp [Rows.sampleNamesRow, Rows.laid_internal_strconv_uint64pow10, pow10]) (by kernel_rfl) (by kernel_rfl) Tryz.underlying169 Tryz.underlying69 (by kernel_rfl)

theorem walk (w : World) (h : laidMetH Tryz.prog Rows.sampleNamesRow.laid w) :
    Calls Tryz.prog 3 #[] w fun e w' => e = .returned (.bool true) ∧ Below w.heap.size w w' :=
  Ev.toldG (Ev.ext_cons e0 (Ev.ext_cons e1 (Ev.ext_nil _ _))) mixed reckoned w (of_laid h)

/-- The door's own heap meets the condition. -/
theorem door_met (os : Os) (args : Array Value) : laidMetH Tryz.prog Rows.sampleNamesRow.laid ((World.doorLaid Tryz.prog 2000 os).forCall (fun _ _ => 0) ⟨#[], args, []⟩).memory :=
  laidMetH_of_parts3 (fuel := 8) (laidMet_of_run3 8 (by kernel_rfl) (by kernel_rfl) (by kernel_rfl)) (by kernel_rfl) (by kernel_rfl)

set_option maxRecDepth 100000 in
theorem lifted (os : Os) (started : os.Started) (H : Type) (enc : TypeId × Value → H) :
    ReturnsInHanded {} Tryz.checked os 3 .any (fun w args => (Rows.sampleNamesSpec.pre enc Tryz.prog Tryz.f3 [] false w args ∧ laidMetH Tryz.prog Rows.sampleNamesRow.laid w) ∧ sizedMet enc Tryz.prog Tryz.f3 (OpenSpec.ofChange Rows.sampleNamesSpec) false w args)
      (Rows.sampleNamesSpec.post enc Tryz.prog Tryz.f3 false true false false) := by
  refine returnsInHanded_of_change_and (C := Tryz.checked) (X := fun w _ => laidMetH Tryz.prog Rows.sampleNamesRow.laid w) (fun _ _ _ hh h => h.of_heap hh) own started (by kernel_rfl) Tryz.func3
    (ChangeSpec.witness_shaped (enc := enc) (C := Tryz.checked) (os := os) (X := fun w _ => laidMetH Tryz.prog Rows.sampleNamesRow.laid w) false (World.doorLaid Tryz.prog 2000 os) #[] 8 rfl (World.shaped_of_RefB (by kernel_rfl) (by kernel_rfl)) (by kernel_rfl) (by kernel_rfl) (by kernel_rfl) (door_met os _)) ?_
  intro W base args ds gs before hval0 hW hcnd _ hL _
  have hW' := hW
  obtain ⟨p, q, hA0, hV, rfl, hfz, hnd⟩ := hW
  have hA : DataW.TrodAll enc Tryz.prog W 0 (fun _ => true) true Tryz.f3.params.toList args.toList ds p := hA0
  rw [Tryz.params3] at hA
  obtain ⟨hargs, rfl, rfl⟩ := trodAll_nil hA
  obtain rfl : args = #[] := by cases args; simp_all
  obtain ⟨rfl, rfl⟩ := trodVars_none hV
  clear hA0 hval0
  simp only [List.append_nil] at hW'
  refine (walk W hL).mono fun e W' ⟨he, hb⟩ => ?_
  subst he
  exact ⟨_, rfl, _, _, _, [], _, [], hW', trodAll_mk1 (shut_bool Tryz.underlying4 _), trodAll_mk0, rfl, hb.frame _, fun h => by cases h⟩

theorem over : Rows.SampleNamesSaid :=
  OpenClaim.holds_of_wide 3 Tryz.f3 rfl rfl rfl rfl rfl rfl rfl ⟨rfl, rfl, rfl, rfl, rfl⟩ rfl rfl rfl rfl rfl (by kernel_rfl) Tryz.func3 (by kernel_rfl)
    (of_decide_eq_true (by kernel_rfl)) (by unfold Func.isWrapper; first | (rw [if_pos (by decide +kernel)]; kernel_rfl) | (rw [if_neg (by decide +kernel)]; exact ⟨rfl, rfl⟩))
    (fun os started H enc _ => lifted os started H enc)

theorem proved : Rows.SampleNamesCardSaid :=
  Claim7.holds_tied_plain_at .later [] [.data, .data, .data] true (true, "25d62d32720bdd150bfe5bba8eb3b25b389b00b55f8d9b70451d3bbc5ca07f3d") false
    over (fun _ h => by cases h) (by kernel_rfl) (fun _ h => by cases h) sampleNames_row_tie rfl ⟨rfl, rfl⟩ (by kernel_rfl) rfl
    (fun f fn hf hfn => by
      obtain rfl : f = 3 := Option.some.inj ((show Tryz.prog.funcNamed "waterwheel/waterwheellaw04.SampleNames" = some 3 by kernel_rfl).symm.trans hf) |>.symm
      obtain rfl : fn = Tryz.f3 := (Option.some.inj (Tryz.func3.symm.trans hfn)).symm
      exact ⟨by kernel_rfl, fun j t ht => by
        rw [Tryz.params3] at ht
        simp at ht⟩)
    (by kernel_rfl)
#print axioms proved
end Go.Proofs.YtcehoogppaadgabGreatDoor.sampleNames
