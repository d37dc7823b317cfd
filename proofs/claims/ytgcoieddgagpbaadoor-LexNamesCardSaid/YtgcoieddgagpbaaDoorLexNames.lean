/- At the landed commit the Go function waterwheellaw05.LexNames, which takes nothing, returns true, where the tables of Go's library that the row lists hold what the card ties to the program's text. No other condition. The call is reckoned. -/
import Derived.Test.YtgcoieddgagpbaaDoorRows
import Derived.Test.YtgcoieddgagpbaaDoorCards
import Derived.Test.YtgcoieddgagpbaaDoorTie
import Derived.Test.YtgcoieddgagpbaaDoorEvS
import Derived.Test.YtgcoieddgagpbaaDoorLook
import Derived.ProofKit
import Derived.OpenShut
import Derived.LaidMore
import Derived.SevenTiedAt
import Derived.Deep.DeepLaidRun
namespace Go.Proofs.YtgcoieddgagpbaaDoor.lexNames
open Go.ChangeShapes Go.WideShapes Go.ChangeAt Go.RowKit
set_option linter.unusedVariables false
set_option linter.unusedSimpArgs false

theorem own : ownKnob Tryd.prog.godebug = none := by kernel_rfl
theorem mixed : Tryd.prog.follows .mixedOrders = true := by kernel_rfl

theorem e0 : Ev.ExtIs Tryd.prog 68 .noEscape := ⟨_, Tryd.func68, by kernel_rfl, rfl, by kernel_rfl, by kernel_rfl⟩
def tab0 : List Int := [0, 1, 28, 2, 29, 14, 24, 3, 30, 22, 20, 15, 25, 17, 4, 8, 31, 27, 13, 23, 21, 19, 16, 7, 26, 12, 18, 6, 11, 5, 10, 9]
def tab1 : List Int := [0, 1, 56, 2, 57, 49, 28, 3, 61, 58, 42, 50, 38, 29, 17, 4, 62, 47, 59, 36, 45, 43, 51, 22, 53, 39, 33, 30, 24, 18, 12, 5, 63, 55, 48, 27, 60, 41, 37, 16, 46, 35, 44, 21, 52, 32, 23, 11, 54, 26, 40, 15, 34, 20, 31, 10, 25, 14, 19, 9, 13, 8, 7, 6]
def tab2 : List Int := [1, 10, 100, 1000, 10000, 100000, 1000000, 10000000, 100000000, 1000000000, 10000000000, 100000000000, 1000000000000, 10000000000000, 100000000000000, 1000000000000000, 10000000000000000, 100000000000000000, 1000000000000000000, 10000000000000000000]
noncomputable def tables : List (Nat × Ev.Tr Value) := [(4, Ev.Tr.putList (tab0.map (Value.int .u8)) .nil 0), (5, Ev.Tr.putList (tab1.map (Value.int .u8)) .nil 0), (0, Ev.Tr.putList (tab2.map (Value.int .u64)) .nil 0), (1, Ev.someInt)]
noncomputable def orcs : List (FuncId × (List Value → Ev.Hp → Option Value)) := [(65, Ev.byteO), (78, Ev.textO)]
theorem reckoned : Ev.tells true (Ev.evFn (Ev.cxOf Tryd.prog [(68, .noEscape)] [] tables orcs) 100000 60 (.fn 3) [] ⟨.nil, 100, 100⟩) = true := by decide +kernel

theorem of_laid {W : World} (h : laidMetH Tryd.prog Rows.lexNamesRow.laid W) (hsh : W.ShapedOpen Tryd.prog) : ∀ g t, (g, t) ∈ tables → ∃ cs ty fr, W.heap[g]? = some (.cells cs ty fr) ∧ ∀ (i : Nat) (v : Value), t.get i = some v → Ev.GC v cs[i]? := by
  rw [MakeChecks.laidMetH_plain _ _ _ (by kernel_rfl)] at h
  intro g t hm
  simp only [tables, List.mem_cons, List.not_mem_nil, or_false, Prod.mk.injEq] at hm
  rcases hm with ⟨rfl, rfl⟩ | ⟨rfl, rfl⟩ | ⟨rfl, rfl⟩ | ⟨rfl, rfl⟩
  · exact Ev.table_of h (nm := "math/bits.deBruijn32tab") (n := 32) (t := 115) (e := 5) (k := .u8) (zs := tab0) (by simp [Rows.lexNamesRow, Rows.laid_math_bits_deBruijn32tab, tab0]) (by kernel_rfl) (by kernel_rfl) Tryd.underlying115 Tryd.underlying5 (by kernel_rfl)
  · exact Ev.table_of h (nm := "math/bits.deBruijn64tab") (n := 64) (t := 116) (e := 5) (k := .u8) (zs := tab1) (by simp [Rows.lexNamesRow, Rows.laid_math_bits_deBruijn64tab, tab1]) (by kernel_rfl) (by kernel_rfl) Tryd.underlying116 Tryd.underlying5 (by kernel_rfl)
  · exact Ev.table_of h (nm := "internal/strconv.uint64pow10") (n := 20) (t := 96) (e := 84) (k := .u64) (zs := tab2) (by simp [Rows.lexNamesRow, Rows.laid_internal_strconv_uint64pow10, tab2]) (by kernel_rfl) (by kernel_rfl) Tryd.underlying96 Tryd.underlying84 (by kernel_rfl)
  · exact Ev.someInt_of (cell_of_shapedOpen_int (zero := #[.int .i64 0]) (t := 3) hsh (of_decide_eq_true (by kernel_rfl)) (by kernel_rfl) rfl (by kernel_rfl) (by kernel_rfl) Tryd.underlying3)
theorem walk (w : World) (h : laidMetH Tryd.prog Rows.lexNamesRow.laid w) (hsh : w.ShapedOpen Tryd.prog) :
    Calls Tryd.prog 3 #[] w fun e w' => e = .returned (.bool true) ∧ Below w.heap.size w w' :=
  Ev.toldG (Ev.orc_cons (Ev.byteO_is (Ev.enter_of Tryd.func65 (by kernel_rfl) (by kernel_rfl)) Tryd.stringslite_IndexByte) (Ev.orc_cons (Ev.textO_is (Ev.enter_of Tryd.func78 (by kernel_rfl) (by kernel_rfl)) (t := Ev.someInt) (g := 1) (by simp [Ev.cxOf, tables]) rfl (fun s sub m w h1 h2 => Tryd.stringslite_Index s sub m w h1 h2)) (Ev.ext_cons e0 (Ev.ext_nil _ _)))) mixed reckoned w (of_laid h hsh)

/-- The door's own heap meets the condition. -/
theorem door_met (os : Os) (args : Array Value) : laidMetH Tryd.prog Rows.lexNamesRow.laid ((World.doorLaid Tryd.prog 2000 os).forCall (fun _ _ => 0) ⟨#[], args, []⟩).memory :=
  laidMetH_of_parts3 (fuel := 8) (laidMet_of_run3 8 (by kernel_rfl) (by kernel_rfl) (by kernel_rfl)) (by kernel_rfl) (by kernel_rfl)

set_option maxRecDepth 100000 in
theorem lifted (os : Os) (started : os.Started) (H : Type) (enc : TypeId × Value → H) :
    ReturnsInHanded {} Tryd.checked os 3 .any (fun w args => (Rows.lexNamesSpec.pre enc Tryd.prog Tryd.f3 [] false w args ∧ laidMetH Tryd.prog Rows.lexNamesRow.laid w) ∧ sizedMet enc Tryd.prog Tryd.f3 (OpenSpec.ofChange Rows.lexNamesSpec) false w args)
      (Rows.lexNamesSpec.post enc Tryd.prog Tryd.f3 false true false false) := by
  refine Ev.handed_and_shaped (C := Tryd.checked) (X := fun w _ => laidMetH Tryd.prog Rows.lexNamesRow.laid w) (fun _ _ _ hh h => h.of_heap hh) own started (by kernel_rfl) Tryd.func3
    (ChangeSpec.witness_shaped (enc := enc) (C := Tryd.checked) (os := os) (X := fun w _ => laidMetH Tryd.prog Rows.lexNamesRow.laid w) false (World.doorLaid Tryd.prog 2000 os) #[] 8 rfl (World.shaped_of_RefB (by kernel_rfl) (by kernel_rfl)) (by kernel_rfl) (by kernel_rfl) (by kernel_rfl) (door_met os _)) ?_
  intro W base args ds gs before hval0 hW hcnd _ hL hsh _
  have hW' := hW
  obtain ⟨p, q, hA0, hV, rfl, hfz, hnd⟩ := hW
  have hA : DataW.TrodAll enc Tryd.prog W 0 (fun _ => true) true Tryd.f3.params.toList args.toList ds p := hA0
  rw [Tryd.params3] at hA
  obtain ⟨hargs, rfl, rfl⟩ := trodAll_nil hA
  obtain rfl : args = #[] := by cases args; simp_all
  obtain ⟨rfl, rfl⟩ := trodVars_none hV
  clear hA0 hval0
  simp only [List.append_nil] at hW'
  refine (walk W hL hsh).mono fun e W' ⟨he, hb⟩ => ?_
  subst he
  exact ⟨_, rfl, _, _, _, [], _, [], hW', trodAll_mk1 (shut_bool Tryd.underlying4 _), trodAll_mk0, rfl, hb.frame _, fun h => by cases h⟩

theorem over : Rows.LexNamesSaid :=
  OpenClaim.holds_of_wide 3 Tryd.f3 rfl rfl rfl rfl rfl rfl rfl ⟨rfl, rfl, rfl, rfl, rfl⟩ rfl rfl rfl rfl rfl (by kernel_rfl) Tryd.func3 (by kernel_rfl)
    (of_decide_eq_true (by kernel_rfl)) (by unfold Func.isWrapper; first | (rw [if_pos (by decide +kernel)]; kernel_rfl) | (rw [if_neg (by decide +kernel)]; exact ⟨rfl, rfl⟩))
    (fun os started H enc _ => lifted os started H enc)

theorem proved : Rows.LexNamesCardSaid :=
  Claim7.holds_tied_plain_at .later [] [.data, .data, .data, .sentinel, .sentinel] true (true, "8acc9c4dc406887e05edc74fd9880985c66490b979dfdc4206d10f3fa52a887a") true
    over (fun _ h => by cases h) (by kernel_rfl) (fun _ h => by cases h) lexNames_row_tie rfl ⟨rfl, rfl⟩ (by kernel_rfl) rfl
    (fun f fn hf hfn => by
      obtain rfl : f = 3 := Option.some.inj ((show Tryd.prog.funcNamed "waterwheel/waterwheellaw05.LexNames" = some 3 by kernel_rfl).symm.trans hf) |>.symm
      obtain rfl : fn = Tryd.f3 := (Option.some.inj (Tryd.func3.symm.trans hfn)).symm
      exact ⟨by kernel_rfl, fun j t ht => by
        rw [Tryd.params3] at ht
        simp at ht⟩)
    (by kernel_rfl)
#print axioms proved
end Go.Proofs.YtgcoieddgagpbaaDoor.lexNames
