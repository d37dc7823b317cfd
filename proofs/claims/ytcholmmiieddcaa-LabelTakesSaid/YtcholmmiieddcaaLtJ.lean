/- LabelTakes: conditions, by hand. LabelTakes: what a condition answers, by hand. LabelTakes: Takes, by hand. -/
import Derived.Test.YtcholmmiieddcaaLtC
import Derived.WalkKit
import Derived.WalkSpells
import Derived.Deep.OwnRows
import Derived.Handy
import Derived.Lib.Hide
import Derived.Laws.EntriesVeiled
import Derived.Deep.RegionHeld3
set_option linter.unusedVariables false
set_option linter.unusedSimpArgs false
namespace Go.Proofs.Ytcholmmiieddcaa
section
open Go Go.RowKit Ev
/-- The first k conditions stand in their row. -/
structure Conds (w : World) (g : Nat) (m : List Mat) (k : Nat) (cs : Array Value) : Prop where
  row : w.heap[g]? = some (.cells cs 55 (0, 0))
  len : cs.size = m.length
  at_ : ∀ j x, j < k → m[j]? = some x → ∃ b fr, cs[j]? = some (.func (.func 36) #[] #[.pointer (some ⟨b, 0, none⟩)]) ∧ g < b ∧ w.heap[b]? = some (.cells #[.int .i64 x.1, .string x.2.1, .string x.2.2] 32 fr)
theorem info_cond : (Try.prog.info? 55).map (fun i => (i.zero, i.size, i.bytes)) = some (some .nilFunc, 1, 8) := by kernel_rfl
theorem dat_below {w w' : World} (hb : Below w.heap.size w w') : ∀ a v, w.cell? a = some v → w'.cell? a = some v := by
  intro a v h
  have hlt : a.block < w.heap.size := by
    unfold World.cell? at h
    cases hh : w.heap[a.block]? with
    | none => simp [hh] at h
    | some o => exact (Array.getElem?_eq_some_iff.1 hh).1
  rw [hb.cell hlt]
  exact h
set_option maxHeartbeats 4000000 in
set_option maxRecDepth 100000 in
theorem cond_any (ad : Option Addr) (m : List Mat) (c : Nat) (w : World) (M : LstG eM 3 40 QM (fun a => w.cell? a) ad m) (h8 : m.length ≤ 8) :
    Calls Try.prog 22 #[.slice ad m.length c] w fun e w' => Below w.heap.size w w' ∧ e = .returned (.slice (some ⟨w.heap.size, 0, none⟩) m.length m.length) ∧ w.heap.size < w'.heap.size ∧ ∃ cs, Conds w' w.heap.size m m.length cs := by
  have hmk := run_make_row' (P := Try.prog) 52 55 .nilFunc 8 Try.underlying52 info_cond rfl .i64 .i64 m.length (by omega) (by omega)
  go_enter Try.func22, Try.ntmps22
  go_wp2
  go_loopw [11] (fun i wr => ∃ k : Nat, k ≤ m.length ∧ i = .int .i64 k ∧ Below w.heap.size w wr ∧ w.heap.size < wr.heap.size ∧ ∃ cs, Conds wr w.heap.size m k cs) (fun i _ => m.length - (intOf i).toNat)
  case atStart => exact ⟨0, Nat.zero_le _, rfl, (Below.refl _ _).alloc (Nat.le_refl _) _, by simp, _, ⟨heap_alloc_new w _, by simp [madeCells], fun j x hj => by omega⟩⟩
  case round =>
    obtain ⟨k, hk, rfl, hb, hlt, cs, hc⟩ := hrel
    by_cases hkm : k < m.length
    · obtain ⟨x, a, rfl, hv, qa, g, -⟩ := lstG_at M hkm
      have g0 := dat_below hb _ _ (g 0 _ rfl)
      have g1 := dat_below hb _ _ (g 1 _ rfl)
      have g2 := dat_below hb _ _ (g 2 _ rfl)
      have c0 : wr.cell? (x.add (k * 3)) = some (.int .i64 a.1) := g0
      have c1 : wr.cell? ⟨(x.add (k * 3)).block, (x.add (k * 3)).off + 1, none⟩ = some (.string a.2.1) := g1
      have c2 : wr.cell? ⟨(x.add (k * 3)).block, (x.add (k * 3)).off + 2, none⟩ = some (.string a.2.2) := g2
      have hsz : k < cs.size := by rw [hc.len]; exact hkm
      have hcell0 : wr.cell? ⟨w.heap.size, k, none⟩ = some cs[k] := by
        rw [cell_of_row _ w.heap.size k cs 55 (0, 0) hc.row]
        exact Array.getElem?_eq_getElem hsz
      have hfr0 := frozen_of_row _ w.heap.size k cs 55 hc.row
      have hst := heap_setCell_same wr w.heap.size k cs 55 (.func (.func 36) #[] #[.pointer (some ⟨wr.heap.size, 0, none⟩)]) hc.row
      have hss : (wr.setCell ⟨w.heap.size, k, none⟩ (.func (.func 36) #[] #[.pointer (some ⟨wr.heap.size, 0, none⟩)])).heap.size = wr.heap.size := by simp
      have hN : Conds ((wr.setCell ⟨w.heap.size, k, none⟩ (.func (.func 36) #[] #[.pointer (some ⟨wr.heap.size, 0, none⟩)])).alloc (.cells #[.int .i64 a.1, .string a.2.1, .string a.2.2] 32)) w.heap.size m (k + 1) (cs.setIfInBounds k (.func (.func 36) #[] #[.pointer (some ⟨wr.heap.size, 0, none⟩)])) := by
        refine ⟨(heap_alloc_old _ _ (by rw [hss]; exact hlt)).trans hst, by rw [Array.size_setIfInBounds]; exact hc.len, fun j y hj hy => ?_⟩
        by_cases hjk : j = k
        · subst hjk
          rw [hv] at hy
          injection hy with hy
          subst hy
          refine ⟨wr.heap.size, (0, 0), by rw [Array.getElem?_setIfInBounds_self_of_lt hsz], hlt, ?_⟩
          have := heap_alloc_new (wr.setCell ⟨w.heap.size, j, none⟩ (.func (.func 36) #[] #[.pointer (some ⟨wr.heap.size, 0, none⟩)])) (.cells #[.int .i64 a.1, .string a.2.1, .string a.2.2] 32)
          rw [hss] at this
          exact this
        · obtain ⟨b, fr, e1, e2, e3⟩ := hc.at_ j y (by omega) hy
          have hbs : b < wr.heap.size := (Array.getElem?_eq_some_iff.1 e3).1
          refine ⟨b, fr, by rw [Array.getElem?_setIfInBounds_ne (fun h => hjk h.symm)]; exact e1, e2, ?_⟩
          rw [heap_alloc_old _ _ (by rw [hss]; exact hbs), heap_setCell_other _ _ _ _ (by simp; omega)]
          exact e3
      have hB : Below w.heap.size w ((wr.setCell ⟨w.heap.size, k, none⟩ (.func (.func 36) #[] #[.pointer (some ⟨wr.heap.size, 0, none⟩)])).alloc (.cells #[.int .i64 a.1, .string a.2.1, .string a.2.2] 32)) := (hb.setCell (Nat.le_refl _) _).alloc (by rw [hss]; exact hb.size) _
      have hS : w.heap.size < ((wr.setCell ⟨w.heap.size, k, none⟩ (.func (.func 36) #[] #[.pointer (some ⟨wr.heap.size, 0, none⟩)])).alloc (.cells #[.int .i64 a.1, .string a.2.1, .string a.2.2] 32)).heap.size := by simp; omega
      have HN := Lib.hid (And.intro hB (And.intro hS hN))
      clear hc g M g0 g1 g2 hst hss hN hB hS
      generalize cs[k] = v0 at hcell0
      go_wp2
      go_roundw
      case rel => exact ⟨k + 1, by omega, by go_num, HN.out.1, HN.out.2.1, _, HN.out.2.2⟩
      case measure => simp [intOf]; omega
    · have hkm' : k = m.length := by omega
      subst hkm'
      have HC := Lib.hid hc
      go_wp2
      go_ret
      exact ⟨hb, rfl, hlt, cs, HC.out⟩
end
section
open Go Go.RowKit Ev
/-- A slice of entries reads as these labels. -/
def SetOk (w : World) (v : Value) (l : List Lab) : Prop := InOk Try.prog (fun a => w.cell? a) (41, none) v [.agg ⟨l.flatMap eL⟩]
theorem inok_mono {P : Program} {r r' : Addr → Option Value} (h : ∀ a v, r a = some v → r' a = some v) {t e : TypeId} (hu : P.underlying t = some (.slice e)) {v : Value} {vals : List Value} (hi : InOk P r (t, none) v vals) : InOk P r' (t, none) v vals := by
  obtain ⟨⟨f, h1⟩, h2⟩ := hi
  refine ⟨⟨f, rds_mono h f t _ h1 f (Nat.le_refl _)⟩, ?_⟩
  rw [show P.underlying _ = _ from hu] at h2 ⊢
  obtain ⟨l, h3, h4⟩ := h2
  refine ⟨l, ?_, h4⟩
  unfold readSl at h3 ⊢
  split at h3
  · exact h3
  · exact readN_mono h _ _ h3
  · cases h3
theorem SetOk.on {w w' : World} {v : Value} {l : List Lab} (h : SetOk w v l) (hb : Below w.heap.size w w') : SetOk w' v l := inok_mono (dat_below hb) Try.underlying41 h
theorem first_any (v : Value) (l : List Lab) (n : T) (hn : QT n) (w : World) (h : SetOk w v l) : Calls Try.prog 37 #[v, .string n, .func (.func 34) #[] #[]] w fun e w' => e = .returned (.agg #[.string (fstT l n).1, .string (fstT l n).2]) ∧ Below w.heap.size w w' := by
  have hT : InOk Try.prog (fun a => w.cell? a) (9, none) (.string n) [.string n] := by
    refine ⟨⟨1, ?_⟩, ?_⟩
    · unfold Rds
      rw [Try.underlying9]
      exact hn
    · rw [show Try.prog.underlying _ = _ from Try.underlying9]
      exact ⟨rfl, rfl⟩
  obtain ⟨cs, ⟨hl, hc⟩, hC⟩ := fi_is w [v, .string n, .func (.func 34) #[] #[]] _ (fun g t hg => by cases hg) ⟨[.agg ⟨l.flatMap eL⟩], [.string n], rfl, h, [.string n], [], rfl, hT, [], [], rfl, ⟨rfl, rfl, rfl⟩, rfl⟩
  refine hC.mono fun e w' ⟨he, hb⟩ => ⟨?_, hb⟩
  match cs, hl with
  | [x, y], _ =>
    have h0 := (hc 0 2 x rfl rfl).2
    have h1 := (hc 1 2 y rfl rfl).2
    have e0 : some (Value.string (fstT (dL (l.flatMap eL)) n).1) = some x := h0
    have e1 : some (Value.string (fstT (dL (l.flatMap eL)) n).2) = some y := h1
    rw [dL_e] at e0 e1
    injection e0 with e0
    injection e1 with e1
    subst e0 e1
    exact he
theorem cells_on3 {w w' : World} {b : Nat} {x y z : Value} (h : w.cell? ⟨b, 0, none⟩ = some x ∧ w.cell? ⟨b, 1, none⟩ = some y ∧ w.cell? ⟨b, 2, none⟩ = some z) (hb : Below w.heap.size w w') : w'.cell? ⟨b, 0, none⟩ = some x ∧ w'.cell? ⟨b, 1, none⟩ = some y ∧ w'.cell? ⟨b, 2, none⟩ = some z :=
  ⟨dat_below hb _ _ h.1, dat_below hb _ _ h.2.1, dat_below hb _ _ h.2.2⟩
set_option maxHeartbeats 4000000 in
set_option maxRecDepth 100000 in
theorem ask_any (v : Value) (l : List Lab) (x : Mat) (hx : QM x) (b : Nat) (w : World) (h : SetOk w v l) (hS : w.cell? ⟨b, 0, none⟩ = some (.int .i64 x.1) ∧ w.cell? ⟨b, 1, none⟩ = some (.string x.2.1) ∧ w.cell? ⟨b, 2, none⟩ = some (.string x.2.2)) :
    Calls Try.prog 36 #[v, .pointer (some ⟨b, 0, none⟩)] w fun e w' => e = .returned (.bool (askB l x)) ∧ Below w.heap.size w w' := by
  obtain ⟨k, n, t⟩ := x
  obtain ⟨hk, hn, ht⟩ := hx
  have X := first_any v l n hn w.drew h
  have hS2 : w.drew.cell? ⟨b, 0, none⟩ = some (.int .i64 k) ∧ w.drew.cell? ⟨b, 1, none⟩ = some (.string n) ∧ w.drew.cell? ⟨b, 2, none⟩ = some (.string t) := hS
  obtain ⟨s0, s1, s2⟩ := hS
  unfold askB eqT
  generalize fstT l n = r at X ⊢
  obtain ⟨r1, r2⟩ := r
  have hf : ∀ W : World, (Instr.field 44 (.agg #[.string r1, .string r2]) 1).run Try.prog W = .ok (.string r2) W := fun W => by kernel_rfl
  go_enter Try.func36, Try.ntmps36
  go_wp2_with fail
  go_region_held3 (fun w' => w'.cell? ⟨b, 0, none⟩ = some (.int .i64 k) ∧ w'.cell? ⟨b, 1, none⟩ = some (.string n) ∧ w'.cell? ⟨b, 2, none⟩ = some (.string t)) (assumption) (first
    | (go_at_call 37; refine X.mono ?_; rintro e w3 ⟨rfl, bb3⟩; have hS3 := cells_on3 (w := w.drew) hS2 bb3))
  obtain ⟨c0, -, -⟩ := hS3
  have hb : Below w.heap.size w w3 := (Below.refl _ _).drew.trans (bb3.mono (Nat.le_refl _))
  clear hS2 X
  go_wp2_with fail
  go_wp2
  go_ret
  exact ⟨rfl, hb⟩
end
section
open Go Go.RowKit Ev
def LabOk (w : World) (v : Value) (l : List Lab) : Prop := InOk Try.prog (fun a => w.cell? a) (22, none) v [.agg ⟨l.flatMap eL⟩]
def MatOk (w : World) (v : Value) (m : List Mat) : Prop := InOk Try.prog (fun a => w.cell? a) (23, none) v [.agg ⟨m.flatMap eM⟩]
theorem LabOk.on {w w' : World} {v : Value} {l : List Lab} (h : LabOk w v l) (hb : Below w.heap.size w w') : LabOk w' v l := inok_mono (dat_below hb) Try.underlying22 h
theorem MatOk.on {w w' : World} {v : Value} {m : List Mat} (h : MatOk w v m) (hb : Below w.heap.size w w') : MatOk w' v m := inok_mono (dat_below hb) Try.underlying23 h
theorem chk_any (v : Value) (l : List Lab) (w : World) (h : LabOk w v l) : Calls Try.prog 5 #[v] w fun e w' => e = .returned (.int .i64 (chkL l)) ∧ Below w.heap.size w w' := by
  obtain ⟨cs, ⟨hl, hc⟩, hC⟩ := ck_is w [v] _ (fun g t hg => by cases hg) ⟨[.agg ⟨l.flatMap eL⟩], [], rfl, h, rfl⟩
  refine hC.mono fun e w' ⟨he, hb⟩ => ⟨?_, hb⟩
  match cs, hl with
  | [x], _ =>
    have e0 : some (Value.int .i64 (chkL (dL (l.flatMap eL)))) = some x := (hc 0 6 x rfl rfl).2
    rw [dL_e] at e0
    injection e0 with e0
    subst e0
    exact he
theorem chkm_any (v : Value) (m : List Mat) (w : World) (h : MatOk w v m) : Calls Try.prog 6 #[v] w fun e w' => e = .returned (.int .i64 (chkM m)) ∧ Below w.heap.size w w' := by
  obtain ⟨cs, ⟨hl, hc⟩, hC⟩ := cm_is w [v] _ (fun g t hg => by cases hg) ⟨[.agg ⟨m.flatMap eM⟩], [], rfl, h, rfl⟩
  refine hC.mono fun e w' ⟨he, hb⟩ => ⟨?_, hb⟩
  match cs, hl with
  | [x], _ =>
    have e0 : some (Value.int .i64 (chkM (dM (m.flatMap eM)))) = some x := (hc 0 6 x rfl rfl).2
    rw [dM_e] at e0
    injection e0 with e0
    subst e0
    exact he
theorem valid_any (v : Value) (l : List Lab) (w : World) (h : LabOk w v l) : Calls Try.prog 21 #[v] w fun e w' => e = .returned (.bool (chkL l == 0)) ∧ Below w.heap.size w w' := by
  have C := chk_any v l w h
  go_enter Try.func21, Try.ntmps21
  go_wp2_with (go_at_call 5; refine C.mono ?_; rintro e w1 ⟨rfl, hb⟩)
  go_ret
  exact ⟨rfl, hb⟩
theorem flat_E : flatT Try.prog 30 44 = some [9, 9] := by decide +kernel
theorem entries_any (v : Value) (l : List Lab) (hk : l.length ≤ 8) (hq : ∀ x, x ∈ l → QL x) (w : World) (h : LabOk w v l) : Calls Try.prog 14 #[v] w fun e w' => ∃ sv, e = .returned sv ∧ Below w.heap.size w w' ∧ SetOk w' sv l := by
  obtain ⟨cells, k, u1, u2, ⟨c1, c2, c3⟩, hC⟩ := en_is w [v] _ (fun g t hg => by cases hg) ⟨[.agg ⟨l.flatMap eL⟩], [], rfl, h, rfl⟩
  have u1 : some (Value.agg ⟨(dL (l.flatMap eL)).flatMap eL⟩) = some (.agg ⟨cells⟩) := u1
  have u2 : some (Value.int .i64 (.ofNat (dL (l.flatMap eL)).length)) = some (.int .i64 (.ofNat k)) := u2
  rw [dL_e] at u1 u2
  injection u1 with u1
  injection u1 with u1
  injection u1 with u1
  injection u2 with u2
  injection u2 with _ u2
  injection u2 with u2
  subst u1 u2
  refine hC.mono fun e w' ⟨hb, hr⟩ => ?_
  rcases hr with ⟨h0, -⟩ | ⟨-, c, o, c', cs, fr, rfl, hc, hh, hf, hkc, hroom, hcs⟩
  · cases h0
  have hcell : ∀ (j : Nat) (u : Value), (l.flatMap eL)[j]? = some u → w'.cell? ((⟨c, o, none⟩ : Addr).add j) = some u := by
    intro j u hj
    have := hcs j u hj
    unfold World.cell? Addr.add
    by_cases hj0 : j = 0
    · subst hj0
      simp only [if_true, hh]
      simpa using this
    · simp only [hj0, if_false, hh]
      simpa using this
  have hlen : (l.flatMap eL).length = l.length * 2 := flat_len eL_len l
  refine ⟨_, rfl, hb, ?_, ?_⟩
  · refine row_rds Try.underlying41 flat_E (by rw [s_E]; rfl) hkc c1 (by rw [b_E]; omega) hlen hcell (fun q u v' hq' hv' => ?_)
    have hm : q % 2 = 0 ∨ q % 2 = 1 := by omega
    have hu : u = 9 := by
      have hq'' : ([9, 9] : List TypeId)[q % 2]? = some u := hq'
      rcases hm with hm | hm <;> rw [hm] at hq'' <;> injection hq'' with hq'' <;> exact hq''.symm
    subst hu
    have hty := cl_ok hq q v' hv'
    have hk2 : tyOk 2 v' = true := by rcases hm with hm | hm <;> rw [hm] at hty <;> exact hty
    exact leaf_rds (by decide +kernel) (by rw [show cellTy Try.prog 9 = 2 by decide +kernel]; exact hk2)
  · rw [show Try.prog.underlying _ = _ from Try.underlying41]
    refine ⟨l.flatMap eL, ?_, rfl⟩
    rw [s_E]
    exact readN_of _ _ hlen hcell
theorem mat_lst {w : World} {ad : Option Addr} {m : List Mat} {c : Nat} (h : MatOk w (.slice ad m.length c) m) : LstG eM 3 40 QM (fun a => w.cell? a) ad m := by
  obtain ⟨ad', m', c', hv, M, hmv, -⟩ := in_Ms h
  injection hmv with hmv
  injection hmv with hmv
  injection hmv with hmv
  have hme := congrArg dM hmv
  rw [dM_e, dM_e] at hme
  subst hme
  injection hv with hv
  subst hv
  exact M
theorem Conds.on {w w' : World} {g k : Nat} {m : List Mat} {cs : Array Value} (h : Conds w g m k cs) (hb : Below w.heap.size w w') : Conds w' g m k cs := by
  have hg : g < w.heap.size := (Array.getElem?_eq_some_iff.1 h.row).1
  refine ⟨(hb.block _ hg).trans h.row, h.len, fun j x hj hx => ?_⟩
  obtain ⟨b, fr, e1, e2, e3⟩ := h.at_ j x hj hx
  have hbs : b < w.heap.size := (Array.getElem?_eq_some_iff.1 e3).1
  exact ⟨b, fr, e1, e2, (hb.block _ hbs).trans e3⟩
set_option maxHeartbeats 4000000 in
set_option maxRecDepth 100000 in
theorem takes_any (vm vl : Value) (m : List Mat) (l : List Lab) (w : World) (hM : MatOk w vm m) (hL : LabOk w vl l) :
    Calls Try.prog 8 #[vm, vl] w fun e w' => e = .returned (.bool (takB m l)) ∧ Below w.heap.size w w' := by
  obtain ⟨ad, m', c, rfl, M, hmv, hmc⟩ := in_Ms hM
  injection hmv with hmv
  injection hmv with hmv
  injection hmv with hmv
  have hme := congrArg dM hmv
  rw [dM_e, dM_e] at hme
  subst hme
  clear hmv
  obtain ⟨al, l', cl, hvl, L, hlv, hlc⟩ := in_Ls hL
  injection hlv with hlv
  injection hlv with hlv
  injection hlv with hlv
  have hle := congrArg dL hlv
  rw [dL_e, dL_e] at hle
  subst hle
  clear hlv hvl hlc
  have hqL := (lstG_few L).2.2
  have hqM := (lstG_few M).2.2
  clear L
  have C1 := chkm_any _ m w hM
  by_cases hm : chkM m = 0
  · have V1 := fun (W : World) (hb : Below w.heap.size w W) => valid_any _ l W (hL.on hb)
    rw [hm] at C1
    by_cases hl : chkL l = 0
    · rw [hl] at V1
      have m8 := (chkM_mem hm).1
      have E1 := fun (W : World) (hb : Below w.heap.size w W) => entries_any _ l (chk_few hl) hqL W (hL.on hb)
      have D1 := fun (W : World) (hb : Below w.heap.size w W) (M' : LstG eM 3 40 QM (fun a => W.cell? a) ad m) => cond_any ad m c W M' m8
      have hMo := fun (W : World) (hb : Below w.heap.size w W) => hM.on hb
      have hV : (chkL l == 0) = true := by rw [hl]; rfl
      go_enter Try.func8, Try.ntmps8
      go_wp2_with (first
        | (go_at_call 6; refine C1.mono ?_; rintro e w1 ⟨rfl, b1⟩)
        | (go_at_call 21; refine (V1 w1 b1).mono ?_; rintro e w2 ⟨rfl, b2'⟩; have b2 := b1.trans (b2'.mono b1.size))
        | (go_at_call 14; refine (E1 w2 b2).mono ?_; rintro e w3 ⟨sv, rfl, b3', hS⟩; have b3 := b2.trans (b3'.mono b2.size); have M3 := mat_lst (hMo w3 b3))
        | (go_at_call 22; refine (D1 w3 b3 M3).mono ?_; rintro e w4 ⟨b4', rfl, h4, cs, hC⟩; have b4 := b3.trans (b4'.mono b3.size)))
      have hS4 := hS.on b4'
      clear hMo D1 E1 V1 C1 M3 hS b3' b2' M hM hL
      have HC := Lib.hid hC
      have HS := Lib.hid hS4
      clear hC hS4
      go_loopw [21] (fun i wr => ∃ k : Nat, k ≤ m.length ∧ i = .int .i64 k ∧ Below w.heap.size w wr ∧ Below w4.heap.size w4 wr ∧ ∀ j x, j < k → m[j]? = some x → askB l x = true) (fun i _ => m.length - (intOf i).toNat)
      case atStart => exact ⟨0, Nat.zero_le _, rfl, b4, Below.refl _ _, fun j x hj => by omega⟩
      case round =>
        obtain ⟨k, hk, rfl, hb, hb4, hall⟩ := hrel
        by_cases hkm : k < m.length
        · have hv : m[k]? = some m[k] := List.getElem?_eq_getElem hkm
          have hmem : m[k] ∈ m := List.getElem_mem hkm
          generalize m[k] = x at hv hmem
          have hC := HC.out.on hb4
          obtain ⟨b, fr, e1, e2, e3⟩ := hC.at_ k x hkm hv
          have hcell : wr.cell? ⟨w3.heap.size, k, none⟩ = some (.func (.func 36) #[] #[.pointer (some ⟨b, 0, none⟩)]) := (cell_of_row wr _ k cs _ _ hC.row).trans e1
          have A := ask_any sv l x (hqM x hmem) b wr (HS.out.on hb4) ⟨(cell_of_row wr b 0 _ _ fr e3).trans rfl, (cell_of_row wr b 1 _ _ fr e3).trans rfl, (cell_of_row wr b 2 _ _ fr e3).trans rfl⟩
          have HA := Lib.hid hall
          clear hC e1 e2 e3 hall
          by_cases ha : askB l x = true
          · rw [ha] at A
            go_wp2_with (go_at_call 36; refine A.mono ?_; rintro e w5 ⟨rfl, b5⟩)
            go_roundw
            case rel =>
              refine ⟨k + 1, by omega, by go_num, hb.trans (b5.mono hb.size), hb4.trans (b5.mono hb4.size), fun j y hj hy => ?_⟩
              by_cases hjk : j = k
              · subst hjk
                rw [hv] at hy
                injection hy with hy
                subst hy
                exact ha
              · exact HA.out j y (by omega) hy
            case measure => simp [intOf]; omega
          · have hf : takB m l = false := by
              unfold takB
              have : m.all (askB l) = false := List.all_eq_false.2 ⟨x, hmem, ha⟩
              rw [this, Bool.and_false, Bool.and_false]
            have ha : askB l x = false := by simpa using ha
            rw [ha] at A
            go_wp2_with (go_at_call 36; refine A.mono ?_; rintro e w5 ⟨rfl, b5⟩)
            go_ret
            exact ⟨by first | rfl | (rw [hf]; done) | (rw [hf]; rfl) | (simp [hf]; done), hb.trans (b5.mono hb.size)⟩
        · have hf : takB m l = true := by
            unfold takB
            rw [hm, hl]
            have : m.all (askB l) = true := List.all_eq_true.2 fun x hx => by
              obtain ⟨j, hj⟩ := List.getElem?_of_mem hx
              exact hall j x (by have := (List.getElem?_eq_some_iff.1 hj).1; omega) hj
            rw [this]
            rfl
          go_wp2
          go_ret
          exact ⟨by first | rfl | (rw [hf]; done) | (rw [hf]; rfl) | (simp [hf]; done), hb⟩
    · have hf : takB m l = false := by
        unfold takB
        rw [show (chkL l == 0) = false from by simpa using hl, Bool.false_and, Bool.and_false]
      have hV : (chkL l == 0) = false := by simpa using hl
      rw [hV] at V1
      rw [hf]
      clear M
      go_enter Try.func8, Try.ntmps8
      go_wp2_with (first
        | (go_at_call 6; refine C1.mono ?_; rintro e w1 ⟨rfl, b1⟩)
        | (go_at_call 21; refine (V1 w1 b1).mono ?_; rintro e w2 ⟨rfl, b2'⟩; have b2 := b1.trans (b2'.mono b1.size)))
      go_ret
      exact ⟨rfl, b2⟩
  · have hf : takB m l = false := by
      unfold takB
      rw [show (chkM m == 0) = false from by simpa using hm, Bool.false_and]
    rw [hf]
    clear M
    generalize chkM m = z at C1 hm
    go_enter Try.func8, Try.ntmps8
    go_wp2_with (first
      | (go_at_call 6; refine C1.mono ?_; rintro e w1 ⟨rfl, b1⟩))
    go_ret
    exact ⟨rfl, b1⟩
end
end Go.Proofs.Ytcholmmiieddcaa
