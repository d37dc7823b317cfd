/- Layer 2, the document's answers: Check, Of, over, wide, Both, Put, Take, Value. -/
import Derived.Test.YteafoajpieablaaGrD
namespace Go.Proofs.Yteafoajpieablaa
set_option linter.unusedVariables false
set_option linter.unusedSimpArgs false
open Go.RowKit Go.Shelf

theorem rover_any (w : World) : Calls Try.prog 30 #[] w fun e w' => e = .returned (.agg #[.int .i64 0, .bool true]) ∧ Below w.heap.size w w' := by
  go_enter Try.func30, Try.ntmps30
  go_wp2
  exact bodyPost_ret (v := .agg #[.int .i64 0, .bool true]) (by simp [results, Try.results30, go_sem]) rfl ⟨rfl, ((Below.refl _ _).alloc (Nat.le_refl _) _)⟩

theorem rof_any (n : Int) (w : World) : Calls Try.prog 14 #[.int .i64 n] w fun e w' => e = .returned (.agg #[.int .i64 n, .bool false]) ∧ Below w.heap.size w w' := by
  go_enter Try.func14, Try.ntmps14
  go_wp2
  exact bodyPost_ret (v := .agg #[.int .i64 n, .bool false]) (by simp [results, Try.results14, go_sem]) rfl ⟨rfl, ((Below.refl _ _).alloc (Nat.le_refl _) _)⟩

theorem rcheck_any (n : Int) (o : Bool) (w : World) : Calls Try.prog 12 #[.agg #[.int .i64 n, .bool o]] w fun e w' => e = .returned (.int .i64 (chkZ n o)) ∧ Below w.heap.size w w' := by
  cases o
  · rw [chkZ_f]
    go_enter Try.func12, Try.ntmps12
    go_wp2
    go_ret
    exact ⟨rfl, ((Below.refl _ _).alloc (Nat.le_refl _) _)⟩
  · by_cases h : n = 0
    · subst h
      rw [chkZ_0]
      go_enter Try.func12, Try.ntmps12
      go_wp2
      go_ret
      exact ⟨rfl, ((Below.refl _ _).alloc (Nat.le_refl _) _)⟩
    · rw [chkZ_t n h]
      have h' : (n != 0) = true := by simpa using h
      clear h
      go_enter Try.func12, Try.ntmps12
      go_wp2
      go_ret
      exact ⟨rfl, ((Below.refl _ _).alloc (Nat.le_refl _) _)⟩

theorem wide_any (n : Int) (w : World) (h : SW n) : Calls Try.prog 34 #[.int .i64 n] w fun e w' => e = .returned (.tuple #[.int .u64 (if n < 0 then 18446744073709551615 else 0), .int .u64 (n % 18446744073709551616)]) ∧ w = w' := by
  obtain ⟨h1, h2⟩ := h
  by_cases g : n < 0
  · rw [if_pos g, ← wrap_u64' n]
    go_enter Try.func34, Try.ntmps34
    go_wp2
    go_ret2
    exact ⟨rfl, rfl⟩
  · rw [if_neg g, Int.emod_eq_of_lt (by omega) (by omega)]
    go_enter Try.func34, Try.ntmps34
    go_wp2
    go_ret2
    exact ⟨rfl, rfl⟩

theorem rhi (a b c d : Int) : hiP a b c d = wrap64 ((a + c + (b + d) / 18446744073709551616) % 18446744073709551616) := by
  unfold hiP wrap64; omega
theorem rhim (a b c d : Int) : hiM a b c d = wrap64 ((a - c + (b - d) / 18446744073709551616) % 18446744073709551616) := by
  unfold hiM wrap64; omega
theorem rboth_any (h l o h' l' o' : Int) (w : World) (hh : SW h) (hl : UW l) (ho : UW o) (hh' : SW h') (hl' : UW l') (ho' : UW o') : Calls Try.prog 20 #[.agg #[.int .i64 h, .int .u64 l, .int .u64 o], .agg #[.int .i64 h', .int .u64 l', .int .u64 o']] w fun e w' => e = .returned (.agg #[.int .i64 (hiP h l h' l'), .int .u64 (loP l l'), .int .u64 (loP o o')]) ∧ Below w.heap.size w w' := by
  obtain ⟨a1, a2⟩ := hh; obtain ⟨b1, b2⟩ := hl; obtain ⟨c1, c2⟩ := ho
  obtain ⟨a1', a2'⟩ := hh'; obtain ⟨b1', b2'⟩ := hl'; obtain ⟨c1', c2'⟩ := ho'
  have k0 : 0 ≤ (l + l') / 18446744073709551616 := by omega
  have k1 : (l + l') / 18446744073709551616 ≤ 1 := by omega
  rw [rhi, show loP o o' = (o + o') % 18446744073709551616 from rfl, show loP l l' = (l + l') % 18446744073709551616 from rfl]
  go_enter Try.func20, Try.ntmps20
  go_wp2_with (first | simp only [add64_0 l l' b1 b1'] | (simp only [wrap_u64']))
  exact bodyPost_ret (v := .agg #[.int .i64 (wrap64 ((h + h' + (l + l') / 18446744073709551616) % 18446744073709551616)), .int .u64 ((l + l') % 18446744073709551616), .int .u64 ((o + o') % 18446744073709551616)]) (by simp [results, Try.results20, go_sem]) rfl ⟨rfl, (by repeat (first | exact Below.refl _ _ | refine Below.drew ?_ | refine below_drewN ?_ _ | refine Below.setCell ?_ (by simp; try omega) _ | refine Below.alloc ?_ (by simp; try omega) _ | refine Below.trans ?_ (Below.mono (by assumption) (by simp; try omega))))⟩

theorem hiP_0 (h l : Int) (hh : SW h) (hl : UW l) : hiP h l 0 0 = h := by obtain ⟨h1, h2⟩ := hh; obtain ⟨l1, l2⟩ := hl; unfold hiP wrap64; omega
theorem loP_0 (l : Int) (hl : UW l) : loP l 0 = l := by obtain ⟨l1, l2⟩ := hl; unfold loP; omega
theorem hiM_0 (h l : Int) (hh : SW h) (hl : UW l) : hiM h l 0 0 = h := by obtain ⟨h1, h2⟩ := hh; obtain ⟨l1, l2⟩ := hl; unfold hiM wrap64; omega
theorem loM_0 (l : Int) (hl : UW l) : loM l 0 = l := by obtain ⟨l1, l2⟩ := hl; unfold loM; omega

theorem rput_any (h l o n : Int) (b : Bool) (w : World) (hh : SW h) (hl : UW l) (ho : UW o) (hn : SW n) : Calls Try.prog 16 #[.agg #[.int .i64 h, .int .u64 l, .int .u64 o], .agg #[.int .i64 n, .bool b]] w fun e w' => e = .returned (.agg #[.int .i64 (hiP h l (oh n b) (ol n b)), .int .u64 (loP l (ol n b)), .int .u64 (loP o (oo b))]) ∧ Below w.heap.size w w' := by
  cases b with
  | true =>
    have e1 : hiP h l (oh n true) (ol n true) = h := hiP_0 h l hh hl
    have e2 : loP l (ol n true) = l := loP_0 l hl
    have e3 : loP o (oo true) = IntKind.u64.wrap (o + 1) := by rw [wrap_u64']; rfl
    rw [e1, e2, e3]
    clear e1 e2 e3
    go_enter Try.func16, Try.ntmps16
    go_wp2
    exact bodyPost_ret (v := .agg #[.int .i64 h, .int .u64 l, .int .u64 (IntKind.u64.wrap (o + 1))]) (by simp [results, Try.results16, go_sem, *]) rfl ⟨rfl, (by repeat (first | exact Below.refl _ _ | refine Below.drew ?_ | refine below_drewN ?_ _ | refine Below.setCell ?_ (by simp; try omega) _ | refine Below.alloc ?_ (by simp; try omega) _ | refine Below.trans ?_ (Below.mono (by assumption) (by simp; try omega))))⟩
  | false =>
    have n2 : UW (n % 18446744073709551616) := by unfold UW; omega
    have n3 : UW 0 := by unfold UW; omega
    have W0 := fun W => wide_any n W hn
    obtain ⟨hn1, hn2⟩ := hn
    have K : ∀ W w1 : World, Below W.heap.size W w1 → (W.cell? ⟨w.heap.size, 0, none⟩ = some (.int .i64 h) ∧ W.cell? ⟨w.heap.size, 1, none⟩ = some (.int .u64 l) ∧ W.cell? ⟨w.heap.size, 2, none⟩ = some (.int .u64 o) ∧ W.cell? ⟨w.heap.size + 1, 0, none⟩ = some (.int .i64 n) ∧ W.cell? ⟨w.heap.size + 1, 1, none⟩ = some (.bool false) ∧ W.cell? ⟨w.heap.size + 1 + 1, 0, none⟩ = some (.int .i64 0) ∧ W.cell? ⟨w.heap.size + 1 + 1, 1, none⟩ = some (.int .u64 0) ∧ W.cell? ⟨w.heap.size + 1 + 1, 2, none⟩ = some (.int .u64 0) ∧ W.frozen? ⟨w.heap.size + 1 + 1, 0, none⟩ = false ∧ W.frozen? ⟨w.heap.size + 1 + 1, 1, none⟩ = false ∧ W.frozen? ⟨w.heap.size + 1 + 1, 2, none⟩ = false ∧ w.heap.size + 1 + 1 < W.heap.size ∧ Below w.heap.size w W) → (w1.cell? ⟨w.heap.size, 0, none⟩ = some (.int .i64 h) ∧ w1.cell? ⟨w.heap.size, 1, none⟩ = some (.int .u64 l) ∧ w1.cell? ⟨w.heap.size, 2, none⟩ = some (.int .u64 o) ∧ w1.cell? ⟨w.heap.size + 1, 0, none⟩ = some (.int .i64 n) ∧ w1.cell? ⟨w.heap.size + 1, 1, none⟩ = some (.bool false) ∧ w1.cell? ⟨w.heap.size + 1 + 1, 0, none⟩ = some (.int .i64 0) ∧ w1.cell? ⟨w.heap.size + 1 + 1, 1, none⟩ = some (.int .u64 0) ∧ w1.cell? ⟨w.heap.size + 1 + 1, 2, none⟩ = some (.int .u64 0) ∧ w1.frozen? ⟨w.heap.size + 1 + 1, 0, none⟩ = false ∧ w1.frozen? ⟨w.heap.size + 1 + 1, 1, none⟩ = false ∧ w1.frozen? ⟨w.heap.size + 1 + 1, 2, none⟩ = false ∧ w.heap.size + 1 + 1 < w1.heap.size ∧ Below w.heap.size w w1) := by
      rintro W w1 hb1 ⟨s0, s1, s2, s3, s4, s5, s6, s7, f0, f1, f2, hz, hb⟩
      have hs := hb1.size
      exact ⟨(hb1.cell (by show w.heap.size < _; omega)).trans s0, (hb1.cell (by show w.heap.size < _; omega)).trans s1, (hb1.cell (by show w.heap.size < _; omega)).trans s2, (hb1.cell (by show w.heap.size + 1 < _; omega)).trans s3, (hb1.cell (by show w.heap.size + 1 < _; omega)).trans s4, (hb1.cell (by show w.heap.size + 1 + 1 < _; omega)).trans s5, (hb1.cell (by show w.heap.size + 1 + 1 < _; omega)).trans s6, (hb1.cell (by show w.heap.size + 1 + 1 < _; omega)).trans s7, (hb1.frozen (by show w.heap.size + 1 + 1 < _; omega)).trans f0, (hb1.frozen (by show w.heap.size + 1 + 1 < _; omega)).trans f1, (hb1.frozen (by show w.heap.size + 1 + 1 < _; omega)).trans f2, by omega, hb.trans (hb1.mono (by omega))⟩
    by_cases g : n < 0
    · have e1 : oh n false = (wrap64 18446744073709551615) := by simp [oh, wrap64]; omega
      have n1 : SW (wrap64 18446744073709551615) := by unfold SW wrap64; omega
      rw [e1, show ol n false = n % 18446744073709551616 from rfl, show oo false = 0 from rfl]
      rw [if_pos g] at W0
      go_enter Try.func16, Try.ntmps16
      go_wp2_with (first | (go_at_call 34; refine (W0 _).mono ?_; rintro e w' ⟨rfl, rfl⟩) | (go_at_call 20; refine (rboth_any _ _ _ _ _ _ _ hh hl ho n1 n2 n3).mono ?_; rintro e w1 ⟨rfl, hb1⟩; obtain ⟨s0, s1, s2, s3, s4, s5, s6, s7, f0, f1, f2, hz, hb⟩ := K _ _ hb1 (by first | exact ⟨s0, s1, s2, s3, s4, s5, s6, s7, f0, f1, f2, hz, hb⟩ | exact ⟨s0, s1, s2, s3, s4, s5, s6, s7, f0, f1, f2, hz, hb.drew⟩ | exact ⟨by simp [go_sem, World.cell?_alloc_past], by simp [go_sem, World.cell?_alloc_past], by simp [go_sem, World.cell?_alloc_past], by simp [go_sem, World.cell?_alloc_past], by simp [go_sem, World.cell?_alloc_past], by simp [go_sem, World.cell?_alloc_past], by simp [go_sem, World.cell?_alloc_past], by simp [go_sem, World.cell?_alloc_past], by simp [go_sem, World.cell?_alloc_past], by simp [go_sem, World.cell?_alloc_past], by simp [go_sem, World.cell?_alloc_past], by simp [go_sem, World.cell?_alloc_past], (by repeat (first | exact Below.refl _ _ | refine Below.drew ?_ | refine below_drewN ?_ _ | refine Below.setCell ?_ (by simp; try omega) _ | refine Below.alloc ?_ (by simp; try omega) _ | refine Below.trans ?_ (Below.mono (by assumption) (by simp; try omega))))⟩)))
      exact bodyPost_ret (v := .agg #[.int .i64 (hiP h l (wrap64 18446744073709551615) (n % 18446744073709551616)), .int .u64 (loP l (n % 18446744073709551616)), .int .u64 (loP o 0)]) (by simp [results, Try.results16, go_sem, *]) rfl ⟨rfl, (by repeat (first | assumption | refine Below.drew ?_ | refine below_drewN ?_ _ | refine Below.setCell ?_ (by simp; try omega) _ | refine Below.alloc ?_ (by simp; try omega) _))⟩
    · have e1 : oh n false = 0 := by simp [oh]; omega
      have n1 : SW 0 := by unfold SW; omega
      rw [e1, show ol n false = n % 18446744073709551616 from rfl, show oo false = 0 from rfl]
      rw [if_neg g] at W0
      go_enter Try.func16, Try.ntmps16
      go_wp2_with (first | (go_at_call 34; refine (W0 _).mono ?_; rintro e w' ⟨rfl, rfl⟩) | (go_at_call 20; refine (rboth_any _ _ _ _ _ _ _ hh hl ho n1 n2 n3).mono ?_; rintro e w1 ⟨rfl, hb1⟩; obtain ⟨s0, s1, s2, s3, s4, s5, s6, s7, f0, f1, f2, hz, hb⟩ := K _ _ hb1 (by first | exact ⟨s0, s1, s2, s3, s4, s5, s6, s7, f0, f1, f2, hz, hb⟩ | exact ⟨s0, s1, s2, s3, s4, s5, s6, s7, f0, f1, f2, hz, hb.drew⟩ | exact ⟨by simp [go_sem, World.cell?_alloc_past], by simp [go_sem, World.cell?_alloc_past], by simp [go_sem, World.cell?_alloc_past], by simp [go_sem, World.cell?_alloc_past], by simp [go_sem, World.cell?_alloc_past], by simp [go_sem, World.cell?_alloc_past], by simp [go_sem, World.cell?_alloc_past], by simp [go_sem, World.cell?_alloc_past], by simp [go_sem, World.cell?_alloc_past], by simp [go_sem, World.cell?_alloc_past], by simp [go_sem, World.cell?_alloc_past], by simp [go_sem, World.cell?_alloc_past], (by repeat (first | exact Below.refl _ _ | refine Below.drew ?_ | refine below_drewN ?_ _ | refine Below.setCell ?_ (by simp; try omega) _ | refine Below.alloc ?_ (by simp; try omega) _ | refine Below.trans ?_ (Below.mono (by assumption) (by simp; try omega))))⟩)))
      exact bodyPost_ret (v := .agg #[.int .i64 (hiP h l 0 (n % 18446744073709551616)), .int .u64 (loP l (n % 18446744073709551616)), .int .u64 (loP o 0)]) (by simp [results, Try.results16, go_sem, *]) rfl ⟨rfl, (by repeat (first | assumption | refine Below.drew ?_ | refine below_drewN ?_ _ | refine Below.setCell ?_ (by simp; try omega) _ | refine Below.alloc ?_ (by simp; try omega) _))⟩

theorem rtake_any (h l o n : Int) (b : Bool) (w : World) (hh : SW h) (hl : UW l) (ho : UW o) (hn : SW n) : Calls Try.prog 18 #[.agg #[.int .i64 h, .int .u64 l, .int .u64 o], .agg #[.int .i64 n, .bool b]] w fun e w' => e = .returned (.agg #[.int .i64 (hiM h l (oh n b) (ol n b)), .int .u64 (loM l (ol n b)), .int .u64 (loM o (oo b))]) ∧ Below w.heap.size w w' := by
  cases b with
  | true =>
    have e1 : hiM h l (oh n true) (ol n true) = h := hiM_0 h l hh hl
    have e2 : loM l (ol n true) = l := loM_0 l hl
    have e3 : loM o (oo true) = IntKind.u64.wrap (o - 1) := by rw [wrap_u64']; rfl
    rw [e1, e2, e3]
    clear e1 e2 e3
    go_enter Try.func18, Try.ntmps18
    go_wp2
    exact bodyPost_ret (v := .agg #[.int .i64 h, .int .u64 l, .int .u64 (IntKind.u64.wrap (o - 1))]) (by simp [results, Try.results18, go_sem, *]) rfl ⟨rfl, (by repeat (first | exact Below.refl _ _ | refine Below.drew ?_ | refine below_drewN ?_ _ | refine Below.setCell ?_ (by simp; try omega) _ | refine Below.alloc ?_ (by simp; try omega) _ | refine Below.trans ?_ (Below.mono (by assumption) (by simp; try omega))))⟩
  | false =>
    have W0 := fun W => wide_any n W hn
    obtain ⟨hn1, hn2⟩ := hn
    have e4 : loM o (oo false) = o := loM_0 o ho
    obtain ⟨a1, a2⟩ := hh; obtain ⟨b1, b2⟩ := hl; obtain ⟨c1, c2⟩ := ho
    have q1 : 0 ≤ n % 18446744073709551616 := by omega
    have q2 : n % 18446744073709551616 < 18446744073709551616 := by omega
    rw [e4, show ol n false = n % 18446744073709551616 from rfl, show loM l (n % 18446744073709551616) = (l - n % 18446744073709551616) % 18446744073709551616 from rfl]
    clear e4
    by_cases g : n < 0
    · have e1 : hiM h l (oh n false) (n % 18446744073709551616) = wrap64 ((h - 18446744073709551615 + (l - n % 18446744073709551616) / 18446744073709551616) % 18446744073709551616) := by
        rw [show oh n false = -1 by simp [oh]; omega]; unfold hiM wrap64; omega
      have e2 : (l - n % 18446744073709551616) % 18446744073709551616 = (l - n) % 18446744073709551616 := by omega
      rw [e1, e2]
      clear e2
      rw [if_pos g] at W0
      clear e1
      go_enter Try.func18, Try.ntmps18
      go_wp2_with (first | (go_at_call 34; refine (W0 _).mono ?_; rintro e w' ⟨rfl, rfl⟩) | simp only [sub64_0 l (n % 18446744073709551616) b1 b2 q1 q2] | (simp only [wrap_u64']))
      exact bodyPost_ret (v := .agg #[.int .i64 (wrap64 ((h - 18446744073709551615 + (l - n % 18446744073709551616) / 18446744073709551616) % 18446744073709551616)), .int .u64 ((l - n) % 18446744073709551616), .int .u64 o]) (by simp [results, Try.results18, go_sem]) rfl ⟨rfl, (by repeat (first | exact Below.refl _ _ | refine Below.drew ?_ | refine below_drewN ?_ _ | refine Below.setCell ?_ (by simp; try omega) _ | refine Below.alloc ?_ (by simp; try omega) _ | refine Below.trans ?_ (Below.mono (by assumption) (by simp; try omega))))⟩
    · have e1 : hiM h l (oh n false) (n % 18446744073709551616) = wrap64 ((h + (l - n % 18446744073709551616) / 18446744073709551616) % 18446744073709551616) := by
        rw [show oh n false = 0 by simp [oh]; omega]; unfold hiM wrap64; omega
      have e2 : (l - n % 18446744073709551616) % 18446744073709551616 = (l - n) % 18446744073709551616 := by omega
      rw [e1, e2]
      rw [if_neg g] at W0
      clear e1 e2
      go_enter Try.func18, Try.ntmps18
      go_wp2_with (first | (go_at_call 34; refine (W0 _).mono ?_; rintro e w' ⟨rfl, rfl⟩) | simp only [sub64_0 l (n % 18446744073709551616) b1 b2 q1 q2] | (simp only [wrap_u64']))
      exact bodyPost_ret (v := .agg #[.int .i64 (wrap64 ((h + (l - n % 18446744073709551616) / 18446744073709551616) % 18446744073709551616)), .int .u64 ((l - n) % 18446744073709551616), .int .u64 o]) (by simp [results, Try.results18, go_sem]) rfl ⟨rfl, (by repeat (first | exact Below.refl _ _ | refine Below.drew ?_ | refine below_drewN ?_ _ | refine Below.setCell ?_ (by simp; try omega) _ | refine Below.alloc ?_ (by simp; try omega) _ | refine Below.trans ?_ (Below.mono (by assumption) (by simp; try omega))))⟩

theorem rvof_any (h l o : Int) (w : World) (hh : SW h) (hl : UW l) (ho : UW o) : Calls Try.prog 22 #[.agg #[.int .i64 h, .int .u64 l, .int .u64 o]] w fun e w' => e = .returned (.agg #[.int .i64 (outN (h * 18446744073709551616 + l) o), .bool (outB (h * 18446744073709551616 + l) o)]) ∧ Below w.heap.size w w' := by
  obtain ⟨h1, h2⟩ := hh; obtain ⟨l1, l2⟩ := hl; obtain ⟨o1, o2⟩ := ho
  by_cases g : o = 0
  · by_cases g1 : h = 0 ∧ l < 9223372036854775808
    · have hs : ¬(o ≠ 0 ∨ h * 18446744073709551616 + l < -9223372036854775808 ∨ 9223372036854775807 < h * 18446744073709551616 + l) := by omega
      have hv : h * 18446744073709551616 + l = l := by omega
      obtain ⟨e1, e2⟩ := out_f hs
      rw [e1, e2, hv]
      clear e1 e2 hs hv
      subst g
      obtain ⟨rfl, g2⟩ := g1
      go_enter Try.func22, Try.ntmps22
      go_wp2_with (go_at_call 14; refine (rof_any _ _).mono ?_; rintro e w1 ⟨rfl, hb⟩; have hs := hb.size; obtain ⟨hc, hf⟩ := bcell hb; (try simp at hs); (try have hz0 : w.heap.size < w1.heap.size := by omega); (try have hz1 : w.heap.size + 1 < w1.heap.size := by omega); (try have hz2 : w.heap.size + 1 + 1 < w1.heap.size := by omega); (try have hz3 : w.heap.size + 1 + 1 + 1 < w1.heap.size := by omega))
      exact bodyPost_ret (v := .agg #[.int .i64 l, .bool false]) (by simp [results, Try.results22, go_sem, *]) rfl ⟨rfl, (by repeat (first | exact Below.refl _ _ | refine Below.drew ?_ | refine below_drewN ?_ _ | refine Below.setCell ?_ (by simp; try omega) _ | refine Below.alloc ?_ (by simp; try omega) _ | refine Below.trans ?_ (Below.mono (by assumption) (by simp; try omega))))⟩
    by_cases g1' : h = -1 ∧ 9223372036854775808 ≤ l
    · have hs : ¬(o ≠ 0 ∨ h * 18446744073709551616 + l < -9223372036854775808 ∨ 9223372036854775807 < h * 18446744073709551616 + l) := by omega
      have hv : h * 18446744073709551616 + l = wrap64 l := by unfold wrap64; omega
      obtain ⟨e1, e2⟩ := out_f hs
      rw [e1, e2, hv]
      clear e1 e2 hs hv
      subst g
      obtain ⟨rfl, g2⟩ := g1'
      clear g1
      go_enter Try.func22, Try.ntmps22
      go_wp2_with (go_at_call 14; refine (rof_any _ _).mono ?_; rintro e w1 ⟨rfl, hb⟩; have hs := hb.size; obtain ⟨hc, hf⟩ := bcell hb; (try simp at hs); (try have hz0 : w.heap.size < w1.heap.size := by omega); (try have hz1 : w.heap.size + 1 < w1.heap.size := by omega); (try have hz2 : w.heap.size + 1 + 1 < w1.heap.size := by omega); (try have hz3 : w.heap.size + 1 + 1 + 1 < w1.heap.size := by omega))
      exact bodyPost_ret (v := .agg #[.int .i64 (wrap64 l), .bool false]) (by simp [results, Try.results22, go_sem, *]) rfl ⟨rfl, (by repeat (first | exact Below.refl _ _ | refine Below.drew ?_ | refine below_drewN ?_ _ | refine Below.setCell ?_ (by simp; try omega) _ | refine Below.alloc ?_ (by simp; try omega) _ | refine Below.trans ?_ (Below.mono (by assumption) (by simp; try omega))))⟩
    have hs : o ≠ 0 ∨ h * 18446744073709551616 + l < -9223372036854775808 ∨ 9223372036854775807 < h * 18446744073709551616 + l := by omega
    obtain ⟨e1, e2⟩ := out_t hs
    rw [e1, e2]
    clear e1 e2 hs
    subst g
    by_cases g3 : h = 0
    · subst g3
      have g4 : 9223372036854775808 ≤ l := by omega
      have g4b : decide (l < (9223372036854775808 : Int)) = false := by simp; omega
      clear g1 g1'
      go_enter Try.func22, Try.ntmps22
      go_wp2_with (go_at_call 30; refine (rover_any _).mono ?_; rintro e w1 ⟨rfl, hb⟩; have hs := hb.size; obtain ⟨hc, hf⟩ := bcell hb; (try simp at hs); (try have hz0 : w.heap.size < w1.heap.size := by omega); (try have hz1 : w.heap.size + 1 < w1.heap.size := by omega); (try have hz2 : w.heap.size + 1 + 1 < w1.heap.size := by omega); (try have hz3 : w.heap.size + 1 + 1 + 1 < w1.heap.size := by omega))
      exact bodyPost_ret (v := .agg #[.int .i64 0, .bool true]) (by simp [results, Try.results22, go_sem, *]) rfl ⟨rfl, (by repeat (first | exact Below.refl _ _ | refine Below.drew ?_ | refine below_drewN ?_ _ | refine Below.setCell ?_ (by simp; try omega) _ | refine Below.alloc ?_ (by simp; try omega) _ | refine Below.trans ?_ (Below.mono (by assumption) (by simp; try omega))))⟩
    by_cases g5 : h = -1
    · subst g5
      have g4 : l < 9223372036854775808 := by omega
      have g4b : decide ((9223372036854775808 : Int) ≤ l) = false := by simp; omega
      clear g1 g1' g3
      go_enter Try.func22, Try.ntmps22
      go_wp2_with (go_at_call 30; refine (rover_any _).mono ?_; rintro e w1 ⟨rfl, hb⟩; have hs := hb.size; obtain ⟨hc, hf⟩ := bcell hb; (try simp at hs); (try have hz0 : w.heap.size < w1.heap.size := by omega); (try have hz1 : w.heap.size + 1 < w1.heap.size := by omega); (try have hz2 : w.heap.size + 1 + 1 < w1.heap.size := by omega); (try have hz3 : w.heap.size + 1 + 1 + 1 < w1.heap.size := by omega))
      exact bodyPost_ret (v := .agg #[.int .i64 0, .bool true]) (by simp [results, Try.results22, go_sem, *]) rfl ⟨rfl, (by repeat (first | exact Below.refl _ _ | refine Below.drew ?_ | refine below_drewN ?_ _ | refine Below.setCell ?_ (by simp; try omega) _ | refine Below.alloc ?_ (by simp; try omega) _ | refine Below.trans ?_ (Below.mono (by assumption) (by simp; try omega))))⟩
    have g6 : (h == 0) = false := by simpa using g3
    have g7 : (h == -1) = false := by simpa using g5
    clear g1 g1' g3 g5
    go_enter Try.func22, Try.ntmps22
    go_wp2_with (go_at_call 30; refine (rover_any _).mono ?_; rintro e w1 ⟨rfl, hb⟩; have hs := hb.size; obtain ⟨hc, hf⟩ := bcell hb; (try simp at hs); (try have hz0 : w.heap.size < w1.heap.size := by omega); (try have hz1 : w.heap.size + 1 < w1.heap.size := by omega); (try have hz2 : w.heap.size + 1 + 1 < w1.heap.size := by omega); (try have hz3 : w.heap.size + 1 + 1 + 1 < w1.heap.size := by omega))
    exact bodyPost_ret (v := .agg #[.int .i64 0, .bool true]) (by simp [results, Try.results22, go_sem, *]) rfl ⟨rfl, (by repeat (first | exact Below.refl _ _ | refine Below.drew ?_ | refine below_drewN ?_ _ | refine Below.setCell ?_ (by simp; try omega) _ | refine Below.alloc ?_ (by simp; try omega) _ | refine Below.trans ?_ (Below.mono (by assumption) (by simp; try omega))))⟩
  · obtain ⟨e1, e2⟩ := out_t (S := h * 18446744073709551616 + l) (.inl g)
    rw [e1, e2]
    clear e1 e2
    have g6 : (o != 0) = true := by simpa using g
    clear g
    go_enter Try.func22, Try.ntmps22
    go_wp2_with (go_at_call 30; refine (rover_any _).mono ?_; rintro e w1 ⟨rfl, hb⟩; have hs := hb.size; obtain ⟨hc, hf⟩ := bcell hb; (try simp at hs); (try have hz0 : w.heap.size < w1.heap.size := by omega); (try have hz1 : w.heap.size + 1 < w1.heap.size := by omega); (try have hz2 : w.heap.size + 1 + 1 < w1.heap.size := by omega); (try have hz3 : w.heap.size + 1 + 1 + 1 < w1.heap.size := by omega))
    exact bodyPost_ret (v := .agg #[.int .i64 0, .bool true]) (by simp [results, Try.results22, go_sem, *]) rfl ⟨rfl, (by repeat (first | exact Below.refl _ _ | refine Below.drew ?_ | refine below_drewN ?_ _ | refine Below.setCell ?_ (by simp; try omega) _ | refine Below.alloc ?_ (by simp; try omega) _ | refine Below.trans ?_ (Below.mono (by assumption) (by simp; try omega))))⟩

end Go.Proofs.Yteafoajpieablaa
