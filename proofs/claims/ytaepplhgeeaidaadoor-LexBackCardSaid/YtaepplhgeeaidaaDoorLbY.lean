import Derived.Test.YtaepplhgeeaidaaDoorLbL
import Derived.Test.YtaepplhgeeaidaaDoorEvSy
import Derived.LaidLaws
section
set_option linter.unusedVariables false
set_option linter.unusedSimpArgs false
set_option linter.unusedSectionVars false
set_option maxRecDepth 100000
namespace Go.Proofs.YtaepplhgeeaidaaDoor
open Go Go.RowKit Ev
set_option maxHeartbeats 4000000 in
theorem lb_ok (s t : ByteArray) (hs : s.size ≤ 3000) (ht : t.size ≤ 3000) (n : Nat) (l : List Tok) (F : Fine s n l) (h64 : t.size ≤ 64) (w : World) (hg : GvOk lxTabs w) : Calls Tryd.prog 3 #[.string s, .string t] w fun e w' => e = .returned (.bool true) ∧ Below w.heap.size w w' := by
  have HA0 : ∀ w', Below w.heap.size w w' → Calls Tryd.prog 7 #[.string s] w' fun e w2 => Below w'.heap.size w' w2 ∧ ∃ x c, e = .returned (.tuple #[.slice (some x) (n + 1) c, .agg #[.int .i64 0, .int .i64 0]]) ∧ TokOk w2 (.slice (some x) (n + 1) c) l ∧ w2.cell? (x.add (n * 4)) = some (.int .i64 5) ∧ w2.cell? ⟨(x.add (n * 4)).block, (x.add (n * 4)).off + 3, none⟩ = some (.int .i64 (s.size : Int)) := fun w' hb' => by
    have := all_any s (by show s.size < 9223372036854775808; omega) w' (gv_on hg hb')
    rw [F.all] at this
    refine this.mono fun e w2 ⟨h1, ad, c, h2, h3⟩ => ⟨h1, ?_⟩
    have hlen := F.len
    have h2 : e = .returned (.tuple #[.slice ad l.length c, .agg #[.int .i64 0, .int .i64 ((0 : Nat) : Int)]]) := h2
    have h3 : TokOk w2 (.slice ad l.length c) l := h3 (by intro e; have e : l = [] := e; rw [e] at hlen; cases hlen)
    rw [hlen] at h2 h3
    obtain ⟨-, M⟩ := h3.lst
    obtain ⟨x, a, rfl, hv, -, g, -⟩ := lstG_at M (i := n) (by omega)
    rw [F.last] at hv
    injection hv with hv
    subst hv
    exact ⟨x, c, h2, h3, g 0 _ rfl, g 3 _ rfl⟩
  have HA := Lib.hid HA0
  have HU0 := unq_quo_any t ht
  rw [if_pos h64, decide_eq_true h64, tx_tl] at HU0
  have HU := Lib.hid HU0
  clear HA0 HU0
  have hn : n ≤ 16384 := by have h1 := F.len; have h2 := F.few; omega
  have HF := Lib.hid F
  clear F
  go_enter Tryd.func3, Tryd.ntmps3
  go_wp2_with (first
      | (go_at_call 4; refine (lb_lives _ (gv_on hg (by first | exact Below.refl _ _ | exact bdn (Below.refl _ _) _ | exact (Below.refl _ _).drew))).mono ?_; rintro e w1 ⟨rfl, B1⟩)
      | (go_at_call 6; refine (quo_any t (by omega) _).mono ?_; rintro e w2 ⟨rfl, hb2⟩; have B2 := B1.trans (hb2.mono B1.size); clear hb2)
      | (go_at_call 5; refine (HU.out _).mono ?_; rintro e w3 ⟨rfl, hb3⟩; have B3 := B2.trans (hb3.mono B2.size); clear hb3)
      | (go_at_call 7; refine (HA.out _ (by first | exact B3 | exact B3.alloc (Nat.le_refl _) _)).mono ?_; rintro e w4 ⟨hb4, x, c, rfl, hT, k0, k3⟩; have B4 := B3.trans (hb4.mono B3.size); have hx4 : x.block < w4.heap.size := lt_cell k0; have j0 := fun o => all_c k0 (o := o); have j3 := fun o => all_c k3 (o := o); have HT := Lib.hid hT; clear hb4 hT B3))
  go_loopw [9] (fun i wr => ∃ j : Nat, j ≤ n ∧ i = .int .i64 ((j : Int) + 1) ∧ Below w.heap.size w wr ∧ Below w4.heap.size w4 wr) (fun i _ => n + 1 - (intOf i).toNat)
  case atStart => exact ⟨0, Nat.zero_le _, rfl, B4.alloc B4.size _, (Below.refl _ _).alloc (Nat.le_refl _) _⟩
  case round =>
    obtain ⟨j, hj, rfl, hb, hb4⟩ := hrel
    clear k0 k3 j0 j3
    have T := HT.out.on hb4
    by_cases hjn : j < n
    · obtain ⟨-, M⟩ := T.lst
      obtain ⟨x1, a1, e1, ha1, -, g1, -⟩ := lstG_at M (i := j) (by have := HF.out.len; omega)
      obtain ⟨x2, a2, e2, ha2, -, g2, -⟩ := lstG_at M (i := j + 1) (by have := HF.out.len; omega)
      injection e1 with e1
      injection e2 with e2
      subst e1 e2
      have hr := HF.out.rise j a1 a2 ha1 ha2
      have c1 := g1 3 _ rfl
      have c2 := g2 3 _ rfl
      have c3 := g2 0 _ rfl
      obtain ⟨n1, t1, v1, p1⟩ := a1
      obtain ⟨n2, t2, v2, p2⟩ := a2
      have c1 : wr.cell? ⟨(x.add (j * 4)).block, (x.add (j * 4)).off + 3, none⟩ = some (.int .i64 p1) := c1
      have c2 : wr.cell? ⟨(x.add ((j + 1) * 4)).block, (x.add ((j + 1) * 4)).off + 3, none⟩ = some (.int .i64 p2) := c2
      have c3 : wr.cell? (x.add ((j + 1) * 4)) = some (.int .i64 n2) := c3
      have hr : p1 < p2 := hr
      have d1 : ¬ p2 ≤ p1 := by omega
      have d2 : ¬ p2 < p1 := by omega
      have HB := Lib.hid hb
      have HB4 := Lib.hid hb4
      clear T M g1 g2 ha1 ha2 hr hb hb4
      go_wp2_with (fail)
      have b0 : (0 : Int) ≤ (j : Int) := by omega
      have b1 : (j : Int) < (n : Int) + 1 := by omega
      have b2 : (0 : Int) ≤ (j : Int) + 1 := by omega
      have b3 : (j : Int) + 1 < (n : Int) + 1 := by omega
      have b4 : (j : Int) < (n : Int) := by omega
      have e1 : IntKind.i64.wrap ((j : Int) + 1 - 1) = j := by rw [IntKind.wrap_i64]; omega
      have e2 : IntKind.i64.wrap (j : Int) = j := by rw [IntKind.wrap_i64]; omega
      have dd1 : decide (p2 ≤ p1) = false := decide_eq_false (by omega)
      have dd2 : decide (p1 ≥ p2) = false := decide_eq_false (by omega)
      have dd3 : decide (p2 < p1) = false := decide_eq_false (by omega)
      have dd4 : decide (p1 > p2) = false := decide_eq_false (by omega)
      go_quiet (fail)
      go_wp2_with (fail)
      go_roundw
      case rel => exact ⟨_, _, _, _, _, _, _, _, _, _, _, _, _, _, _, _, _, _, _, _, _, _, _, _, _, _, _, _, _, _, _, _, _, _, _, _, _, _, _, _, _, _, ⟨j + 1, by omega, by first | go_num | (simp; done), bdn HB.out _, bdn HB4.out _⟩, rfl⟩
      case measure => simp [intOf]; omega
    · obtain rfl : j = n := by omega
      have hlen := HF.out.len
      have J0 : ∀ w', Below wr.heap.size wr w' → Calls Tryd.prog 8 #[.slice (some x) (j + 1) c] w' fun e w2 => e = .returned (.string (tx (joinT l))) ∧ Below w'.heap.size w' w2 := fun w' hb' => by
        have := joi_any (some x) l c w' (gv_on hg (hb.trans (hb'.mono hb.size))) ((HT.out.on (hb4.trans (hb'.mono hb4.size))).lst.2) (by have := HF.out.few; omega) HF.out.ok
        rwa [hlen] at this
      have hjl : (joinT l).length ≤ 200000000000 := by
        have h1 := joinT_len l 4194400 (fun x hm => shw_len (HF.out.ok x hm).1 (HF.out.ok x hm).2)
        have h2 : l.length * (4194400 + 1) ≤ 20000 * 4194401 := Nat.mul_le_mul_right _ (by have := HF.out.few; omega)
        omega
      have HB := Lib.hid hb
      have HB4 := Lib.hid hb4
      have J1 := Lib.hid J0
      clear J0 T hb hb4 hlen
      by_cases hbig : 16384 < (joinT l).length
      · have A0 : ∀ w', Below w.heap.size w w' → Calls Tryd.prog 7 #[.string (tx (joinT l))] w' fun e w2 => Below w'.heap.size w' w2 ∧ ∃ ad c, e = .returned (.tuple #[.slice ad 0 c, .agg #[.int .i64 3, .int .i64 0]]) := fun w' hb' => by
          have := all_any (tx (joinT l)) (by show (joinT l).length < 9223372036854775808; omega) w' (gv_on hg hb')
          have he : allR (tl (tx (joinT l))) = ([], 3, 0) := by unfold allR; rw [tl_tx, if_pos hbig]
          rw [he] at this
          exact this.mono fun e w2 ⟨h1, ad, c, h2, h3⟩ => ⟨h1, ad, c, h2⟩
        have A1 := Lib.hid A0
        have hz : 16384 < (tx (joinT l)).size := hbig
        clear A0 hbig hjl
        generalize tx (joinT l) = J at *
        go_wp2_with (first
          | (go_at_call 8; refine (J1.out _ (by first | exact Below.refl _ _ | exact (Below.refl _ _).drew | exact bdn (Below.refl _ _) _)).mono ?_; rintro e w6 ⟨rfl, hb6⟩; have B6 := HB.out.trans (hb6.mono HB.out.size); have B46 := HB4.out.trans (hb6.mono HB4.out.size); clear hb6)
          | (go_at_call 7; refine (A1.out _ B6).mono ?_; rintro e w7 ⟨hb7, ad, c7, rfl⟩; have B7 := B6.trans (hb7.mono B6.size)))
        go_ret
        exact ⟨rfl, B7.alloc B7.size _⟩
      · obtain ⟨b, hb1, hal⟩ := HF.out.back
        obtain ⟨m, F2⟩ := fine_of (s := tx (joinT l)) (by show (joinT l).length ≤ 16384; omega) hb1
        have A0 : ∀ w', Below w.heap.size w w' → Calls Tryd.prog 7 #[.string (tx (joinT l))] w' fun e w2 => Below w'.heap.size w' w2 ∧ ∃ x c, e = .returned (.tuple #[.slice (some x) (m + 1) c, .agg #[.int .i64 0, .int .i64 0]]) ∧ TokOk w2 (.slice (some x) (m + 1) c) b := fun w' hb' => fine_all F2 (by show (joinT l).length ≤ 16384; omega) w' (gv_on hg hb')
        have J2 : ∀ (x2 : Addr) (c2 : Nat) (w' : World), GvOk lxTabs w' → TokOk w' (.slice (some x2) (m + 1) c2) b → Calls Tryd.prog 8 #[.slice (some x2) (m + 1) c2] w' fun e w2 => e = .returned (.string (tx (joinT l))) ∧ Below w'.heap.size w' w2 := fun x2 c2 w' hg' h => by
          have := joi_any (some x2) b c2 w' hg' h.lst.2 (by have := F2.few; omega) F2.ok
          rwa [F2.len, ← joinT_alike hal] at this
        have K2 : ∀ (x2 : Addr) (c2 : Nat) (w' : World), TokOk w' (.slice (some x) (j + 1) c) l → TokOk w' (.slice (some x2) (m + 1) c2) b → Calls Tryd.prog 9 #[.slice (some x) (j + 1) c, .slice (some x2) (m + 1) c2, .bool false] w' fun e w2 => e = .returned (.bool true) ∧ Below w'.heap.size w' w2 := fun x2 c2 w' h1 h2 => by
          have := tok_any _ _ l b false w' h1 h2
          rwa [tks_alike hal] at this
        have A1 := Lib.hid (And.intro A0 (And.intro J2 K2))
        have hz : (tx (joinT l)).size ≤ 16384 := by show (joinT l).length ≤ 16384; omega
        clear A0 J2 K2 hbig hjl F2 hb1 hal
        generalize tx (joinT l) = J at *
        go_wp2_with (first
          | (go_at_call 8; refine (J1.out _ (by first | exact Below.refl _ _ | exact (Below.refl _ _).drew | exact bdn (Below.refl _ _) _)).mono ?_; rintro e w6 ⟨rfl, hb6⟩; have B6 := HB.out.trans (hb6.mono HB.out.size); have B46 := HB4.out.trans (hb6.mono HB4.out.size); clear hb6)
          | (go_at_call 7; refine (A1.out.1 _ B6).mono ?_; rintro e w7 ⟨hb7, x2, c7, rfl, T7⟩; have B7 := B6.trans (hb7.mono B6.size); have B47 := B46.trans (hb7.mono B46.size); have HT7 := Lib.hid T7; clear hb7 T7 J1)
          | (go_at_call 9; refine (A1.out.2.2 _ _ _ (HT.out.on (B47.alloc B47.size _)) (HT7.out.on ((Below.refl _ _).alloc (Nat.le_refl _) _))).mono ?_; rintro e w8 ⟨rfl, hb8⟩; have B78 : Below w7.heap.size w7 w8 := ((Below.refl _ _).alloc (Nat.le_refl _) _).trans (hb8.mono (by simp)); have B8 := B7.trans (B78.mono B7.size); clear hb8)
          | (go_at_call 8; refine (A1.out.2.1 _ _ _ (gv_on hg B8) (HT7.out.on B78)).mono ?_; rintro e w9 ⟨rfl, hb9⟩; have B9 := B8.trans (hb9.mono B8.size)))
        go_ret
        exact ⟨rfl, B9⟩
set_option maxHeartbeats 4000000 in
theorem lb_long (s t : ByteArray) (hs : s.size ≤ 3000) (ht : t.size ≤ 3000) (n : Nat) (l : List Tok) (F : Fine s n l) (h64 : ¬ t.size ≤ 64) (w : World) (hg : GvOk lxTabs w) : Calls Tryd.prog 3 #[.string s, .string t] w fun e w' => e = .returned (.bool true) ∧ Below w.heap.size w w' := by
  have HA0 : ∀ w', Below w.heap.size w w' → Calls Tryd.prog 7 #[.string s] w' fun e w2 => Below w'.heap.size w' w2 ∧ ∃ x c, e = .returned (.tuple #[.slice (some x) (n + 1) c, .agg #[.int .i64 0, .int .i64 0]]) ∧ TokOk w2 (.slice (some x) (n + 1) c) l ∧ w2.cell? (x.add (n * 4)) = some (.int .i64 5) ∧ w2.cell? ⟨(x.add (n * 4)).block, (x.add (n * 4)).off + 3, none⟩ = some (.int .i64 (s.size : Int)) := fun w' hb' => by
    have := all_any s (by show s.size < 9223372036854775808; omega) w' (gv_on hg hb')
    rw [F.all] at this
    refine this.mono fun e w2 ⟨h1, ad, c, h2, h3⟩ => ⟨h1, ?_⟩
    have hlen := F.len
    have h2 : e = .returned (.tuple #[.slice ad l.length c, .agg #[.int .i64 0, .int .i64 ((0 : Nat) : Int)]]) := h2
    have h3 : TokOk w2 (.slice ad l.length c) l := h3 (by intro e; have e : l = [] := e; rw [e] at hlen; cases hlen)
    rw [hlen] at h2 h3
    obtain ⟨-, M⟩ := h3.lst
    obtain ⟨x, a, rfl, hv, -, g, -⟩ := lstG_at M (i := n) (by omega)
    rw [F.last] at hv
    injection hv with hv
    subst hv
    exact ⟨x, c, h2, h3, g 0 _ rfl, g 3 _ rfl⟩
  have HA := Lib.hid HA0
  have HU0 := unq_quo_any t ht
  rw [if_neg h64, decide_eq_false h64] at HU0
  have HU := Lib.hid HU0
  clear HA0 HU0
  have hn : n ≤ 16384 := by have h1 := F.len; have h2 := F.few; omega
  have HF := Lib.hid F
  clear F
  go_enter Tryd.func3, Tryd.ntmps3
  go_wp2_with (first
      | (go_at_call 4; refine (lb_lives _ (gv_on hg (by first | exact Below.refl _ _ | exact bdn (Below.refl _ _) _ | exact (Below.refl _ _).drew))).mono ?_; rintro e w1 ⟨rfl, B1⟩)
      | (go_at_call 6; refine (quo_any t (by omega) _).mono ?_; rintro e w2 ⟨rfl, hb2⟩; have B2 := B1.trans (hb2.mono B1.size); clear hb2)
      | (go_at_call 5; refine (HU.out _).mono ?_; rintro e w3 ⟨rfl, hb3⟩; have B3 := B2.trans (hb3.mono B2.size); clear hb3)
      | (go_at_call 7; refine (HA.out _ (by first | exact B3 | exact B3.alloc (Nat.le_refl _) _)).mono ?_; rintro e w4 ⟨hb4, x, c, rfl, hT, k0, k3⟩; have B4 := B3.trans (hb4.mono B3.size); have hx4 : x.block < w4.heap.size := lt_cell k0; have j0 := fun o => all_c k0 (o := o); have j3 := fun o => all_c k3 (o := o); have HT := Lib.hid hT; clear hb4 hT B3))
  go_loopw [9] (fun i wr => ∃ j : Nat, j ≤ n ∧ i = .int .i64 ((j : Int) + 1) ∧ Below w.heap.size w wr ∧ Below w4.heap.size w4 wr) (fun i _ => n + 1 - (intOf i).toNat)
  case atStart => exact ⟨0, Nat.zero_le _, rfl, B4.alloc B4.size _, (Below.refl _ _).alloc (Nat.le_refl _) _⟩
  case round =>
    obtain ⟨j, hj, rfl, hb, hb4⟩ := hrel
    clear k0 k3 j0 j3
    have T := HT.out.on hb4
    by_cases hjn : j < n
    · obtain ⟨-, M⟩ := T.lst
      obtain ⟨x1, a1, e1, ha1, -, g1, -⟩ := lstG_at M (i := j) (by have := HF.out.len; omega)
      obtain ⟨x2, a2, e2, ha2, -, g2, -⟩ := lstG_at M (i := j + 1) (by have := HF.out.len; omega)
      injection e1 with e1
      injection e2 with e2
      subst e1 e2
      have hr := HF.out.rise j a1 a2 ha1 ha2
      have c1 := g1 3 _ rfl
      have c2 := g2 3 _ rfl
      have c3 := g2 0 _ rfl
      obtain ⟨n1, t1, v1, p1⟩ := a1
      obtain ⟨n2, t2, v2, p2⟩ := a2
      have c1 : wr.cell? ⟨(x.add (j * 4)).block, (x.add (j * 4)).off + 3, none⟩ = some (.int .i64 p1) := c1
      have c2 : wr.cell? ⟨(x.add ((j + 1) * 4)).block, (x.add ((j + 1) * 4)).off + 3, none⟩ = some (.int .i64 p2) := c2
      have c3 : wr.cell? (x.add ((j + 1) * 4)) = some (.int .i64 n2) := c3
      have hr : p1 < p2 := hr
      have d1 : ¬ p2 ≤ p1 := by omega
      have d2 : ¬ p2 < p1 := by omega
      have HB := Lib.hid hb
      have HB4 := Lib.hid hb4
      clear T M g1 g2 ha1 ha2 hr hb hb4
      go_wp2_with (fail)
      have b0 : (0 : Int) ≤ (j : Int) := by omega
      have b1 : (j : Int) < (n : Int) + 1 := by omega
      have b2 : (0 : Int) ≤ (j : Int) + 1 := by omega
      have b3 : (j : Int) + 1 < (n : Int) + 1 := by omega
      have b4 : (j : Int) < (n : Int) := by omega
      have e1 : IntKind.i64.wrap ((j : Int) + 1 - 1) = j := by rw [IntKind.wrap_i64]; omega
      have e2 : IntKind.i64.wrap (j : Int) = j := by rw [IntKind.wrap_i64]; omega
      have dd1 : decide (p2 ≤ p1) = false := decide_eq_false (by omega)
      have dd2 : decide (p1 ≥ p2) = false := decide_eq_false (by omega)
      have dd3 : decide (p2 < p1) = false := decide_eq_false (by omega)
      have dd4 : decide (p1 > p2) = false := decide_eq_false (by omega)
      go_quiet (fail)
      go_wp2_with (fail)
      go_roundw
      case rel => exact ⟨_, _, _, _, _, _, _, _, _, _, _, _, _, _, _, _, _, _, _, _, _, _, _, _, _, _, _, _, _, _, _, _, _, _, _, _, _, _, _, _, _, _, ⟨j + 1, by omega, by first | go_num | (simp; done), bdn HB.out _, bdn HB4.out _⟩, rfl⟩
      case measure => simp [intOf]; omega
    · obtain rfl : j = n := by omega
      have hlen := HF.out.len
      have J0 : ∀ w', Below wr.heap.size wr w' → Calls Tryd.prog 8 #[.slice (some x) (j + 1) c] w' fun e w2 => e = .returned (.string (tx (joinT l))) ∧ Below w'.heap.size w' w2 := fun w' hb' => by
        have := joi_any (some x) l c w' (gv_on hg (hb.trans (hb'.mono hb.size))) ((HT.out.on (hb4.trans (hb'.mono hb4.size))).lst.2) (by have := HF.out.few; omega) HF.out.ok
        rwa [hlen] at this
      have hjl : (joinT l).length ≤ 200000000000 := by
        have h1 := joinT_len l 4194400 (fun x hm => shw_len (HF.out.ok x hm).1 (HF.out.ok x hm).2)
        have h2 : l.length * (4194400 + 1) ≤ 20000 * 4194401 := Nat.mul_le_mul_right _ (by have := HF.out.few; omega)
        omega
      have HB := Lib.hid hb
      have HB4 := Lib.hid hb4
      have J1 := Lib.hid J0
      clear J0 T hb hb4 hlen
      by_cases hbig : 16384 < (joinT l).length
      · have A0 : ∀ w', Below w.heap.size w w' → Calls Tryd.prog 7 #[.string (tx (joinT l))] w' fun e w2 => Below w'.heap.size w' w2 ∧ ∃ ad c, e = .returned (.tuple #[.slice ad 0 c, .agg #[.int .i64 3, .int .i64 0]]) := fun w' hb' => by
          have := all_any (tx (joinT l)) (by show (joinT l).length < 9223372036854775808; omega) w' (gv_on hg hb')
          have he : allR (tl (tx (joinT l))) = ([], 3, 0) := by unfold allR; rw [tl_tx, if_pos hbig]
          rw [he] at this
          exact this.mono fun e w2 ⟨h1, ad, c, h2, h3⟩ => ⟨h1, ad, c, h2⟩
        have A1 := Lib.hid A0
        have hz : 16384 < (tx (joinT l)).size := hbig
        clear A0 hbig hjl
        generalize tx (joinT l) = J at *
        go_wp2_with (first
          | (go_at_call 8; refine (J1.out _ (by first | exact Below.refl _ _ | exact (Below.refl _ _).drew | exact bdn (Below.refl _ _) _)).mono ?_; rintro e w6 ⟨rfl, hb6⟩; have B6 := HB.out.trans (hb6.mono HB.out.size); have B46 := HB4.out.trans (hb6.mono HB4.out.size); clear hb6)
          | (go_at_call 7; refine (A1.out _ B6).mono ?_; rintro e w7 ⟨hb7, ad, c7, rfl⟩; have B7 := B6.trans (hb7.mono B6.size)))
        go_ret
        exact ⟨rfl, B7.alloc B7.size _⟩
      · obtain ⟨b, hb1, hal⟩ := HF.out.back
        obtain ⟨m, F2⟩ := fine_of (s := tx (joinT l)) (by show (joinT l).length ≤ 16384; omega) hb1
        have A0 : ∀ w', Below w.heap.size w w' → Calls Tryd.prog 7 #[.string (tx (joinT l))] w' fun e w2 => Below w'.heap.size w' w2 ∧ ∃ x c, e = .returned (.tuple #[.slice (some x) (m + 1) c, .agg #[.int .i64 0, .int .i64 0]]) ∧ TokOk w2 (.slice (some x) (m + 1) c) b := fun w' hb' => fine_all F2 (by show (joinT l).length ≤ 16384; omega) w' (gv_on hg hb')
        have J2 : ∀ (x2 : Addr) (c2 : Nat) (w' : World), GvOk lxTabs w' → TokOk w' (.slice (some x2) (m + 1) c2) b → Calls Tryd.prog 8 #[.slice (some x2) (m + 1) c2] w' fun e w2 => e = .returned (.string (tx (joinT l))) ∧ Below w'.heap.size w' w2 := fun x2 c2 w' hg' h => by
          have := joi_any (some x2) b c2 w' hg' h.lst.2 (by have := F2.few; omega) F2.ok
          rwa [F2.len, ← joinT_alike hal] at this
        have K2 : ∀ (x2 : Addr) (c2 : Nat) (w' : World), TokOk w' (.slice (some x) (j + 1) c) l → TokOk w' (.slice (some x2) (m + 1) c2) b → Calls Tryd.prog 9 #[.slice (some x) (j + 1) c, .slice (some x2) (m + 1) c2, .bool false] w' fun e w2 => e = .returned (.bool true) ∧ Below w'.heap.size w' w2 := fun x2 c2 w' h1 h2 => by
          have := tok_any _ _ l b false w' h1 h2
          rwa [tks_alike hal] at this
        have A1 := Lib.hid (And.intro A0 (And.intro J2 K2))
        have hz : (tx (joinT l)).size ≤ 16384 := by show (joinT l).length ≤ 16384; omega
        clear A0 J2 K2 hbig hjl F2 hb1 hal
        generalize tx (joinT l) = J at *
        go_wp2_with (first
          | (go_at_call 8; refine (J1.out _ (by first | exact Below.refl _ _ | exact (Below.refl _ _).drew | exact bdn (Below.refl _ _) _)).mono ?_; rintro e w6 ⟨rfl, hb6⟩; have B6 := HB.out.trans (hb6.mono HB.out.size); have B46 := HB4.out.trans (hb6.mono HB4.out.size); clear hb6)
          | (go_at_call 7; refine (A1.out.1 _ B6).mono ?_; rintro e w7 ⟨hb7, x2, c7, rfl, T7⟩; have B7 := B6.trans (hb7.mono B6.size); have B47 := B46.trans (hb7.mono B46.size); have HT7 := Lib.hid T7; clear hb7 T7 J1)
          | (go_at_call 9; refine (A1.out.2.2 _ _ _ (HT.out.on (B47.alloc B47.size _)) (HT7.out.on ((Below.refl _ _).alloc (Nat.le_refl _) _))).mono ?_; rintro e w8 ⟨rfl, hb8⟩; have B78 : Below w7.heap.size w7 w8 := ((Below.refl _ _).alloc (Nat.le_refl _) _).trans (hb8.mono (by simp)); have B8 := B7.trans (B78.mono B7.size); clear hb8)
          | (go_at_call 8; refine (A1.out.2.1 _ _ _ (gv_on hg B8) (HT7.out.on B78)).mono ?_; rintro e w9 ⟨rfl, hb9⟩; have B9 := B8.trans (hb9.mono B8.size)))
        go_ret
        exact ⟨rfl, B9⟩
theorem str_of {w : World} {r : Reach} {b : Nat} {v : Value} (h : Value.okWide Tryd.prog w r b 9 v) : ∃ s, v = .string s := by
  unfold Value.okWide at h
  rw [Tryd.underlying9] at h
  have h : Cell.okWide Tryd.prog w r b 9 v := h
  unfold Cell.okWide at h
  rw [Tryd.underlying9] at h
  have h : Cell.ok Tryd.prog w r b 9 v := h
  unfold Cell.ok at h
  rw [Tryd.underlying9] at h
  cases v <;> first | exact ⟨_, rfl⟩ | exact h.elim
theorem lb_call (s t : ByteArray) (w : World) (hg : GvOk lxTabs w) : Calls Tryd.prog 3 #[.string s, .string t] w fun e w' => e = .returned (.bool true) ∧ Below w.heap.size w w' := by
  by_cases hb : 3000 < s.size ∨ 3000 < t.size
  · exact lb_big s t hb w hg
  have hs : s.size ≤ 3000 := by omega
  have ht : t.size ≤ 3000 := by omega
  cases ha : allF frsF conF (tl s) with
  | error i =>
    exact lb_err s t hs ht i (all_err ha) (by
      have hts : (tl s).length = s.size := rfl
      unfold allR
      rw [if_neg (by rw [hts]; omega), ha]) w hg
  | ok l =>
    obtain ⟨n, F⟩ := fine_of (by omega) ha
    by_cases h64 : t.size ≤ 64
    · exact lb_ok s t hs ht n l F h64 w hg
    · exact lb_long s t hs ht n l F h64 w hg
theorem lb_walk (w : World) (r : Reach) (b0 : Nat) (args : List Value) (hl : [9, 9].length = args.length)
    (hok : ∀ (j : Nat) t v, ([9, 9] : List TypeId)[j]? = some t → args[j]? = some v → Value.okWide Tryd.prog w r b0 t v)
    (hd : ∀ (j : Nat) t v, ([9, 9] : List TypeId)[j]? = some t → args[j]? = some v → ∃ f, Rds Tryd.prog (fun a => w.cell? a) f t (vcells v)) (hgv : GvOk lxTabs w) :
    Calls Tryd.prog 3 ⟨args⟩ w fun e w' => e = .returned (.bool true) ∧ Below w.heap.size w w' := by
  match args, hl with
  | [v0, v1], _ =>
    obtain ⟨x, rfl⟩ := str_of (hok 0 _ _ rfl rfl)
    obtain ⟨y, rfl⟩ := str_of (hok 1 _ _ rfl rfl)
    exact lb_call x y w hgv
end Go.Proofs.YtaepplhgeeaidaaDoor
end
section
set_option linter.unusedVariables false
set_option linter.unusedSimpArgs false
set_option maxRecDepth 100000
namespace Go.Proofs.YtaepplhgeeaidaaDoor
open Go Go.RowKit Ev
theorem pow_of {W : World} {l : List (String × DataW Unit)} (hl : laidMet Tryd.prog l W) (hm : ("internal/strconv.uint64pow10", (Lib.tabData .u64 Lib.pow10Tab : DataW Unit)) ∈ l) :
    ∃ cs ty fr, W.heap[0]? = some (.cells cs ty fr) ∧ ∀ (i : Nat) (v : Value), (Tr.putSome lxTab2).get i = some v → GC v cs[i]? := by
  obtain ⟨ps, hv, -, -⟩ := hl
  obtain ⟨g', t', cs, fuel, p, h1, h2, h3, h4⟩ := laid_var hv hm
  obtain rfl := Option.some.inj ((show Tryd.prog.globalNamed "internal/strconv.uint64pow10" = some 0 by kernel_rfl).symm.trans h1)
  obtain rfl := Option.some.inj ((show (Tryd.prog.globals[0]?).map (·.type) = some 85 by kernel_rfl).symm.trans h2)
  have hc := Lib.cells_of_tab Tryd.underlying85 Tryd.underlying77 (by kernel_rfl) (by kernel_rfl) h4
  unfold World.var? at h3
  rw [h1] at h3
  simp only [Option.bind_some] at h3
  split at h3
  · rename_i cs' ty fr hh
    injection h3 with h3
    subst h3
    obtain ⟨l0⟩ := cs'
    have hc : l0 = _ := hc
    subst hc
    refine ⟨_, ty, fr, hh, fun i v hget => ?_⟩
    have hmem := Tr.get_putSome hget
    simp only [lxTab2, List.mem_cons, List.not_mem_nil, or_false, Prod.mk.injEq] at hmem
    rcases hmem with ⟨rfl, rfl⟩ | ⟨rfl, rfl⟩ | ⟨rfl, rfl⟩ | ⟨rfl, rfl⟩ | ⟨rfl, rfl⟩ | ⟨rfl, rfl⟩ | ⟨rfl, rfl⟩ | ⟨rfl, rfl⟩ | ⟨rfl, rfl⟩ | ⟨rfl, rfl⟩ | ⟨rfl, rfl⟩ | ⟨rfl, rfl⟩ | ⟨rfl, rfl⟩ | ⟨rfl, rfl⟩ | ⟨rfl, rfl⟩ | ⟨rfl, rfl⟩ | ⟨rfl, rfl⟩ | ⟨rfl, rfl⟩ | ⟨rfl, rfl⟩ | ⟨rfl, rfl⟩ | ⟨rfl, rfl⟩
    all_goals first | exact .inl ⟨rfl, rfl⟩ | exact .inr ⟨rfl, rfl⟩
  · cases h3
theorem iface_of {W : World} {l : List (String × DataW Unit)} (hl : laidMet Tryd.prog l W) {nm tn : String} {d : DataW Unit} {g : Nat} {ti : TypeId} {ms : Array (String × TypeId)} (hm : (nm, DataW.iface tn d) ∈ l)
    (hg : Tryd.prog.globalNamed nm = some g) (hgt : (Tryd.prog.globals[g]?).map (·.type) = some ti) (hi : Tryd.prog.underlying ti = some (.interface ms)) :
    ∃ cs ty fr, W.heap[g]? = some (.cells cs ty fr) ∧ ∀ (i : Nat) (v : Value), someIface.get i = some v → GC v cs[i]? := by
  obtain ⟨ps, hv, -, -⟩ := hl
  obtain ⟨g', t', cs, fuel, p, h1, h2, h3, h4⟩ := laid_var hv hm
  obtain rfl := Option.some.inj (hg.symm.trans h1)
  obtain rfl := Option.some.inj (hgt.symm.trans h2)
  obtain ⟨fuel', u, v, hc, -, -⟩ := iface_of_trod hi h4
  refine someIface_of ⟨.iface u v, ?_, .inr ⟨u, v, rfl⟩⟩
  have h0 := World.var?_cell hg h3 0
  rw [h0, ← Array.getElem?_toList, hc]
  rfl
end Go.Proofs.YtaepplhgeeaidaaDoor
end
