/- The walk of waterwheellaw02.NumberBytes. -/
import Derived.Test.YtfdgajfpmeaieaaNbB
import Derived.Test.YtfdgajfpmeaieaaKit
import Derived.Test.YtfdgajfpmeaieaaBack
import Derived.Test.YtfdgajfpmeaieaaGrow
import Derived.Test.YtfdgajfpmeaieaaGrI
namespace Go.Proofs.Ytfdgajfpmeaieaa.numberBytes
open Go.RowKit
set_option linter.unusedVariables false

theorem Rd.on {w w' : World} {v : Value} {xs : List Value} (h : Rd w w.heap.size v xs) (hb : Below w.heap.size w w') : Rd w' w'.heap.size v xs := (h.below hb).more hb.size
theorem str_rd {w : World} {B n c : Nat} {A : Option Addr} {l : List UInt8} (h : Rd w B (.slice A n c) (u8s l)) : (convert 40 9 (.slice A n c)).run Try.prog w = .ok (.string ⟨l.toArray⟩) w :=
  run_str_rd 40 9 5 Try.underlying40 Try.underlying5 Try.underlying9 h
theorem cvt {w : World} {n c : Nat} {A : Option Addr} {l : List UInt8} (h : Rd w w.heap.size (.slice A n c) (u8s l)) : ∀ W, Below w.heap.size w W → (convert 40 9 (.slice A n c)).run Try.prog W = .ok (.string ⟨l.toArray⟩) W :=
  fun _ hb => str_rd (h.below hb)

theorem att_truth (is : Bool) (t : List UInt8) : att truthR 1 (boolB is ++ t) 0 = ((if is then 1 else 0, boolB is), (t, 0)) := by
  cases is <;> simp [att, truthR, boolB]
theorem readV_back (N : Int) (o : Bool) (h : o = true → N = 0) (h1 : -9223372036854775808 ≤ N) (h2 : N ≤ 9223372036854775807) : readV (valB N o) 0 = ((N, o, true), ([], 0)) := by
  cases o with
  | true =>
    have e : valB N true = boolB true ++ [] := by simp [valB]
    rw [e, readV_over _ _ (by rw [att_truth]; rfl), att_truth, h rfl]
    rfl
  | false =>
    have e : valB N false = boolB false ++ (numB (foldN N) ++ []) := by simp [valB]
    rw [e, readV_num _ _ (by rw [att_truth]; simp), att_truth]
    simp only [Bool.false_eq_true, if_false]
    rw [att_back (foldN N) [] maxU (foldN_lt N h1 h2) (by have := foldN_lt N h1 h2; unfold maxU; omega)]
    simp only [ne_eq, not_true_eq_false, if_false, beq_self_eq_true]
    rw [unfold_fold N h1 h2]

theorem RefL.kept {w w' : World} {lo s q g : Nat} {l : List UInt8} (h : RefL w lo s l q) (hg : w.grownBy w' (some g)) (hne : g < lo) (hlo : lo ≤ s) : RefL w' lo s l q := by
  obtain ⟨b, i, rfl, A, n, c, hn, hi, hm, hl, h1, hr⟩ := h
  have hs : s < w.heap.size := (Array.getElem?_eq_some_iff.1 h1).1
  refine ⟨b, i, rfl, A, n, c, hn, hi, hm, hl, (hg.block s hs (by simp; omega)).trans h1, ?_⟩
  obtain ⟨A', c', hv, hc, hmx, hx⟩ := hr
  refine ⟨A', c', hv, hc, hmx, fun hp => ?_⟩
  obtain ⟨ad, rfl, hb, hcell⟩ := hx hp
  injection hv with e1
  have := hl ad e1
  refine ⟨ad, rfl, hb, fun j u hu => (World.cell?_of_block (hg.block _ ?_ ?_)).trans (hcell j u hu)⟩
  · rw [block_of_add']; omega
  · rw [block_of_add']; simp; omega

/-- Two cells laid together are there in every later world. -/
theorem cells_on {w : World} {g : Nat} {x y : Value} (c0 : w.cell? ⟨g, 0, none⟩ = some x) (c1 : w.cell? ⟨g, 1, none⟩ = some y) : (∀ W, Below w.heap.size w W → W.cell? ⟨g, 0, none⟩ = some x) ∧ (∀ W, Below w.heap.size w W → W.cell? ⟨g, 1, none⟩ = some y) :=
  ⟨fun _ hb => (hb.cell (World.block_lt_of_cell? w _ c0)).trans c0, fun _ hb => (hb.cell (World.block_lt_of_cell? w _ c1)).trans c1⟩

set_option maxHeartbeats 6000000 in
set_option maxRecDepth 100000 in
theorem walk (N : Int) (o : Bool) (Ab : Option Addr) (cb nb : Nat) (lb : List UInt8) (w : World) (h1 : -9223372036854775808 ≤ N) (h2 : N ≤ 9223372036854775807)
    (hb : Rd w w.heap.size (.slice Ab nb cb) (u8s lb)) (hnb : nb = lb.length) (hcb : nb ≤ cb ∧ cb ≤ 9223372036854775807) :
    Calls Try.prog 5 #[.agg #[.int .i64 N, .bool o], .slice Ab nb cb] w fun e w' => e = .returned (.bool true) ∧ Below w.heap.size w w' := by
  have HNB := Lib.hid hnb
  clear hnb
  obtain ⟨bx, Hbx⟩ : ∃ bx : Obj, Hid (bx = .cells #[.int .i64 N, .bool o] 23) := ⟨_, Lib.hid rfl⟩
  have bA := (Below.refl w.heap.size w).alloc (Nat.le_refl _) (.cells #[.int .i64 N, .bool o] 23)
  have szA : (w.alloc (.cells #[.int .i64 N, .bool o] 23)).heap.size = w.heap.size + 1 := by simp
  have cA0 : (w.alloc (.cells #[.int .i64 N, .bool o] 23)).cell? ⟨w.heap.size, 0, none⟩ = some (.int .i64 N) := by simp [go_sem]
  have cA1 : (w.alloc (.cells #[.int .i64 N, .bool o] 23)).cell? ⟨w.heap.size, 1, none⟩ = some (.bool o) := by simp [go_sem]
  by_cases k5 : 500 < nb
  · go_enter Try.func5, Try.ntmps5
    go_wp2_with (go_at_call 9; refine (lives2_any _).mono ?_; rintro e w1 ⟨rfl, hb1⟩)
    go_ret
    exact ⟨rfl, bA.trans (hb1.mono (by simp))⟩
  have K := fun W => check_any N o W
  by_cases kc : o = true ∧ N ≠ 0
  · rw [show chkZ N o = 2 by rw [chkZ, if_pos kc]] at K
    clear kc
    go_enter Try.func5, Try.ntmps5
    go_wp2_with fail
    refine (lives2_any _).mono ?_
    rintro e w1 ⟨rfl, hb1⟩
    have c0 := (cells_on cA0 cA1).1 w1 hb1
    have c1 := (cells_on cA0 cA1).2 w1 hb1
    go_wp2_with fail
    refine (K _).mono ?_
    rintro e w2 ⟨rfl, hb2⟩
    go_wp2_with fail
    go_ret
    exact ⟨rfl, (bA.trans (hb1.mono (by simp))).trans (hb2.mono (Nat.le_trans (by simp) hb1.size))⟩
  rw [show chkZ N o = 0 by rw [chkZ, if_neg kc]] at K
  have hov : o = true → N = 0 := fun h => Decidable.byContradiction fun hn => kc ⟨h, hn⟩
  have HV := Lib.hid (readV_back N o hov h1 h2)
  clear kc hov
  go_enter Try.func5, Try.ntmps5
  go_wp2_with fail
  refine (lives2_any _).mono ?_
  rintro e w1 ⟨rfl, hb1⟩
  have c10 := (cells_on cA0 cA1).1 w1 hb1
  have c11 := (cells_on cA0 cA1).2 w1 hb1
  have b1 := bA.trans (hb1.mono (by simp))
  have g1 : w.heap.size < w1.heap.size := by have := hb1.size; omega
  clear cA0 cA1 hb1 bA szA
  go_wp2_with fail
  refine (K _).mono ?_
  rintro e w2 ⟨rfl, hb2⟩
  have c20 := (cells_on c10 c11).1 w2 hb2
  have c21 := (cells_on c10 c11).2 w2 hb2
  have b2 := b1.trans (hb2.mono b1.size)
  have g2 : w.heap.size < w2.heap.size := Nat.lt_of_lt_of_le g1 hb2.size
  clear c10 c11 hb2 b1 g1 K
  have rb2 := (hb.below b2).more b2.size
  have rb2d : Rd w2.drew w2.drew.heap.size (.slice Ab nb cb) (u8s lb) := rb2
  have O := own_any Ab cb lb nb w2.drew rb2d (by omega) HNB.out
  have X := fun (A : Option Addr) (c : Nat) (W : World) (h : Rd W W.heap.size (.slice A nb c) (u8s lb)) => nbytes_any A c nb lb N o W h HNB.out (by omega) h1 h2
  obtain ⟨mx, Hmx⟩ : ∃ m, Hid (m = nb + (valB N o).length) := ⟨_, Lib.hid rfl⟩
  obtain ⟨VX, HVX⟩ : ∃ V, Hid (V = lb ++ valB N o) := ⟨_, Lib.hid rfl⟩
  rw [← Hmx.out, ← HVX.out] at X
  have hS2 : w2.drew.cell? ⟨w.heap.size, 0, none⟩ = some (.int .i64 N) ∧ w2.drew.cell? ⟨w.heap.size, 1, none⟩ = some (.bool o) := ⟨c20, c21⟩
  go_wp2_with fail
  go_region_held3 (fun w' => w'.cell? ⟨w.heap.size, 0, none⟩ = some (.int .i64 N) ∧ w'.cell? ⟨w.heap.size, 1, none⟩ = some (.bool o)) (assumption) (first
    | (go_at_call 27; refine O.mono ?_; rintro e w3 ⟨A3, c3, rfl, o3, bb3⟩; have hS3 : w3.cell? ⟨w.heap.size, 0, none⟩ = some (.int .i64 N) ∧ w3.cell? ⟨w.heap.size, 1, none⟩ = some (.bool o) := ⟨(cells_on (w := w2.drew) c20 c21).1 w3 bb3, (cells_on (w := w2.drew) c20 c21).2 w3 bb3⟩)
    | (go_at_call 26; refine (X A3 c3 w3 (Rd.of_own o3)).mono ?_; rintro e w4 ⟨A4, c4, rfl, o4, bb4⟩; have hS4 : w4.cell? ⟨w.heap.size, 0, none⟩ = some (.int .i64 N) ∧ w4.cell? ⟨w.heap.size, 1, none⟩ = some (.bool o) := ⟨(cells_on hS3.1 hS3.2).1 w4 bb4, (cells_on hS3.1 hS3.2).2 w4 bb4⟩))
  have b3 : Below w.heap.size w w3 := b2.drew.trans (bb3.mono b2.size)
  have b4 := b3.trans (bb4.mono b3.size)
  have rx4 := Rd.of_own o4
  obtain ⟨c40, c41⟩ := hS4
  have rb4 := (hb.below b4).more b4.size
  obtain ⟨gx, rfl⟩ : ∃ g, A4 = some ⟨g, 0, none⟩ := by
    rcases o4.2 with ⟨h, h0⟩ | ⟨g, cap, cur, h, _⟩
    · exfalso
      have := Hmx.out
      cases o <;> simp [valB, boolB] at this <;> omega
    · injection h with h1 _ _
      exact ⟨g, h1⟩
  have hx4 : mx ≤ c4 ∧ c4 ≤ maxLen := by
    obtain ⟨A', c', hv, e1, e2⟩ := rx4.form
    injection hv with _ e3 e4
    omega
  have hmx1 : nb < mx := by have := Hmx.out; cases o <;> simp [valB, boolB] at this <;> omega
  have hmx2 : mx ≤ nb + 10 := by have := Hmx.out; have := valB_le N o h1 h2; omega
  clear hS2 hS3 bb3 o3 b3 bb4 o4 c20 c21 b2 g2 rb2 rb2d O X
  have O2 := own_any Ab cb lb nb w4 rb4 (by omega) HNB.out
  go_wp2_with fail
  refine O2.mono ?_
  rintro e w5 ⟨A5, c5, rfl, o5, D5⟩
  have NW := new_any A5 c5 lb nb w5 (Rd.of_own o5) (by omega) HNB.out
  clear O2 o5
  go_wp2_with fail
  refine NW.mono ?_
  rintro e w6 ⟨lo, r, rfl, g6, hlr, p6, bb6⟩
  have D6 := D5.trans (bb6.mono D5.size)
  have z5 := D5.size
  have RN := rnew_any Ab cb lb nb w6 (Rd.on rb4 D6) (by omega) HNB.out
  clear NW bb6 D5
  go_wp2_with fail
  refine RN.mono ?_
  rintro e w7 ⟨s, rfl, g7, q7, gs7, bb7⟩
  have D7 := D6.trans (bb7.mono D6.size)
  have p7 := p6.below bb7
  have hr7 := p6.lt
  obtain ⟨lo2, Hlo2⟩ : ∃ lo2, Hid (lo2 = w6.heap.size) := ⟨_, Lib.hid rfl⟩
  rw [← Hlo2.out] at g7 q7 hr7
  have hz6 : w4.heap.size ≤ lo2 := by rw [Hlo2.out]; exact D6.size
  have R1 := nread_any lo r 0 lb w7 p7
  have R2 := fun (W : World) (h : RefL W lo2 s lb 0) => rread_any lo2 s 0 lb W h
  generalize readV lb 0 = rv at R1 R2
  obtain ⟨⟨rn, ro, rk⟩, ⟨rl, rq⟩⟩ := rv
  simp only at R1 R2
  clear RN bb7 p6 D6
  go_wp2_with fail
  refine R1.mono ?_
  rintro e w8 ⟨rfl, p8, g8⟩
  have q8 := RefL.kept q7 g8 (by omega) g7
  have D8 := D7.grown g8 D7.size (by intro j hj; injection hj; omega)
  have q8a : RefL (w8.alloc (.cells #[.int .i64 rn, .bool ro] 23)) lo2 s lb 0 := RefL.belowB q8 ((Below.refl w8.heap.size w8).alloc (Nat.le_refl _) _) (RefL.lt q8)
  have p8a : Rdr (w8.alloc (.cells #[.int .i64 rn, .bool ro] 23)) lo r rl rq := p8.below ((Below.refl w8.heap.size w8).alloc (Nat.le_refl _) _)
  have hs8 := RefL.lt q8
  clear R1 p7 q7 D7 p8 gs7
  go_wp2_with fail
  refine (R2 _ q8a).mono ?_
  rintro e w9 ⟨rfl, q9, g9⟩
  have p9 := p8a.kept g9 (.inr (by omega)) hlr
  obtain ⟨h8, hz8⟩ := laid_kept g9 hs8
  have D9 := (D8.alloc D8.size (.cells #[.int .i64 rn, .bool ro] 23)).grown g9 (Nat.le_trans D8.size (by simp)) (by intro j hj; injection hj; omega)
  have z9 := D9.size
  clear R2 q8 q8a p8a g8 g9
  have p9a : Rdr (w9.alloc (.cells #[.int .i64 rn, .bool ro] 23)) lo r rl rq := p9.below ((Below.refl w9.heap.size w9).alloc (Nat.le_refl _) _)
  have q9a : RefL (w9.alloc (.cells #[.int .i64 rn, .bool ro] 23)) lo2 s rl rq := RefL.belowB q9 ((Below.refl w9.heap.size w9).alloc (Nat.le_refl _) _) (RefL.lt q9)
  have D9a := D9.alloc D9.size (.cells #[.int .i64 rn, .bool ro] 23)
  have bal := (Below.refl w9.heap.size w9).alloc (Nat.le_refl _) (.cells #[.int .i64 rn, .bool ro] 23)
  have c80 : (w9.alloc (.cells #[.int .i64 rn, .bool ro] 23)).cell? ⟨w8.heap.size, 0, none⟩ = some (.int .i64 rn) := (bal.cell hz8).trans ((cell_of_row w9 w8.heap.size 0 _ _ _ h8).trans rfl)
  have c81 : (w9.alloc (.cells #[.int .i64 rn, .bool ro] 23)).cell? ⟨w8.heap.size, 1, none⟩ = some (.bool ro) := (bal.cell hz8).trans ((cell_of_row w9 w8.heap.size 1 _ _ _ h8).trans rfl)
  have c100 : (w9.alloc (.cells #[.int .i64 rn, .bool ro] 23)).cell? ⟨w9.heap.size, 0, none⟩ = some (.int .i64 rn) := by simp [go_sem]
  have c101 : (w9.alloc (.cells #[.int .i64 rn, .bool ro] 23)).cell? ⟨w9.heap.size, 1, none⟩ = some (.bool ro) := by simp [go_sem]
  have c20 := (cells_on c40 c41).1 _ D9a
  have c21 := (cells_on c40 c41).2 _ D9a
  have rxa := Rd.on rx4 D9a
  have rba := Rd.on rb4 D9a
  have b9a := b4.trans (D9a.mono b4.size)
  have hxl : mx = VX.length := by rw [HVX.out, List.length_append, ← HNB.out, Hmx.out]
  have rxc := rxa.cut (i := nb) hxl (by omega)
  have hcne : ¬ c4 = nb := by omega
  have hvl : mx - nb = (valB N o).length := by rw [Hmx.out]; omega
  have hadd : (⟨gx, 0, none⟩ : Addr).add nb = ⟨gx, nb, none⟩ := by unfold Addr.add; split <;> simp_all
  rw [if_neg hcne, Option.map_some, hadd, show VX.drop nb = valB N o by rw [HVX.out, HNB.out, List.drop_left]] at rxc
  have T0 := new_any (some ⟨gx, nb, none⟩) (c4 - nb) (valB N o) (mx - nb) (w9.alloc (.cells #[.int .i64 rn, .bool ro] 23)) rxc (by omega) hvl
  have HXL := Lib.hid hxl
  clear hadd p9 q9 h8 bal D9 D9a rx4 rb4 b4 D8 hs8 hz6 z5 z9 c40 c41 hxl hvl rxc
  have hmin : min (mx : Int) (nb : Int) = (nb : Int) := by omega
  have in1 : (nb : Int) ≤ (mx : Int) := by omega
  have in2 : (mx : Int) ≤ (c4 : Int) := by omega
  go_wp2_with fail
  refine T0.mono ?_
  rintro e w10 ⟨lo3, r3, rfl, g10, hlr3, p10, E10⟩
  have R3 := nread_any lo3 r3 0 (valB N o) w10 p10
  rw [HV.out] at R3
  clear T0 p10
  go_wp2_with fail
  refine R3.mono ?_
  rintro e w11 ⟨rfl, p11, g11⟩
  have E11 := E10.grown g11 E10.size (by intro j hj; injection hj; omega)
  have E11a := E11.alloc E11.size (.cells #[.int .i64 N, .bool o] 23)
  have p11a : Rdr (w11.alloc (.cells #[.int .i64 N, .bool o] 23)) lo3 r3 [] 0 := p11.below ((Below.refl w11.heap.size w11).alloc (Nat.le_refl _) _)
  have c130 : (w11.alloc (.cells #[.int .i64 N, .bool o] 23)).cell? ⟨w11.heap.size, 0, none⟩ = some (.int .i64 N) := by simp [go_sem]
  have c131 : (w11.alloc (.cells #[.int .i64 N, .bool o] 23)).cell? ⟨w11.heap.size, 1, none⟩ = some (.bool o) := by simp [go_sem]
  have pF := p9a.below E11a
  have qF := RefL.belowB q9a E11a (RefL.lt q9a)
  have bF := b9a.trans (E11a.mono b9a.size)
  have rxF := Rd.on rxa E11a
  have rbF := Rd.on rba E11a
  have I20 := (cells_on c20 c21).1 _ E11a
  have I21 := (cells_on c20 c21).2 _ E11a
  have I80 := (cells_on c80 c81).1 _ E11a
  have I81 := (cells_on c80 c81).2 _ E11a
  have I100 := (cells_on c100 c101).1 _ E11a
  have I101 := (cells_on c100 c101).2 _ E11a
  clear R3 p11 g11 E11 E10 E11a c20 c21 c80 c81 c100 c101 rxa rba b9a p9a q9a
  go_wp2_with fail
  refine wp_world (fun W => Rdr W lo r rl rq ∧ RefL W lo2 s rl rq ∧ Rdr W lo3 r3 [] 0 ∧ Below w.heap.size w W ∧ Rd W W.heap.size (.slice (some ⟨gx, 0, none⟩) mx c4) (u8s VX) ∧ Rd W W.heap.size (.slice Ab nb cb) (u8s lb) ∧
    W.cell? ⟨w.heap.size, 0, none⟩ = some (.int .i64 N) ∧ W.cell? ⟨w.heap.size, 1, none⟩ = some (.bool o) ∧ W.cell? ⟨w8.heap.size, 0, none⟩ = some (.int .i64 rn) ∧ W.cell? ⟨w8.heap.size, 1, none⟩ = some (.bool ro) ∧
    W.cell? ⟨w9.heap.size, 0, none⟩ = some (.int .i64 rn) ∧ W.cell? ⟨w9.heap.size, 1, none⟩ = some (.bool ro) ∧ W.cell? ⟨w11.heap.size, 0, none⟩ = some (.int .i64 N) ∧ W.cell? ⟨w11.heap.size, 1, none⟩ = some (.bool o)) ⟨pF, qF, p11a, bF, rxF, rbF, I20, I21, I80, I81, I100, I101, c130, c131⟩ ?_
  clear pF qF p11a bF rxF rbF I20 I21 I80 I81 I100 I101 c130 c131
  rintro W ⟨pF, qF, tF, bF, rxF, rbF, I20, I21, I80, I81, I100, I101, I130, I131⟩
  have x20 := (cells_on I20 I21).1
  have x21 := (cells_on I20 I21).2
  have x80 := (cells_on I80 I81).1
  have x81 := (cells_on I80 I81).2
  have x100 := (cells_on I100 I101).1
  have x101 := (cells_on I100 I101).2
  have x130 := (cells_on I130 I131).1
  have x131 := (cells_on I130 I131).2
  have xcv := cvt rxF
  have bd : Below W.heap.size W W.drew := (Below.refl _ _).drew
  have O6 := own_any Ab cb lb nb W.drew rbF (by omega) HNB.out
  have Y := fun (A : Option Addr) (c B : Nat) (W : World) (h : W.ownsRow B 5 1 (.slice A nb c) nb (u8s lb)) (hB : B ≤ W.heap.size) => rbytes_any B A c nb lb N o W h hB (by omega) h1 h2
  rw [← Hmx.out, ← HVX.out] at Y
  clear I20 I21 I80 I81 I100 I101 I130 I131 rxF rbF
  go_region_held3 (fun w' => Below W.heap.size W w') (first | exact Below.refl _ _ | assumption | exact below_drewK (by assumption) _) (first
    | (go_at_call 27; refine O6.mono ?_; rintro e w60 ⟨A60, c60, rfl, o60, be60⟩; have bb60 : Below W.heap.size W w60 := bd.trans be60)
    | (go_at_call 32; refine (Y A60 c60 W.heap.size w60 (by exact o60) bb60.size).mono ?_; rintro e w62 ⟨A62, c62, rfl, o62, bc62⟩; have bb62 : Below W.heap.size W w62 := bb60.trans bc62; have cv62 := cvt (Rd.of_own o62); have b62 := bF.trans (bb62.mono bF.size); have z20 := fun (W' : World) (h : Below w62.heap.size w62 W') => x20 W' (bb62.trans (h.mono bb62.size)); have z21 := fun (W' : World) (h : Below w62.heap.size w62 W') => x21 W' (bb62.trans (h.mono bb62.size)); have z80 := fun (W' : World) (h : Below w62.heap.size w62 W') => x80 W' (bb62.trans (h.mono bb62.size)); have z81 := fun (W' : World) (h : Below w62.heap.size w62 W') => x81 W' (bb62.trans (h.mono bb62.size)); have z100 := fun (W' : World) (h : Below w62.heap.size w62 W') => x100 W' (bb62.trans (h.mono bb62.size)); have z101 := fun (W' : World) (h : Below w62.heap.size w62 W') => x101 W' (bb62.trans (h.mono bb62.size)); have z130 := fun (W' : World) (h : Below w62.heap.size w62 W') => x130 W' (bb62.trans (h.mono bb62.size)); have z131 := fun (W' : World) (h : Below w62.heap.size w62 W') => x131 W' (bb62.trans (h.mono bb62.size)); have p62 : Rdr w62 lo r rl rq := pF.below bb62; have q62 : RefL w62 lo2 s rl rq := RefL.belowB qF bb62 (RefL.lt qF); have t62 : Rdr w62 lo3 r3 [] 0 := tF.below bb62; rw [shut_eq (fun w' => Below w62.heap.size w62 w') (fun W' h => bb62.trans (h.mono bb62.size)) ‹Shut _›] at *)
    | (go_at_call 33; refine (left_read lo r rq rl _ (by exact p62)).mono ?_; rintro e w' ⟨rfl, rfl⟩)
    | (go_at_call 34; refine (rleft_read lo2 s rq rl _ (by exact q62)).mono ?_; rintro e w' ⟨rfl, kk, rfl⟩)
    | (go_at_call 35; refine (end_read lo3 r3 0 [] _ (by exact t62)).mono ?_; rintro e w' ⟨rfl, rfl⟩))
  all_goals go_wp2_with fail
  all_goals go_ret
  all_goals exact ⟨rfl, b62.trans (Below.mono (by assumption) b62.size)⟩
end Go.Proofs.Ytfdgajfpmeaieaa.numberBytes
