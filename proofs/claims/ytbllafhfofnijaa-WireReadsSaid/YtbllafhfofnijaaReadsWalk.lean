/- The walk of waterwheellaw01.WireReads. -/
import Derived.Test.YtbllafhfofnijaaRefT
import Derived.Deep.RegionHeld3
namespace Go.Proofs.Ytbllafhfofnijaa.wireReads
open Go.RowKit

theorem RefL.kept {w w' : World} {lo s q g : Nat} {l : List UInt8} (h : RefL w lo s l q) (hg : w.grownBy w' (some g)) (hne : g < lo) (hlo : lo ≤ s) : RefL w' lo s l q := by
  obtain ⟨b, i, rfl, A, n, c, hn, hi, hm, hl, h1, hr⟩ := h
  have hs : s < w.heap.size := (Array.getElem?_eq_some_iff.1 h1).1
  refine ⟨b, i, rfl, A, n, c, hn, hi, hm, hl, (hg.block s hs (by simp; omega)).trans h1, ?_⟩
  obtain ⟨A', c', hv, hc, hmx, hx⟩ := hr
  refine ⟨A', c', hv, hc, hmx, fun hp => ?_⟩
  obtain ⟨ad, rfl, hb, hcell⟩ := hx hp
  injection hv with e1
  have := hl ad e1
  refine ⟨ad, rfl, hb, fun j u hu => (World.cell?_of_block (hg.block _ ?_ ?_)).trans (hcell j u hu)⟩
  · rw [block_of_add']; omega
  · rw [block_of_add']; simp; omega

theorem RefL.lt {w : World} {lo s q : Nat} {l : List UInt8} (h : RefL w lo s l q) : s < w.heap.size := by
  obtain ⟨b, i, rfl, A, n, c, hn, hi, hm, hl, h1, hr⟩ := h
  exact (Array.getElem?_eq_some_iff.1 h1).1
theorem RefL.drawN {w : World} {lo s q : Nat} {l : List UInt8} (h : RefL w lo s l q) (k : Nat) : RefL (w.drewN k) lo s l q := h
theorem RefL.cell {w : World} {lo s q : Nat} {l : List UInt8} (h : RefL w lo s l q) : w.cell? ⟨s, 2, none⟩ = some (.int .i64 (q : Int)) := by
  obtain ⟨b, i, rfl, A, n, c, hn, hi, hm, hl, h1, hr⟩ := h
  exact (cell_of_row w s 2 _ _ _ h1).trans rfl

theorem below_drewN {B : Nat} {w w' : World} (h : Below B w w') (k : Nat) : Below B w (w'.drewN k) := ⟨h.1, h.2, h.3, h.4, h.5⟩
theorem quiet_left' {P : Program} {f : FuncId} {args : Array Value} {w : World} {n : Nat} {v : Value}
    (h : Calls P f args (w.drewN n) fun e w' => e = .returned v ∧ w.drewN n = w') : Calls P f args (w.drewN n) fun e w'' => e = .returned v ∧ ∃ m, w'' = w.drewN m :=
  h.mono fun _ _ ⟨he, hw⟩ => ⟨he, n, hw.symm⟩

set_option maxHeartbeats 16000000 in
set_option maxRecDepth 100000 in
theorem walk (Ab : Option Addr) (cb nb : Nat) (lb : List UInt8) (Al : Option Addr) (cl nl : Nat) (w : World)
    (hb : Rd w w.heap.size (.slice Ab nb cb) (u8s lb)) (hnb : nb = lb.length) (hnl : nl ≤ cl) (hcl : cl ≤ 9223372036854775807)
    (hl : ∀ k, k < nl → ∃ (ad : Addr) (z m : Int), Al = some ad ∧ ad.block < w.heap.size ∧ w.cell? (ad.add (k * 2)) = some (.int .i64 z) ∧ w.cell? (ad.add (k * 2 + 1)) = some (.int .i64 m) ∧
      -9223372036854775808 ≤ z ∧ z ≤ 9223372036854775807 ∧ -9223372036854775808 ≤ m ∧ m ≤ 9223372036854775807) :
    Calls Try.prog 4 #[.slice Ab nb cb, .slice Al nl cl] w fun e w' => e = .returned (.bool true) ∧ Below w.heap.size w w' := by
  by_cases k4 : 5000 < nb
  · clear hl
    go_enter Try.func4, Try.ntmps4
    go_wp2_with (go_at_call 6; refine (lives_any _).mono ?_; rintro e w1 ⟨rfl, hb1⟩)
    go_ret
    exact ⟨rfl, hb1⟩
  by_cases k5 : 500 < nl
  · clear hl
    go_enter Try.func4, Try.ntmps4
    go_wp2_with (go_at_call 6; refine (lives_any _).mono ?_; rintro e w1 ⟨rfl, hb1⟩)
    go_ret
    exact ⟨rfl, hb1⟩
  have HNB := Lib.hid hnb
  have HL := Lib.hid hl
  clear hnb hl
  go_enter Try.func4, Try.ntmps4
  go_wp2_with (first
    | (go_at_call 6; refine (lives_any _).mono ?_; rintro e w1 ⟨rfl, hb1⟩; have O := own_any Ab cb lb nb w1 ((hb.below hb1).more hb1.size) (by omega) HNB.out)
    | (go_at_call 8; refine O.mono ?_; rintro e w2 ⟨A2, c2, rfl, o2, hb2⟩; have b2 := hb1.trans (hb2.mono hb1.size); have N := new_any A2 c2 lb nb w2 (Rd.of_own o2) (by omega) HNB.out)
    | (go_at_call 22; refine N.mono ?_; rintro e w3 ⟨lo, r, rfl, g1, g2, h3, hb3⟩; have b3 := b2.trans (hb3.mono b2.size); have R := rnew_any Ab cb lb nb w3 ((hb.below b3).more b3.size) (by omega) HNB.out)
    | (go_at_call 23; refine R.mono ?_; rintro e w4 ⟨s, rfl, g3, h4, g4, hb4⟩; have b4 := b3.trans (hb4.mono b3.size); have p4 := h3.below hb4; have hr3 := h3.lt))
  have glo : w.heap.size ≤ lo := Nat.le_trans b2.size g1
  obtain ⟨lo2, Hlo2⟩ : ∃ lo2, Hid (lo2 = w3.heap.size) := ⟨_, Lib.hid rfl⟩
  rw [← Hlo2.out] at h4 g3 hr3
  clear O N R o2 hb1 hb2 hb3 hb4 b2 b3 h3 g4 g1
  go_loopw [7] (fun i wr => ∃ (k q : Nat) (l : List UInt8), k ≤ nl ∧ i = .int .i64 k ∧ Rdr wr lo r l q ∧ RefL wr lo2 s l q ∧ Below w.heap.size w wr) (fun i _ => nl - (intOf i).toNat)
  case atStart => exact ⟨0, 0, lb, Nat.zero_le _, rfl, p4, h4, b4⟩
  case round =>
    clear p4 h4 b4
    obtain ⟨k, q, l, hk, rfl, hp, hr, bel⟩ := hrel
    by_cases hlt : k < nl
    · obtain ⟨ad, z, m, rfl, hadb, hz, hmm, hz1, hz2, hm1, hm2⟩ := HL.out k hlt
      have hblk : ad.block < wr.heap.size := Nat.lt_of_lt_of_le hadb bel.size
      have hcz : wr.cell? (ad.add (k * 2)) = some (.int .i64 z) := (bel.cell (by rw [block_of_add']; exact hadb)).trans hz
      have hcm : wr.cell? (ad.add (k * 2 + 1)) = some (.int .i64 m) := (bel.cell (by rw [block_of_add']; exact hadb)).trans hmm
      have P := fun W => pick_any z 5 W hz1 hz2 (by omega) (by omega)
      have hp1 : 0 ≤ z % 5 := Int.emod_nonneg _ (by omega)
      have hp2 : z % 5 < 5 := Int.emod_lt_of_pos _ (by omega)
      generalize z % 5 = j at P hp1 hp2
      have hj : j = 0 ∨ j = 1 ∨ j = 2 ∨ j = 3 ∨ j = 4 := by omega
      clear hp1 hp2 hz1 hz2 hz hmm
      rcases hj with rfl | rfl | rfl | rfl | rfl
      · have N1 := fun (W : World) (h : Rdr W lo r l q) => number_read lo r q l W h
        have R1 := fun (W : World) (h : RefL W lo2 s l q) => rnum_read lo2 s q l W h
        generalize att numR maxU l q = a at N1 R1
        go_wp2_with (first
          | (go_at_call 24; refine (P _).mono ?_; rintro e w' ⟨rfl, rfl⟩)
          | (go_at_call 25; refine (N1 _ (by exact hp)).mono ?_; rintro e w5 ⟨rfl, p5, g5⟩; have r5 := RefL.kept hr g5 (by omega) g3)
          | (go_at_call 26; refine (R1 _ (by exact r5)).mono ?_; rintro e w6 ⟨rfl, r6, g6⟩; have p6 := p5.kept g6 (.inr (by omega)) g2))
        have hc2 := RefL.cell r6
        have b6 : Below w.heap.size w w6 := (bel.grown g5 bel.size (by intro j hj; injection hj; omega)).grown g6 (Nat.le_trans bel.size g5.size) (by intro j hj; injection hj; omega)
        go_quiet (first
          | (go_at_call 35; exact quiet_left' (left_read lo r _ _ (w6.drewN _) (by exact p6)))
          | (go_at_call 36; exact Calls.quiet_of (rleft_read lo2 s _ _ (w6.drewN _) (by exact r6)))
          | (go_at_call 37; exact quiet_left' (err_read lo r _ _ (w6.drewN _) (by exact p6)))
          | (go_at_call 38; exact quiet_left' (end_read lo r _ _ (w6.drewN _) (by exact p6)))
          | (go_at_call 39; exact Calls.quiet_of (rend_read lo2 s _ _ (w6.drewN _) (by exact r6))))
        go_wp2_with fail
        go_roundw
        case rel => exact ⟨k + 1, a.2.2, a.2.1, by omega, by go_num, p6, r6, below_drewN b6 _⟩
        case measure => simp [intOf]; omega
      · have N1 := fun (W : World) (h : Rdr W lo r l q) => signed_read lo r q l W h
        have R1 := fun (W : World) (h : RefL W lo2 s l q) => rsig_read lo2 s q l W h
        generalize att numR maxU l q = a at N1 R1
        go_wp2_with (first
          | (go_at_call 24; refine (P _).mono ?_; rintro e w' ⟨rfl, rfl⟩)
          | (go_at_call 27; refine (N1 _ (by exact hp)).mono ?_; rintro e w5 ⟨rfl, p5, g5⟩; have r5 := RefL.kept hr g5 (by omega) g3)
          | (go_at_call 28; refine (R1 _ (by exact r5)).mono ?_; rintro e w6 ⟨rfl, r6, g6⟩; have p6 := p5.kept g6 (.inr (by omega)) g2))
        have hc2 := RefL.cell r6
        have b6 : Below w.heap.size w w6 := (bel.grown g5 bel.size (by intro j hj; injection hj; omega)).grown g6 (Nat.le_trans bel.size g5.size) (by intro j hj; injection hj; omega)
        go_quiet (first
          | (go_at_call 35; exact quiet_left' (left_read lo r _ _ (w6.drewN _) (by exact p6)))
          | (go_at_call 36; exact Calls.quiet_of (rleft_read lo2 s _ _ (w6.drewN _) (by exact r6)))
          | (go_at_call 37; exact quiet_left' (err_read lo r _ _ (w6.drewN _) (by exact p6)))
          | (go_at_call 38; exact quiet_left' (end_read lo r _ _ (w6.drewN _) (by exact p6)))
          | (go_at_call 39; exact Calls.quiet_of (rend_read lo2 s _ _ (w6.drewN _) (by exact r6))))
        go_wp2_with fail
        go_roundw
        case rel => exact ⟨k + 1, a.2.2, a.2.1, by omega, by go_num, p6, r6, below_drewN b6 _⟩
        case measure => simp [intOf]; omega
      · have N1 := fun (W : World) (h : Rdr W lo r l q) => text_read lo r q l W h
        have R1 := fun (W : World) (h : RefL W lo2 s l q) => rtext_read lo2 s q l W h
        generalize att textR 1048576 l q = a at N1 R1
        go_wp2_with (first
          | (go_at_call 24; refine (P _).mono ?_; rintro e w' ⟨rfl, rfl⟩)
          | (go_at_call 29; refine (N1 _ (by exact hp)).mono ?_; rintro e w5 ⟨rfl, p5, g5⟩; have r5 := RefL.kept hr g5 (by omega) g3)
          | (go_at_call 30; refine (R1 _ (by exact r5)).mono ?_; rintro e w6 ⟨rfl, r6, g6⟩; have p6 := p5.kept g6 (.inr (by omega)) g2))
        have hc2 := RefL.cell r6
        have b6 : Below w.heap.size w w6 := (bel.grown g5 bel.size (by intro j hj; injection hj; omega)).grown g6 (Nat.le_trans bel.size g5.size) (by intro j hj; injection hj; omega)
        go_quiet (first
          | (go_at_call 35; exact quiet_left' (left_read lo r _ _ (w6.drewN _) (by exact p6)))
          | (go_at_call 36; exact Calls.quiet_of (rleft_read lo2 s _ _ (w6.drewN _) (by exact r6)))
          | (go_at_call 37; exact quiet_left' (err_read lo r _ _ (w6.drewN _) (by exact p6)))
          | (go_at_call 38; exact quiet_left' (end_read lo r _ _ (w6.drewN _) (by exact p6)))
          | (go_at_call 39; exact Calls.quiet_of (rend_read lo2 s _ _ (w6.drewN _) (by exact r6))))
        go_wp2_with fail
        go_roundw
        case rel => exact ⟨k + 1, a.2.2, a.2.1, by omega, by go_num, p6, r6, below_drewN b6 _⟩
        case measure => simp [intOf]; omega
      · have N1 := fun (W : World) (h : Rdr W lo r l q) => truth_read lo r q l W h
        have R1 := fun (W : World) (h : RefL W lo2 s l q) => rtruth_read lo2 s q l W h
        generalize att truthR 1 l q = a at N1 R1
        go_wp2_with (first
          | (go_at_call 24; refine (P _).mono ?_; rintro e w' ⟨rfl, rfl⟩)
          | (go_at_call 31; refine (N1 _ (by exact hp)).mono ?_; rintro e w5 ⟨rfl, p5, g5⟩; have r5 := RefL.kept hr g5 (by omega) g3)
          | (go_at_call 32; refine (R1 _ (by exact r5)).mono ?_; rintro e w6 ⟨rfl, r6, g6⟩; have p6 := p5.kept g6 (.inr (by omega)) g2))
        have hc2 := RefL.cell r6
        have b6 : Below w.heap.size w w6 := (bel.grown g5 bel.size (by intro j hj; injection hj; omega)).grown g6 (Nat.le_trans bel.size g5.size) (by intro j hj; injection hj; omega)
        go_quiet (first
          | (go_at_call 35; exact quiet_left' (left_read lo r _ _ (w6.drewN _) (by exact p6)))
          | (go_at_call 36; exact Calls.quiet_of (rleft_read lo2 s _ _ (w6.drewN _) (by exact r6)))
          | (go_at_call 37; exact quiet_left' (err_read lo r _ _ (w6.drewN _) (by exact p6)))
          | (go_at_call 38; exact quiet_left' (end_read lo r _ _ (w6.drewN _) (by exact p6)))
          | (go_at_call 39; exact Calls.quiet_of (rend_read lo2 s _ _ (w6.drewN _) (by exact r6))))
        go_wp2_with fail
        go_roundw
        case rel => exact ⟨k + 1, a.2.2, a.2.1, by omega, by go_num, p6, r6, below_drewN b6 _⟩
        case measure => simp [intOf]; omega
      · have N1 := fun (W : World) (h : Rdr W lo r l q) => count_read m lo r q l W h hm1 hm2
        have R1 := fun (W : World) (h : RefL W lo2 s l q) => rcount_read m lo2 s q l W h hm1 hm2
        generalize att numR (mostN m) l q = a at N1 R1
        have hcm2 : wr.cell? ⟨(ad.add (k * 2)).block, (ad.add (k * 2)).off + 1, none⟩ = some (.int .i64 m) := by
          have h := hcm
          rw [← add_of_add'] at h
          exact h
        have HB : Hid ((⟨(ad.add (k * 2)).block, (ad.add (k * 2)).off + 1, none⟩ : Addr).block < wr.heap.size) := Lib.hid (by show (ad.add (k * 2)).block < _; rw [block_of_add']; exact hblk)
        have HR : Hid (some (⟨(ad.add (k * 2)).block, (ad.add (k * 2)).off + 1, none⟩ : Addr).block ≠ some r) := Lib.hid (by show some (ad.add (k * 2)).block ≠ _; rw [block_of_add']; simp; omega)
        have HR2 : Hid (some (⟨(ad.add (k * 2)).block, (ad.add (k * 2)).off + 1, none⟩ : Addr).block ≠ some s) := Lib.hid (by show some (ad.add (k * 2)).block ≠ _; rw [block_of_add']; simp; omega)
        go_wp2_with (first | (go_at_call 24; refine (P _).mono ?_; rintro e w' ⟨rfl, rfl⟩))
        go_region_held3 (fun w' => w'.cell? ⟨(ad.add (k * 2)).block, (ad.add (k * 2)).off + 1, none⟩ = some (.int .i64 m)) (first | assumption | exact hcm2) (first
          | (go_at_call 33; refine (N1 _ (by exact hp)).mono ?_; rintro e w5 ⟨rfl, p5, g5⟩; have hc5 : w5.cell? ⟨(ad.add (k * 2)).block, (ad.add (k * 2)).off + 1, none⟩ = some (.int .i64 m) := Eq.trans (World.cell?_of_block (a := ⟨(ad.add (k * 2)).block, (ad.add (k * 2)).off + 1, none⟩) (g5.block _ HB.out HR.out)) hcm2; have r5 := RefL.kept (w := wr.drew) hr g5 (by omega) g3)
          | (go_at_call 34; refine (R1 _ (by exact r5)).mono ?_; rintro e w6 ⟨rfl, r6, g6⟩; have p6 := p5.kept g6 (.inr (by omega)) g2; have hc6 : w6.cell? ⟨(ad.add (k * 2)).block, (ad.add (k * 2)).off + 1, none⟩ = some (.int .i64 m) := Eq.trans (World.cell?_of_block (a := ⟨(ad.add (k * 2)).block, (ad.add (k * 2)).off + 1, none⟩) (g6.block _ (Nat.lt_of_lt_of_le HB.out g5.size) HR2.out)) hc5))
        go_wp2_with fail
        have hc2 := RefL.cell r6
        have b6 : Below w.heap.size w w6 := (bel.drew.grown g5 bel.size (by intro j hj; injection hj; omega)).grown g6 (Nat.le_trans bel.size g5.size) (by intro j hj; injection hj; omega)
        go_quiet (first
          | (go_at_call 35; exact quiet_left' (left_read lo r _ _ (w6.drewN _) (by exact p6)))
          | (go_at_call 36; exact Calls.quiet_of (rleft_read lo2 s _ _ (w6.drewN _) (by exact r6)))
          | (go_at_call 37; exact quiet_left' (err_read lo r _ _ (w6.drewN _) (by exact p6)))
          | (go_at_call 38; exact quiet_left' (end_read lo r _ _ (w6.drewN _) (by exact p6)))
          | (go_at_call 39; exact Calls.quiet_of (rend_read lo2 s _ _ (w6.drewN _) (by exact r6))))
        go_wp2_with fail
        go_roundw
        case rel => exact ⟨k + 1, a.2.2, a.2.1, by omega, by go_num, p6, r6, below_drewN b6 _⟩
        case measure => simp [intOf]; omega
    · obtain rfl : k = nl := by omega
      have E1 := fun (W : World) (h : Rdr W lo r l q) => end_read lo r q l W h
      have E2 := fun (W : World) (h : RefL W lo2 s l q) => rend_read lo2 s q l W h
      go_wp2_with (first
        | (go_at_call 38; refine (E1 _ (by exact hp)).mono ?_; rintro e w' ⟨rfl, rfl⟩)
        | (go_at_call 39; refine (E2 _ (by exact hr)).mono ?_; rintro e w' ⟨rfl, kk, rfl⟩))
      go_ret
      exact ⟨rfl, below_drewN bel _⟩
end Go.Proofs.Ytbllafhfofnijaa.wireReads
