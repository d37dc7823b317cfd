/- number.Read, and the document's own: the same. -/
import Derived.Test.YtfdgajfpmeaieaaNbA
import Derived.Test.YtfdgajfpmeaieaaGrA
namespace Go.Proofs.Ytfdgajfpmeaieaa
open Go.RowKit

theorem below_drewK {B : Nat} {w w' : World} (h : Below B w w') (k : Nat) : Below B w (w'.drewN k) := ⟨h.1, h.2, h.3, h.4, h.5⟩
theorem readV_over (l : List UInt8) (q : Nat) (h : (att truthR 1 l q).1.1 = 1) : readV l q = ((0, if (att truthR 1 l q).2.2 ≠ 0 then false else true, (att truthR 1 l q).2.2 == 0), (att truthR 1 l q).2) := by
  simp [readV, h]
theorem readV_num (l : List UInt8) (q : Nat) (h : ¬ (att truthR 1 l q).1.1 = 1) : readV l q =
    ((if (att numR maxU (att truthR 1 l q).2.1 (att truthR 1 l q).2.2).2.2 ≠ 0 then 0 else unfoldN (att numR maxU (att truthR 1 l q).2.1 (att truthR 1 l q).2.2).1.1, false, (att numR maxU (att truthR 1 l q).2.1 (att truthR 1 l q).2.2).2.2 == 0),
      (att numR maxU (att truthR 1 l q).2.1 (att truthR 1 l q).2.2).2) := by
  simp [readV, h]

theorem Rdr.belowB {w w' : World} {lo r q B : Nat} {l : List UInt8} (h : Rdr w lo r l q) (hb : Below B w w') (hB : r + 1 < B) : Rdr w' lo r l q := by
  obtain ⟨A, n, c, hn, hl, h1, h2, hr⟩ := h
  exact ⟨A, n, c, hn, hl, (hb.block r (by omega)).trans h1, (hb.block (r + 1) hB).trans h2, hr.below (hb.mono (by omega))⟩
theorem RefL.belowB {w w' : World} {lo s q B : Nat} {l : List UInt8} (h : RefL w lo s l q) (hb : Below B w w') (hB : s < B) : RefL w' lo s l q := by
  obtain ⟨b, i, rfl, A, n, c, hn, hi, hm, hl, h1, hr⟩ := h
  exact ⟨b, i, rfl, A, n, c, hn, hi, hm, hl, (hb.block s hB).trans h1, hr.below (hb.mono (by omega))⟩
theorem RefL.lt {w : World} {lo s q : Nat} {l : List UInt8} (h : RefL w lo s l q) : s < w.heap.size := by
  obtain ⟨b, i, rfl, A, n, c, hn, hi, hm, hl, h1, hr⟩ := h
  exact (Array.getElem?_eq_some_iff.1 h1).1
theorem RefL.cell {w : World} {lo s q : Nat} {l : List UInt8} (h : RefL w lo s l q) : w.cell? ⟨s, 2, none⟩ = some (.int .i64 (q : Int)) := by
  obtain ⟨b, i, rfl, A, n, c, hn, hi, hm, hl, h1, hr⟩ := h
  exact (cell_of_row w s 2 _ _ _ h1).trans rfl

/-- What was laid before a call lies there behind it. -/
theorem laid_kept {w w1 : World} {r : Nat} {cs : Array Value} {t : TypeId} (hg : (w.alloc (.cells cs t)).grownBy w1 (some r)) (hr : r < w.heap.size) : w1.heap[w.heap.size]? = some (.cells cs t (0, 0)) ∧ w.heap.size < w1.heap.size :=
  ⟨(hg.block w.heap.size (by simp) (by simp; omega)).trans (heap_alloc_new w _), by have := hg.size; simp at this; omega⟩
theorem grown_two {w w1 W : World} {r : Nat} {o : Obj} (hg : (w.alloc o).grownBy w1 (some r)) (hb : Below w.heap.size w1 W) : w.grownBy W (some r) :=
  ⟨hb.os.trans (hg.os.trans rfl), hb.tape.trans (hg.tape.trans rfl), hb.output.trans (hg.output.trans rfl), Nat.le_trans (by have := hg.size; simp at this; omega) hb.size,
    fun k hk hne => (hb.block k hk).trans ((hg.block k (by simp; omega) hne).trans (((Below.refl w.heap.size w).alloc (Nat.le_refl _) o).block k hk))⟩
theorem grown_over {w w1 w3 : World} {r : Nat} {o : Obj} (hg : w.grownBy w1 (some r)) (hg3 : (w1.alloc o).grownBy w3 (some r)) : w.grownBy w3 (some r) :=
  ⟨hg3.os.trans hg.os, hg3.tape.trans hg.tape, hg3.output.trans hg.output, Nat.le_trans hg.size (by have := hg3.size; simp at this; omega),
    fun k hk hne => (hg3.block k (by have := hg.size; simp; omega) hne).trans ((((Below.refl w1.heap.size w1).alloc (Nat.le_refl _) o).block k (by have := hg.size; omega)).trans (hg.block k hk hne))⟩

set_option maxRecDepth 20000 in
set_option maxHeartbeats 2000000 in
theorem nread_any (lo r q : Nat) (l : List UInt8) (w : World) (h : Rdr w lo r l q) :
    Calls Try.prog 30 #[.pointer (some ⟨r, 0, none⟩)] w fun e w' => e = .returned (.tuple #[.agg #[.int .i64 (readV l q).1.1, .bool (readV l q).1.2.1], .bool (readV l q).1.2.2]) ∧ Rdr w' lo r (readV l q).2.1 (readV l q).2.2 ∧ w.grownBy w' (some r) := by
  have hr1 : r < w.heap.size := by have := h.lt; omega
  have hr2 := h.lt
  have hA : Rdr (w.alloc (.cells #[.int .i64 0, .bool false] 23)) lo r l q := Rdr.belowB h ((Below.refl w.heap.size w).alloc (Nat.le_refl _) _) hr2
  have T := truth_read lo r q l _ hA
  clear h hA
  by_cases h1 : (att truthR 1 l q).1.1 = 1
  · rw [readV_over l q h1]
    have hb : ((att truthR 1 l q).1.1 == 1) = true := by rw [h1]; rfl
    rw [hb] at T
    generalize (att truthR 1 l q).2 = st at T
    obtain ⟨l2, q2⟩ := st
    clear hb h1
    simp only at T ⊢
    go_enter Try.func30, Try.ntmps30
    go_wp2_with fail
    refine T.mono ?_
    rintro e w1 ⟨rfl, p1, g1⟩
    obtain ⟨hh, hz⟩ := laid_kept g1 hr1
    have c20 : w1.cell? ⟨w.heap.size, 0, none⟩ = some (.int .i64 0) := (cell_of_row w1 w.heap.size 0 _ _ _ hh).trans rfl
    have c21 : w1.cell? ⟨w.heap.size, 1, none⟩ = some (.bool false) := (cell_of_row w1 w.heap.size 1 _ _ _ hh).trans rfl
    have f20 := frozen_of_row w1 w.heap.size 0 _ _ hh
    have f21 := frozen_of_row w1 w.heap.size 1 _ _ hh
    clear hh T
    by_cases hq : q2 = 0
    · subst hq
      go_wp2_with fail
      refine (err_read lo r _ l2 _ (by exact Rdr.belowB p1 ((by repeat (first | exact Below.refl _ _ | assumption | refine Below.drew ?_ | refine below_drewK ?_ _ | refine Below.setCell ?_ (by first | omega | (simp; done) | (simp; omega)) _ | refine Below.alloc ?_ (by first | omega | (simp; done) | (simp; omega)) _)) : Below w.heap.size w1 _) hr2)).mono ?_
      rintro e w' ⟨rfl, rfl⟩
      go_wp2_with fail
      exact bodyPost_ret (v := .tuple #[.agg #[.int .i64 0, .bool true], .bool true]) (by simp [results, Try.results30, go_sem, World.cell?_alloc_past, *]) rfl ⟨by simp, Rdr.belowB p1 ((by repeat (first | exact Below.refl _ _ | assumption | refine Below.drew ?_ | refine below_drewK ?_ _ | refine Below.setCell ?_ (by first | omega | (simp; done) | (simp; omega)) _ | refine Below.alloc ?_ (by first | omega | (simp; done) | (simp; omega)) _)) : Below w.heap.size w1 _) hr2, grown_two g1 (by repeat (first | exact Below.refl _ _ | assumption | refine Below.drew ?_ | refine below_drewK ?_ _ | refine Below.setCell ?_ (by first | omega | (simp; done) | (simp; omega)) _ | refine Below.alloc ?_ (by first | omega | (simp; done) | (simp; omega)) _))⟩
    · have hqB : ((q2 : Int) != 0) = true := by simp; omega
      go_wp2_with fail
      refine (err_read lo r _ l2 _ (by exact Rdr.belowB p1 ((by repeat (first | exact Below.refl _ _ | assumption | refine Below.drew ?_ | refine below_drewK ?_ _ | refine Below.setCell ?_ (by first | omega | (simp; done) | (simp; omega)) _ | refine Below.alloc ?_ (by first | omega | (simp; done) | (simp; omega)) _)) : Below w.heap.size w1 _) hr2)).mono ?_
      rintro e w' ⟨rfl, rfl⟩
      go_wp2_with fail
      exact bodyPost_ret (v := .tuple #[.agg #[.int .i64 0, .bool false], .bool false]) (by simp [results, Try.results30, go_sem, World.cell?_alloc_past, *]) rfl ⟨by simp [hq], Rdr.belowB p1 ((by repeat (first | exact Below.refl _ _ | assumption | refine Below.drew ?_ | refine below_drewK ?_ _ | refine Below.setCell ?_ (by first | omega | (simp; done) | (simp; omega)) _ | refine Below.alloc ?_ (by first | omega | (simp; done) | (simp; omega)) _)) : Below w.heap.size w1 _) hr2, grown_two g1 (by repeat (first | exact Below.refl _ _ | assumption | refine Below.drew ?_ | refine below_drewK ?_ _ | refine Below.setCell ?_ (by first | omega | (simp; done) | (simp; omega)) _ | refine Below.alloc ?_ (by first | omega | (simp; done) | (simp; omega)) _))⟩
  · rw [readV_num l q h1]
    have hb : ((att truthR 1 l q).1.1 == 1) = false := by simpa using h1
    rw [hb] at T
    generalize (att truthR 1 l q).2 = st at T
    obtain ⟨l1, q1⟩ := st
    clear hb h1
    simp only at T ⊢
    have S := fun (W : World) (h : Rdr W lo r l1 q1) => signed_read lo r q1 l1 W h
    generalize att numR maxU l1 q1 = a at S
    obtain ⟨a0, ⟨l2, q2⟩⟩ := a
    simp only at S ⊢
    generalize unfoldN a0.1 = N at S
    go_enter Try.func30, Try.ntmps30
    go_wp2_with fail
    refine T.mono ?_
    rintro e w1 ⟨rfl, p1, g1⟩
    obtain ⟨hh, hz⟩ := laid_kept g1 hr1
    have pA : Rdr (w1.alloc (.cells #[.int .i64 0, .bool false] 23)) lo r l1 q1 := Rdr.belowB p1 ((Below.refl w.heap.size w1).alloc (by omega) _) hr2
    go_wp2_with fail
    refine (S _ pA).mono ?_
    rintro e w3 ⟨rfl, p3, g3⟩
    obtain ⟨hh4, hz4⟩ := laid_kept g3 (by omega)
    have hh2 : w3.heap[w.heap.size]? = some (.cells #[.int .i64 0, .bool false] 23 (0, 0)) := (g3.block w.heap.size (by simp; omega) (by simp; omega)).trans ((((Below.refl w1.heap.size w1).alloc (Nat.le_refl _) _).block w.heap.size hz).trans hh)
    have c20 : w3.cell? ⟨w.heap.size, 0, none⟩ = some (.int .i64 0) := (cell_of_row w3 w.heap.size 0 _ _ _ hh2).trans rfl
    have c21 : w3.cell? ⟨w.heap.size, 1, none⟩ = some (.bool false) := (cell_of_row w3 w.heap.size 1 _ _ _ hh2).trans rfl
    have f20 := frozen_of_row w3 w.heap.size 0 _ _ hh2
    have f21 := frozen_of_row w3 w.heap.size 1 _ _ hh2
    have c40 : w3.cell? ⟨w1.heap.size, 0, none⟩ = some (.int .i64 0) := (cell_of_row w3 w1.heap.size 0 _ _ _ hh4).trans rfl
    have c41 : w3.cell? ⟨w1.heap.size, 1, none⟩ = some (.bool false) := (cell_of_row w3 w1.heap.size 1 _ _ _ hh4).trans rfl
    have f40 := frozen_of_row w3 w1.heap.size 0 _ _ hh4
    have g13 : (w.alloc (.cells #[.int .i64 0, .bool false] 23)).grownBy w3 (some r) := grown_over g1 g3
    have hne24 : w.heap.size ≠ w1.heap.size := by omega
    clear hh hh2 hh4 T S pA g1 g3 p1
    by_cases hq : q2 = 0
    · subst hq
      go_wp2_with fail
      refine (err_read lo r _ l2 _ (by exact Rdr.belowB p3 ((by repeat (first | exact Below.refl _ _ | assumption | refine Below.drew ?_ | refine below_drewK ?_ _ | refine Below.setCell ?_ (by first | omega | (simp; done) | (simp; omega)) _ | refine Below.alloc ?_ (by first | omega | (simp; done) | (simp; omega)) _)) : Below w.heap.size w3 _) hr2)).mono ?_
      rintro e w' ⟨rfl, rfl⟩
      go_wp2_with fail
      exact bodyPost_ret (v := .tuple #[.agg #[.int .i64 N, .bool false], .bool true]) (by simp [results, Try.results30, go_sem, World.cell?_alloc_past, *]) rfl ⟨by simp, Rdr.belowB p3 ((by repeat (first | exact Below.refl _ _ | assumption | refine Below.drew ?_ | refine below_drewK ?_ _ | refine Below.setCell ?_ (by first | omega | (simp; done) | (simp; omega)) _ | refine Below.alloc ?_ (by first | omega | (simp; done) | (simp; omega)) _)) : Below w.heap.size w3 _) hr2, grown_two g13 (by repeat (first | exact Below.refl _ _ | assumption | refine Below.drew ?_ | refine below_drewK ?_ _ | refine Below.setCell ?_ (by first | omega | (simp; done) | (simp; omega)) _ | refine Below.alloc ?_ (by first | omega | (simp; done) | (simp; omega)) _))⟩
    · have hqB : ((q2 : Int) != 0) = true := by simp; omega
      go_wp2_with fail
      refine (err_read lo r _ l2 _ (by exact Rdr.belowB p3 ((by repeat (first | exact Below.refl _ _ | assumption | refine Below.drew ?_ | refine below_drewK ?_ _ | refine Below.setCell ?_ (by first | omega | (simp; done) | (simp; omega)) _ | refine Below.alloc ?_ (by first | omega | (simp; done) | (simp; omega)) _)) : Below w.heap.size w3 _) hr2)).mono ?_
      rintro e w' ⟨rfl, rfl⟩
      go_wp2_with fail
      exact bodyPost_ret (v := .tuple #[.agg #[.int .i64 0, .bool false], .bool false]) (by simp [results, Try.results30, go_sem, World.cell?_alloc_past, *]) rfl ⟨by simp [hq], Rdr.belowB p3 ((by repeat (first | exact Below.refl _ _ | assumption | refine Below.drew ?_ | refine below_drewK ?_ _ | refine Below.setCell ?_ (by first | omega | (simp; done) | (simp; omega)) _ | refine Below.alloc ?_ (by first | omega | (simp; done) | (simp; omega)) _)) : Below w.heap.size w3 _) hr2, grown_two g13 (by repeat (first | exact Below.refl _ _ | assumption | refine Below.drew ?_ | refine below_drewK ?_ _ | refine Below.setCell ?_ (by first | omega | (simp; done) | (simp; omega)) _ | refine Below.alloc ?_ (by first | omega | (simp; done) | (simp; omega)) _))⟩

set_option maxRecDepth 20000 in
set_option maxHeartbeats 2000000 in
theorem rread_any (lo s q : Nat) (l : List UInt8) (w : World) (h : RefL w lo s l q) :
    Calls Try.prog 31 #[.pointer (some ⟨s, 0, none⟩)] w fun e w' => e = .returned (.tuple #[.agg #[.int .i64 (readV l q).1.1, .bool (readV l q).1.2.1], .bool (readV l q).1.2.2]) ∧ RefL w' lo s (readV l q).2.1 (readV l q).2.2 ∧ w.grownBy w' (some s) := by
  have hr1 := RefL.lt h
  have hA : RefL (w.alloc (.cells #[.int .i64 0, .bool false] 23)) lo s l q := RefL.belowB h ((Below.refl w.heap.size w).alloc (Nat.le_refl _) _) hr1
  have T := rtruth_read lo s q l _ hA
  clear h hA
  by_cases h1 : (att truthR 1 l q).1.1 = 1
  · rw [readV_over l q h1]
    have hb : ((att truthR 1 l q).1.1 == 1) = true := by rw [h1]; rfl
    rw [hb] at T
    generalize (att truthR 1 l q).2 = st at T
    obtain ⟨l2, q2⟩ := st
    clear hb h1
    simp only at T ⊢
    go_enter Try.func31, Try.ntmps31
    go_wp2_with fail
    refine T.mono ?_
    rintro e w1 ⟨rfl, p1, g1⟩
    obtain ⟨hh, hz⟩ := laid_kept g1 hr1
    have c20 : w1.cell? ⟨w.heap.size, 0, none⟩ = some (.int .i64 0) := (cell_of_row w1 w.heap.size 0 _ _ _ hh).trans rfl
    have c21 : w1.cell? ⟨w.heap.size, 1, none⟩ = some (.bool false) := (cell_of_row w1 w.heap.size 1 _ _ _ hh).trans rfl
    have f20 := frozen_of_row w1 w.heap.size 0 _ _ hh
    have f21 := frozen_of_row w1 w.heap.size 1 _ _ hh
    have cs2 := RefL.cell p1
    have hs1 := RefL.lt p1
    clear hh T
    by_cases hq : q2 = 0
    · subst hq
      go_wp2_with fail
      exact bodyPost_ret (v := .tuple #[.agg #[.int .i64 0, .bool true], .bool true]) (by simp [results, Try.results31, go_sem, World.cell?_alloc_past, *]) rfl ⟨by simp, RefL.belowB p1 ((by repeat (first | exact Below.refl _ _ | assumption | refine Below.drew ?_ | refine below_drewK ?_ _ | refine Below.setCell ?_ (by first | omega | (simp; done) | (simp; omega)) _ | refine Below.alloc ?_ (by first | omega | (simp; done) | (simp; omega)) _)) : Below w.heap.size w1 _) hr1, grown_two g1 (by repeat (first | exact Below.refl _ _ | assumption | refine Below.drew ?_ | refine below_drewK ?_ _ | refine Below.setCell ?_ (by first | omega | (simp; done) | (simp; omega)) _ | refine Below.alloc ?_ (by first | omega | (simp; done) | (simp; omega)) _))⟩
    · have hqB : ((q2 : Int) != 0) = true := by simp; omega
      go_wp2_with fail
      exact bodyPost_ret (v := .tuple #[.agg #[.int .i64 0, .bool false], .bool false]) (by simp [results, Try.results31, go_sem, World.cell?_alloc_past, *]) rfl ⟨by simp [hq], RefL.belowB p1 ((by repeat (first | exact Below.refl _ _ | assumption | refine Below.drew ?_ | refine below_drewK ?_ _ | refine Below.setCell ?_ (by first | omega | (simp; done) | (simp; omega)) _ | refine Below.alloc ?_ (by first | omega | (simp; done) | (simp; omega)) _)) : Below w.heap.size w1 _) hr1, grown_two g1 (by repeat (first | exact Below.refl _ _ | assumption | refine Below.drew ?_ | refine below_drewK ?_ _ | refine Below.setCell ?_ (by first | omega | (simp; done) | (simp; omega)) _ | refine Below.alloc ?_ (by first | omega | (simp; done) | (simp; omega)) _))⟩
  · rw [readV_num l q h1]
    have hb : ((att truthR 1 l q).1.1 == 1) = false := by simpa using h1
    rw [hb] at T
    generalize (att truthR 1 l q).2 = st at T
    obtain ⟨l1, q1⟩ := st
    clear hb h1
    simp only at T ⊢
    have S := fun (W : World) (h : RefL W lo s l1 q1) => rsig_read lo s q1 l1 W h
    generalize att numR maxU l1 q1 = a at S
    obtain ⟨a0, ⟨l2, q2⟩⟩ := a
    simp only at S ⊢
    generalize unfoldN a0.1 = N at S
    go_enter Try.func31, Try.ntmps31
    go_wp2_with fail
    refine T.mono ?_
    rintro e w1 ⟨rfl, p1, g1⟩
    obtain ⟨hh, hz⟩ := laid_kept g1 hr1
    have pA : RefL (w1.alloc (.cells #[.int .i64 0, .bool false] 23)) lo s l1 q1 := RefL.belowB p1 ((Below.refl w.heap.size w1).alloc (by omega) _) hr1
    go_wp2_with fail
    refine (S _ pA).mono ?_
    rintro e w3 ⟨rfl, p3, g3⟩
    obtain ⟨hh4, hz4⟩ := laid_kept g3 (by omega)
    have hh2 : w3.heap[w.heap.size]? = some (.cells #[.int .i64 0, .bool false] 23 (0, 0)) := (g3.block w.heap.size (by simp; omega) (by simp; omega)).trans ((((Below.refl w1.heap.size w1).alloc (Nat.le_refl _) _).block w.heap.size hz).trans hh)
    have c20 : w3.cell? ⟨w.heap.size, 0, none⟩ = some (.int .i64 0) := (cell_of_row w3 w.heap.size 0 _ _ _ hh2).trans rfl
    have c21 : w3.cell? ⟨w.heap.size, 1, none⟩ = some (.bool false) := (cell_of_row w3 w.heap.size 1 _ _ _ hh2).trans rfl
    have f20 := frozen_of_row w3 w.heap.size 0 _ _ hh2
    have f21 := frozen_of_row w3 w.heap.size 1 _ _ hh2
    have c40 : w3.cell? ⟨w1.heap.size, 0, none⟩ = some (.int .i64 0) := (cell_of_row w3 w1.heap.size 0 _ _ _ hh4).trans rfl
    have c41 : w3.cell? ⟨w1.heap.size, 1, none⟩ = some (.bool false) := (cell_of_row w3 w1.heap.size 1 _ _ _ hh4).trans rfl
    have f40 := frozen_of_row w3 w1.heap.size 0 _ _ hh4
    have g13 : (w.alloc (.cells #[.int .i64 0, .bool false] 23)).grownBy w3 (some s) := grown_over g1 g3
    have hne24 : w.heap.size ≠ w1.heap.size := by omega
    have cs2 := RefL.cell p3
    have hs1 := RefL.lt p3
    clear hh hh2 hh4 T S pA g1 g3 p1
    by_cases hq : q2 = 0
    · subst hq
      go_wp2_with fail
      exact bodyPost_ret (v := .tuple #[.agg #[.int .i64 N, .bool false], .bool true]) (by simp [results, Try.results31, go_sem, World.cell?_alloc_past, *]) rfl ⟨by simp, RefL.belowB p3 ((by repeat (first | exact Below.refl _ _ | assumption | refine Below.drew ?_ | refine below_drewK ?_ _ | refine Below.setCell ?_ (by first | omega | (simp; done) | (simp; omega)) _ | refine Below.alloc ?_ (by first | omega | (simp; done) | (simp; omega)) _)) : Below w.heap.size w3 _) hr1, grown_two g13 (by repeat (first | exact Below.refl _ _ | assumption | refine Below.drew ?_ | refine below_drewK ?_ _ | refine Below.setCell ?_ (by first | omega | (simp; done) | (simp; omega)) _ | refine Below.alloc ?_ (by first | omega | (simp; done) | (simp; omega)) _))⟩
    · have hqB : ((q2 : Int) != 0) = true := by simp; omega
      go_wp2_with fail
      exact bodyPost_ret (v := .tuple #[.agg #[.int .i64 0, .bool false], .bool false]) (by simp [results, Try.results31, go_sem, World.cell?_alloc_past, *]) rfl ⟨by simp [hq], RefL.belowB p3 ((by repeat (first | exact Below.refl _ _ | assumption | refine Below.drew ?_ | refine below_drewK ?_ _ | refine Below.setCell ?_ (by first | omega | (simp; done) | (simp; omega)) _ | refine Below.alloc ?_ (by first | omega | (simp; done) | (simp; omega)) _)) : Below w.heap.size w3 _) hr1, grown_two g13 (by repeat (first | exact Below.refl _ _ | assumption | refine Below.drew ?_ | refine below_drewK ?_ _ | refine Below.setCell ?_ (by first | omega | (simp; done) | (simp; omega)) _ | refine Below.alloc ?_ (by first | omega | (simp; done) | (simp; omega)) _))⟩
end Go.Proofs.Ytfdgajfpmeaieaa
