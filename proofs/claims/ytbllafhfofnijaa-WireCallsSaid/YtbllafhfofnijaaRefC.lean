/- The document's own Unframe (waterwheelref01). -/
import Derived.Test.YtbllafhfofnijaaRefB
namespace Go.Proofs.Ytbllafhfofnijaa
open Go.RowKit

theorem below_drewN {B : Nat} {w w' : World} (h : Below B w w') (k : Nat) : Below B w (w'.drewN k) := ⟨h.1, h.2, h.3, h.4, h.5⟩

theorem runframe_short (A : Option Addr) (c n : Nat) (l : List UInt8) (w : World) (hn : n = l.length) (h4 : n < 4) :
    Calls Try.prog 13 #[.slice A n c] w (UnMade w (unR l)) := by
  have HU : Hid (unR l = ([], 0, 5)) := Lib.hid (by rw [unR, if_pos (by omega)])
  clear hn
  go_enter Try.func13, Try.ntmps13
  go_wp2_with fail
  go_ret3
  exact UnMade.fail HU.out (Below.refl _ _)

set_option maxHeartbeats 8000000 in
theorem runframe_long (ad : Addr) (c n : Nat) (l : List UInt8) (w : World) (hr : Rd w w.heap.size (.slice (some ad) n c) (u8s l)) (hn : n = l.length) (h4 : ¬ n < 4) (hl : n ≤ 1000000000) (hnc : n ≤ c) (hmx : c ≤ 9223372036854775807) :
    Calls Try.prog 13 #[.slice (some ad) n c] w (UnMade w (unR l)) := by
  obtain ⟨i0, hi, hy0, hy1, hy2⟩ := info_parts info_u8
  have V1 := fun (W : World) (h : Rd W w.heap.size (.slice (some ad) n c) (u8s l)) => rtold_any (some ad) c n w.heap.size l W h hn (by omega)
  obtain ⟨z, Hz⟩ : ∃ z, Hid (z = valN (l.take 4)) := ⟨_, Lib.hid rfl⟩
  have hz32 : z < 4294967296 := by
    have h := valN_lt (l.take 4)
    rw [List.length_take, Nat.min_eq_left (by omega), ← Hz.out] at h
    exact h
  have HU : Hid (unR l = if 4194304 < z then ([], 0, 4) else if n < 8 + z then ([], 0, 5) else if sumN (l.take 4 ++ (l.take (8 + z)).drop 8) ≠ valN ((l.take 8).drop 4) then ([], 0, 4) else ((l.take (8 + z)).drop 8, 8 + z, 0)) :=
    Lib.hid (by rw [unR, if_neg (by omega), ← Hz.out, ← hn])
  rw [← Hz.out] at V1
  by_cases hz : 4194304 < z
  · have HR : Hid (unR l = ([], 0, 4)) := Lib.hid (by rw [HU.out, if_pos hz])
    clear HU hn
    go_enter Try.func13, Try.ntmps13
    go_wp2_with (go_at_call 45; refine (V1 _ (by exact hr)).mono ?_; rintro e w' ⟨rfl, _, rfl⟩)
    go_ret3
    exact UnMade.fail HR.out (below_drewN (Below.refl _ _) _)
  by_cases hz2 : n < 8 + z
  · have HR : Hid (unR l = ([], 0, 5)) := Lib.hid (by rw [HU.out, if_neg hz, if_pos hz2])
    clear HU hn
    by_cases h8 : n < 8
    · go_enter Try.func13, Try.ntmps13
      go_wp2_with (go_at_call 45; refine (V1 _ (by exact hr)).mono ?_; rintro e w' ⟨rfl, _, rfl⟩)
      go_ret3
      exact UnMade.fail HR.out (below_drewN (Below.refl _ _) _)
    · go_enter Try.func13, Try.ntmps13
      go_wp2_with (go_at_call 45; refine (V1 _ (by exact hr)).mono ?_; rintro e w' ⟨rfl, _, rfl⟩)
      go_ret3
      exact UnMade.fail HR.out (below_drewN (Below.refl _ _) _)
  have c4' := (hr.cut (i := 4) hn (by omega))
  rw [if_neg (by omega), Option.map_some] at c4'
  have c4 : Rd w w.heap.size (.slice (some ⟨ad.block, ad.off + 4, none⟩) (n - 4) (c - 4)) (u8s (l.drop 4)) := c4'
  clear c4'
  have e48 : (l.drop 4).take 4 = (l.take 8).drop 4 := by rw [List.take_drop]
  have c8 := (hr.cut (i := 8) hn (by omega)).cutTo (i := z) (by rw [List.length_drop, hn]) (by omega)
  have e8z : (l.drop 8).take z = (l.take (8 + z)).drop 8 := by rw [List.take_drop]
  rw [e8z] at c8
  have l8z : ((l.take (8 + z)).drop 8).length = z := by rw [List.length_drop, List.length_take]; omega
  have ct := hr.cutTo (i := 4) hn (by omega)
  have V4 := fun (W : World) (h : Rd W w.heap.size (.slice (some ⟨ad.block, ad.off + 4, none⟩) (n - 4) (c - 4)) (u8s (l.drop 4))) => rtold_any (some ⟨ad.block, ad.off + 4, none⟩) (c - 4) (n - 4) w.heap.size (l.drop 4) W h (by rw [List.length_drop, hn]) (by omega)
  rw [e48] at V4
  have hV32 : valN ((l.take 8).drop 4) < 4294967296 := by
    have h := valN_lt ((l.take 8).drop 4)
    rw [List.length_drop, List.length_take, Nat.min_eq_left (by omega)] at h
    exact h
  generalize hI : (l.take (8 + z)).drop 8 = I at *
  generalize hH : l.take 4 = H at *
  generalize hS : (l.take 8).drop 4 = S4 at *
  generalize hD : l.drop 4 = D4 at *
  have hzI := Lib.hid l8z
  clear hI hH hS hD e48 e8z l8z hn Hz
  obtain ⟨Sv, HSv⟩ : ∃ Sv, Hid (Sv = sumN (H ++ I)) := ⟨_, Lib.hid rfl⟩
  obtain ⟨Vv, HVv⟩ : ∃ Vv, Hid (Vv = valN S4) := ⟨_, Lib.hid rfl⟩
  have hsv : Sv < 4294967296 := by rw [HSv.out]; exact sumN_lt _
  rw [← HVv.out] at V4 hV32
  have HR1 : Hid (Sv ≠ Vv → unR l = ([], 0, 4)) := Lib.hid fun h => by rw [HU.out, if_neg hz, if_neg hz2, ← HSv.out, ← HVv.out, if_pos h]
  have HR2 : Hid (Sv = Vv → unR l = (I, 8 + z, 0)) := Lib.hid fun h => by rw [HU.out, if_neg hz, if_neg hz2, ← HSv.out, ← HVv.out, if_neg (by simpa using h)]
  clear HU
  by_cases hc8 : c = 8
  · subst hc8
    obtain rfl : z = 0 := by omega
    obtain rfl : n = 8 := by omega
    rw [if_pos rfl, Nat.sub_self] at c8
    have hR2 := rdAll2 (ct.alloc (Nat.le_refl _) (.cells #[.slice (some ad) 4 8, .slice (some ad) 0 0] 22)) (c8.alloc (Nat.le_refl _) (.cells #[.slice (some ad) 4 8, .slice (some ad) 0 0] 22))
    have hR1 := Rd.new w 22 #[.slice (some ad) 4 8, .slice (some ad) 0 0] 2 rfl (by simp [maxLen])
    have hR3 := hR2.more (show w.heap.size ≤ w.heap.size + 1 by omega)
    have b0 := (Below.refl w.heap.size w).alloc (Nat.le_refl _) (.cells #[.slice (some ad) 4 8, .slice (some ad) 0 0] 22)
    have c4a := c4.alloc (Nat.le_refl _) (.cells #[.slice (some ad) 4 8, .slice (some ad) 0 0] 22)
    have SM := fun (W : World) (h1 : Rd W (w.heap.size + 1) (.slice (some ⟨w.heap.size, 0, none⟩) 2 2) [.slice (some ad) 4 8, .slice (some ad) 0 0]) (h2 : RdAll W (w.heap.size + 1) [.slice (some ad) 4 8, .slice (some ad) 0 0] [H, I]) => rsum_any (some ⟨w.heap.size, 0, none⟩) 2 (w.heap.size + 1) [.slice (some ad) 4 8, .slice (some ad) 0 0] [H, I] W h1 h2 (by simp)
    simp only [List.flatten_cons, List.flatten_nil, List.append_nil] at SM
    rw [← HSv.out] at SM
    clear hR2 ct
    go_enter Try.func13, Try.ntmps13
    go_wp2_with (go_at_call 45; refine (V1 _ (by exact hr)).mono ?_; rintro e w' ⟨rfl, _, rfl⟩)
    go_region_with (first
      | (go_at_call 21; refine (SM _ (by exact hR1) (by exact hR3)).mono ?_; rintro e w5 ⟨rfl, hw5⟩; have b5 : Below w.heap.size w w5 := hw5 ▸ ⟨b0.1, b0.2, b0.3, b0.4, b0.5⟩; have hs5 : w.heap.size + 1 ≤ w5.heap.size := hw5 ▸ (by simp); clear hw5)
      | (go_at_call 45; refine (V4 _ (by first | exact c4 | exact c4a)).mono ?_; rintro e w' ⟨rfl, _, rfl⟩))
    all_goals clear SM V4 V1 hr c4 c4a hR1 hR3 b0
    all_goals
      by_cases heq : Sv = Vv
      · have HR := Lib.hid (HR2.out heq)
        have hB : ((Vv : Int) != (Sv : Int)) = false := by rw [heq]; simp
        have hown := World.ownsRow_lit (base := w5.heap.size) (e := 5) (size := 1) w5 #[] 0 (Nat.le_refl _) (by simp [maxLen]) (by simp)
        have b6 := (Below.refl w5.heap.size w5).alloc (Nat.le_refl _) (.cells #[] 5)
        have hI0 : I = [] := List.eq_nil_of_length_eq_zero hzI.out
        have HI0 := Lib.hid hI0
        clear heq hI0
        go_wp2_with fail
        go_ret3
        exact UnMade.ok HR.out hzI.out (own_base (by rw [HI0.out]; exact hown) b5.size) (b5.trans (b6.mono b5.size))
      · have HR := Lib.hid (HR1.out heq)
        have hB : ((Vv : Int) != (Sv : Int)) = true := by simp; omega
        clear heq
        go_wp2_with fail
        go_ret3
        exact UnMade.fail HR.out b5
  · rw [if_neg hc8, Option.map_some] at c8
    have hc4 : ¬ c = 4 := by omega
    have hR2 := rdAll2 (ct.alloc (Nat.le_refl _) (.cells #[.slice (some ad) 4 c, .slice (some ⟨ad.block, ad.off + 8, none⟩) z (c - 8)] 22)) (c8.alloc (Nat.le_refl _) (.cells #[.slice (some ad) 4 c, .slice (some ⟨ad.block, ad.off + 8, none⟩) z (c - 8)] 22))
    have hR1 := Rd.new w 22 #[.slice (some ad) 4 c, .slice (some ⟨ad.block, ad.off + 8, none⟩) z (c - 8)] 2 rfl (by simp [maxLen])
    have hR3 := hR2.more (show w.heap.size ≤ w.heap.size + 1 by omega)
    have b0 := (Below.refl w.heap.size w).alloc (Nat.le_refl _) (.cells #[.slice (some ad) 4 c, .slice (some ⟨ad.block, ad.off + 8, none⟩) z (c - 8)] 22)
    have c4a := c4.alloc (Nat.le_refl _) (.cells #[.slice (some ad) 4 c, .slice (some ⟨ad.block, ad.off + 8, none⟩) z (c - 8)] 22)
    have SM := fun (W : World) (h1 : Rd W (w.heap.size + 1) (.slice (some ⟨w.heap.size, 0, none⟩) 2 2) [.slice (some ad) 4 c, .slice (some ⟨ad.block, ad.off + 8, none⟩) z (c - 8)]) (h2 : RdAll W (w.heap.size + 1) [.slice (some ad) 4 c, .slice (some ⟨ad.block, ad.off + 8, none⟩) z (c - 8)] [H, I]) => rsum_any (some ⟨w.heap.size, 0, none⟩) 2 (w.heap.size + 1) [.slice (some ad) 4 c, .slice (some ⟨ad.block, ad.off + 8, none⟩) z (c - 8)] [H, I] W h1 h2 (by simp)
    simp only [List.flatten_cons, List.flatten_nil, List.append_nil] at SM
    rw [← HSv.out] at SM
    clear hR2 ct
    go_enter Try.func13, Try.ntmps13
    go_wp2_with (go_at_call 45; refine (V1 _ (by exact hr)).mono ?_; rintro e w' ⟨rfl, _, rfl⟩)
    go_region_with (first
      | (go_at_call 21; refine (SM _ (by exact hR1) (by exact hR3)).mono ?_; rintro e w5 ⟨rfl, hw5⟩; have b5 : Below w.heap.size w w5 := hw5 ▸ ⟨b0.1, b0.2, b0.3, b0.4, b0.5⟩; have hs5 : w.heap.size + 1 ≤ w5.heap.size := hw5 ▸ (by simp); clear hw5)
      | (go_at_call 45; refine (V4 _ (by first | exact c4 | exact c4a)).mono ?_; rintro e w' ⟨rfl, _, rfl⟩))
    all_goals clear SM V4 V1 hr c4 c4a hR1 hR3 b0
    all_goals
      by_cases heq : Sv = Vv
      · have HR := Lib.hid (HR2.out heq)
        have hB : ((Vv : Int) != (Sv : Int)) = false := by rw [heq]; simp
        have c9 := (c8.below b5).alloc b5.size (.cells #[] 5)
        have hown := World.ownsRow_lit (base := w5.heap.size) (e := 5) (size := 1) w5 #[] 0 (Nat.le_refl _) (by simp [maxLen]) (by simp)
        have b6 := (Below.refl w5.heap.size w5).alloc (Nat.le_refl _) (.cells #[] 5)
        have hlz : (u8s I).length = z := (u8s_length I).trans hzI.out
        have hm1 : 0 + (u8s I).length ≤ maxLen := by rw [hlz]; unfold maxLen; omega
        have hm2 : (0 + (u8s I).length) * 1 ≤ 140737488355328 := by rw [hlz]; omega
        have HLZ := Lib.hid hlz
        clear heq hlz
        go_wp2_with (first | (at_builtin; refine wpList_app_rd _ rfl (.tmp 42) (.tmp 45) 22 rfl w5.heap.size 5 i0 _ 1 Try.underlying22 hi hy0 hy1 hy2 rfl _ 0 _ rfl hown w.heap.size _ _ rfl c9 (u8s_one _) hm1 hm2 b6.size ?_; intro v7 w7 o7 hg7; have b7 := below_app hown b6 b6.size hg7))
        obtain ⟨A7, c7, rfl⟩ := own_form o7
        rw [HLZ.out, Nat.zero_add] at o7
        go_ret3
        rw [HLZ.out, Nat.zero_add]
        have U := UnMade.ok HR.out hzI.out (own_base (by simpa using o7) b5.size) (b5.trans (b7.mono b5.size))
        rw [show (8 + (z : Int)) = (z : Int) + 8 by omega] at U
        exact U
      · have HR := Lib.hid (HR1.out heq)
        have hB : ((Vv : Int) != (Sv : Int)) = true := by simp; omega
        clear heq
        go_wp2_with fail
        go_ret3
        exact UnMade.fail HR.out b5

theorem runframe_any (A : Option Addr) (c n : Nat) (l : List UInt8) (w : World) (hr : Rd w w.heap.size (.slice A n c) (u8s l)) (hn : n = l.length) (hl : n ≤ 1000000000) :
    Calls Try.prog 13 #[.slice A n c] w (UnMade w (unR l)) := by
  by_cases h4 : n < 4
  · exact runframe_short A c n l w hn h4
  · obtain ⟨ad, rfl, _, _⟩ := hr.byte (k := 0) (by omega)
    obtain ⟨hnc, hmx⟩ : n ≤ c ∧ c ≤ 9223372036854775807 := by
      obtain ⟨A', c', hv, h1, h2⟩ := hr.form
      injection hv with _ _ h3
      unfold maxLen at h2
      omega
    exact runframe_long ad c n l w hr hn h4 hl hnc hmx
end Go.Proofs.Ytbllafhfofnijaa
