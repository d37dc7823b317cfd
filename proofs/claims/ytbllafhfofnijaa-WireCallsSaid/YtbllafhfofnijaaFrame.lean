/- wire.Frame and wire.Unframe. -/
import Derived.Test.YtbllafhfofnijaaVal
import Derived.Test.YtbllafhfofnijaaSum
import Derived.Deep.RegionWith
namespace Go.Proofs.Ytbllafhfofnijaa
open Go.RowKit

/-- The frame of bytes. -/
def frameB (l : List UInt8) : List UInt8 := lowB l.length 4 ++ (lowB (sumN (lowB l.length 4 ++ l)) 4 ++ l)
theorem frameB_length (l : List UInt8) : (frameB l).length = 8 + l.length := by simp [frameB, lowB_length]; omega

theorem sumN_lt (l : List UInt8) : sumN l < 4294967296 := Nat.xor_lt_two_pow (n := 32) (crc_lt l) (by omega)

theorem frame_any (A : Option Addr) (c : Nat) (l : List UInt8) (n : Nat) (w : World) (hr : Rd w w.heap.size (.slice A n c) (u8s l)) (hn : n = l.length) (hl : n ≤ 4194304) :
    Calls Try.prog 10 #[.slice A n c] w fun e w' => ∃ A' c' m, m = (frameB l).length ∧ e = .returned (.tuple #[.slice A' m c', .int .i64 0]) ∧ w'.ownsRow w.heap.size 5 1 (.slice A' m c') m (u8s (frameB l)) ∧ Below w.heap.size w w' := by
  have L := lowest_any n 4 w (by omega) (by omega)
  obtain ⟨m, Hm⟩ : ∃ m, Hid (m = (frameB l).length) := ⟨_, Lib.hid rfl⟩
  have hm : m ≤ 4194400 := by rw [Hm.out, frameB_length, ← hn]; omega
  have HN := Lib.hid hn
  clear hn
  go_enter Try.func10, Try.ntmps10
  go_wp2_with fail
  refine L.mono ?_
  rintro e w1 ⟨A1, c1, rfl, o1, hb1⟩
  have r1 := hr.below hb1
  have S := sum_new #[.slice A1 4 c1, .slice A n c] [lowB n 4, l] w1 (rdAll2 (Rd.of_own o1) (r1.more hb1.size)) 2 (lowB n 4 ++ l) rfl (by simp) (by omega) _ rfl
  clear L
  go_wp2_with fail
  refine S.mono ?_
  rintro e w2 ⟨rfl, hb2⟩
  have hs := sumN_lt (lowB n 4 ++ l)
  have L2 := lowest_any (sumN (lowB n 4 ++ l)) 4 w2 (by omega) (by omega)
  have b2 := hb1.trans (hb2.mono hb1.size)
  have o2 := own_below o1 hb2
  have r2 := hr.below b2
  clear S o1 r1 hb1 hb2 hr
  go_wp2_with fail
  refine L2.mono ?_
  rintro e w3 ⟨A3, c3, rfl, o3, hb3⟩
  have b3 := b2.trans (hb3.mono b2.size)
  have J := join_new #[.slice A1 4 c1, .slice A3 4 c3, .slice A n c] [lowB n 4, lowB (sumN (lowB n 4 ++ l)) 4, l] w3 (rdAll3 (Rd.of_own (own_below o2 hb3)) (Rd.of_own o3) ((r2.below (hb3.mono b2.size)).more b3.size)) 3 m (frameB l) rfl
    (by simp [frameB, ← HN.out]) Hm.out.symm (by omega) (by omega) _ rfl
  clear L2 o2 r2 b2 o3 hb3 hs
  go_wp2_with fail
  refine J.mono ?_
  rintro e w4 ⟨A4, c4, rfl, o4, hb4⟩
  go_wp2
  go_ret2
  exact ⟨A4, c4, m, Hm.out, rfl, own_base o4 b3.size, b3.trans (hb4.mono b3.size)⟩

/-- What Unframe answers: the bytes, the frame's length, the error. -/
def unR (l : List UInt8) : List UInt8 × Nat × Nat :=
  if l.length < 4 then ([], 0, 5)
  else if 4194304 < valN (l.take 4) then ([], 0, 4)
  else if l.length < 8 + valN (l.take 4) then ([], 0, 5)
  else if sumN (l.take 4 ++ (l.take (8 + valN (l.take 4))).drop 8) ≠ valN ((l.take 8).drop 4) then ([], 0, 4)
  else ((l.take (8 + valN (l.take 4))).drop 8, 8 + valN (l.take 4), 0)

/-- A call that answers as Unframe does. -/
def UnMade (w : World) (r : List UInt8 × Nat × Nat) (e : Ending) (w' : World) : Prop :=
  ∃ A c n, n = r.1.length ∧ e = .returned (.tuple #[.slice A n c, .int .i64 (r.2.1 : Int), .int .i64 (r.2.2 : Int)]) ∧ w'.ownsRow w.heap.size 5 1 (.slice A n c) n (u8s r.1) ∧ Below w.heap.size w w'

theorem UnMade.fail {w w' : World} {q : Nat} {r : List UInt8 × Nat × Nat} (h : r = ([], 0, q)) (hb : Below w.heap.size w w') : UnMade w r (.returned (.tuple #[.slice none 0 0, .int .i64 0, .int .i64 (q : Int)])) w' := by
  subst h
  exact ⟨none, 0, 0, rfl, rfl, World.ownsRow_nil _ _ _ _, hb⟩

theorem UnMade.ok {w w' : World} {z c : Nat} {A : Option Addr} {I : List UInt8} {r : List UInt8 × Nat × Nat} (h : r = (I, 8 + z, 0)) (hz : I.length = z) (ho : w'.ownsRow w.heap.size 5 1 (.slice A z c) z (u8s I)) (hb : Below w.heap.size w w') :
    UnMade w r (.returned (.tuple #[.slice A z c, .int .i64 (8 + (z : Int)), .int .i64 0])) w' := by
  subst h
  exact ⟨A, c, z, hz.symm, by simp, ho, hb⟩

theorem unframe_short (A : Option Addr) (c n : Nat) (l : List UInt8) (w : World) (hn : n = l.length) (h4 : n < 4) :
    Calls Try.prog 12 #[.slice A n c] w (UnMade w (unR l)) := by
  have HU : Hid (unR l = ([], 0, 5)) := Lib.hid (by rw [unR, if_pos (by omega)])
  clear hn
  go_enter Try.func12, Try.ntmps12
  go_wp2_with fail
  go_ret3
  exact UnMade.fail HU.out (Below.refl _ _)

set_option maxHeartbeats 8000000 in
theorem unframe_long (ad : Addr) (c n : Nat) (l : List UInt8) (w : World) (hr : Rd w w.heap.size (.slice (some ad) n c) (u8s l)) (hn : n = l.length) (h4 : ¬ n < 4) (hl : n ≤ 35184372088832) (hnc : n ≤ c) (hmx : c ≤ 9223372036854775807) :
    Calls Try.prog 12 #[.slice (some ad) n c] w (UnMade w (unR l)) := by
  have l4 : (l.take 4).length = 4 := by rw [List.length_take]; omega
  have V1 := value_any (some ad) c w.heap.size (l.take 4) 4 w (hr.cutTo hn (by omega)) l4.symm (by omega)
  obtain ⟨z, Hz⟩ : ∃ z, Hid (z = valN (l.take 4)) := ⟨_, Lib.hid rfl⟩
  have HU : Hid (unR l = if 4194304 < z then ([], 0, 4) else if n < 8 + z then ([], 0, 5) else if sumN (l.take 4 ++ (l.take (8 + z)).drop 8) ≠ valN ((l.take 8).drop 4) then ([], 0, 4) else ((l.take (8 + z)).drop 8, 8 + z, 0)) :=
    Lib.hid (by rw [unR, if_neg (by omega), ← Hz.out, ← hn])
  rw [← Hz.out] at V1
  by_cases hz : 4194304 < z
  · have HR : Hid (unR l = ([], 0, 4)) := Lib.hid (by rw [HU.out, if_pos hz])
    clear HU hn hr l4
    go_enter Try.func12, Try.ntmps12
    go_wp2_with fail
    refine V1.mono ?_
    rintro e w' ⟨rfl, rfl⟩
    go_wp2_with fail
    go_ret3
    exact UnMade.fail HR.out (Below.refl _ _)
  by_cases hz2 : n < 8 + z
  · have HR : Hid (unR l = ([], 0, 5)) := Lib.hid (by rw [HU.out, if_neg hz, if_pos hz2])
    clear HU hn hr l4
    go_enter Try.func12, Try.ntmps12
    go_wp2_with fail
    refine V1.mono ?_
    rintro e w' ⟨rfl, rfl⟩
    go_wp2_with fail
    go_ret3
    exact UnMade.fail HR.out (Below.refl _ _)
  have c4 := (hr.cut (i := 4) hn (by omega)).cutTo (i := 4) (by rw [List.length_drop, hn]) (by omega)
  rw [if_neg (by omega), Option.map_some] at c4
  have e48 : (l.drop 4).take 4 = (l.take 8).drop 4 := by rw [List.take_drop]
  rw [e48] at c4
  have c8 := (hr.cut (i := 8) hn (by omega)).cutTo (i := z) (by rw [List.length_drop, hn]) (by omega)
  have e8z : (l.drop 8).take z = (l.take (8 + z)).drop 8 := by rw [List.take_drop]
  rw [e8z] at c8
  have l48 : ((l.take 8).drop 4).length = 4 := by rw [List.length_drop, List.length_take]; omega
  have l8z : ((l.take (8 + z)).drop 8).length = z := by rw [List.length_drop, List.length_take]; omega
  have ct := hr.cutTo (i := 4) hn (by omega)
  generalize hI : (l.take (8 + z)).drop 8 = I at *
  generalize hH : l.take 4 = H at *
  generalize hS : (l.take 8).drop 4 = S4 at *
  clear hI hH hS e48 e8z
  have V2 := fun W h => value_any (some ⟨ad.block, ad.off + 4, none⟩) (c - 4) w.heap.size S4 4 W h l48.symm (by omega)
  have hzI := Lib.hid l8z
  clear hn l48 l8z l4 hr
  by_cases hc8 : c = 8
  · subst hc8
    obtain rfl : z = 0 := by omega
    obtain rfl : n = 8 := by omega
    rw [if_pos rfl, Nat.sub_self] at c8
    have S2 := sum_new #[.slice (some ad) 4 8, .slice (some ad) 0 0] [H, I] w.drew (rdAll2 ct c8) 2 (H ++ I) rfl (by simp) (by omega) _ rfl
    have c4d : Rd w.drew w.heap.size (.slice (some ⟨ad.block, ad.off + 4, none⟩) 4 (8 - 4)) (u8s S4) := c4
    obtain ⟨Sv, HSv⟩ : ∃ Sv, Hid (Sv = sumN (H ++ I)) := ⟨_, Lib.hid rfl⟩
    obtain ⟨Vv, HVv⟩ : ∃ Vv, Hid (Vv = valN S4) := ⟨_, Lib.hid rfl⟩
    have hsv : Sv < 4294967296 := by rw [HSv.out]; exact sumN_lt _
    have hWr : IntKind.u64.wrap (Sv : Int) = (Sv : Int) := by rw [IntKind.wrap_u64]; omega
    rw [← HSv.out] at S2
    rw [← HVv.out] at V2
    have HR1 : Hid (Sv ≠ Vv → unR l = ([], 0, 4)) := Lib.hid fun h => by rw [HU.out, if_neg hz, if_neg hz2, ← HSv.out, ← HVv.out, if_pos h]
    have HR2 : Hid (Sv = Vv → unR l = (I, 8 + 0, 0)) := Lib.hid fun h => by rw [HU.out, if_neg hz, if_neg hz2, ← HSv.out, ← HVv.out, if_neg (by simpa using h)]
    clear HU
    go_enter Try.func12, Try.ntmps12
    go_wp2_with fail
    refine V1.mono ?_
    rintro e w' ⟨rfl, rfl⟩
    go_wp2_with fail
    go_region_with (first
      | (go_at_call 20; refine S2.mono ?_; rintro e w2 ⟨rfl, hb2⟩)
      | (go_at_call 44; refine (V2 _ (by first | exact c4 | exact c4.alloc (Nat.le_refl _) _ | exact c4d.below hb2)).mono ?_; rintro e w' ⟨rfl, rfl⟩))
    all_goals have b2 : Below w.heap.size w w2 := ((Below.refl w.heap.size w).drew).trans hb2
    all_goals clear S2 V2 hb2 V1
    all_goals
      by_cases heq : Sv = Vv
      · have HR := Lib.hid (HR2.out heq)
        have J := join_new #[.slice (some ad) 0 0] [I] w2 (rdAll1 ((c8.below b2).more b2.size)) 1 0 I rfl (by simp) hzI.out (by omega) (by omega) _ rfl
        have hB : ((Sv : Int) != (Vv : Int)) = false := by rw [heq]; simp
        clear heq
        go_wp2_with fail
        refine J.mono ?_
        rintro e w3 ⟨A3, c3, rfl, o3, hb3⟩
        go_wp2_with fail
        go_ret3
        exact UnMade.ok HR.out hzI.out (own_base o3 b2.size) (b2.trans (hb3.mono b2.size))
      · have HR := Lib.hid (HR1.out heq)
        have hB : ((Sv : Int) != (Vv : Int)) = true := by simp; omega
        clear heq
        go_wp2_with fail
        go_ret3
        exact UnMade.fail HR.out b2
  · rw [if_neg hc8, Option.map_some] at c8
    have S2 := sum_new #[.slice (some ad) 4 c, .slice (some ⟨ad.block, ad.off + 8, none⟩) z (c - 8)] [H, I] w.drew (rdAll2 ct c8) 2 (H ++ I) rfl (by simp) (by omega) _ rfl
    have c4d : Rd w.drew w.heap.size (.slice (some ⟨ad.block, ad.off + 4, none⟩) 4 (c - 4)) (u8s S4) := c4
    obtain ⟨Sv, HSv⟩ : ∃ Sv, Hid (Sv = sumN (H ++ I)) := ⟨_, Lib.hid rfl⟩
    obtain ⟨Vv, HVv⟩ : ∃ Vv, Hid (Vv = valN S4) := ⟨_, Lib.hid rfl⟩
    have hsv : Sv < 4294967296 := by rw [HSv.out]; exact sumN_lt _
    have hWr : IntKind.u64.wrap (Sv : Int) = (Sv : Int) := by rw [IntKind.wrap_u64]; omega
    rw [← HSv.out] at S2
    rw [← HVv.out] at V2
    have HR1 : Hid (Sv ≠ Vv → unR l = ([], 0, 4)) := Lib.hid fun h => by rw [HU.out, if_neg hz, if_neg hz2, ← HSv.out, ← HVv.out, if_pos h]
    have HR2 : Hid (Sv = Vv → unR l = (I, 8 + z, 0)) := Lib.hid fun h => by rw [HU.out, if_neg hz, if_neg hz2, ← HSv.out, ← HVv.out, if_neg (by simpa using h)]
    clear HU
    go_enter Try.func12, Try.ntmps12
    go_wp2_with fail
    refine V1.mono ?_
    rintro e w' ⟨rfl, rfl⟩
    go_wp2_with fail
    go_region_with (first
      | (go_at_call 20; refine S2.mono ?_; rintro e w2 ⟨rfl, hb2⟩)
      | (go_at_call 44; refine (V2 _ (by first | exact c4 | exact c4.alloc (Nat.le_refl _) _ | exact c4d.below hb2)).mono ?_; rintro e w' ⟨rfl, rfl⟩))
    all_goals have b2 : Below w.heap.size w w2 := ((Below.refl w.heap.size w).drew).trans hb2
    all_goals clear S2 V2 hb2 V1
    all_goals
      by_cases heq : Sv = Vv
      · have HR := Lib.hid (HR2.out heq)
        have J := join_new #[.slice (some ⟨ad.block, ad.off + 8, none⟩) z (c - 8)] [I] w2 (rdAll1 ((c8.below b2).more b2.size)) 1 z I rfl (by simp) hzI.out (by omega) (by omega) _ rfl
        have hB : ((Sv : Int) != (Vv : Int)) = false := by rw [heq]; simp
        clear heq
        go_wp2_with fail
        refine J.mono ?_
        rintro e w3 ⟨A3, c3, rfl, o3, hb3⟩
        go_wp2_with fail
        go_ret3
        exact UnMade.ok HR.out hzI.out (own_base o3 b2.size) (b2.trans (hb3.mono b2.size))
      · have HR := Lib.hid (HR1.out heq)
        have hB : ((Sv : Int) != (Vv : Int)) = true := by simp; omega
        clear heq
        go_wp2_with fail
        go_ret3
        exact UnMade.fail HR.out b2

theorem unframe_any (A : Option Addr) (c n : Nat) (l : List UInt8) (w : World) (hr : Rd w w.heap.size (.slice A n c) (u8s l)) (hn : n = l.length) (hl : n ≤ 35184372088832) :
    Calls Try.prog 12 #[.slice A n c] w (UnMade w (unR l)) := by
  by_cases h4 : n < 4
  · exact unframe_short A c n l w hn h4
  · obtain ⟨ad, rfl, _, _⟩ := hr.byte (k := 0) (by omega)
    obtain ⟨hnc, hmx⟩ : n ≤ c ∧ c ≤ 9223372036854775807 := by
      obtain ⟨A', c', hv, h1, h2⟩ := hr.form
      injection hv with _ _ h3
      unfold maxLen at h2
      omega
    exact unframe_long ad c n l w hr hn h4 hl hnc hmx

end Go.Proofs.Ytbllafhfofnijaa
