/- The document's own Sum, Frame, Unframe (waterwheelref01). -/
import Derived.Test.YtbllafhfofnijaaRefA
import Derived.Test.YtbllafhfofnijaaFrame
namespace Go.Proofs.Ytbllafhfofnijaa
open Go.RowKit

theorem rsum_any (A : Option Addr) (c B : Nat) (vs : List Value) (ls : List (List UInt8)) (w : World) (hv : Rd w B (.slice A vs.length c) vs) (hl : RdAll w B vs ls) (hvl : vs.length ≤ 1000000) :
    Calls Try.prog 21 #[.slice A vs.length c] w fun e w' => e = .returned (.int .u32 (sumN ls.flatten : Nat)) ∧ w = w' := by
  have HL := Lib.hid hl.1
  go_enter Try.func21, Try.ntmps21
  go_wp2_with fail
  go_loop [3, 4] (fun s i => ∃ k : Nat, k ≤ vs.length ∧ i = .int .i64 k ∧ s = .int .u32 (crc (flatN ls k) : Nat)) (fun _ i => vs.length - (intOf i).toNat)
  case atStart => exact ⟨0, Nat.zero_le _, rfl, rfl⟩
  case round =>
    obtain ⟨k, hk, rfl, rfl⟩ := hrel
    by_cases hlt : k < vs.length
    · have hkl : k < ls.length := by rw [← HL.out]; exact hlt
      have hfs := Lib.hid (flatN_succ ls k hkl)
      obtain ⟨ad, rfl, _, hcell⟩ := hv.at_ hlt
      have hrd := hl.2 k _ _ (List.getElem?_eq_getElem hlt) (List.getElem?_eq_getElem hkl)
      obtain ⟨A', c', hv', hm1, hm2⟩ := hrd.form
      rw [hv'] at hcell hrd
      clear hv'
      generalize hcur : flatN ls k = cur at hfs ⊢
      generalize ls[k] = l at *
      clear hcur
      obtain ⟨m, Hm⟩ : ∃ m, Hid (m = l.length) := ⟨_, Lib.hid rfl⟩
      rw [← Hm.out] at hcell hrd hm1
      unfold maxLen at hm2
      go_wp2
      go_loop [3, 5] (fun s i => ∃ j : Nat, j ≤ m ∧ i = .int .i64 j ∧ s = .int .u32 (crc (cur ++ l.take j) : Nat)) (fun _ i => m - (intOf i).toNat)
      case atStart => exact ⟨0, Nat.zero_le _, rfl, by simp⟩
      case round =>
        obtain ⟨j, hj, rfl, rfl⟩ := hrel
        by_cases hltj : j < m
        · have hjl : j < l.length := by rw [← Hm.out]; exact hltj
          have hS := crc_lt (cur ++ l.take j)
          have hcb := l[j].toNat_lt
          obtain ⟨ad', rfl, _, hbyte⟩ := hrd.byte hjl
          have hnext : crc (cur ++ l.take (j + 1)) = halfs 8 (crc (cur ++ l.take j) ^^^ l[j].toNat) := by
            rw [List.take_succ_eq_append_getElem hjl, ← List.append_assoc, crc_snoc]
            rfl
          generalize crc (cur ++ l.take j) = S at hS hnext ⊢
          generalize l[j].toNat = cb at hcb hbyte hnext
          have hT : S ^^^ cb < 4294967296 := Nat.xor_lt_two_pow (n := 32) hS (by omega)
          have hx0 : bits .xor .u32 (S : Int) (cb : Int) = ((S ^^^ cb : Nat) : Int) := by
            rw [← u32_xor_nat _ _ hS (by omega)]
          generalize S ^^^ cb = T at hT hx0 hnext
          have HX0 := Lib.hid hx0
          have HN := Lib.hid hnext
          clear hx0 hnext
          go_wp2
          go_loop [3, 6] (fun s c => ∃ q : Nat, q ≤ 8 ∧ c = .int .i64 q ∧ s = .int .u32 (halfs q T : Nat)) (fun _ c => 8 - (intOf c).toNat)
          case atStart => exact ⟨0, Nat.zero_le _, rfl, by rw [HX0.out]; rfl⟩
          case round =>
            obtain ⟨q, hq, rfl, rfl⟩ := hrel
            have hs := halfs_lt q T hT
            by_cases hlt8 : q < 8
            · by_cases hodd : halfs q T % 2 = 1
              · have hx : bits .xor .u32 (((halfs q T : Nat) : Int) / 2) 2197175160 = ((halfs (q + 1) T : Nat) : Int) := by
                  have h := u32_xor_nat (halfs q T / 2) 2197175160 (by omega) (by omega)
                  rw [halfs, half, if_pos hodd, ← h]
                  rfl
                have HX := Lib.hid hx
                clear hx
                go_wp2
                go_round
                case rel => exact ⟨q + 1, by omega, by go_num, by rw [HX.out]⟩
                case measure => simp [intOf]; omega
              · have hx : ((halfs q T : Nat) : Int) / 2 = ((halfs (q + 1) T : Nat) : Int) := by
                  rw [halfs, half, if_neg hodd]
                  omega
                have HX := Lib.hid hx
                clear hx
                go_wp2
                go_round
                case rel => exact ⟨q + 1, by omega, by go_num, by rw [HX.out]⟩
                case measure => simp [intOf]; omega
            · obtain rfl : q = 8 := by omega
              rw [← HN.out]
              go_wp2
              go_round
              case rel => exact ⟨j + 1, by omega, by go_num, rfl⟩
              case measure => simp [intOf]; omega
        · have hjm : l.take j = l := List.take_of_length_le (by rw [← Hm.out]; omega)
          rw [hjm, ← hfs.out]
          clear hjm
          go_wp2
          go_round
          case rel => exact ⟨k + 1, by omega, by go_num, rfl⟩
          case measure => simp [intOf]; omega
    · obtain rfl : k = ls.length := by have := HL.out; omega
      have hS := crc_lt ls.flatten
      have hx : bits .xor .u32 IntKind.u32.max ((crc (flatN ls ls.length) : Nat) : Int) = ((sumN ls.flatten : Nat) : Int) := by
        rw [flatN_all, sumN, Nat.xor_comm, ← u32_xor_nat _ _ (by omega) hS]
        rfl
      have HX := Lib.hid hx
      clear hx
      go_wp2
      go_ret
      exact ⟨ret_int HX.out, rfl⟩

/-- 'Sum(a, b)': the pieces lie in a row that was laid just before. -/
theorem rsum_new (vs : Array Value) (ls : List (List UInt8)) (w : World) (B : Nat) (h : RdAll w B vs.toList ls) (hB : B ≤ w.heap.size) (n : Nat) (all : List UInt8) (hn : vs.size = n) (hall : ls.flatten = all)
    (hv : n ≤ 1000) (g : Nat) (hg : w.heap.size = g) :
    Calls Try.prog 21 #[.slice (some ⟨g, 0, none⟩) n n] (w.alloc (.cells vs 22)) fun e w' => e = .returned (.int .u32 (sumN all : Nat)) ∧ w' = w.alloc (.cells vs 22) := by
  subst hall
  subst hn
  subst hg
  have hR := Rd.new w 22 vs vs.size rfl (by unfold maxLen; omega)
  have hA : RdAll (w.alloc (.cells vs 22)) w.heap.size vs.toList ls := (h.more hB).below ((Below.refl _ _).alloc (Nat.le_refl _) _)
  have hJ := rsum_any (some ⟨w.heap.size, 0, none⟩) vs.size (w.heap.size + 1) vs.toList ls (w.alloc (.cells vs 22)) (by rw [Array.length_toList]; exact hR) (hA.more (by omega)) (by rw [Array.length_toList]; omega)
  rw [Array.length_toList] at hJ
  exact hJ.mono fun _ _ ⟨he, hw⟩ => ⟨he, hw.symm⟩

theorem rframe_any (A : Option Addr) (c : Nat) (l : List UInt8) (n : Nat) (w : World) (hr : Rd w w.heap.size (.slice A n c) (u8s l)) (hn : n = l.length) (hl : n ≤ 4194304) :
    Calls Try.prog 11 #[.slice A n c] w fun e w' => ∃ A' c' m, m = (frameB l).length ∧ e = .returned (.tuple #[.slice A' m c', .int .i64 0]) ∧ w'.ownsRow w.heap.size 5 1 (.slice A' m c') m (u8s (frameB l)) ∧ Below w.heap.size w w' := by
  obtain ⟨i0, hi, hz0, hz1, hz2⟩ := info_parts info_u8
  have F1 := rfour_any w.heap.size none 0 0 [] n w (World.ownsRow_nil _ _ _ _) (Nat.le_refl _) (by omega) (by omega)
  simp only [Nat.zero_add, List.nil_append] at F1
  have HN := Lib.hid hn
  clear hn
  go_enter Try.func11, Try.ntmps11
  go_wp2_with fail
  refine F1.mono ?_
  rintro e w1 ⟨A1, c1, rfl, o1, hb1⟩
  have r1 := hr.below hb1
  have S := rsum_new #[.slice A1 4 c1, .slice A n c] [lowB n 4, l] w1 w1.heap.size (rdAll2 (Rd.of_own o1) (r1.more hb1.size)) (Nat.le_refl _) 2 (lowB n 4 ++ l) rfl (by simp) (by omega) _ rfl
  have o2 := own_below o1 ((Below.refl _ _).alloc (Nat.le_refl _) (.cells #[.slice A1 4 c1, .slice A n c] 22))
  have b2 := hb1.alloc hb1.size (.cells #[.slice A1 4 c1, .slice A n c] 22)
  have F2 := rfour_any w.heap.size A1 c1 4 (lowB n 4) (sumN (lowB n 4 ++ l)) _ o2 b2.size (by omega) (sumN_lt _)
  clear F1 o1 hb1 r1
  go_wp2_with (first
    | (go_at_call 21; refine S.mono ?_; rintro e w' ⟨rfl, rfl⟩)
    | (go_at_call 43; refine F2.mono ?_; rintro e w3 ⟨A3, c3, rfl, o3, hb3⟩; have b3 := b2.trans hb3; have r3 := hr.below b3
       have hln : (u8s l).length = n := (u8s_length l).trans HN.out.symm; have hm1 : 4 + 4 + (u8s l).length ≤ maxLen := by (rw [hln]; unfold maxLen; omega)
       have hm2 : (4 + 4 + (u8s l).length) * 1 ≤ 140737488355328 := by (rw [hln]; omega)
       have HLN := Lib.hid hln; clear hln)
    | (at_builtin; refine wpList_app_rd _ rfl (.tmp 17) (.tmp 18) 22 rfl w.heap.size 5 i0 _ 1 Try.underlying22 hi hz0 hz1 hz2 rfl _ (4 + 4) _ rfl o3 w.heap.size _ _ rfl r3 (u8s_one _) hm1 hm2 b3.size ?_; intro v4 w4 o4 hg4; have b4 := below_app o3 b3 b3.size hg4))
  obtain ⟨A4, c4, rfl⟩ := own_form o4
  go_ret2
  rw [HLN.out, ← u8s_append] at o4
  refine ⟨A4, c4, _, ?_, rfl, ?_, b4⟩
  · rw [HLN.out, frameB_length, HN.out]
  · have e : frameB l = lowB n 4 ++ lowB (sumN (lowB n 4 ++ l)) 4 ++ l := by rw [frameB, HN.out, List.append_assoc]
    rw [e, HLN.out]
    exact o4
end Go.Proofs.Ytbllafhfofnijaa
