/- The walk of waterwheellaw01.WireJoins. -/
import Derived.Test.YthhldokgddpabaaNew
import Derived.Test.YthhldokgddpabaaKit
namespace Go.Proofs.Ythhldokgddpabaa.wireJoins
open Go.RowKit

theorem att_q (R : List UInt8 → Nat → Nat × Nat × Nat) (m : Nat) (l : List UInt8) (q : Nat) (h : q ≠ 0) : att R m l q = ((0, []), (l, q)) := by rw [att, if_pos h]
theorem att_suffix (m : Nat) (flat l : List UInt8) (q : Nat) (h : ∃ d, d ≤ flat.length ∧ l = flat.drop d) (hm : m < 18446744073709551616) : ∃ d, d ≤ flat.length ∧ (att numR m l q).2.1 = flat.drop d := by
  obtain ⟨d, hd, rfl⟩ := h
  have f := (numR_facts (flat.drop d) m hm).2.2.1
  rw [List.length_drop] at f
  unfold att
  split
  · exact ⟨d, hd, rfl⟩
  · split
    · exact ⟨d, hd, rfl⟩
    · exact ⟨d + (numR (flat.drop d) m).2.1, by omega, by rw [List.drop_drop]⟩

/-- An own row is kept where a reader's block, which lies higher, has turned. -/
theorem own_kept {w w' : World} {B g : Nat} {v : Value} {n : Nat} {xs : List Value} (h : w.ownsRow B 5 1 v n xs) (hg : w.grownBy w' (some g)) (hlt : ∀ k, v.ownBlock = some k → k < g) : w'.ownsRow B 5 1 v n xs :=
  h.kept hg (by
    cases hv : v.ownBlock with
    | none => exact .inl rfl
    | some k => exact .inr (by have := hlt k hv; simp; omega))

set_option maxHeartbeats 4000000 in
/-- The pieces are put together; a piece that is too long ends the call. -/
theorem part1 (A : Option Addr) (c : Nat) (vs : List Value) (ls : List (List UInt8)) (n : Int) (w : World) (hv : Rd w w.heap.size (.slice A vs.length c) vs) (hl : RdAll w w.heap.size vs ls)
    (h1 : -9223372036854775808 ≤ n) (h2 : n ≤ 9223372036854775807) (hvl : vs.length ≤ 9223372036854775807) :
    Calls Try.prog 8 #[.slice A vs.length c, .int .i64 n] w fun e w' => e = .returned (.bool true) ∧ Below w.heap.size w w' := by
  obtain ⟨i0, hi, hz0, hz1, hz2⟩ := info_parts info_u8
  have HL := Lib.hid hl.1
  by_cases h50 : 50 < vs.length
  · go_enter Try.func8, Try.ntmps8
    go_wp2_with (go_at_call 11; refine (lives_any _).mono ?_; rintro e w1 ⟨rfl, hb1⟩)
    go_ret
    exact ⟨rfl, hb1⟩
  go_enter Try.func8, Try.ntmps8
  go_wp2_with (go_at_call 11; refine (lives_any _).mono ?_; rintro e w1 ⟨rfl, hb1⟩)
  go_loopw [5, 6] (fun v i wr => ∃ (k : Nat) (Ab : Option Addr) (nb cb : Nat), k ≤ vs.length ∧ i = .int .i64 k ∧ v = .slice Ab nb cb ∧ nb ≤ 300 * k ∧ Hid (nb = (flatN ls k).length) ∧ wr.ownsRow w.heap.size 5 1 (.slice Ab nb cb) nb (u8s (flatN ls k)) ∧ Below w.heap.size w wr)
    (fun _ i _ => vs.length - (intOf i).toNat)
  case atStart => exact ⟨0, none, 0, 0, Nat.zero_le _, rfl, rfl, Nat.le_refl _, Lib.hid rfl, World.ownsRow_nil _ _ _ _, hb1⟩
  case round =>
    obtain ⟨k, Ab, nb, cb, hk, rfl, rfl, hnb, HNB, hown, hb⟩ := hrel
    by_cases hlt : k < vs.length
    · have hkl : k < ls.length := by rw [← HL.out]; exact hlt
      obtain ⟨ad, rfl, _, hcell⟩ := (hv.below hb).at_ hlt
      have hrd := (hl.below hb).2 k _ _ (List.getElem?_eq_getElem hlt) (List.getElem?_eq_getElem hkl)
      obtain ⟨A', c', hv', hm1, hm2⟩ := hrd.form
      rw [hv'] at hcell hrd
      obtain ⟨m, Hm⟩ : ∃ m, Hid (m = ls[k].length) := ⟨_, Lib.hid rfl⟩
      rw [← Hm.out] at hcell hrd hm1
      have HF := Lib.hid (flatN_succ ls k hkl)
      unfold maxLen at hm2
      clear hv'
      by_cases h300 : 300 < m
      · go_wp2
        go_ret
        exact ⟨rfl, hb⟩
      · have hlen : (u8s ls[k]).length = m := by rw [u8s_length]; exact Hm.out.symm
        have hm3 : nb + (u8s ls[k]).length ≤ maxLen := by rw [hlen]; unfold maxLen; omega
        have hm4 : (nb + (u8s ls[k]).length) * 1 ≤ 140737488355328 := by rw [hlen]; omega
        have HLN := Lib.hid hlen
        clear hlen
        go_wp2_with (first | (at_builtin; refine wpList_app_rd _ rfl (.tmp 31) (.tmp 35) 24 rfl w.heap.size 5 i0 _ 1 Try.underlying24 hi hz0 hz1 hz2 rfl _ nb _ rfl hown w.heap.size _ _ rfl hrd (u8s_one _) hm3 hm4 hb.size ?_; intro v' w2 hown2 hg2))
        have hb2 := below_app hown hb hb.size hg2
        rw [← u8s_append, ← HF.out, HLN.out] at hown2
        obtain ⟨A2, c2, rfl⟩ := own_form hown2
        go_roundw
        case rel => exact ⟨k + 1, A2, nb + m, c2, by omega, by go_num, rfl, by omega, Lib.hid (by rw [HF.out, List.length_append, ← HNB.out, ← Hm.out]), hown2, hb2⟩
        case measure => simp [intOf]; omega
    · have hkl : k = ls.length := by have := HL.out; omega
      subst hkl
      rw [flatN_all] at hown HNB
      obtain ⟨F, HF⟩ : ∃ F, Hid (F = ls.flatten) := ⟨_, Lib.hid rfl⟩
      rw [← HF.out] at hown HNB
      have hnb2 : nb ≤ 15000 := by have := HL.out; omega
      have S1 := sum_any A c vs ls wr ((hv.below hb).more hb.size) ((hl.below hb).more hb.size) (by omega)
      rw [← HF.out] at S1
      clear hv hl hi hz0 hz1 hz2 hb1 hnb
      go_wp2_with fail
      refine S1.mono ?_
      rintro e w2 ⟨rfl, hb2⟩
      have own2 := own_below hown hb2
      have b2 := hb.trans (hb2.mono hb.size)
      clear S1 hown hb hb2
      have S2 := sum_new #[.slice Ab nb cb] [F] w2 (rdAll1 (Rd.of_own own2)) 1 F rfl (by simp) (by omega) _ rfl
      go_wp2_with fail
      refine S2.mono ?_
      rintro e w3 ⟨rfl, hb3⟩
      have own3 := own_below own2 hb3
      have b3 := b2.trans (hb3.mono b2.size)
      clear S2 own2 b2 hb3
      have O1 := own_any Ab cb F nb w3 (Rd.of_own own3) (by omega) HNB.out
      go_wp2_with fail
      refine O1.mono ?_
      rintro e w4 ⟨A4, c4, rfl, o4, hb4⟩
      have own4 := own_below own3 hb4
      have b4 := b3.trans (hb4.mono b3.size)
      have Q1 := new_any A4 c4 F nb w4 (Rd.of_own o4) (by omega) HNB.out
      clear O1 own3 b3 hb4 o4
      go_wp2_with fail
      refine Q1.mono ?_
      rintro e w5 ⟨lo, r, rfl, g1, g2, hr5, hb5⟩
      have own5 := own_below own4 hb5
      have b5 := b4.trans (hb5.mono b4.size)
      have hlt5 : ∀ k, (Value.slice Ab nb cb).ownBlock = some k → k < r := fun k hk => by have := (own4.lt k hk).2; omega
      have HLT := Lib.hid hlt5
      have z4 := b4.size
      clear Q1 own4 b4 hb5 hlt5
      obtain ⟨p, hp⟩ : ∃ p : Nat, (p : Int) = n % 20 := ⟨(n % 20).toNat, by omega⟩
      have P := fun W => pick_any n 20 W h1 h2 (by omega) (by omega)
      rw [← hp] at P
      have hp20 : p < 20 := by omega
      clear hp
      go_wp2_with fail
      go_loopw [8] (fun i wr => ∃ (k : Nat) (l : List UInt8) (q : Nat), k ≤ p ∧ i = .int .i64 k ∧ Rdr wr lo r l q ∧ Hid (∃ d, d ≤ F.length ∧ l = F.drop d) ∧ wr.ownsRow w.heap.size 5 1 (.slice Ab nb cb) nb (u8s F) ∧ Below w.heap.size w wr)
        (fun i _ => p - (intOf i).toNat)
      case atStart => exact ⟨0, F, 0, Nat.zero_le _, rfl, hr5, Lib.hid ⟨0, Nat.zero_le _, rfl⟩, own5, b5⟩
      case round =>
        obtain ⟨k, l, q, hk2, rfl, hrd, HD, own6, b6⟩ := hrel
        clear hr5 own5 b5
        by_cases hltp : k < p
        · have N := number_read lo r q l wr hrd
          have hsx := Lib.hid (att_suffix maxU F l q HD.out maxU_lt)
          generalize att numR maxU l q = a at N hsx
          go_wp2_with (first | (go_at_call 29; refine (P _).mono ?_; rintro e w' ⟨rfl, rfl⟩) | (go_at_call 10; refine N.mono ?_; rintro e w7 ⟨rfl, h7, hg7⟩))
          go_roundw
          case rel => exact ⟨k + 1, a.2.1, a.2.2, by omega, by go_num, h7, hsx, own_kept own6 hg7 HLT.out, b6.grown hg7 b6.size (by intro j hj; injection hj; omega)⟩
          case measure => simp [intOf]; omega
        · have E := err_read lo r q l wr hrd
          by_cases hq : q ≠ 0
          · have N := number_read lo r q l wr hrd
            have T : ∀ W, Rdr W lo r l q → Calls Try.prog 33 #[.pointer (some ⟨r, 0, none⟩)] W (Gave W lo r (.string ⟨#[]⟩) (l, q)) := fun W hW => by
              have h := text_read lo r q l W hW
              rw [att_q _ _ _ _ hq] at h
              exact h
            rw [att_q _ _ _ _ hq] at N
            go_wp2_with (first | (go_at_call 29; refine (P _).mono ?_; rintro e w' ⟨rfl, rfl⟩) | (go_at_call 14; refine E.mono ?_; rintro e w' ⟨rfl, rfl⟩))
            refine N.mono ?_
            rintro e w7 ⟨rfl, h7, hg7⟩
            have b7 := b6.grown hg7 b6.size (by intro j hj; injection hj; omega)
            have T7 := T w7 h7
            clear N T E h7 hg7 b6
            go_wp2_with fail
            refine T7.mono ?_
            rintro e w8 ⟨rfl, h8, hg8⟩
            have b8 := b7.grown hg8 b7.size (by intro j hj; injection hj; omega)
            clear T7 h8 hg8 b7
            go_wp2
            go_ret
            exact ⟨rfl, b8⟩
          · obtain rfl : q = 0 := by omega
            obtain ⟨d, hd, hld⟩ := HD.out
            have HLD := Lib.hid hld
            obtain ⟨m, Hm⟩ : ∃ m, Hid (m = l.length) := ⟨_, Lib.hid rfl⟩
            obtain rfl : nb = d + m := by
              have e1 := HNB.out
              have e2 := Hm.out
              rw [hld, List.length_drop] at e2
              omega
            clear hld hd
            have L := left_read lo r 0 l wr hrd
            rw [← Hm.out] at L
            have hsl := (Rd.of_own own6).cut (i := d) HNB.out (by omega)
            rw [Nat.add_sub_cancel_left] at hsl
            have hcb : d + m ≤ cb ∧ cb ≤ 9223372036854775807 := by
              obtain ⟨A', c', hv, h1, h2⟩ := (Rd.of_own own6).form
              have := HNB.out
              injection hv with _ _ h3
              unfold maxLen at h2
              omega
            obtain ⟨hcb1, hcb2⟩ := hcb
            go_wp2_with (first | (go_at_call 29; refine (P _).mono ?_; rintro e w' ⟨rfl, rfl⟩) | (go_at_call 14; refine E.mono ?_; rintro e w' ⟨rfl, rfl⟩))
            clear E P
            rcases Ab with _ | ad
            · obtain ⟨rfl, rfl⟩ : d = 0 ∧ m = 0 := by
                rcases Nat.eq_zero_or_pos (d + m) with h | h
                · omega
                · obtain ⟨ad, h', _⟩ := (Rd.of_own own6).byte (k := 0) (by have := HNB.out; omega)
                  cases h'
              simp only [Option.map_none, ite_self, Nat.sub_zero] at hsl
              have O2 := own_any none cb (F.drop 0) 0 wr hsl (by omega) (by rw [← HLD.out]; exact Hm.out)
              go_wp2_with (first | (go_at_call 39; refine L.mono ?_; rintro e w' ⟨rfl, rfl⟩) | (go_at_call 16; refine O2.mono ?_; rintro e w7 ⟨A7, c7, rfl, o7, hb7⟩))
              have b7 := b6.trans (hb7.mono b6.size)
              have h7 := hrd.below hb7
              have Q2 := new_any A7 c7 (F.drop 0) 0 w7 (Rd.of_own o7) (by omega) (by rw [← HLD.out]; exact Hm.out)
              clear O2 o7 hb7 b6 hrd hsl own6 L
              go_wp2_with fail
              refine Q2.mono ?_
              rintro e w8 ⟨lo2, r2, rfl, g3, g4, hs8, hb8⟩
              rw [← HLD.out] at hs8
              have b8 := b7.trans (hb8.mono b7.size)
              have h8 := h7.below hb8
              have zr := h7.lt
              clear Q2 hb8 b7 h7
              have T1 := text_read lo r 0 l w8 h8
              go_wp2_with fail
              refine T1.mono ?_
              rintro e w9 ⟨rfl, h9, hg9⟩
              have s9 := hs8.kept hg9 (by omega) g4
              have b9 := b8.grown hg9 b8.size (by intro j hj; injection hj; omega)
              clear T1 h8 hs8 b8 hg9
              have T2 := text_read lo2 r2 0 l w9 s9
              go_wp2_with fail
              refine T2.mono ?_
              rintro e w10 ⟨rfl, s10, hg10⟩
              have h10 := h9.kept hg10 (by omega) g2
              have b10 := b9.grown hg10 b9.size (by intro j hj; injection hj; omega)
              clear T2 h9 s9 b9 hg10
              generalize att textR 1048576 l 0 = a at *
              have U1 := signed_read lo r a.2.2 a.2.1 w10 h10
              go_wp2_with fail
              refine U1.mono ?_
              rintro e w11 ⟨rfl, h11, hg11⟩
              have s11 := s10.kept hg11 (by omega) g4
              have b11 := b10.grown hg11 b10.size (by intro j hj; injection hj; omega)
              clear U1 h10 s10 b10 hg11
              have U2 := signed_read lo2 r2 a.2.2 a.2.1 w11 s11
              go_wp2_with fail
              refine U2.mono ?_
              rintro e w12 ⟨rfl, s12, hg12⟩
              have h12 := h11.kept hg12 (by omega) g2
              have b12 := b11.grown hg12 b11.size (by intro j hj; injection hj; omega)
              clear U2 h11 s11 b11 hg12
              generalize att numR maxU a.2.1 a.2.2 = b at *
              have E1 := err_read lo r b.2.2 b.2.1 w12 h12
              have E2 := err_read lo2 r2 b.2.2 b.2.1 w12 s12
              have L1 := left_read lo r b.2.2 b.2.1 w12 h12
              have L2 := left_read lo2 r2 b.2.2 b.2.1 w12 s12
              have D1 := end_read lo r b.2.2 b.2.1 w12 h12
              have D2 := end_read lo2 r2 b.2.2 b.2.1 w12 s12
              clear h12 s12
              go_wp2_with fail
              refine E1.mono ?_
              rintro e w' ⟨rfl, rfl⟩
              go_wp2_with fail
              refine E2.mono ?_
              rintro e w' ⟨rfl, rfl⟩
              go_wp2_with fail
              refine L1.mono ?_
              rintro e w' ⟨rfl, rfl⟩
              go_wp2_with fail
              refine L2.mono ?_
              rintro e w' ⟨rfl, rfl⟩
              go_wp2_with fail
              refine D1.mono ?_
              rintro e w' ⟨rfl, rfl⟩
              go_wp2_with fail
              refine D2.mono ?_
              rintro e w' ⟨rfl, rfl⟩
              go_wp2
              go_ret
              exact ⟨rfl, b12⟩
            · by_cases hck : cb = d
              · subst hck
                obtain rfl : m = 0 := by omega
                rw [if_pos rfl, Nat.sub_self] at hsl
                have O2 := own_any (some ad) 0 (F.drop cb) 0 wr hsl (by omega) (by rw [← HLD.out]; exact Hm.out)
                go_wp2_with (first | (go_at_call 39; refine L.mono ?_; rintro e w' ⟨rfl, rfl⟩) | (go_at_call 16; refine O2.mono ?_; rintro e w7 ⟨A7, c7, rfl, o7, hb7⟩))
                have b7 := b6.trans (hb7.mono b6.size)
                have h7 := hrd.below hb7
                have Q2 := new_any A7 c7 (F.drop cb) 0 w7 (Rd.of_own o7) (by omega) (by rw [← HLD.out]; exact Hm.out)
                clear O2 o7 hb7 b6 hrd hsl own6 L
                go_wp2_with fail
                refine Q2.mono ?_
                rintro e w8 ⟨lo2, r2, rfl, g3, g4, hs8, hb8⟩
                rw [← HLD.out] at hs8
                have b8 := b7.trans (hb8.mono b7.size)
                have h8 := h7.below hb8
                have zr := h7.lt
                clear Q2 hb8 b7 h7
                have T1 := text_read lo r 0 l w8 h8
                go_wp2_with fail
                refine T1.mono ?_
                rintro e w9 ⟨rfl, h9, hg9⟩
                have s9 := hs8.kept hg9 (by omega) g4
                have b9 := b8.grown hg9 b8.size (by intro j hj; injection hj; omega)
                clear T1 h8 hs8 b8 hg9
                have T2 := text_read lo2 r2 0 l w9 s9
                go_wp2_with fail
                refine T2.mono ?_
                rintro e w10 ⟨rfl, s10, hg10⟩
                have h10 := h9.kept hg10 (by omega) g2
                have b10 := b9.grown hg10 b9.size (by intro j hj; injection hj; omega)
                clear T2 h9 s9 b9 hg10
                generalize att textR 1048576 l 0 = a at *
                have U1 := signed_read lo r a.2.2 a.2.1 w10 h10
                go_wp2_with fail
                refine U1.mono ?_
                rintro e w11 ⟨rfl, h11, hg11⟩
                have s11 := s10.kept hg11 (by omega) g4
                have b11 := b10.grown hg11 b10.size (by intro j hj; injection hj; omega)
                clear U1 h10 s10 b10 hg11
                have U2 := signed_read lo2 r2 a.2.2 a.2.1 w11 s11
                go_wp2_with fail
                refine U2.mono ?_
                rintro e w12 ⟨rfl, s12, hg12⟩
                have h12 := h11.kept hg12 (by omega) g2
                have b12 := b11.grown hg12 b11.size (by intro j hj; injection hj; omega)
                clear U2 h11 s11 b11 hg12
                generalize att numR maxU a.2.1 a.2.2 = b at *
                have E1 := err_read lo r b.2.2 b.2.1 w12 h12
                have E2 := err_read lo2 r2 b.2.2 b.2.1 w12 s12
                have L1 := left_read lo r b.2.2 b.2.1 w12 h12
                have L2 := left_read lo2 r2 b.2.2 b.2.1 w12 s12
                have D1 := end_read lo r b.2.2 b.2.1 w12 h12
                have D2 := end_read lo2 r2 b.2.2 b.2.1 w12 s12
                clear h12 s12
                go_wp2_with fail
                refine E1.mono ?_
                rintro e w' ⟨rfl, rfl⟩
                go_wp2_with fail
                refine E2.mono ?_
                rintro e w' ⟨rfl, rfl⟩
                go_wp2_with fail
                refine L1.mono ?_
                rintro e w' ⟨rfl, rfl⟩
                go_wp2_with fail
                refine L2.mono ?_
                rintro e w' ⟨rfl, rfl⟩
                go_wp2_with fail
                refine D1.mono ?_
                rintro e w' ⟨rfl, rfl⟩
                go_wp2_with fail
                refine D2.mono ?_
                rintro e w' ⟨rfl, rfl⟩
                go_wp2
                go_ret
                exact ⟨rfl, b12⟩
              · rw [if_neg hck, Option.map_some] at hsl
                have O2 := own_any (some (ad.add d)) (cb - d) (F.drop d) m wr hsl (by omega) (by rw [← HLD.out]; exact Hm.out)
                go_wp2_with (first | (go_at_call 39; refine L.mono ?_; rintro e w' ⟨rfl, rfl⟩) | (go_at_call 16; refine O2.mono ?_; rintro e w7 ⟨A7, c7, rfl, o7, hb7⟩))
                have b7 := b6.trans (hb7.mono b6.size)
                have h7 := hrd.below hb7
                have Q2 := new_any A7 c7 (F.drop d) m w7 (Rd.of_own o7) (by omega) (by rw [← HLD.out]; exact Hm.out)
                clear O2 o7 hb7 b6 hrd hsl own6 L
                go_wp2_with fail
                refine Q2.mono ?_
                rintro e w8 ⟨lo2, r2, rfl, g3, g4, hs8, hb8⟩
                rw [← HLD.out] at hs8
                have b8 := b7.trans (hb8.mono b7.size)
                have h8 := h7.below hb8
                have zr := h7.lt
                clear Q2 hb8 b7 h7
                have T1 := text_read lo r 0 l w8 h8
                go_wp2_with fail
                refine T1.mono ?_
                rintro e w9 ⟨rfl, h9, hg9⟩
                have s9 := hs8.kept hg9 (by omega) g4
                have b9 := b8.grown hg9 b8.size (by intro j hj; injection hj; omega)
                clear T1 h8 hs8 b8 hg9
                have T2 := text_read lo2 r2 0 l w9 s9
                go_wp2_with fail
                refine T2.mono ?_
                rintro e w10 ⟨rfl, s10, hg10⟩
                have h10 := h9.kept hg10 (by omega) g2
                have b10 := b9.grown hg10 b9.size (by intro j hj; injection hj; omega)
                clear T2 h9 s9 b9 hg10
                generalize att textR 1048576 l 0 = a at *
                have U1 := signed_read lo r a.2.2 a.2.1 w10 h10
                go_wp2_with fail
                refine U1.mono ?_
                rintro e w11 ⟨rfl, h11, hg11⟩
                have s11 := s10.kept hg11 (by omega) g4
                have b11 := b10.grown hg11 b10.size (by intro j hj; injection hj; omega)
                clear U1 h10 s10 b10 hg11
                have U2 := signed_read lo2 r2 a.2.2 a.2.1 w11 s11
                go_wp2_with fail
                refine U2.mono ?_
                rintro e w12 ⟨rfl, s12, hg12⟩
                have h12 := h11.kept hg12 (by omega) g2
                have b12 := b11.grown hg12 b11.size (by intro j hj; injection hj; omega)
                clear U2 h11 s11 b11 hg12
                generalize att numR maxU a.2.1 a.2.2 = b at *
                have E1 := err_read lo r b.2.2 b.2.1 w12 h12
                have E2 := err_read lo2 r2 b.2.2 b.2.1 w12 s12
                have L1 := left_read lo r b.2.2 b.2.1 w12 h12
                have L2 := left_read lo2 r2 b.2.2 b.2.1 w12 s12
                have D1 := end_read lo r b.2.2 b.2.1 w12 h12
                have D2 := end_read lo2 r2 b.2.2 b.2.1 w12 s12
                clear h12 s12
                go_wp2_with fail
                refine E1.mono ?_
                rintro e w' ⟨rfl, rfl⟩
                go_wp2_with fail
                refine E2.mono ?_
                rintro e w' ⟨rfl, rfl⟩
                go_wp2_with fail
                refine L1.mono ?_
                rintro e w' ⟨rfl, rfl⟩
                go_wp2_with fail
                refine L2.mono ?_
                rintro e w' ⟨rfl, rfl⟩
                go_wp2_with fail
                refine D1.mono ?_
                rintro e w' ⟨rfl, rfl⟩
                go_wp2_with fail
                refine D2.mono ?_
                rintro e w' ⟨rfl, rfl⟩
                go_wp2
                go_ret
                exact ⟨rfl, b12⟩

end Go.Proofs.Ythhldokgddpabaa.wireJoins
