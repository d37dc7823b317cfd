/- The walk of waterwheellaw01.WireCalls. -/
import Derived.Test.YtbllafhfofnijaaCallsReg
namespace Go.Proofs.Ytbllafhfofnijaa.wireCalls
open Go.RowKit

set_option maxHeartbeats 16000000 in
set_option maxRecDepth 100000 in
theorem walk (Ab Ac : Option Addr) (cb nb cc nc : Nat) (lb lc : List UInt8) (x : Nat) (n : Int) (s : ByteArray) (w : World)
    (hb : Rd w w.heap.size (.slice Ab nb cb) (u8s lb)) (hnb : nb = lb.length) (hc : Rd w w.heap.size (.slice Ac nc cc) (u8s lc)) (hnc : nc = lc.length)
    (hx : x < 18446744073709551616) (hn1 : -9223372036854775808 ≤ n) (hn2 : n ≤ 9223372036854775807) (hss : s.size ≤ 9223372036854775807) :
    Calls Try.prog 3 #[.slice Ab nb cb, .slice Ac nc cc, .int .u64 (x : Int), .int .i64 n, .string s] w fun e w' => e = .returned (.bool true) ∧ Below w.heap.size w w' := by
  have HNB := Lib.hid hnb
  have HNC := Lib.hid hnc
  clear hnb hnc
  by_cases k1 : 5000 < nb
  · go_enter Try.func3, Try.ntmps3
    go_wp2_with (go_at_call 6; refine (lives_any _).mono ?_; rintro e w1 ⟨rfl, hb1⟩)
    go_ret
    exact ⟨rfl, hb1⟩
  by_cases k2 : 5000 < nc
  · go_enter Try.func3, Try.ntmps3
    go_wp2_with (go_at_call 6; refine (lives_any _).mono ?_; rintro e w1 ⟨rfl, hb1⟩)
    go_ret
    exact ⟨rfl, hb1⟩
  by_cases k3 : 5000 < s.size
  · go_enter Try.func3, Try.ntmps3
    go_wp2_with (go_at_call 6; refine (lives_any _).mono ?_; rintro e w1 ⟨rfl, hb1⟩)
    go_ret
    exact ⟨rfl, hb1⟩
  go_enter Try.func3, Try.ntmps3
  go_wp2_with fail
  refine (lives_any _).mono ?_
  rintro e w1 ⟨rfl, b1⟩
  have rb1 := Rd.on hb b1
  have rc1 := Rd.on hc b1
  obtain ⟨TB, HTB⟩ : ∃ TB, Hid (TB = lb ++ textB s) := ⟨_, Lib.hid rfl⟩
  obtain ⟨FB, HFB⟩ : ∃ FB, Hid (FB = frameB lb) := ⟨_, Lib.hid rfl⟩
  obtain ⟨ur, HUR⟩ : ∃ ur, Hid (ur = unR lb) := ⟨_, Lib.hid rfl⟩
  go_wp2_with fail
  refine (own_any Ab cb lb nb w1 rb1 (by omega) HNB.out).mono ?_
  rintro e w2 ⟨A2, c2, rfl, o2, bb2⟩
  have b2 := b1.trans (bb2.mono b1.size)
  have rb2 := Rd.on rb1 bb2
  have rc2 := Rd.on rc1 bb2
  clear rb1 rc1
  go_wp2_with fail
  refine (text_n A2 c2 nb lb s w2 (Rd.of_own o2) HNB.out (by omega) (by omega)).mono ?_
  rintro e w3 ⟨A3, c3, rfl, o3, bb3⟩
  have b3 := b2.trans (bb3.mono b2.size)
  have rb3 := Rd.on rb2 bb3
  have rc3 := Rd.on rc2 bb3
  clear rb2 rc2
  clear o2
  have r3 := Rd.of_own o3
  clear o3
  rw [← HTB.out] at r3 ⊢
  obtain ⟨m3, Hm3⟩ : ∃ m3, Hid (m3 = TB.length) := ⟨_, Lib.hid rfl⟩
  rw [← Hm3.out] at r3 ⊢
  have ta3 := r3
  clear r3
  go_wp2_with fail
  refine (own_any Ab cb lb nb w3 rb3 (by omega) HNB.out).mono ?_
  rintro e w4 ⟨A4, c4, rfl, o4, bb4⟩
  have b4 := b3.trans (bb4.mono b3.size)
  have rb4 := Rd.on rb3 bb4
  have rc4 := Rd.on rc3 bb4
  have ta4 := Rd.on ta3 bb4
  go_wp2_with fail
  refine (rtext_any w3.heap.size A4 c4 nb lb s w4 o4 bb4.size (by omega) (by omega)).mono ?_
  rintro e w5 ⟨A5, c5, m5, hm5, rfl, o5, bb5⟩
  have bbx := bb4.trans bb5
  have b5 := b3.trans (bbx.mono b3.size)
  clear rb4 rc4 ta4 o4
  have rb5 := Rd.on rb3 bbx
  have rc5 := Rd.on rc3 bbx
  have ta5 := Rd.on ta3 bbx
  clear rb3 rc3 ta3 bbx hm5
  have r5 := Rd.of_own o5
  clear o5
  rw [← HTB.out] at r5
  have tb5 := r5
  clear r5
  go_wp2_with fail
  refine (own_any Ab cb lb nb w5 rb5 (by omega) HNB.out).mono ?_
  rintro e w6 ⟨A6, c6, rfl, o6, bb6⟩
  have b6 := b5.trans (bb6.mono b5.size)
  have rb6 := Rd.on rb5 bb6
  have rc6 := Rd.on rc5 bb6
  have ta6 := Rd.on ta5 bb6
  have tb6 := Rd.on tb5 bb6
  clear rb5 rc5 ta5 tb5
  go_wp2_with fail
  refine (frame_any A6 c6 lb nb w6 (Rd.of_own o6) HNB.out (by omega)).mono ?_
  rintro e w7 ⟨A7, c7, m7, hm7, rfl, o7, bb7⟩
  have b7 := b6.trans (bb7.mono b6.size)
  have rb7 := Rd.on rb6 bb7
  have rc7 := Rd.on rc6 bb7
  have ta7 := Rd.on ta6 bb7
  have tb7 := Rd.on tb6 bb7
  clear rb6 rc6 ta6 tb6
  clear o6 hm7
  have r7 := Rd.of_own o7
  clear o7
  rw [← HFB.out] at r7
  have fa7 := r7
  clear r7
  go_wp2_with fail
  refine (rframe_any Ab cb lb nb w7 rb7 HNB.out (by omega)).mono ?_
  rintro e w8 ⟨A8, c8, m8, hm8, rfl, o8, bb8⟩
  have b8 := b7.trans (bb8.mono b7.size)
  have rb8 := Rd.on rb7 bb8
  have rc8 := Rd.on rc7 bb8
  have ta8 := Rd.on ta7 bb8
  have tb8 := Rd.on tb7 bb8
  have fa8 := Rd.on fa7 bb8
  clear rb7 rc7 ta7 tb7 fa7
  clear hm8
  have r8 := Rd.of_own o8
  clear o8
  rw [← HFB.out] at r8
  have fb8 := r8
  clear r8
  go_wp2_with fail
  refine (own_any Ab cb lb nb w8 rb8 (by omega) HNB.out).mono ?_
  rintro e w9 ⟨A9, c9, rfl, o9, bb9⟩
  have b9 := b8.trans (bb9.mono b8.size)
  have rb9 := Rd.on rb8 bb9
  have rc9 := Rd.on rc8 bb9
  have ta9 := Rd.on ta8 bb9
  have tb9 := Rd.on tb8 bb9
  have fa9 := Rd.on fa8 bb9
  have fb9 := Rd.on fb8 bb9
  clear rb8 rc8 ta8 tb8 fa8 fb8
  have U1 := unframe_any A9 c9 nb lb w9 (Rd.of_own o9) HNB.out (by omega)
  rw [← HUR.out] at U1
  go_wp2_with fail
  refine U1.mono ?_
  rintro e w10 ⟨A10, c10, m10, hm10, rfl, o10, bb10⟩
  have b10 := b9.trans (bb10.mono b9.size)
  have rb10 := Rd.on rb9 bb10
  have rc10 := Rd.on rc9 bb10
  have ta10 := Rd.on ta9 bb10
  have tb10 := Rd.on tb9 bb10
  have fa10 := Rd.on fa9 bb10
  have fb10 := Rd.on fb9 bb10
  clear rb9 rc9 ta9 tb9 fa9 fb9
  clear o9 U1 hm10
  have r10 := Rd.of_own o10
  clear o10
  have ua10 := r10
  clear r10
  have U2 := runframe_any Ab cb nb lb w10 rb10 HNB.out (by omega)
  rw [← HUR.out] at U2
  go_wp2_with fail
  refine U2.mono ?_
  rintro e w11 ⟨A11, c11, m11, hm11, rfl, o11, bb11⟩
  have b11 := b10.trans (bb11.mono b10.size)
  have rb11 := Rd.on rb10 bb11
  have rc11 := Rd.on rc10 bb11
  have ta11 := Rd.on ta10 bb11
  have tb11 := Rd.on tb10 bb11
  have fa11 := Rd.on fa10 bb11
  have fb11 := Rd.on fb10 bb11
  have ua11 := Rd.on ua10 bb11
  clear rb10 rc10 ta10 tb10 fa10 fb10 ua10
  clear U2 hm11
  have r11 := Rd.of_own o11
  clear o11
  have ub11 := r11
  clear r11
  go_wp2_with fail
  refine last Ab Ac A3 A5 A7 A8 A10 A11 cb nb cc nc m3 c3 m5 c5 m7 c7 m8 c8 m10 c10 m11 c11 lb lc TB FB ur.1 x n (ur.2.1 : Int) (ur.2.2 : Int) s w11 rb11 rc11 ta11 tb11 fa11 fb11 ua11 ub11 HNB k1 hx hn1 hn2 _ _ ?_
  intro tm W h10 hB
  go_wp2_with fail
  go_ret
  exact ⟨by rw [h10], b11.trans (hB.mono b11.size)⟩
end Go.Proofs.Ytbllafhfofnijaa.wireCalls
