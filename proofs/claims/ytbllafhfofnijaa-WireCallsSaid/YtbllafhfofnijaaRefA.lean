/- The document's own Number, Signed, Truth, Text, four, told (waterwheelref01): what each writes, or tells. -/
import Derived.Test.YtbllafhfofnijaaKit
import Derived.Test.YtbllafhfofnijaaVal
import Derived.Lib.AppendStr
import Derived.Deep.RegionWith
import Derived.Deep.QuietTactic
import Derived.BigQuiet
namespace Go.Proofs.Ytbllafhfofnijaa
open Go.RowKit

/-- A call that left the bytes l, n of them, in a row that lies from block base on; nothing below it turned. -/
def RowAt (base : Nat) (w : World) (n : Nat) (l : List UInt8) (e : Ending) (w' : World) : Prop :=
  ∃ A c, e = .returned (.slice A n c) ∧ w'.ownsRow base 5 1 (.slice A n c) n (u8s l) ∧ Below base w w'

theorem RowAt.mk {base : Nat} {w w' : World} {n : Nat} {l : List UInt8} {v : Value} (h : w'.ownsRow base 5 1 v n (u8s l)) (hb : Below base w w') : RowAt base w n l (.returned v) w' := by
  obtain ⟨A, c, rfl⟩ := own_form h
  exact ⟨A, c, rfl, h, hb⟩

theorem sz_step (x k : Nat) : k < sz x ↔ 0 < x / 256 ^ k := by
  constructor
  · intro h
    have h1 := sz_ge x (by omega)
    have h2 : 256 ^ k ≤ 256 ^ (sz x - 1) := Nat.pow_le_pow_right (by omega) (by omega)
    exact Nat.div_pos (by omega) (Nat.pow_pos (by omega))
  · intro h
    rcases Nat.lt_or_ge k (sz x) with h1 | h1
    · exact h1
    · have h2 := sz_lt x
      have h3 : 256 ^ sz x ≤ 256 ^ k := Nat.pow_le_pow_right (by omega) h1
      rw [Nat.div_eq_of_lt (by omega)] at h
      omega

theorem lowB_snoc (x k : Nat) : lowB x (k + 1) = lowB x k ++ [UInt8.ofNat (x / 256 ^ k)] := by
  unfold lowB
  rw [List.range_succ, List.map_append, List.map_cons, List.map_nil]
theorem lowB_nil (x : Nat) : lowB x 0 = [] := rfl

theorem own_grown {w w' : World} {base : Nat} {e : TypeId} {v : Value} {n size : Nat} {xs : List Value} {o : Option Nat} (h : w.ownsRow base e size v n xs) (hg : w.grownBy w' o) (hne : ∀ k, o = some k → k < base) : w'.ownsRow base e size v n xs := by
  refine ⟨h.1, ?_⟩
  rcases h.2 with h2 | ⟨g, cap, cur, hv, hb, hh, r⟩
  · exact .inl h2
  · exact .inr ⟨g, cap, cur, hv, hb, by rw [hg.block g (Array.getElem?_eq_some_iff.1 hh).1 (fun h => by have := hne g h.symm; omega)]; exact hh, r⟩

theorem rd_one {w : World} {z : Int} {b : UInt8} (h : z = (b.toNat : Int)) : Rd (w.alloc (.cells #[.int .u8 z] 5)) (w.heap.size + 1) (.slice (some ⟨w.heap.size, 0, none⟩) 1 1) (u8s [b]) := by
  subst h
  exact Rd.new w 5 #[.int .u8 (b.toNat : Int)] 1 rfl (by simp [maxLen])

theorem byte_of (y : Nat) : ((y : Int) % 256) = ((UInt8.ofNat y).toNat : Int) := by
  rw [UInt8.toNat_ofNat']
  omega

theorem rnumber_any (base : Nat) (A : Option Addr) (c n : Nat) (l : List UInt8) (x : Nat) (w : World) (hown : w.ownsRow base 5 1 (.slice A n c) n (u8s l)) (hbase : base ≤ w.heap.size) (hn : n ≤ 100000000) (hx : x < 18446744073709551616) :
    Calls Try.prog 15 #[.slice A n c, .int .u64 (x : Int)] w (RowAt base w (n + (numB x).length) (l ++ numB x)) := by
  obtain ⟨i0, hi, hz0, hz1, hz2⟩ := info_parts info_u8
  have HX := Lib.hid (sz_le x hx)
  have HS := Lib.hid (sz_step x)
  have HL := Lib.hid (lowB_snoc x)
  go_enter Try.func15, Try.ntmps15
  go_wp2_with fail
  go_loopw [1, 5] (fun X L wr => ∃ (k y : Nat) (A2 : Option Addr) (c2 : Nat), y < 18446744073709551616 ∧ k ≤ 8 ∧ Hid (y = x / 256 ^ k) ∧ Hid (k ≤ sz x) ∧ X = .int .u64 (y : Int) ∧ L = .slice A2 k c2 ∧ wr.ownsRow w.heap.size 5 1 (.slice A2 k c2) k (u8s (lowB x k)) ∧ Below w.heap.size w wr)
    (fun X _ _ => (intOf X).toNat)
  case atStart => exact ⟨0, x, none, 0, hx, by omega, Lib.hid (by simp), Lib.hid (Nat.zero_le _), rfl, rfl, World.ownsRow_nil _ _ _ _, Below.refl _ _⟩
  case round =>
    obtain ⟨k, y, A2, c2, hy, hk8, Hy, Hk, rfl, rfl, hrow, hb⟩ := hrel
    have hg0 : w.heap.size ≤ wr.heap.size := hb.size
    by_cases h0 : 0 < y
    · have hrow1 := own_below hrow ((Below.refl _ _).alloc (Nat.le_refl _) (.cells #[.int .u8 ((y : Int) % 256)] 5))
      have hb1 := hb.alloc hg0 (.cells #[.int .u8 ((y : Int) % 256)] 5)
      have hnew := rd_one (w := wr) (byte_of y)
      have hm1 : k + (u8s [UInt8.ofNat y]).length ≤ maxLen := by simp [u8s, maxLen]; omega
      have hm2 : (k + (u8s [UInt8.ofNat y]).length) * 1 ≤ 140737488355328 := by simp [u8s]; omega
      have hB : w.heap.size ≤ (wr.alloc (.cells #[.int .u8 ((y : Int) % 256)] 5)).heap.size := by simp; omega
      go_wp2_with (first | (at_builtin; refine wpList_app_rd _ rfl (.tmp 8) (.tmp 11) 22 rfl w.heap.size 5 i0 _ 1 Try.underlying22 hi hz0 hz1 hz2 rfl _ k _ rfl hrow1 (wr.heap.size + 1) _ _ rfl hnew (u8s_one _) hm1 hm2 hB ?_; intro v' w2 hrow2 hg2))
      have hb2 := below_app hrow1 hb1 hB hg2
      have hrow3 : w2.ownsRow w.heap.size 5 1 v' (k + 1) (u8s (lowB x (k + 1))) := by
        have h := hrow2
        rw [← u8s_append, Hy.out, ← HL.out k] at h
        exact h
      clear hrow2
      obtain ⟨A3, c3, rfl⟩ := own_form hrow3
      have hk1 : k + 1 ≤ sz x := (HS.out k).2 (by rw [← Hy.out]; exact h0)
      have hk7 : k + 1 ≤ 8 := Nat.le_trans hk1 HX.out
      have Hk1 := Lib.hid hk1
      clear hk1
      go_roundw
      case rel => exact ⟨k + 1, y / 256, A3, c3, by omega, hk7, Lib.hid (by rw [Hy.out, Nat.pow_succ, Nat.div_div_eq_div_mul]), Hk1, by go_num, rfl, hrow3, hb2⟩
      case measure => simp [intOf]; omega
    · obtain rfl : y = 0 := by omega
      obtain rfl : k = sz x := by
        have h1 := Hk.out
        rcases Nat.lt_or_ge k (sz x) with h2 | h2
        · have := (HS.out k).1 h2
          rw [← Hy.out] at this
          omega
        · omega
      obtain ⟨k, HK⟩ : ∃ k, Hid (k = sz x) := ⟨_, Lib.hid rfl⟩
      rw [← HK.out] at hk8 hrow ⊢
      have hown0 := own_below hown hb
      have hrow1 := own_below hrow ((Below.refl _ _).alloc (Nat.le_refl _) (.cells #[.int .u8 (k : Int)] 5))
      have hown1 := own_below hown0 ((Below.refl _ _).alloc (Nat.le_refl _) (.cells #[.int .u8 (k : Int)] 5))
      have hb1 := (hb.mono hbase).alloc (Nat.le_trans hbase hg0) (.cells #[.int .u8 (k : Int)] 5)
      have hnew := rd_one (w := wr) (z := (k : Int)) (b := UInt8.ofNat k) (by rw [UInt8.toNat_ofNat']; omega)
      have hm1 : n + (u8s [UInt8.ofNat k]).length ≤ maxLen := by simp [u8s, maxLen]; omega
      have hm2 : (n + (u8s [UInt8.ofNat k]).length) * 1 ≤ 140737488355328 := by simp [u8s]; omega
      have hB : base ≤ (wr.alloc (.cells #[.int .u8 (k : Int)] 5)).heap.size := by simp; omega
      have hlk : (u8s (lowB x k)).length = k := by rw [u8s_length, lowB_length]
      have hm3 : n + 1 + (u8s (lowB x k)).length ≤ maxLen := by rw [hlk]; unfold maxLen; omega
      have hm4 : (n + 1 + (u8s (lowB x k)).length) * 1 ≤ 140737488355328 := by rw [hlk]; omega
      have HLK := Lib.hid hlk
      have hblk : ∀ j, (Value.slice A n c).ownBlock = some j → j < w.heap.size := fun j hj => (hown.lt j hj).2
      clear hlk
      go_wp2_with (first
        | (at_builtin; refine wpList_app_rd _ rfl (.tmp 15) (.tmp 19) 22 rfl base 5 i0 _ 1 Try.underlying22 hi hz0 hz1 hz2 rfl _ n _ rfl hown1 (wr.heap.size + 1) _ _ rfl hnew (u8s_one _) hm1 hm2 hB ?_; intro v2 w2 hown2 hg2; have hrow2 := own_grown hrow1 hg2 hblk; have hb2 := below_app hown1 hb1 hB hg2)
        | (at_builtin; refine wpList_app_rd _ rfl (.tmp 20) (.tmp 21) 22 rfl base 5 i0 _ 1 Try.underlying22 hi hz0 hz1 hz2 rfl _ (n + 1) _ rfl hown2 w2.heap.size _ _ rfl (Rd.of_own hrow2) (u8s_one _) hm3 hm4 (Nat.le_trans hB hg2.size) ?_; intro v3 w3 hown3 hg3; have hb3 := below_app hown2 hb2 (Nat.le_trans hB hg2.size) hg3))
      go_ret
      refine RowAt.mk ?_ hb3
      have h := hown3
      rw [HLK.out, ← u8s_append, ← u8s_append, List.append_assoc, HK.out] at h
      rw [numB_length, show n + (sz x + 1) = n + 1 + sz x by omega]
      exact h

theorem rsigned_any (base : Nat) (A : Option Addr) (c n : Nat) (l : List UInt8) (x : Int) (w : World) (hown : w.ownsRow base 5 1 (.slice A n c) n (u8s l)) (hbase : base ≤ w.heap.size) (hn : n ≤ 100000000) (h1 : -9223372036854775808 ≤ x) (h2 : x ≤ 9223372036854775807) :
    Calls Try.prog 17 #[.slice A n c, .int .i64 x] w (RowAt base w (n + (numB (foldN x)).length) (l ++ numB (foldN x))) := by
  have hx := foldN_lt x h1 h2
  have N := fun (z : Int) (hz : z = (foldN x : Int)) => hz ▸ rnumber_any base A c n l (foldN x) w hown hbase hn hx
  by_cases h : 0 ≤ x
  · have hf : (2 * x : Int) = (foldN x : Int) := by rw [foldN, if_pos h]; omega
    have M := N _ hf
    clear N hf
    go_enter Try.func17, Try.ntmps17
    go_wp2_with (go_at_call 15; refine M.mono ?_; rintro e w1 ⟨A1, c1, rfl, hown1, hb1⟩)
    go_ret
    exact ⟨A1, c1, rfl, hown1, hb1⟩
  · have hf : (2 * -(x + 1) + 1 : Int) = (foldN x : Int) := by rw [foldN, if_neg h]; omega
    have M := N _ hf
    clear N hf
    go_enter Try.func17, Try.ntmps17
    go_wp2_with (go_at_call 15; refine M.mono ?_; rintro e w1 ⟨A1, c1, rfl, hown1, hb1⟩)
    go_ret
    exact ⟨A1, c1, rfl, hown1, hb1⟩

theorem rtruth_any (base : Nat) (A : Option Addr) (c n : Nat) (l : List UInt8) (b : Bool) (w : World) (hown : w.ownsRow base 5 1 (.slice A n c) n (u8s l)) (hbase : base ≤ w.heap.size) (hn : n ≤ 100000000) :
    Calls Try.prog 19 #[.slice A n c, .bool b] w (RowAt base w (n + 1) (l ++ boolB b)) := by
  obtain ⟨i0, hi, hz0, hz1, hz2⟩ := info_parts info_u8
  have key : ∀ (z : Int) (u : UInt8), z = (u.toNat : Int) → (w.alloc (.cells #[.int .u8 z] 5)).ownsRow base 5 1 (.slice A n c) n (u8s l) ∧ Below base w (w.alloc (.cells #[.int .u8 z] 5)) ∧
      Rd (w.alloc (.cells #[.int .u8 z] 5)) (w.heap.size + 1) (.slice (some ⟨w.heap.size, 0, none⟩) 1 1) (u8s [u]) ∧ n + (u8s [u]).length ≤ maxLen ∧ (n + (u8s [u]).length) * 1 ≤ 140737488355328 ∧ base ≤ (w.alloc (.cells #[.int .u8 z] 5)).heap.size :=
    fun z u hz => ⟨own_below hown ((Below.refl _ _).alloc (Nat.le_refl _) _), (Below.refl _ _).alloc hbase _, rd_one hz, by simp [u8s, maxLen]; omega, by simp [u8s]; omega, by simp; omega⟩
  cases b with
  | false =>
    obtain ⟨hown1, hb1, hnew, hm1, hm2, hB⟩ := key 0 0 rfl
    clear key
    go_enter Try.func19, Try.ntmps19
    go_wp2_with (first | (at_builtin; refine wpList_app_rd _ rfl (.tmp 9) (.tmp 10) 22 rfl base 5 i0 _ 1 Try.underlying22 hi hz0 hz1 hz2 rfl _ n _ rfl hown1 (w.heap.size + 1) _ _ rfl hnew (u8s_one _) hm1 hm2 hB ?_; intro v2 w2 hown2 hg2))
    have hb2 := below_app hown1 hb1 hB hg2
    go_ret
    refine RowAt.mk ?_ hb2
    rw [u8s_append]
    exact hown2
  | true =>
    obtain ⟨hown1, hb1, hnew, hm1, hm2, hB⟩ := key 1 1 rfl
    clear key
    go_enter Try.func19, Try.ntmps19
    go_wp2_with (first | (at_builtin; refine wpList_app_rd _ rfl (.tmp 6) (.tmp 7) 22 rfl base 5 i0 _ 1 Try.underlying22 hi hz0 hz1 hz2 rfl _ n _ rfl hown1 (w.heap.size + 1) _ _ rfl hnew (u8s_one _) hm1 hm2 hB ?_; intro v2 w2 hown2 hg2))
    have hb2 := below_app hown1 hb1 hB hg2
    go_ret
    refine RowAt.mk ?_ hb2
    rw [u8s_append]
    exact hown2

theorem strCells_u8s (s : ByteArray) : Lib.strCells s = u8s s.data.toList := rfl

theorem rtext_any (base : Nat) (A : Option Addr) (c n : Nat) (l : List UInt8) (s : ByteArray) (w : World) (hown : w.ownsRow base 5 1 (.slice A n c) n (u8s l)) (hbase : base ≤ w.heap.size) (hn : n ≤ 100000000) (hs : s.size ≤ 1048576) :
    Calls Try.prog 9 #[.slice A n c, .string s] w fun e w' => ∃ A' c' m, m = n + (textB s).length ∧ e = .returned (.tuple #[.slice A' m c', .int .i64 0]) ∧ w'.ownsRow base 5 1 (.slice A' m c') m (u8s (l ++ textB s)) ∧ Below base w w' := by
  obtain ⟨i0, hi, hz0, hz1, hz2⟩ := info_parts info_u8
  have hs8 := sz_le s.size (by omega)
  have hsl : s.data.toList.length = s.size := rfl
  have htl : (textB s).length = (numB s.size).length + s.size := by rw [textB, List.length_append, hsl]
  have hnl : (numB s.size).length ≤ 9 := by rw [numB_length]; omega
  have N := rnumber_any base A c n l s.size w hown hbase hn (by omega)
  obtain ⟨k, HK⟩ : ∃ k, Hid (k = (numB s.size).length) := ⟨_, Lib.hid rfl⟩
  rw [← HK.out] at N hnl htl
  have HT := Lib.hid htl
  have hm1 : n + k + s.size ≤ maxLen := by unfold maxLen; omega
  have hm2 : n + k + s.size ≤ 140737488355328 := by omega
  clear htl hsl hs8
  go_enter Try.func9, Try.ntmps9
  go_wp2_with (first
    | (go_at_call 15; refine N.mono ?_; rintro e w1 ⟨A1, c1, rfl, hown1, hb1⟩)
    | (at_builtin; refine Lib.wpList_append_own_string _ rfl (.tmp 13) (.tmp 14) 22 9 rfl base 5 i0 Try.underlying22 Try.underlying9 hi hz0 hz1 hz2 _ (n + k) _ rfl hown1 s rfl hm1 hm2 (Nat.le_trans hbase hb1.size) ?_; intro v2 w2 hown2 hg2 _; have hb2 := below_app hown1 hb1 (Nat.le_trans hbase hb1.size) hg2))
  obtain ⟨A2, c2, rfl⟩ := own_form hown2
  go_ret2
  rw [strCells_u8s, ← u8s_append, List.append_assoc] at hown2
  exact ⟨A2, c2, n + k + s.size, by rw [HT.out]; omega, rfl, hown2, hb2⟩

theorem rfour_any (base : Nat) (A : Option Addr) (c n : Nat) (l : List UInt8) (x : Nat) (w : World) (hown : w.ownsRow base 5 1 (.slice A n c) n (u8s l)) (hbase : base ≤ w.heap.size) (hn : n ≤ 100000000) (hx : x < 4294967296) :
    Calls Try.prog 43 #[.slice A n c, .int .u32 (x : Int)] w (RowAt base w (n + 4) (l ++ lowB x 4)) := by
  obtain ⟨i0, hi, hz0, hz1, hz2⟩ := info_parts info_u8
  obtain ⟨C, HC⟩ : ∃ C : Array Value, C = #[.int .u8 ((x : Int) % 256), .int .u8 ((x : Int) / 256 % 256), .int .u8 ((x : Int) / 65536 % 256), .int .u8 ((x : Int) / 16777216)] := ⟨_, rfl⟩
  have hcells : C.toList = u8s (lowB x 4) := by
    subst HC
    have e : ∀ (y : Nat) (z : Int), z = ((y % 256 : Nat) : Int) → Value.int .u8 z = .int .u8 ((UInt8.ofNat y).toNat : Int) := fun y z h => by rw [h, UInt8.toNat_ofNat']
    show _ :: _ :: _ :: _ :: [] = [_, _, _, _]
    rw [e (x / 256 ^ 0) _ (by simp), e (x / 256 ^ 1) ((x : Int) / 256 % 256) (by simp), e (x / 256 ^ 2) ((x : Int) / 65536 % 256) (by simp), e (x / 256 ^ 3) ((x : Int) / 16777216) (by simp; omega)]
  have hnew := Rd.new w 5 C 4 (by subst HC; rfl) (by simp [maxLen])
  rw [hcells] at hnew
  have hown1 := own_below hown ((Below.refl _ _).alloc (Nat.le_refl _) (.cells C 5))
  have hb1 := (Below.refl base w).alloc hbase (.cells C 5)
  have hl4 : (u8s (lowB x 4)).length = 4 := by rw [u8s_length, lowB_length]
  have hm1 : n + (u8s (lowB x 4)).length ≤ maxLen := by rw [hl4]; unfold maxLen; omega
  have hm2 : (n + (u8s (lowB x 4)).length) * 1 ≤ 140737488355328 := by rw [hl4]; omega
  have hB : base ≤ (w.alloc (.cells C 5)).heap.size := by simp; omega
  have H4 := Lib.hid hl4
  clear hl4 hcells
  subst HC
  go_enter Try.func43, Try.ntmps43
  go_wp2_with (first | (at_builtin; refine wpList_app_rd _ rfl (.tmp 5) (.tmp 17) 22 rfl base 5 i0 _ 1 Try.underlying22 hi hz0 hz1 hz2 rfl _ n _ rfl hown1 (w.heap.size + 1) _ _ rfl hnew (u8s_one _) hm1 hm2 hB ?_; intro v2 w2 hown2 hg2))
  have hb2 := below_app hown1 hb1 hB hg2
  go_ret
  refine RowAt.mk ?_ hb2
  have h := hown2
  rw [H4.out, ← u8s_append] at h
  exact h

theorem rtold_any (A : Option Addr) (c n B : Nat) (l : List UInt8) (w : World) (hr : Rd w B (.slice A n c) (u8s l)) (hn : n = l.length) (h4 : 4 ≤ n) :
    Calls Try.prog 45 #[.slice A n c] w fun e w' => e = .returned (.int .u32 (valN (l.take 4) : Nat)) ∧ ∃ k, w' = w.drewN k := by
  obtain ⟨ad, rfl, _, h0⟩ := hr.byte (k := 0) (by omega)
  obtain ⟨_, e1, _, h1⟩ := hr.byte (k := 1) (by omega)
  injection e1 with e1; subst e1
  obtain ⟨_, e1, _, h2⟩ := hr.byte (k := 2) (by omega)
  injection e1 with e1; subst e1
  obtain ⟨_, e1, _, h3⟩ := hr.byte (k := 3) (by omega)
  injection e1 with e1; subst e1
  have hv : valN (l.take 4) = l[0].toNat + 256 * (l[1].toNat + 256 * (l[2].toNat + 256 * l[3].toNat)) := by
    match l, hn, h4 with
    | a :: b :: c :: d :: t, _, _ => simp [valN]
    | [], hn, h4 => simp at hn; omega
    | [_], hn, h4 => simp at hn; omega
    | [_, _], hn, h4 => simp at hn; omega
    | [_, _, _], hn, h4 => simp at hn; omega
  have b0 := l[0].toNat_lt
  have b1 := l[1].toNat_lt
  have b2 := l[2].toNat_lt
  have b3 := l[3].toNat_lt
  have HV := Lib.hid hv
  clear hv
  generalize l[0].toNat = c0 at *
  generalize l[1].toNat = c1 at *
  generalize l[2].toNat = c2 at *
  generalize l[3].toNat = c3 at *
  have g0 : w.cell? ad = some (.int .u8 (c0 : Int)) := h0
  have g1 : w.cell? ⟨ad.block, ad.off + 1, none⟩ = some (.int .u8 (c1 : Int)) := h1
  have g2 : w.cell? ⟨ad.block, ad.off + 2, none⟩ = some (.int .u8 (c2 : Int)) := h2
  have g3 : w.cell? ⟨ad.block, ad.off + 3, none⟩ = some (.int .u8 (c3 : Int)) := h3
  have i0 : (0 : Int) < (n : Int) := by omega
  have i1 : (1 : Int) < (n : Int) := by omega
  have i2 : (2 : Int) < (n : Int) := by omega
  have i3 : (3 : Int) < (n : Int) := by omega
  clear hr hn h0 h1 h2 h3
  go_enter Try.func45, Try.ntmps45
  go_wp2_with fail
  go_quiet (fail)
  go_wp2_with fail
  go_ret
  exact ⟨ret_int (by rw [HV.out]; omega), ⟨_, rfl⟩⟩
end Go.Proofs.Ytbllafhfofnijaa
