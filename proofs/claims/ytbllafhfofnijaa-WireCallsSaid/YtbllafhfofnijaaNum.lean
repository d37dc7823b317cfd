/- wire.Number, Signed, Truth, Text: what each writes. -/
import Derived.Test.YtbllafhfofnijaaJoin
import Derived.Test.YtbllafhfofnijaaLen
import Derived.Lib.ConvBytes
namespace Go.Proofs.Ytbllafhfofnijaa
open Go.RowKit

/-- A number as bytes: how many, then the bytes, the lowest first. -/
def numB (x : Nat) : List UInt8 := UInt8.ofNat (sz x) :: lowB x (sz x)
theorem numB_length (x : Nat) : (numB x).length = sz x + 1 := by simp [numB, lowB_length]

theorem number_any (A : Option Addr) (c : Nat) (l : List UInt8) (x : Nat) (w : World) (hr : Rd w w.heap.size (.slice A l.length c) (u8s l)) (hl : l.length ≤ 35184372088832) (hx : x < 18446744073709551616) :
    Calls Try.prog 14 #[.slice A l.length c, .int .u64 (x : Int)] w (Made w (l.length + (numB x).length) (l ++ numB x)) := by
  have hbl : bl x ≤ 64 := bl_le_of x 64 (by omega)
  have hs8 := sz_le x hx
  have hsz : ((sz x : Nat) : Int) = ((bl x : Int) + 7) / 8 := by unfold sz; omega
  have L := fun W => lowest_any x (sz x) W hx (by omega)
  rw [hsz] at L
  have HZ := Lib.hid hsz
  clear hsz
  go_enter Try.func14, Try.ntmps14
  go_wp2_with (first | (go_at_call 46; refine (len64_any x _ hx).mono ?_; rintro e w' ⟨rfl, rfl⟩) | (go_at_call 42; refine (L _).mono ?_; rintro e w1 ⟨A1, c1, rfl, hown, hb⟩))
  have h0 : w.heap.size ≤ w.heap.size := Nat.le_refl _
  have hr1 := (hr.alloc h0 (.cells #[.int .u8 (((bl x : Int) + 7) / 8)] 5)).below (hb.mono (by simp))
  have hn := (Rd.new w 5 #[.int .u8 (((bl x : Int) + 7) / 8)] 1 rfl (by simp [maxLen])).below (hb.mono (by simp))
  have hl1 := Rd.of_own hown
  have hby : [Value.int .u8 (((bl x : Int) + 7) / 8)] = u8s [UInt8.ofNat (sz x)] := by
    rw [← HZ.out, u8s, List.map_cons, List.map_nil, UInt8.toNat_ofNat', Nat.mod_eq_of_lt (by omega)]
  rw [hby] at hn
  have hsize : w.heap.size + 1 ≤ w1.heap.size := by have := hb.size; simpa using this
  have hb0 : Below w.heap.size w w1 := ((Below.refl _ _).alloc h0 _).trans (hb.mono (by simp))
  have J := join_new #[.slice A l.length c, .slice (some ⟨w.heap.size, 0, none⟩) 1 1, .slice A1 (sz x) c1] [l, [UInt8.ofNat (sz x)], lowB x (sz x)] w1
    (rdAll3 (hr1.more hb0.size) (hn.more hsize) hl1) 3 (l.length + (numB x).length) (l ++ numB x) rfl (by simp [numB]) List.length_append (by simp [numB_length]; omega) (by omega) _ rfl
  clear hby hown hb hr1 hn hl1
  go_wp2_with (go_at_call 41; refine J.mono ?_; rintro e w2 ⟨A2, c2, rfl, hown2, hb2⟩)
  go_ret
  exact Made.out (Made.mk hown2 hb2) hb0
/-- How a signed number is told as one that isn't. -/
def foldN (x : Int) : Nat := if 0 ≤ x then (2 * x).toNat else (-2 * x - 1).toNat
theorem foldN_lt (x : Int) (h1 : -9223372036854775808 ≤ x) (h2 : x ≤ 9223372036854775807) : foldN x < 18446744073709551616 := by
  unfold foldN; split <;> omega

theorem fold_any (x : Int) (w : World) (h1 : -9223372036854775808 ≤ x) (h2 : x ≤ 9223372036854775807) :
    Calls Try.prog 47 #[.int .i64 x] w fun e w' => e = .returned (.int .u64 (foldN x : Int)) ∧ w = w' := by
  by_cases h : 0 ≤ x
  · go_enter Try.func47, Try.ntmps47
    go_wp2
    go_ret
    exact ⟨ret_int (by rw [foldN, if_pos h]; omega), rfl⟩
  · go_enter Try.func47, Try.ntmps47
    go_wp2
    go_ret
    exact ⟨ret_int (by rw [foldN, if_neg (by omega)]; omega), rfl⟩

theorem signed_any (A : Option Addr) (c : Nat) (l : List UInt8) (x : Int) (w : World) (hr : Rd w w.heap.size (.slice A l.length c) (u8s l)) (hl : l.length ≤ 35184372088832) (h1 : -9223372036854775808 ≤ x) (h2 : x ≤ 9223372036854775807) :
    Calls Try.prog 16 #[.slice A l.length c, .int .i64 x] w (Made w (l.length + (numB (foldN x)).length) (l ++ numB (foldN x))) := by
  have hx := foldN_lt x h1 h2
  go_enter Try.func16, Try.ntmps16
  go_wp2_with (first | (go_at_call 47; refine (fold_any x _ h1 h2).mono ?_; rintro e w' ⟨rfl, rfl⟩) | (go_at_call 14; refine (number_any A c l (foldN x) _ hr hl hx).mono ?_; rintro e w1 ⟨A1, c1, rfl, hown, hb⟩))
  go_ret
  exact Made.mk hown hb

/-- A bool as a byte. -/
def boolB (b : Bool) : List UInt8 := [if b then 1 else 0]

theorem truth_any (A : Option Addr) (c : Nat) (l : List UInt8) (b : Bool) (w : World) (hr : Rd w w.heap.size (.slice A l.length c) (u8s l)) (hl : l.length ≤ 35184372088832) :
    Calls Try.prog 18 #[.slice A l.length c, .bool b] w (Made w (l.length + 1) (l ++ boolB b)) := by
  have h0 : w.heap.size ≤ w.heap.size := Nat.le_refl _
  have key : ∀ n : Int, [Value.int .u8 n] = u8s (boolB b) → RdAll (w.alloc (.cells #[.int .u8 n] 5)) (w.heap.size + 1) [.slice A l.length c, .slice (some ⟨w.heap.size, 0, none⟩) 1 1] [l, boolB b] := by
    intro n hn
    have h : Rd _ _ _ [Value.int .u8 n] := Rd.new w 5 #[.int .u8 n] 1 rfl (by simp [maxLen])
    have h' : Rd (w.alloc (.cells #[.int .u8 n] 5)) (w.heap.size + 1) (.slice (some ⟨w.heap.size, 0, none⟩) 1 1) (u8s (boolB b)) := hn ▸ h
    clear h
    have h := h'
    exact rdAll2 ((hr.alloc h0 _).more (by omega)) h
  have J := fun n hn => join_new #[.slice A l.length c, .slice (some ⟨w.heap.size, 0, none⟩) 1 1] [l, boolB b] (w.alloc (.cells #[.int .u8 n] 5)) (by simpa using key n hn) 2 (l.length + 1) (l ++ boolB b) rfl (by simp) (by simp [boolB]) (by omega) (by omega) (w.heap.size + 1) (by simp)
  clear key
  cases b with
  | false =>
    have J := J 0 rfl
    go_enter Try.func18, Try.ntmps18
    go_wp2_with (go_at_call 41; refine J.mono ?_; rintro e w2 ⟨A2, c2, rfl, hown2, hb2⟩)
    go_ret
    exact Made.out (Made.mk hown2 hb2) ((Below.refl _ _).alloc h0 _)
  | true =>
    have J := J 1 rfl
    go_enter Try.func18, Try.ntmps18
    go_wp2_with (go_at_call 41; refine J.mono ?_; rintro e w2 ⟨A2, c2, rfl, hown2, hb2⟩)
    go_ret
    exact Made.out (Made.mk hown2 hb2) ((Below.refl _ _).alloc h0 _)

/-- A text as bytes: how many, then they. -/
def textB (s : ByteArray) : List UInt8 := numB s.size ++ s.data.toList

theorem bytesWorld_below (w : World) (e : TypeId) (s : ByteArray) : Below w.heap.size w (Lib.bytesWorld w e s) :=
  ⟨rfl, rfl, rfl, by rw [Lib.bytesWorld_size]; omega, fun k hk => Lib.bytesWorld_at_old w e s k hk⟩
theorem bytesWorld_rd (w : World) (e : TypeId) (s : ByteArray) (hs : s.size ≤ maxLen) :
    Rd (Lib.bytesWorld w e s) (w.heap.size + 1) (.slice (some ⟨w.heap.size, 0, none⟩) s.size (grownCap w s.size 0 e)) (u8s s.data.toList) := by
  have hlen : (u8s s.data.toList).length = s.size := by rw [u8s_length]; rfl
  refine ⟨_, _, by rw [hlen], by rw [hlen]; exact grownCap_ge _ _ _ _, grownCap_le_maxLen _ _ _ _ hs, fun _ => ⟨_, rfl, by simp, fun j u hu => ?_⟩⟩
  have hj : j < s.size := by
    have := (List.getElem?_eq_some_iff.1 hu).1
    omega
  have hjl : j < s.data.toList.length := hj
  have hadd : (⟨w.heap.size, 0, none⟩ : Addr).add j = ⟨w.heap.size, j, none⟩ := by unfold Addr.add; split <;> simp_all
  rw [u8s_get _ _ hjl] at hu
  rw [hadd, Lib.bytesWorld_cell w e s j hj, ← hu]
  simp [List.getD, List.getElem?_eq_getElem hjl]

/-- What 'Text' answers where the text is not too long. -/
def TextMade (w : World) (l : List UInt8) (e : Ending) (w' : World) : Prop :=
  ∃ A c, e = .returned (.tuple #[.slice A l.length c, .int .i64 0]) ∧ w'.ownsRow w.heap.size 5 1 (.slice A l.length c) l.length (u8s l) ∧ Below w.heap.size w w'

theorem text_any (A : Option Addr) (c : Nat) (l : List UInt8) (s : ByteArray) (w : World) (hr : Rd w w.heap.size (.slice A l.length c) (u8s l)) (hl : l.length ≤ 35184372088832) (hs : s.size ≤ 1048576) :
    Calls Try.prog 7 #[.slice A l.length c, .string s] w (TextMade w (l ++ textB s)) := by
  have N := number_any none 0 [] s.size w ((Rd.nil _ _)) (by simp) (by omega)
  have hsl : s.data.toList.length = s.size := rfl
  have hs8 := sz_le s.size (by omega)
  have hnl := numB_length s.size
  obtain ⟨m, Hm⟩ : ∃ m, Hid (m = (l ++ textB s).length) := ⟨_, Lib.hid rfl⟩
  have hm : m ≤ 35184373200000 := by rw [Hm.out]; simp [textB]; omega
  have hcv : ∀ W : World, (convert 9 22 (.string s)).run Try.prog W = .ok (.slice (some ⟨W.heap.size, 0, none⟩) s.size (grownCap W s.size 0 5)) (Lib.bytesWorld W 5 s) :=
    fun W => Lib.run_convert_string_bytes W 9 22 5 s Try.underlying9 Try.underlying22 Try.underlying5
  have HL := Lib.hid hnl
  clear hnl hsl
  go_enter Try.func7, Try.ntmps7
  go_wp2_with (go_at_call 14; refine N.mono ?_; rintro e w1 ⟨A1, c1, rfl, hown, hb⟩; simp only [List.length_nil, Nat.zero_add, List.nil_append] at hown)
  have hr1 := hr.below hb
  have hn1 := Rd.of_own hown
  have hbw := bytesWorld_below w1 5 s
  have hw2 := Lib.bytesWorld_size w1 5 s
  have hs1 := hb.size
  have J := join_new #[.slice A l.length c, .slice A1 (numB s.size).length c1, .slice (some ⟨w1.heap.size, 0, none⟩) s.size (grownCap w1 s.size 0 5)] [l, numB s.size, s.data.toList] (Lib.bytesWorld w1 5 s)
    (rdAll3 ((hr1.below (hbw.mono hs1)).more (by omega)) ((hn1.below hbw).more (by omega)) ((bytesWorld_rd w1 5 s (by unfold maxLen; omega)).more (by omega))) 3 m (l ++ textB s) rfl (by simp [textB]) Hm.out.symm (by omega) (by omega) _ rfl
  have hb2 := hb.trans (hbw.mono hs1)
  clear hr1 hn1 hbw hw2 hown hb
  go_wp2_with (go_at_call 41; refine J.mono ?_; rintro e w2 ⟨A2, c2, rfl, hown2, hb3⟩)
  go_ret2
  obtain rfl := Hm.out
  exact ⟨A2, c2, rfl, own_base hown2 hb2.size, hb2.trans (hb3.mono hb2.size)⟩

end Go.Proofs.Ytbllafhfofnijaa
