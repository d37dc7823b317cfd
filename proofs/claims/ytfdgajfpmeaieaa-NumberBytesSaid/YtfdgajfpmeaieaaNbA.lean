/- slices.Concat of byte slices; number.Bytes, and the document's own. -/
import Derived.Test.YtfdgajfpmeaieaaRefT
import Derived.Test.YtfdgajfpmeaieaaRefA
import Derived.Shelf.Spec.SlicesGrow
namespace Go.Proofs.Ytfdgajfpmeaieaa
open Go.RowKit

/-! slices.Grow by its contract off the shelf. -/
def growRen : Go.Shelf.Ren := ⟨fun | 4 => 97 | n => n, fun | 0 => 0 | 3 => 3 | 4 => 4 | 9 => 9 | 20 => 20 | 22 => 40 | 25 => 5 | n => n, fun | n => n⟩
theorem growLays : Lays8.n4 Try.prog growRen := {
  mixed := by kernel_rfl
  f4 := ⟨(Try.f97).name, by kernel_rfl, Try.func97.trans (congrArg some (by kernel_rfl))⟩
  t0 := Try.underlying0
  a0 := Try.isAgg0
  z0 := Try.sizeOf0
  v0 := Try.zeroValue0
  t3 := Try.underlying3
  a3 := Try.isAgg3
  z3 := Try.sizeOf3
  v3 := Try.zeroValue3
  t4 := Try.underlying4
  a4 := Try.isAgg4
  z4 := Try.sizeOf4
  v4 := Try.zeroValue4
  t9 := Try.underlying9
  a9 := Try.isAgg9
  z9 := Try.sizeOf9
  v9 := Try.zeroValue9
  t20 := Try.underlying20
  a20 := Try.isAgg20
  z20 := Try.sizeOf20
  v20 := Try.zeroValue20
  t22 := Try.underlying40
  a22 := Try.isAgg40
  z22 := Try.sizeOf40
  v22 := Try.zeroValue40 }

theorem grow_nil (n : Nat) (w : World) (hn : n ≤ 70368744177664) :
    Calls Try.prog 97 #[.slice none 0 0, .int .i64 (n : Int)] w fun e w' => ∃ A c, e = .returned (.slice A 0 c) ∧ w'.ownsRow w.heap.size 5 1 (.slice A 0 c) 0 [] ∧ Below w.heap.size w w' := by
  obtain ⟨i0, hi, hz0, hz1, hz2⟩ := info_parts info_u8
  by_cases h : n = 0
  · subst h
    refine (Any8.slices_Grow_room growLays none 0 0 0 w (by omega) (by omega) (by omega) (by omega)).mono ?_
    rintro e w' ⟨rfl, rfl⟩
    exact ⟨none, 0, rfl, World.ownsRow_nil _ _ _ _, Below.refl _ _⟩
  · refine (Any8.slices_Grow_grow growLays i0 (.int .u8 0) hi hz0 (by rw [hz1]; omega) none 0 0 n [] w (by omega) (by omega) (by rw [hz2]; omega) (by omega) (by simp) (fun _ => rfl) (fun a h => by cases h)).mono ?_
    rintro e w' ⟨rfl, rfl⟩
    have h1 := grownCap_ge w (0 + n) 0 5
    have h2 := grownCap_le_maxLen w (0 + n) 0 5 (by unfold maxLen; omega)
    refine ⟨_, _, rfl, ⟨rfl, .inr ⟨w.heap.size, _, _, rfl, Nat.le_refl _, heap_alloc_new w.drew _, Nat.zero_le _, h2, ?_, by simp⟩⟩, (Below.refl w.heap.size w).drew.alloc (Nat.le_refl _) _⟩
    have hc : (Value.int IntKind.u8 0).cells.size = 1 := rfl
    simp only [Array.size_append, size_zeroCells, hc, List.size_toArray, List.length_nil]
    show 0 + (0 + n - 0) * 1 + (grownCap w (0 + n) 0 5 - (0 + n)) * 1 = grownCap w (0 + n) 0 5 * 1
    omega

set_option maxRecDepth 20000 in
theorem concat_any (A : Option Addr) (c : Nat) (vs : List Value) (ls : List (List UInt8)) (w : World) (hv : Rd w w.heap.size (.slice A vs.length c) vs) (hl : RdAll w w.heap.size vs ls)
    (hn : ls.flatten.length ≤ 70368744177664) (hvl : vs.length ≤ 9223372036854775806) :
    Calls Try.prog 77 #[.slice A vs.length c] w (Made w ls.flatten.length ls.flatten) := by
  obtain ⟨i0, hi, hz0, hz1, hz2⟩ := info_parts info_u8
  have HL := Lib.hid hl.1
  have G := fun (n : Nat) (W : World) (h : n ≤ 70368744177664) => grow_nil n W h
  go_enter Try.func77, Try.ntmps77
  go_wp2_with fail
  go_loop [3, 11] (fun s i => ∃ k : Nat, k ≤ vs.length ∧ i = .int .i64 k ∧ s = .int .i64 ((flatN ls k).length : Nat)) (fun _ i => vs.length - (intOf i).toNat)
  case atStart => exact ⟨0, Nat.zero_le _, rfl, rfl⟩
  case round =>
    obtain ⟨k, hk, rfl, rfl⟩ := hrel
    have hle := flatN_le ls k
    by_cases hlt : k < vs.length
    · have hkl : k < ls.length := by rw [← HL.out]; exact hlt
      obtain ⟨ad, rfl, _, hcell⟩ := hv.at_ hlt
      obtain ⟨A', c', hv', _, _⟩ := (hl.2 k _ _ (List.getElem?_eq_getElem hlt) (List.getElem?_eq_getElem hkl)).form
      rw [hv'] at hcell
      have hle' := flatN_le ls (k + 1)
      have hs : (flatN ls (k + 1)).length = (flatN ls k).length + ls[k].length := by rw [flatN_succ ls k hkl, List.length_append]
      have HS := Lib.hid hs
      have hb1 : (flatN ls k).length + ls[k].length ≤ 70368744177664 := by omega
      clear hs hv'
      obtain ⟨m, Hm⟩ : ∃ m, Hid (m = ls[k].length) := ⟨_, Lib.hid rfl⟩
      rw [← Hm.out] at hcell hb1
      go_wp2
      go_round
      case rel => exact ⟨k + 1, by omega, by go_num, by rw [HS.out, ← Hm.out]; go_num⟩
      case measure => simp [intOf]; omega
    · have hG := G (flatN ls k).length w (by omega)
      go_wp2_with (go_at_call 97; refine hG.mono ?_; rintro e w1 ⟨A1, c1, rfl, hown1, hb1⟩)
      go_loopw [6, 27] (fun v i wr => ∃ j : Nat, j ≤ vs.length ∧ i = .int .i64 j ∧ wr.ownsRow w.heap.size 5 1 v (flatN ls j).length (u8s (flatN ls j)) ∧ Below w.heap.size w wr) (fun _ i _ => vs.length - (intOf i).toNat)
      case atStart => exact ⟨0, Nat.zero_le _, rfl, hown1, hb1⟩
      case round =>
        obtain ⟨j, hj, rfl, hown, hb⟩ := hrel
        have hlej := flatN_le ls j
        by_cases hltj : j < vs.length
        · have hjl : j < ls.length := by rw [← HL.out]; exact hltj
          obtain ⟨ad, rfl, hadb, hcell⟩ := (hv.below hb).at_ hltj
          have hrd := (hl.below hb).2 j _ _ (List.getElem?_eq_getElem hltj) (List.getElem?_eq_getElem hjl)
          have hle' := flatN_le ls (j + 1)
          have hfs := flatN_succ ls j hjl
          have hs : (flatN ls (j + 1)).length = (flatN ls j).length + ls[j].length := by rw [hfs, List.length_append]
          have hm1 : (flatN ls j).length + (u8s ls[j]).length ≤ maxLen := by rw [u8s_length]; unfold maxLen; omega
          have hm2 : ((flatN ls j).length + (u8s ls[j]).length) * 1 ≤ 140737488355328 := by rw [u8s_length]; omega
          have HF := Lib.hid hfs
          have HS := Lib.hid hs
          clear hs hfs
          go_wp2_with (first | (at_builtin; refine wpList_app_rd _ rfl (.tmp 31) (.tmp 32) 40 rfl w.heap.size 5 i0 _ 1 Try.underlying40 hi hz0 hz1 hz2 rfl _ _ _ rfl hown w.heap.size _ _ rfl hrd (u8s_one _) hm1 hm2 hb.size ?_; intro v' w2 hown2 hg2))
          have hb2 := below_app hown hb hb.size hg2
          rw [u8s_length, ← u8s_append, ← HF.out, ← HS.out] at hown2
          go_roundw
          case rel => exact ⟨j + 1, by omega, by go_num, hown2, hb2⟩
          case measure => simp [intOf]; omega
        · have hjl : j = ls.length := by have := HL.out; omega
          subst hjl
          rw [flatN_all] at hown
          go_wp2
          go_ret
          exact Made.mk hown hb

theorem concat_new (vs : Array Value) (ls : List (List UInt8)) (w : World) (h : RdAll w w.heap.size vs.toList ls) (n m : Nat) (all : List UInt8) (hn : vs.size = n) (hall : ls.flatten = all) (hm : all.length = m)
    (hs : m ≤ 70368744177664) (hv : n ≤ 1000) (g : Nat) (hg : w.heap.size = g) :
    Calls Try.prog 77 #[.slice (some ⟨g, 0, none⟩) n n] (w.alloc (.cells vs 40)) (Made w m all) := by
  subst hall
  subst hm
  subst hn
  subst hg
  have hR := Rd.new w 40 vs vs.size rfl (by unfold maxLen; omega)
  have hsz : (w.alloc (.cells vs 40)).heap.size = w.heap.size + 1 := by simp
  have hA : RdAll (w.alloc (.cells vs 40)) w.heap.size vs.toList ls := h.below ((Below.refl _ _).alloc (Nat.le_refl _) _)
  have hJ := concat_any (some ⟨w.heap.size, 0, none⟩) vs.size vs.toList ls (w.alloc (.cells vs 40)) (by rw [hsz, Array.length_toList]; exact hR) (hA.more (by rw [hsz]; omega)) hs (by rw [Array.length_toList]; omega)
  rw [Array.length_toList] at hJ
  refine hJ.mono ?_
  rintro e w' ⟨A, c, rfl, hown, hb⟩
  rw [hsz] at hown hb
  exact ⟨A, c, rfl, own_base hown (by omega), ((Below.refl _ _).alloc (Nat.le_refl _) _).trans (hb.mono (by omega))⟩

/-- A value as bytes. -/
def valB (n : Int) (o : Bool) : List UInt8 := boolB o ++ (if o then [] else numB (foldN n))
theorem valB_le (n : Int) (o : Bool) (h1 : -9223372036854775808 ≤ n) (h2 : n ≤ 9223372036854775807) : (valB n o).length ≤ 10 := by
  have h8 := sz_le (foldN n) (foldN_lt n h1 h2)
  cases o <;> simp [valB, boolB, numB_length] <;> omega

theorem truth_n (A : Option Addr) (c n : Nat) (l : List UInt8) (b : Bool) (w : World) (hr : Rd w w.heap.size (.slice A n c) (u8s l)) (hn : n = l.length) (hl : n ≤ 35184372088832) :
    Calls Try.prog 48 #[.slice A n c, .bool b] w (Made w (n + 1) (l ++ boolB b)) := by
  subst hn
  exact truth_any A c l b w hr hl
theorem signed_n (A : Option Addr) (c n : Nat) (l : List UInt8) (x : Int) (w : World) (hr : Rd w w.heap.size (.slice A n c) (u8s l)) (hn : n = l.length) (hl : n ≤ 35184372088832) (h1 : -9223372036854775808 ≤ x) (h2 : x ≤ 9223372036854775807) :
    Calls Try.prog 46 #[.slice A n c, .int .i64 x] w (Made w (n + (numB (foldN x)).length) (l ++ numB (foldN x))) := by
  subst hn
  exact signed_any A c l x w hr hl h1 h2

set_option maxRecDepth 20000 in
theorem nbytes_any (A : Option Addr) (c n : Nat) (l : List UInt8) (N : Int) (o : Bool) (w : World) (hr : Rd w w.heap.size (.slice A n c) (u8s l)) (hn : n = l.length) (hl : n ≤ 1000000) (h1 : -9223372036854775808 ≤ N) (h2 : N ≤ 9223372036854775807) :
    Calls Try.prog 26 #[.slice A n c, .agg #[.int .i64 N, .bool o]] w (Made w (n + (valB N o).length) (l ++ valB N o)) := by
  have hv := valB_le N o h1 h2
  obtain ⟨m, Hm⟩ : ∃ m, Hid (m = n + (valB N o).length) := ⟨_, Lib.hid rfl⟩
  have hm : m ≤ 1000010 := by rw [Hm.out]; omega
  have HN := Lib.hid hn
  rw [← Hm.out]
  clear hv hn
  cases o with
  | true =>
    go_enter Try.func26, Try.ntmps26
    go_wp2_with fail
    refine (truth_n none 0 0 [] true _ (Rd.nil _ _) rfl (by omega)).mono ?_
    rintro e w1 ⟨A1, c1, rfl, o1, hb1⟩
    have b1 : Below w.heap.size w w1 := ((Below.refl _ _).alloc (Nat.le_refl _) _).trans (hb1.mono (by simp))
    have hc1 : w1.cell? ⟨w.heap.size, 1, none⟩ = some (.bool true) := (hb1.cell (by simp)).trans (by simp [go_sem])
    have J := concat_new #[.slice A n c, .slice A1 1 c1] [l, boolB true] w1 (rdAll2 ((hr.below b1).more b1.size) (Rd.of_own o1)) 2 m (l ++ valB N true) rfl (by simp [valB]) (by rw [List.length_append, ← HN.out, Hm.out]) (by omega) (by omega) _ rfl
    clear o1 hb1
    go_wp2_with (go_at_call 77; refine J.mono ?_; rintro e w2 ⟨A2, c2, rfl, o2, hb2⟩)
    go_ret
    exact Made.out (Made.mk o2 hb2) b1
  | false =>
    go_enter Try.func26, Try.ntmps26
    go_wp2_with fail
    refine (truth_n none 0 0 [] false _ (Rd.nil _ _) rfl (by omega)).mono ?_
    rintro e w1 ⟨A1, c1, rfl, o1, hb1⟩
    have b1 : Below w.heap.size w w1 := ((Below.refl _ _).alloc (Nat.le_refl _) _).trans (hb1.mono (by simp))
    have hc1 : w1.cell? ⟨w.heap.size, 1, none⟩ = some (.bool false) := (hb1.cell (by simp)).trans (by simp [go_sem])
    have hc0 : w1.cell? ⟨w.heap.size, 0, none⟩ = some (.int .i64 N) := (hb1.cell (by simp)).trans (by simp [go_sem])
    have S := signed_n A1 c1 1 ([] ++ boolB false) N w1 (Rd.of_own o1) rfl (by omega) h1 h2
    obtain ⟨k, Hk⟩ : ∃ k, Hid (k = 1 + (numB (foldN N)).length) := ⟨_, Lib.hid rfl⟩
    rw [← Hk.out] at S
    clear o1 hb1
    go_wp2_with fail
    refine S.mono ?_
    rintro e w2 ⟨A2, c2, rfl, o2, hb2⟩
    have b2 := b1.trans (hb2.mono b1.size)
    have J := concat_new #[.slice A n c, .slice A2 k c2] [l, [] ++ boolB false ++ numB (foldN N)] w2 (rdAll2 ((hr.below b2).more b2.size) (Rd.of_own o2)) 2 m (l ++ valB N false) rfl (by simp [valB]) (by rw [List.length_append, ← HN.out, Hm.out]) (by omega) (by omega) _ rfl
    clear S o2 hb2 b1
    go_wp2_with (go_at_call 77; refine J.mono ?_; rintro e w3 ⟨A3, c3, rfl, o3, hb3⟩)
    go_ret
    exact Made.out (Made.mk o3 hb3) b2

set_option maxRecDepth 20000 in
theorem rtruth_keep (base : Nat) (A : Option Addr) (c n : Nat) (l : List UInt8) (b : Bool) (w : World) (hown : w.ownsRow base 5 1 (.slice A n c) n (u8s l)) (hbase : base ≤ w.heap.size) (hn : n ≤ 100000000) :
    Calls Try.prog 49 #[.slice A n c, .bool b] w fun e w' => RowAt base w (n + 1) (l ++ boolB b) e w' ∧ ∀ k, k < w.heap.size → some k ≠ (Value.slice A n c).ownBlock → w'.heap[k]? = w.heap[k]? := by
  obtain ⟨i0, hi, hz0, hz1, hz2⟩ := info_parts info_u8
  have key : ∀ (z : Int) (u : UInt8), z = (u.toNat : Int) → (w.alloc (.cells #[.int .u8 z] 5)).ownsRow base 5 1 (.slice A n c) n (u8s l) ∧ Below base w (w.alloc (.cells #[.int .u8 z] 5)) ∧
      Rd (w.alloc (.cells #[.int .u8 z] 5)) (w.heap.size + 1) (.slice (some ⟨w.heap.size, 0, none⟩) 1 1) (u8s [u]) ∧ n + (u8s [u]).length ≤ maxLen ∧ (n + (u8s [u]).length) * 1 ≤ 140737488355328 ∧ base ≤ (w.alloc (.cells #[.int .u8 z] 5)).heap.size ∧
      (∀ W, (w.alloc (.cells #[.int .u8 z] 5)).grownBy W (Value.slice A n c).ownBlock → ∀ k, k < w.heap.size → some k ≠ (Value.slice A n c).ownBlock → W.heap[k]? = w.heap[k]?) :=
    fun z u hz => ⟨own_below hown ((Below.refl _ _).alloc (Nat.le_refl _) _), (Below.refl _ _).alloc hbase _, rd_one hz, by simp [u8s, maxLen]; omega, by simp [u8s]; omega, by simp; omega,
      fun W hg k hk hne => (hg.block k (by simp; omega) hne).trans (((Below.refl w.heap.size w).alloc (Nat.le_refl _) _).block k hk)⟩
  cases b with
  | false =>
    obtain ⟨hown1, hb1, hnew, hm1, hm2, hB, hK⟩ := key 0 0 rfl
    clear key
    go_enter Try.func49, Try.ntmps49
    go_wp2_with (first | (at_builtin; refine wpList_app_rd _ rfl (.tmp 9) (.tmp 10) 40 rfl base 5 i0 _ 1 Try.underlying40 hi hz0 hz1 hz2 rfl _ n _ rfl hown1 (w.heap.size + 1) _ _ rfl hnew (u8s_one _) hm1 hm2 hB ?_; intro v2 w2 hown2 hg2))
    have hb2 := below_app hown1 hb1 hB hg2
    go_ret
    refine ⟨RowAt.mk ?_ hb2, hK _ hg2⟩
    rw [u8s_append]
    exact hown2
  | true =>
    obtain ⟨hown1, hb1, hnew, hm1, hm2, hB, hK⟩ := key 1 1 rfl
    clear key
    go_enter Try.func49, Try.ntmps49
    go_wp2_with (first | (at_builtin; refine wpList_app_rd _ rfl (.tmp 6) (.tmp 7) 40 rfl base 5 i0 _ 1 Try.underlying40 hi hz0 hz1 hz2 rfl _ n _ rfl hown1 (w.heap.size + 1) _ _ rfl hnew (u8s_one _) hm1 hm2 hB ?_; intro v2 w2 hown2 hg2))
    have hb2 := below_app hown1 hb1 hB hg2
    go_ret
    refine ⟨RowAt.mk ?_ hb2, hK _ hg2⟩
    rw [u8s_append]
    exact hown2

set_option maxRecDepth 20000 in
theorem rbytes_any (base : Nat) (A : Option Addr) (c n : Nat) (l : List UInt8) (N : Int) (o : Bool) (w : World) (hown : w.ownsRow base 5 1 (.slice A n c) n (u8s l)) (hbase : base ≤ w.heap.size) (hn : n ≤ 1000000) (h1 : -9223372036854775808 ≤ N) (h2 : N ≤ 9223372036854775807) :
    Calls Try.prog 32 #[.slice A n c, .agg #[.int .i64 N, .bool o]] w (RowAt base w (n + (valB N o).length) (l ++ valB N o)) := by
  have oA := own_below hown ((Below.refl _ _).alloc (Nat.le_refl _) (.cells #[.int .i64 N, .bool o] 23))
  have bA := (Below.refl base w).alloc hbase (.cells #[.int .i64 N, .bool o] 23)
  have hne : some w.heap.size ≠ (Value.slice A n c).ownBlock := fun h => by have := (hown.lt _ h.symm).2; omega
  have T := rtruth_keep base A c n l o _ oA (Nat.le_trans hbase bA.size) (by omega)
  clear oA
  cases o with
  | true =>
    go_enter Try.func32, Try.ntmps32
    go_wp2_with fail
    refine T.mono ?_
    rintro e w1 ⟨⟨A1, c1, rfl, o1, hb1⟩, hk⟩
    have hk' := hk w.heap.size (by simp) hne
    have hc1 : w1.cell? ⟨w.heap.size, 1, none⟩ = some (.bool true) := (World.cell?_of_block (a := ⟨w.heap.size, 1, none⟩) hk').trans (by simp [go_sem])
    clear hk hk' T
    go_wp2_with fail
    go_ret
    exact ⟨A1, c1, rfl, o1, bA.trans hb1⟩
  | false =>
    go_enter Try.func32, Try.ntmps32
    go_wp2_with fail
    refine T.mono ?_
    rintro e w1 ⟨⟨A1, c1, rfl, o1, hb1⟩, hk⟩
    have hk' := hk w.heap.size (by simp) hne
    have hc1 : w1.cell? ⟨w.heap.size, 1, none⟩ = some (.bool false) := (World.cell?_of_block (a := ⟨w.heap.size, 1, none⟩) hk').trans (by simp [go_sem])
    have hc0 : w1.cell? ⟨w.heap.size, 0, none⟩ = some (.int .i64 N) := (World.cell?_of_block (a := ⟨w.heap.size, 0, none⟩) hk').trans (by simp [go_sem])
    have b1 := bA.trans hb1
    have S := rsigned_any base A1 c1 (n + 1) (l ++ boolB false) N w1 o1 (Nat.le_trans hbase b1.size) (by omega) h1 h2
    clear hk hk' T
    go_wp2_with fail
    refine S.mono ?_
    rintro e w2 ⟨A2, c2, rfl, o2, hb2⟩
    go_wp2_with fail
    go_ret
    have e1 : n + (valB N false).length = n + 1 + (numB (foldN N)).length := by simp [valB, boolB]; omega
    rw [e1]
    refine ⟨A2, c2, rfl, ?_, b1.trans hb2⟩
    have e2 : l ++ valB N false = l ++ boolB false ++ numB (foldN N) := by simp [valB]
    rw [e2]
    exact o2

/-- What reading a value gives: the number, is it over, was it one; and what is left. -/
def readV (l : List UInt8) (q : Nat) : (Int × Bool × Bool) × (List UInt8 × Nat) :=
  let t := att truthR 1 l q
  let s := if t.1.1 = 1 then t.2 else (att numR maxU t.2.1 t.2.2).2
  ((if s.2 ≠ 0 then 0 else if t.1.1 = 1 then 0 else unfoldN (att numR maxU t.2.1 t.2.2).1.1, if s.2 ≠ 0 then false else t.1.1 == 1, s.2 == 0), s)
end Go.Proofs.Ytfdgajfpmeaieaa
