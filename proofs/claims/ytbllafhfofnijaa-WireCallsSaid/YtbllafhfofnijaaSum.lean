/- wire.table, wire.Sum: the sum of bytes. -/
import Derived.Test.YtbllafhfofnijaaJoin
import Derived.Laws.BitsAllLaws
namespace Go.Proofs.Ytbllafhfofnijaa
open Go.RowKit

/-- One halving: the lowest bit goes; where it was 1 the word is turned. -/
def half (s : Nat) : Nat := if s % 2 = 1 then s / 2 ^^^ 2197175160 else s / 2
def halfs : Nat → Nat → Nat
  | 0, s => s
  | n + 1, s => half (halfs n s)
theorem half_lt (s : Nat) (h : s < 4294967296) : half s < 4294967296 := by
  unfold half
  split
  · exact Nat.xor_lt_two_pow (n := 32) (by omega) (by omega)
  · omega
theorem halfs_lt (n s : Nat) (h : s < 4294967296) : halfs n s < 4294967296 := by
  induction n with
  | zero => exact h
  | succ n ih => exact half_lt _ ih

/-- The table after k rounds. -/
def tabL (k : Nat) : List Value := (List.range 256).map fun i => .int .u32 (if i < k then halfs 8 i else 0 : Nat)
def tabA (k : Nat) : Array Value := (tabL k).toArray
theorem tabA_size (k : Nat) : (tabA k).size = 256 := by simp [tabA, tabL]
theorem tabA_get (k i : Nat) (h : i < 256) : (tabA k)[i]? = some (.int .u32 ((if i < k then halfs 8 i else 0 : Nat) : Int)) := by simp [tabA, tabL, h]
theorem tabA_set (k : Nat) (h : k < 256) : (tabA k).setIfInBounds k (.int .u32 (halfs 8 k : Nat)) = tabA (k + 1) := by
  apply Array.ext_getElem?
  intro i
  rw [Array.getElem?_setIfInBounds, tabA_size]
  by_cases hi : i < 256
  · rw [tabA_get _ _ hi, tabA_get _ _ hi]
    by_cases hik : k = i
    · subst hik
      simp [h]
    · rw [if_neg hik]
      by_cases h1 : i < k
      · simp [h1, show i < k + 1 by omega]
      · simp [h1, show ¬ i < k + 1 by omega]
  · have e1 : (tabA k)[i]? = none := Array.getElem?_eq_none (by rw [tabA_size]; omega)
    have e2 : (tabA (k + 1))[i]? = none := Array.getElem?_eq_none (by rw [tabA_size]; omega)
    rw [e1, e2, if_neg (by omega)]
theorem tabA_zero : Array.replicate 256 (Value.int .u32 0) = tabA 0 := by
  apply Array.ext_getElem?
  intro i
  by_cases hi : i < 256
  · rw [tabA_get _ _ hi]
    simp [hi]
  · rw [Array.getElem?_eq_none (by simp; omega), Array.getElem?_eq_none (by rw [tabA_size]; omega)]
theorem tabA_one (k : Nat) : (tabA k).all (·.oneCell') = true := by
  rw [Array.all_eq_true_iff_forall_mem]
  intro v hv
  simp only [tabA, List.mem_toArray, tabL] at hv
  obtain ⟨i, _, rfl⟩ := List.mem_map.1 hv
  rfl
theorem zero_tab (w : World) : (zeroValue 68).run Try.prog w = .ok (.agg (Array.replicate 256 (.int .u32 0))) w := by kernel_rfl
theorem zero_tab' (w : World) : (zeroValue 68).run Try.prog w = .ok (.agg (tabA 0)) w := by rw [zero_tab, tabA_zero]
theorem info_tab : (Try.prog.info? 68).map (·.size) = some 256 := by kernel_rfl

set_option maxHeartbeats 1000000 in
set_option maxRecDepth 100000 in
theorem table_any (w : World) : Calls Try.prog 48 #[] w fun e w' => e = .returned (.agg (tabA 256)) ∧ Below w.heap.size w w' := by
  have hz := zero_tab'
  go_enter Try.func48, Try.ntmps48
  go_wp2_with fail
  go_loopw [4] (fun i wr => ∃ k : Nat, k ≤ 256 ∧ i = .int .i64 k ∧ wr.heap[w.heap.size]? = some (.cells (tabA k) 68 (0, 0)) ∧ Below w.heap.size w wr) (fun i _ => 256 - (intOf i).toNat)
  case atStart => exact ⟨0, Nat.zero_le _, rfl, heap_alloc_new w _, (Below.refl _ _).alloc (Nat.le_refl _) _⟩
  case round =>
    obtain ⟨k, hk, rfl, hh, hb⟩ := hrel
    by_cases hlt : k < 256
    · have hcell : wr.cell? ⟨w.heap.size, k, none⟩ = some (.int .u32 ((0 : Nat) : Int)) := by
        rw [cell_of_row wr w.heap.size k (tabA k) 68 (0, 0) hh, tabA_get k k hlt]
        simp
      have hfr := frozen_of_row wr w.heap.size k (tabA k) 68 hh
      have HH := Lib.hid hh
      clear hh
      go_wp2
      go_loop [2, 9] (fun s c => ∃ j : Nat, j ≤ 8 ∧ c = .int .i64 j ∧ s = .int .u32 (halfs j k : Nat)) (fun _ c => 8 - (intOf c).toNat)
      case atStart => exact ⟨0, Nat.zero_le _, rfl, rfl⟩
      case round =>
        obtain ⟨j, hj, rfl, rfl⟩ := hrel
        have hs := halfs_lt j k (by omega)
        by_cases hlt8 : j < 8
        · by_cases hodd : halfs j k % 2 = 1
          · have hx : bits .xor .u32 (((halfs j k : Nat) : Int) / 2) 2197175160 = ((halfs (j + 1) k : Nat) : Int) := by
              have h := u32_xor_nat (halfs j k / 2) 2197175160 (by omega) (by omega)
              rw [halfs, half, if_pos hodd, ← h]
              rfl
            have HX := Lib.hid hx
            clear hx
            go_wp2
            go_round
            case rel => exact ⟨j + 1, by omega, by go_num, by rw [HX.out]⟩
            case measure => simp [intOf]; omega
          · have hx : ((halfs j k : Nat) : Int) / 2 = ((halfs (j + 1) k : Nat) : Int) := by
              rw [halfs, half, if_neg hodd]
              omega
            have HX := Lib.hid hx
            clear hx
            go_wp2
            go_round
            case rel => exact ⟨j + 1, by omega, by go_num, by rw [HX.out]⟩
            case measure => simp [intOf]; omega
        · obtain rfl : j = 8 := by omega
          have hst := heap_setCell_same wr w.heap.size k (tabA k) 68 (.int .u32 (halfs 8 k : Nat)) HH.out
          rw [tabA_set k hlt] at hst
          have HS := Lib.hid hst
          clear hst
          go_wp2
          go_roundw
          case rel => exact ⟨k + 1, by omega, by go_num, HS.out, hb.setCell (Nat.le_refl _) _⟩
          case measure => simp [intOf]; omega
    · have hkn : k = 256 := by omega
      have h1 := tabA_one k
      have hsz : (Try.prog.info? 68).map (·.size) = some (tabA k).size := by rw [tabA_size]; exact info_tab
      have hrow := setRow_heap wr w.heap.size (tabA k) (tabA k) 68 (0, 0) hh
      have hbw : Below w.heap.size w (wr.setRow w.heap.size (tabA k)) := hb.trans ⟨rfl, rfl, rfl, by simp, fun i hi => setRow_other wr w.heap.size i (tabA k) (by omega)⟩
      have HK := Lib.hid hkn
      clear hkn hlt
      have hge : 256 ≤ k := by rw [HK.out]; omega
      go_wp2_with (first
        | (refine wpList_load_row rfl 68 (.tmp 0) rfl w.heap.size rfl 68 (tabA k) (0, 0) _ hh Try.underlying68 rfl hsz ?_)
        | (refine wpList_store_row rfl 68 (.tmp 0) (.tmp 24) rfl w.heap.size (tabA k) rfl rfl 68 (tabA k) hh hsz rfl h1 ?_))
      refine bodyPost_ret (results_cell_row rfl _ _ w.heap.size 68 (tabA k) (0, 0) _ rfl hrow Try.underlying68 rfl hsz) rfl ?_
      exact ⟨by rw [HK.out], hbw⟩

/-- One byte more. -/
def crcStep (s : Nat) (c : UInt8) : Nat := halfs 8 (s ^^^ c.toNat)
def crc (l : List UInt8) : Nat := l.foldl crcStep 4294967295
def sumN (l : List UInt8) : Nat := crc l ^^^ 4294967295
theorem crcStep_lt (s : Nat) (c : UInt8) (h : s < 4294967296) : crcStep s c < 4294967296 :=
  halfs_lt _ _ (Nat.xor_lt_two_pow (n := 32) h (by have := c.toNat_lt; omega))
theorem crc_lt (l : List UInt8) : crc l < 4294967296 := by
  have h : ∀ (l : List UInt8) (s : Nat), s < 4294967296 → l.foldl crcStep s < 4294967296 := by
    intro l
    induction l with
    | nil => exact fun s h => h
    | cons c l ih => exact fun s h => ih _ (crcStep_lt s c h)
  exact h l _ (by omega)
theorem crc_snoc (l : List UInt8) (c : UInt8) : crc (l ++ [c]) = crcStep (crc l) c := by simp [crc]

theorem xor_left (a b c : Nat) : a ^^^ (b ^^^ c) = b ^^^ (a ^^^ c) := by rw [← Nat.xor_assoc, Nat.xor_comm a b, Nat.xor_assoc]
theorem half_xor (a b : Nat) : half (a ^^^ b) = half a ^^^ half b := by
  unfold half
  rw [Nat.xor_div_two]
  by_cases ha : a % 2 = 1 <;> by_cases hb : b % 2 = 1
  · rw [if_neg (by rw [Nat.xor_mod_two_eq_one]; simp [ha, hb]), if_pos ha, if_pos hb, Nat.xor_assoc, xor_left 2197175160, Nat.xor_self, Nat.xor_zero]
  · rw [if_pos (by rw [Nat.xor_mod_two_eq_one]; simp [ha, hb]), if_pos ha, if_neg hb, Nat.xor_assoc, Nat.xor_assoc, Nat.xor_comm (b / 2)]
  · rw [if_pos (by rw [Nat.xor_mod_two_eq_one]; simp [ha, hb]), if_neg ha, if_pos hb, Nat.xor_assoc]
  · rw [if_neg (by rw [Nat.xor_mod_two_eq_one]; simp [ha, hb]), if_neg ha, if_neg hb]
theorem halfs_xor (n a b : Nat) : halfs n (a ^^^ b) = halfs n a ^^^ halfs n b := by
  induction n with
  | zero => rfl
  | succ n ih => rw [halfs, ih, half_xor]; rfl
theorem half_even (m : Nat) : half (2 * m) = m := by
  unfold half
  rw [if_neg (by omega)]
  omega
theorem halfs_pow (q : Nat) : halfs 8 (q * 256) = q := by
  have h : q * 256 = 2 * (2 * (2 * (2 * (2 * (2 * (2 * (2 * q))))))) := by omega
  simp only [halfs, h, half_even]
theorem split_byte (s : Nat) : s = (s % 256) ^^^ (s / 256 * 256) := by
  apply Nat.eq_of_testBit_eq
  intro i
  have e1 : s % 256 = s % 2 ^ 8 := rfl
  have e2 : s / 256 * 256 = (s / 2 ^ 8) <<< 8 := by rw [Nat.shiftLeft_eq]
  rw [Nat.testBit_xor, e1, e2, Nat.testBit_mod_two_pow, Nat.testBit_shiftLeft]
  by_cases hi : i < 8
  · simp [hi, show ¬ 8 ≤ i by omega]
  · have h8 : 8 + (i - 8) = i := by omega
    have h9 : (s / 256).testBit (i - 8) = s.testBit i := by
      rw [show (256 : Nat) = 2 ^ 8 from rfl, Nat.testBit_div_two_pow]
      congr 1
      omega
    simp [hi, show 8 ≤ i by omega, h9]
theorem halfs_table (s : Nat) : halfs 8 s = halfs 8 (s % 256) ^^^ (s / 256) := by
  conv => lhs; rw [split_byte s, halfs_xor, halfs_pow]
theorem crcStep_table (s : Nat) (c : UInt8) : crcStep s c = halfs 8 ((s % 256) ^^^ c.toNat) ^^^ (s / 256) := by
  have hc := c.toNat_lt
  have h1 : (s ^^^ c.toNat) % 256 = (s % 256) ^^^ c.toNat := by
    rw [show (256 : Nat) = 2 ^ 8 from rfl, Nat.xor_mod_two_pow, Nat.mod_eq_of_lt (a := c.toNat) (by omega)]
  have h2 : (s ^^^ c.toNat) / 256 = s / 256 := by
    rw [show (256 : Nat) = 2 ^ 8 from rfl, Nat.xor_div_two_pow, Nat.div_eq_of_lt (a := c.toNat) (by omega), Nat.xor_zero]
  rw [crcStep, halfs_table, h1, h2]

theorem sum_any (A : Option Addr) (c : Nat) (vs : List Value) (ls : List (List UInt8)) (w : World) (hv : Rd w w.heap.size (.slice A vs.length c) vs) (hl : RdAll w w.heap.size vs ls)
    (hvl : vs.length ≤ 9223372036854775806) :
    Calls Try.prog 20 #[.slice A vs.length c] w fun e w' => e = .returned (.int .u32 (sumN ls.flatten : Nat)) ∧ Below w.heap.size w w' := by
  have hz := zero_tab'
  have hz0 : ∀ k, (tabA 0).size = (tabA k).size := fun k => by rw [tabA_size, tabA_size]
  obtain ⟨K, HK⟩ : ∃ K, Hid (K = 256) := ⟨_, Lib.hid rfl⟩
  have hK1 := tabA_one K
  have hsz : (Try.prog.info? 68).map (·.size) = some (tabA K).size := by rw [tabA_size]; exact info_tab
  have HL := Lib.hid hl.1
  have T := table_any w
  rw [← HK.out] at T
  go_enter Try.func20, Try.ntmps20
  go_wp2_with (first
    | (go_at_call 48; refine T.mono ?_; rintro e w1 ⟨rfl, hb1⟩)
    | (refine wpList_store_row rfl 68 (.tmp 3) (.tmp 9) rfl w1.heap.size (tabA K) rfl rfl 68 (tabA 0) (heap_alloc_new w1 _) hsz (hz0 K) hK1 ?_))
  have hh := setRow_heap (w1.alloc (.cells (tabA 0) 68)) w1.heap.size (tabA 0) (tabA K) 68 (0, 0) (heap_alloc_new w1 _)
  have hb2 : Below w.heap.size w ((w1.alloc (.cells (tabA 0) 68)).setRow w1.heap.size (tabA K)) :=
    (hb1.alloc hb1.size _).trans ⟨rfl, rfl, rfl, by simp, fun i hi => setRow_other _ w1.heap.size i (tabA K) (by have := hb1.size; omega)⟩
  generalize (w1.alloc (.cells (tabA 0) 68)).setRow w1.heap.size (tabA K) = W at hh hb2 ⊢
  generalize w1.heap.size = g at hh ⊢
  have hcells : ∀ i, i < 256 → W.cell? ⟨g, i, none⟩ = some (.int .u32 (halfs 8 i : Nat)) := by
    intro i hi
    rw [cell_of_row W g i (tabA K) 68 (0, 0) hh, tabA_get K i hi, if_pos (by rw [HK.out]; exact hi)]
  have HC := Lib.hid hcells
  have hvW := hv.below hb2
  have hlW := hl.below hb2
  clear hcells hh T hz hz0 hK1 hsz hb1
  go_loop [4, 12] (fun s i => ∃ k : Nat, k ≤ vs.length ∧ i = .int .i64 k ∧ s = .int .u32 (crc (flatN ls k) : Nat)) (fun _ i => vs.length - (intOf i).toNat)
  case atStart => exact ⟨0, Nat.zero_le _, rfl, rfl⟩
  case round =>
    obtain ⟨k, hk, rfl, rfl⟩ := hrel
    by_cases hlt : k < vs.length
    · have hkl : k < ls.length := by rw [← HL.out]; exact hlt
      have hfs := Lib.hid (flatN_succ ls k hkl)
      obtain ⟨ad, rfl, _, hcell⟩ := hvW.at_ hlt
      have hrd := hlW.2 k _ _ (List.getElem?_eq_getElem hlt) (List.getElem?_eq_getElem hkl)
      obtain ⟨A', c', hv', hm1, hm2⟩ := hrd.form
      rw [hv'] at hcell hrd
      clear hv'
      generalize hcur : flatN ls k = cur at hfs ⊢
      generalize ls[k] = l at *
      clear hcur
      obtain ⟨m, Hm⟩ : ∃ m, Hid (m = l.length) := ⟨_, Lib.hid rfl⟩
      rw [← Hm.out] at hcell hrd hm1
      unfold maxLen at hm2
      go_wp2
      go_loop [4, 18] (fun s i => ∃ j : Nat, j ≤ m ∧ i = .int .i64 j ∧ s = .int .u32 (crc (cur ++ l.take j) : Nat)) (fun _ i => m - (intOf i).toNat)
      case atStart => exact ⟨0, Nat.zero_le _, rfl, by simp⟩
      case round =>
        obtain ⟨j, hj, rfl, rfl⟩ := hrel
        by_cases hltj : j < m
        · have hjl : j < l.length := by rw [← Hm.out]; exact hltj
          have hS := crc_lt (cur ++ l.take j)
          have hcb := l[j].toNat_lt
          obtain ⟨ad', rfl, _, hbyte⟩ := hrd.byte hjl
          have hnext : crc (cur ++ l.take (j + 1)) = crcStep (crc (cur ++ l.take j)) l[j] := by
            rw [List.take_succ_eq_append_getElem hjl, ← List.append_assoc, crc_snoc]
          rw [crcStep_table] at hnext
          obtain ⟨S', HS'⟩ : ∃ S', Hid (S' = crc (cur ++ l.take (j + 1))) := ⟨_, Lib.hid rfl⟩
          rw [← HS'.out] at hnext
          generalize crc (cur ++ l.take j) = S at hS hnext ⊢
          generalize l[j].toNat = cb at hcb hbyte hnext
          obtain ⟨idx, hidx⟩ : ∃ idx, idx = (S % 256) ^^^ cb := ⟨_, rfl⟩
          have hidx2 : idx < 256 := by rw [hidx]; exact Nat.xor_lt_two_pow (n := 8) (by omega) (by omega)
          have hx1 : bits .xor .u8 ((S : Int) % 256) (cb : Int) = (idx : Int) := by
            rw [hidx, ← u8_xor_nat _ _ (by omega) (by omega)]
            rfl
          have hx2 : bits .xor .u32 ((halfs 8 idx : Nat) : Int) ((S : Int) / 256) = (S' : Int) := by
            rw [hnext, ← hidx, ← u32_xor_nat _ _ (halfs_lt 8 idx (by omega)) (by omega)]
            rfl
          have hcell2 := HC.out idx hidx2
          clear hnext hidx
          go_wp2
          go_round
          case rel => exact ⟨j + 1, by omega, by go_num, by rw [HS'.out]⟩
          case measure => simp [intOf]; omega
        · have hjm : l.take j = l := List.take_of_length_le (by rw [← Hm.out]; omega)
          rw [hjm, ← hfs.out]
          clear hjm
          go_wp2
          go_round
          case rel => exact ⟨k + 1, by omega, by go_num, rfl⟩
          case measure => simp [intOf]; omega
    · obtain rfl : k = ls.length := by have := HL.out; omega
      have hS := crc_lt ls.flatten
      have hx : bits .xor .u32 IntKind.u32.max ((crc (flatN ls ls.length) : Nat) : Int) = ((sumN ls.flatten : Nat) : Int) := by
        rw [flatN_all, sumN, Nat.xor_comm, ← u32_xor_nat _ _ (by omega) hS]
        rfl
      have HX := Lib.hid hx
      clear hx
      go_wp2
      go_ret
      exact ⟨ret_int HX.out, hb2⟩

/-- 'Sum(a, b, ..)': the pieces lie in a row that was laid just before. -/
theorem sum_new (vs : Array Value) (ls : List (List UInt8)) (w : World) (h : RdAll w w.heap.size vs.toList ls) (n : Nat) (all : List UInt8) (hn : vs.size = n) (hall : ls.flatten = all)
    (hv : n ≤ 1000) (g : Nat) (hg : w.heap.size = g) :
    Calls Try.prog 20 #[.slice (some ⟨g, 0, none⟩) n n] (w.alloc (.cells vs 22)) fun e w' => e = .returned (.int .u32 (sumN all : Nat)) ∧ Below w.heap.size w w' := by
  subst hall
  subst hn
  subst hg
  have hR := Rd.new w 22 vs vs.size rfl (by unfold maxLen; omega)
  have hsz : (w.alloc (.cells vs 22)).heap.size = w.heap.size + 1 := by simp
  have hA : RdAll (w.alloc (.cells vs 22)) w.heap.size vs.toList ls := h.below ((Below.refl _ _).alloc (Nat.le_refl _) _)
  have hJ := sum_any (some ⟨w.heap.size, 0, none⟩) vs.size vs.toList ls (w.alloc (.cells vs 22)) (by rw [hsz, Array.length_toList]; exact hR) (hA.more (by rw [hsz]; omega)) (by rw [Array.length_toList]; omega)
  rw [Array.length_toList] at hJ
  refine hJ.mono ?_
  rintro e w' ⟨rfl, hb⟩
  rw [hsz] at hb
  exact ⟨rfl, ((Below.refl _ _).alloc (Nat.le_refl _) _).trans (hb.mono (by omega))⟩
end Go.Proofs.Ytbllafhfofnijaa
