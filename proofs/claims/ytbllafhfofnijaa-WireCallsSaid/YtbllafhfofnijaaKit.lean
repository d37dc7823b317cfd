/- The statements' own helpers: waterwheelkit.Own and Pick; and how slices that came in are read. -/
import Derived.Test.YtbllafhfofnijaaLives
import Derived.ProofKit
import Derived.OpenShut
import Derived.Deep.Matrix
namespace Go.Proofs.Ytbllafhfofnijaa
open Go.RowKit Go.ChangeShapes Go.WideShapes

theorem own_any (A : Option Addr) (c : Nat) (l : List UInt8) (n : Nat) (w : World) (hr : Rd w w.heap.size (.slice A n c) (u8s l)) (hl : n ≤ 35184372088832) (hn : n = l.length) :
    Calls Try.prog 8 #[.slice A n c] w (Made w n l) := by
  obtain ⟨i0, hi, hz0, hz1, hz2⟩ := info_parts info_u8
  have hlen : (u8s l).length = n := by rw [u8s_length]; exact hn.symm
  have hown := World.ownsRow_lit (base := w.heap.size) (e := 5) (size := 1) w #[] 0 (Nat.le_refl _) (by simp [maxLen]) (by simp)
  have hr1 := hr.alloc (Nat.le_refl _) (.cells #[] 5)
  have hm1 : 0 + (u8s l).length ≤ maxLen := by rw [hlen]; unfold maxLen; omega
  have hm2 : (0 + (u8s l).length) * 1 ≤ 140737488355328 := by rw [hlen]; omega
  have hB : w.heap.size ≤ (w.alloc (.cells #[] 5)).heap.size := by simp
  have HL := Lib.hid hlen
  clear hlen hn
  go_enter Try.func8, Try.ntmps8
  go_wp2_with (first | (at_builtin; refine wpList_app_rd _ rfl (.tmp 3) (.tmp 4) 22 rfl w.heap.size 5 i0 _ 1 Try.underlying22 hi hz0 hz1 hz2 rfl _ 0 _ rfl hown w.heap.size _ _ rfl hr1 (u8s_one _) hm1 hm2 hB ?_; intro v' w2 hown2 hg2))
  have hb2 := below_app hown ((Below.refl w.heap.size w).alloc (Nat.le_refl _) _) hB hg2
  have hown3 : w2.ownsRow w.heap.size 5 1 v' n (u8s l) := by
    have h := hown2
    rw [HL.out, Nat.zero_add] at h
    simpa using h
  clear hown2
  go_ret
  exact Made.mk hown3 hb2

theorem pick_any (n m : Int) (w : World) (h1 : -9223372036854775808 ≤ n) (h2 : n ≤ 9223372036854775807) (hm1 : 1 ≤ m) (hm2 : m ≤ 9223372036854775807) :
    Calls Try.prog 24 #[.int .i64 n, .int .i64 m] w fun e w' => e = .returned (.int .i64 (n % m)) ∧ w = w' := by
  by_cases hn : 0 ≤ n
  · have hp : 0 ≤ n % m := Int.emod_nonneg _ (by omega)
    go_enter Try.func24, Try.ntmps24
    go_wp2
    go_ret
    exact ⟨rfl, rfl⟩
  · obtain ⟨k, rfl⟩ : ∃ k, n = -k := ⟨-n, by omega⟩
    have ht : (-k).tmod m = -(k % m) := by rw [Int.neg_tmod, Int.tmod_eq_emod_of_nonneg (by omega)]
    have hr := Int.emod_nonneg k (show m ≠ 0 by omega)
    have hq := Int.emod_lt_of_pos k (show 0 < m by omega)
    have hd := Int.mul_ediv_add_emod k m
    by_cases h0 : k % m = 0
    · have e : (-k) % m = 0 := by
        rw [h0] at hd
        rw [← hd, Int.add_zero, ← Int.mul_neg]
        exact Int.mul_emod_right _ _
      rw [h0] at ht
      rw [e]
      have HT := Lib.hid ht
      clear hr hq hd h0 e
      go_enter Try.func24, Try.ntmps24
      go_wp2
      go_ret
      exact ⟨rfl, rfl⟩
    · have e : (-k) % m = m - k % m := by
        have h1 : -k = (m - k % m) + m * (-(k / m) - 1) := by
          rw [Int.mul_sub, Int.mul_neg, Int.mul_one]
          omega
        rw [h1, Int.add_mul_emod_self_left, Int.emod_eq_of_lt (by omega) (by omega)]
      rw [e]
      have HT := Lib.hid ht
      go_enter Try.func24, Try.ntmps24
      go_wp2
      go_ret
      exact ⟨ret_int (by omega), rfl⟩

def toByte (z : Int) : UInt8 := UInt8.ofNat z.toNat

theorem rd_bytes {w : World} {a : Addr} {len cap : Nat} {zs : List Int} (hl : len ≤ cap) (hm : cap ≤ maxLen) (hz : zs.length = cap) (hcell : ∀ i, i < zs.length → w.cell? (a.add i) = some (.int .u8 (zs.getD i 0)))
    (hwf : ∀ n ∈ zs, (Lit.int .u8 n).wf = true) : Rd w w.heap.size (.slice (some a) len cap) (u8s ((zs.take len).map toByte)) := by
  have hlen : (u8s ((zs.take len).map toByte)).length = len := by rw [u8s_length, List.length_map, List.length_take]; omega
  refine ⟨some a, cap, by rw [hlen], by rw [hlen]; exact hl, hm, fun hp => ⟨a, rfl, ?_, fun j u hu => ?_⟩⟩
  · rw [hlen] at hp
    have := World.block_lt_of_cell? w _ (hcell 0 (by omega))
    rwa [block_of_add'] at this
  · have hj : j < len := by
      have := (List.getElem?_eq_some_iff.1 hu).1
      omega
    have hjz : j < zs.length := by omega
    rw [hcell j hjz, ← hu]
    have hw := hwf _ (List.getElem_mem hjz)
    have hb := bounds_u8 hw
    simp only [u8s, List.map_map, List.getElem?_map, List.getElem?_take, if_pos hj, List.getElem?_eq_getElem hjz, Option.map_some, List.getD, Option.getD_some, Function.comp, toByte, UInt8.toNat_ofNat']
    congr 2
    omega

theorem rd_rows {w : World} {a : Addr} {len cap : Nat} {A : Nat → Option Addr} {L C : Nat → Nat} {Z : Nat → List Int} (hl : len ≤ cap) (hm : cap ≤ maxLen)
    (h : ∀ r, r < cap → w.cell? (a.add r) = some (.slice (A r) (L r) (C r)) ∧ L r ≤ C r ∧ C r ≤ maxLen ∧ (Z r).length = C r ∧ (∀ n ∈ Z r, (Lit.int .u8 n).wf = true) ∧ (A r = none → C r = 0) ∧
      ∀ a', A r = some a' → 0 ≤ a'.block ∧ ∀ c, c < C r → w.cell? (a'.add c) = some (.int .u8 ((Z r).getD c 0))) :
    ∃ (vs : List Value) (ls : List (List UInt8)), vs.length = len ∧ Rd w w.heap.size (.slice (some a) vs.length cap) vs ∧ RdAll w w.heap.size vs ls := by
  refine ⟨(List.range len).map fun r => .slice (A r) (L r) (C r), (List.range len).map fun r => ((Z r).take (L r)).map toByte, by simp, ⟨some a, cap, by simp, by simpa using hl, hm, fun hp => ⟨a, rfl, ?_, fun j u hu => ?_⟩⟩, by simp, fun i v l hv hl' => ?_⟩
  · have := World.block_lt_of_cell? w _ (h 0 (by simp at hp; omega)).1
    rwa [block_of_add'] at this
  · have hj : j < len := by
      have := (List.getElem?_eq_some_iff.1 hu).1
      simpa using this
    rw [(h j (by omega)).1, ← hu]
    simp [hj]
  · have hi : i < len := by
      have := (List.getElem?_eq_some_iff.1 hv).1
      simpa using this
    simp [hi] at hv hl'
    subst hv hl'
    obtain ⟨_, h2, h3, h4, h5, h6, h7⟩ := h i (by omega)
    cases hA : A i with
    | none =>
      have hc := h6 hA
      have hL : L i = 0 := by omega
      have hC : C i = 0 := hc
      rw [hL, hC]
      exact Rd.nil _ _
    | some a' =>
      rw [← List.map_take]
      exact rd_bytes h2 h3 h4 (fun k hk => (h7 a' hA).2 k (by omega)) h5

end Go.Proofs.Ytbllafhfofnijaa
