/- wire.join: the pieces one after the other, in a row of the call's own. -/
import Derived.Test.YtbllafhfofnijaaLow
import Derived.Test.YtbllafhfofnijaaApp
namespace Go.Proofs.Ytbllafhfofnijaa
open Go.RowKit

/-- The slice values vs read as the byte lists ls. -/
def RdAll (w : World) (B : Nat) (vs : List Value) (ls : List (List UInt8)) : Prop :=
  vs.length = ls.length ∧ ∀ (i : Nat) (v : Value) (l : List UInt8), vs[i]? = some v → (ls : List (List UInt8))[i]? = some l → Rd w B v (u8s l)

theorem RdAll.below {w w' : World} {B : Nat} {vs : List Value} {ls : List (List UInt8)} (h : RdAll w B vs ls) (hb : Below B w w') : RdAll w' B vs ls :=
  ⟨h.1, fun i v l hv hl => (h.2 i v l hv hl).below hb⟩

/-- The first k pieces, one after the other. -/
def flatN (ls : List (List UInt8)) (k : Nat) : List UInt8 := (ls.take k).flatten
theorem flatN_zero (ls : List (List UInt8)) : flatN ls 0 = [] := rfl
theorem flatN_all (ls : List (List UInt8)) : flatN ls ls.length = ls.flatten := by simp [flatN]
theorem flatN_succ (ls : List (List UInt8)) (k : Nat) (h : k < ls.length) : flatN ls (k + 1) = flatN ls k ++ ls[k] := by
  unfold flatN
  rw [List.take_succ_eq_append_getElem h, List.flatten_append]
  simp
theorem flatN_le (ls : List (List UInt8)) (k : Nat) : (flatN ls k).length ≤ ls.flatten.length := by
  unfold flatN
  conv => rhs; rw [← List.take_append_drop k ls, List.flatten_append, List.length_append]
  omega

theorem join_any (A : Option Addr) (c : Nat) (vs : List Value) (ls : List (List UInt8)) (w : World) (hv : Rd w w.heap.size (.slice A vs.length c) vs) (hl : RdAll w w.heap.size vs ls)
    (hn : ls.flatten.length ≤ 70368744177664) (hvl : vs.length ≤ 9223372036854775806) :
    Calls Try.prog 41 #[.slice A vs.length c] w (Made w ls.flatten.length ls.flatten) := by
  obtain ⟨i0, hi, hz0, hz1, hz2⟩ := info_parts info_u8
  have HL := Lib.hid hl.1
  go_enter Try.func41, Try.ntmps41
  go_wp2_with fail
  go_loop [3, 11] (fun s i => ∃ k : Nat, k ≤ vs.length ∧ i = .int .i64 k ∧ s = .int .i64 ((flatN ls k).length : Nat)) (fun _ i => vs.length - (intOf i).toNat)
  case atStart => exact ⟨0, Nat.zero_le _, rfl, rfl⟩
  case round =>
    obtain ⟨k, hk, rfl, rfl⟩ := hrel
    have hle := flatN_le ls k
    by_cases hlt : k < vs.length
    · have hkl : k < ls.length := by rw [← HL.out]; exact hlt
      obtain ⟨ad, rfl, _, hcell⟩ := hv.at_ hlt
      obtain ⟨A', c', hv', _, _⟩ := (hl.2 k _ _ (List.getElem?_eq_getElem hlt) (List.getElem?_eq_getElem hkl)).form
      rw [hv'] at hcell
      have hle' := flatN_le ls (k + 1)
      have hs : (flatN ls (k + 1)).length = (flatN ls k).length + ls[k].length := by rw [flatN_succ ls k hkl, List.length_append]
      have HS := Lib.hid hs
      have hb1 : (flatN ls k).length + ls[k].length ≤ 70368744177664 := by omega
      clear hs hv'
      obtain ⟨m, Hm⟩ : ∃ m, Hid (m = ls[k].length) := ⟨_, Lib.hid rfl⟩
      rw [← Hm.out] at hcell hb1
      go_wp2
      go_round
      case rel => exact ⟨k + 1, by omega, by go_num, by rw [HS.out, ← Hm.out]; go_num⟩
      case measure => simp [intOf]; omega
    · go_wp2_with (first | (at_make; refine wpList_make_own _ rfl (.const (.int .i64 0)) (.tmp 20) 22 rfl w.heap.size 5 i0 (.int .u8 0) 1 Try.underlying22 hi hz0 hz1 .i64 .i64 _ (flatN ls k).length rfl rfl rfl (by rw [hz2]; omega) (by unfold maxLen; omega) (Nat.le_refl _) ?_; intro w1 hown1 hgr1))
      have hb1 : Below w.heap.size w w1 := (Below.refl _ _).grown hgr1 (Nat.le_refl _) (by simp)
      have hlr : RdAll w1 w.heap.size vs ls := hl.below hb1
      have hvr := hv.below hb1
      go_loopw [6, 24] (fun v i wr => ∃ j : Nat, j ≤ vs.length ∧ i = .int .i64 j ∧ wr.ownsRow w.heap.size 5 1 v (flatN ls j).length (u8s (flatN ls j)) ∧ Below w.heap.size w wr) (fun _ i _ => vs.length - (intOf i).toNat)
      case atStart => exact ⟨0, Nat.zero_le _, rfl, hown1, hb1⟩
      case round =>
        obtain ⟨j, hj, rfl, hown, hb⟩ := hrel
        have hlej := flatN_le ls j
        by_cases hltj : j < vs.length
        · have hjl : j < ls.length := by rw [← HL.out]; exact hltj
          obtain ⟨ad, rfl, hadb, hcell⟩ := (hv.below hb).at_ hltj
          have hrd := (hl.below hb).2 j _ _ (List.getElem?_eq_getElem hltj) (List.getElem?_eq_getElem hjl)
          have hle' := flatN_le ls (j + 1)
          have hfs := flatN_succ ls j hjl
          have hs : (flatN ls (j + 1)).length = (flatN ls j).length + ls[j].length := by rw [hfs, List.length_append]
          have hm1 : (flatN ls j).length + (u8s ls[j]).length ≤ maxLen := by rw [u8s_length]; unfold maxLen; omega
          have hm2 : ((flatN ls j).length + (u8s ls[j]).length) * 1 ≤ 140737488355328 := by rw [u8s_length]; omega
          have HF := Lib.hid hfs
          have HS := Lib.hid hs
          clear hs hfs
          go_wp2_with (first | (at_builtin; refine wpList_app_rd _ rfl (.tmp 28) (.tmp 29) 22 rfl w.heap.size 5 i0 _ 1 Try.underlying22 hi hz0 hz1 hz2 rfl _ _ _ rfl hown w.heap.size _ _ rfl hrd (u8s_one _) hm1 hm2 hb.size ?_; intro v' w2 hown2 hg2))
          have hb2 := below_app hown hb hb.size hg2
          rw [u8s_length, ← u8s_append, ← HF.out, ← HS.out] at hown2
          go_roundw
          case rel => exact ⟨j + 1, by omega, by go_num, hown2, hb2⟩
          case measure => simp [intOf]; omega
        · have hjl : j = ls.length := by have := HL.out; omega
          subst hjl
          rw [flatN_all] at hown
          go_wp2
          go_ret
          exact Made.mk hown hb

theorem RdAll.more {w : World} {B B' : Nat} {vs : List Value} {ls : List (List UInt8)} (h : RdAll w B vs ls) (hB : B ≤ B') : RdAll w B' vs ls :=
  ⟨h.1, fun i v l hv hl => (h.2 i v l hv hl).more hB⟩

/-- 'join(a, b, ..)': the pieces lie in a row that was laid just before. 'm', 'all': how the result is spelt. -/
theorem join_new (vs : Array Value) (ls : List (List UInt8)) (w : World) (h : RdAll w w.heap.size vs.toList ls) (n m : Nat) (all : List UInt8) (hn : vs.size = n) (hall : ls.flatten = all) (hm : all.length = m)
    (hs : m ≤ 70368744177664) (hv : n ≤ 1000) (g : Nat) (hg : w.heap.size = g) :
    Calls Try.prog 41 #[.slice (some ⟨g, 0, none⟩) n n] (w.alloc (.cells vs 22)) (Made w m all) := by
  subst hall
  subst hm
  subst hn
  subst hg
  have hR := Rd.new w 22 vs vs.size rfl (by unfold maxLen; omega)
  have hsz : (w.alloc (.cells vs 22)).heap.size = w.heap.size + 1 := by simp
  have hA : RdAll (w.alloc (.cells vs 22)) w.heap.size vs.toList ls := h.below ((Below.refl _ _).alloc (Nat.le_refl _) _)
  have hJ := join_any (some ⟨w.heap.size, 0, none⟩) vs.size vs.toList ls (w.alloc (.cells vs 22)) (by rw [hsz, Array.length_toList]; exact hR) (hA.more (by rw [hsz]; omega)) hs (by rw [Array.length_toList]; omega)
  rw [Array.length_toList] at hJ
  refine hJ.mono ?_
  rintro e w' ⟨A, c, rfl, hown, hb⟩
  rw [hsz] at hown hb
  exact ⟨A, c, rfl, own_base hown (by omega), ((Below.refl _ _).alloc (Nat.le_refl _) _).trans (hb.mono (by omega))⟩

theorem rdAll3 {w : World} {B : Nat} {a b c : Value} {x y z : List UInt8} (ha : Rd w B a (u8s x)) (hb : Rd w B b (u8s y)) (hc : Rd w B c (u8s z)) : RdAll w B [a, b, c] [x, y, z] := by
  refine ⟨rfl, fun i v l hv hl => ?_⟩
  match i, hv, hl with
  | 0, hv, hl => simp at hv hl; subst hv; subst hl; exact ha
  | 1, hv, hl => simp at hv hl; subst hv; subst hl; exact hb
  | 2, hv, hl => simp at hv hl; subst hv; subst hl; exact hc
  | _ + 3, hv, _ => simp at hv
theorem rdAll2 {w : World} {B : Nat} {a b : Value} {x y : List UInt8} (ha : Rd w B a (u8s x)) (hb : Rd w B b (u8s y)) : RdAll w B [a, b] [x, y] := by
  refine ⟨rfl, fun i v l hv hl => ?_⟩
  match i, hv, hl with
  | 0, hv, hl => simp at hv hl; subst hv; subst hl; exact ha
  | 1, hv, hl => simp at hv hl; subst hv; subst hl; exact hb
  | _ + 2, hv, _ => simp at hv
theorem rdAll1 {w : World} {B : Nat} {a : Value} {x : List UInt8} (ha : Rd w B a (u8s x)) : RdAll w B [a] [x] := by
  refine ⟨rfl, fun i v l hv hl => ?_⟩
  match i, hv, hl with
  | 0, hv, hl => simp at hv hl; subst hv; subst hl; exact ha
  | _ + 1, hv, _ => simp at hv

end Go.Proofs.Ytbllafhfofnijaa
