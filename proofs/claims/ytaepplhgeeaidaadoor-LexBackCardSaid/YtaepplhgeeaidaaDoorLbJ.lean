import Derived.Test.YtaepplhgeeaidaaDoorChecked
import Derived.WalkKit
import Derived.WalkSpells
import Derived.Deep.OwnRows
import Derived.Handy
import Derived.Lib.Hide
import Derived.Lib.Builder
import Derived.Lib.UnsafeStr
import Derived.Lib.AppendStr
import Derived.Deep.RegionHeld3
import Derived.Test.YtaepplhgeeaidaaDoorLxC
import Derived.Test.YtaepplhgeeaidaaDoorLbM
import Derived.Lib.Join
import Derived.Lib.ItoaLen
section
set_option linter.unusedVariables false
set_option linter.unusedSimpArgs false
set_option maxRecDepth 100000
namespace Go.Proofs.YtaepplhgeeaidaaDoor
open Go Go.RowKit
theorem plain_any (c : Nat) (w : World) : Calls Tryd.prog 14 #[.int .u8 (c : Int)] w fun e w' => e = .returned (.bool (!(decide (c < 32)) && (!(decide (126 < c)) && (!(c == 92) && !(c == 34))))) ∧ w' = w := by
  go_enter Tryd.func14, Tryd.ntmps14
  go_wp2
  all_goals go_ret
  all_goals refine ⟨?_, rfl⟩
  all_goals show Ending.returned (Value.bool _) = _
  all_goals refine congrArg _ (congrArg _ ?_)
  all_goals rw [Bool.eq_iff_iff]; simp; omega
theorem b_one (l : List UInt8) (c : UInt8) : Lib.byteCells l ++ [.int .u8 (c.toNat : Int)] = Lib.byteCells (l ++ [c]) := by simp [Lib.byteCells]
theorem b_str (l : List UInt8) (s : ByteArray) : Lib.byteCells l ++ Lib.strCells s = Lib.byteCells (l ++ s.data.toList) := by simp [Lib.byteCells, Lib.strCells]
abbrev QAt (w : World) (l : List UInt8) (wr : World) : Prop := Lib.BuilderAt 45 5 w.heap.size w.heap.size (.pointer (some ⟨w.heap.size, 0, none⟩)) (Lib.byteCells l) wr
set_option maxHeartbeats 4000000 in
theorem quote_any (t : ByteArray) (ht : t.size ≤ 1048576) (w : World) (qf : UInt8 → List UInt8) (hx : Nat → UInt8)
    (q1 : ∀ c : UInt8, c.toNat = 92 ∨ c.toNat = 34 → qf c = [92, c])
    (q2 : ∀ c : UInt8, ¬ (c.toNat = 92 ∨ c.toNat = 34) → (!(decide (c.toNat < 32)) && (!(decide (126 < c.toNat)) && (!(c.toNat == 92) && !(c.toNat == 34)))) = true → qf c = [c])
    (q3 : ∀ c : UInt8, ¬ (c.toNat = 92 ∨ c.toNat = 34) → (!(decide (c.toNat < 32)) && (!(decide (126 < c.toNat)) && (!(c.toNat == 92) && !(c.toNat == 34)))) = false → qf c = [92, 120, hx (c.toNat / 16), hx (c.toNat % 16)])
    (hxp : ∀ (n : Nat) (h : n < (⟨#[48, 49, 50, 51, 52, 53, 54, 55, 56, 57, 97, 98, 99, 100, 101, 102]⟩ : ByteArray).size), (⟨#[48, 49, 50, 51, 52, 53, 54, 55, 56, 57, 97, 98, 99, 100, 101, 102]⟩ : ByteArray)[n]'h = hx n)
    (HW : ∀ (B b : Nat) (bs : List Value) (c : Int) (w : World), Lib.IsBuilder 45 5 B b bs w → bs.length + 1 ≤ 140737488355328 → B ≤ w.heap.size →
      Calls Tryd.prog 13 #[.pointer (some ⟨b, 0, none⟩), .int .u8 c] w fun e w' => e = .returned .nilIface ∧ (Lib.BuilderAt 45 5 B b (.pointer (some ⟨b, 0, none⟩)) (bs ++ [.int .u8 c]) w' ∧ Below B w w'))
    (HS : ∀ (B b : Nat) (bs : List Value) (s : ByteArray) (w : World), Lib.IsBuilder 45 5 B b bs w → bs.length + s.size ≤ 140737488355328 → B ≤ w.heap.size →
      Calls Tryd.prog 15 #[.pointer (some ⟨b, 0, none⟩), .string s] w fun e w' => e = .returned (.tuple #[.int .i64 s.size, .nilIface]) ∧ (Lib.BuilderAt 45 5 B b (.pointer (some ⟨b, 0, none⟩)) (bs ++ Lib.strCells s) w' ∧ Below B w w'))
    (HT : ∀ (B b : Nat) (l : List UInt8) (w : World), Lib.IsBuilder 45 5 B b (Lib.byteCells l) w → l ≠ [] →
      Calls Tryd.prog 16 #[.pointer (some ⟨b, 0, none⟩)] w fun e w' => e = .returned (.string ⟨l.toArray⟩) ∧ Below B w w') :
    Calls Tryd.prog 6 #[.string t] w fun e w' => e = .returned (.string ⟨(34 :: (t.data.toList.flatMap qf ++ [34])).toArray⟩) ∧ Below w.heap.size w w' := by
  have W1 : ∀ (l : List UInt8) (c : UInt8) (x : Int) (wr : World), x = (c.toNat : Int) → QAt w l wr → l.length ≤ 5000000 → w.heap.size ≤ wr.heap.size → Calls Tryd.prog 13 #[.pointer (some ⟨w.heap.size, 0, none⟩), .int .u8 x] wr fun e w' => e = .returned .nilIface ∧ QAt w (l ++ [c]) w' ∧ Below w.heap.size wr w' := fun l c x wr hx h1 h2 h3 =>
    (HW _ _ _ _ _ (.inr h1) (by rw [Lib.byteCells_length]; omega) h3).mono fun e w' ⟨he, ha, hb⟩ => ⟨he, by rw [hx, b_one] at ha; exact ha, hb⟩
  have W2 : ∀ (l : List UInt8) (s : ByteArray) (wr : World), QAt w l wr → l.length + s.size ≤ 5000000 → w.heap.size ≤ wr.heap.size → Calls Tryd.prog 15 #[.pointer (some ⟨w.heap.size, 0, none⟩), .string s] wr fun e w' => e = .returned (.tuple #[.int .i64 s.size, .nilIface]) ∧ QAt w (l ++ s.data.toList) w' ∧ Below w.heap.size wr w' := fun l c wr h1 h2 h3 =>
    (HS _ _ _ _ _ (.inr h1) (by rw [Lib.byteCells_length]; omega) h3).mono fun e w' ⟨he, ha, hb⟩ => ⟨he, by rw [b_str] at ha; exact ha, hb⟩
  have hl4 : ∀ l : List UInt8, (l.flatMap qf).length ≤ 4 * l.length := fun l => by
    induction l with
    | nil => exact Nat.le_refl _
    | cons c l ih =>
      have : (qf c).length ≤ 4 := by
        by_cases h : c.toNat = 92 ∨ c.toNat = 34
        · rw [q1 c h]; simp
        · cases hp : (!(decide (c.toNat < 32)) && (!(decide (126 < c.toNat)) && (!(c.toNat == 92) && !(c.toNat == 34)))) with
          | true => rw [q2 c h hp]; simp
          | false => rw [q3 c h hp]; simp
      rw [List.flatMap_cons, List.length_append, List.length_cons]
      omega
  have HX := Lib.hid (And.intro W1 (And.intro W2 HT))
  go_enter Tryd.func6, Tryd.ntmps6
  go_wp2_with (go_at_call 13; refine (HW w.heap.size w.heap.size [] 34 _ (Lib.fresh_isBuilder _ _ _) (by simp) (by simp)).mono ?_; rintro e w1 ⟨rfl, hA, hb⟩; have B1 : Below w.heap.size w w1 := ((Below.refl _ _).alloc (Nat.le_refl _) _).trans hb; clear HW HS HT W1 W2)
  go_loopw [9] (fun i wr => ∃ k : Nat, k ≤ t.size ∧ i = .int .i64 k ∧ QAt w (34 :: (t.data.toList.take k).flatMap qf) wr ∧ Below w.heap.size w wr) (fun i _ => t.size - (intOf i).toNat)
  case atStart => exact ⟨0, Nat.zero_le _, rfl, hA, B1⟩
  case round =>
    clear hA B1 hb
    obtain ⟨k, hk, rfl, hA, hB⟩ := hrel
    have hs := hB.size
    by_cases hlt : k < t.size
    · have hc := hl4 (t.data.toList.take k)
      have hc2 : (t.data.toList.take k).length ≤ 1048576 := by
        rw [List.length_take, Array.length_toList]
        exact Nat.le_trans (Nat.min_le_right _ _) ht
      have hlen : (34 :: (t.data.toList.take k).flatMap qf).length ≤ 4500000 := by
        rw [List.length_cons]
        omega
      have htk : t.data.toList.take (k + 1) = t.data.toList.take k ++ [t[k]'hlt] := by
        rw [List.take_succ_eq_append_getElem (by rw [Array.length_toList]; exact hlt)]
        rfl
      have hend : ∀ wr, QAt w ((34 :: (t.data.toList.take k).flatMap qf) ++ qf (t[k]'hlt)) wr → QAt w (34 :: (t.data.toList.take (k + 1)).flatMap qf) wr := fun wr h => by
        rw [htk, List.flatMap_append]
        simpa using h
      obtain ⟨c, hgc⟩ : ∃ c, t[k]'hlt = c := ⟨_, rfl⟩
      rw [hgc] at hend
      have HE := Lib.hid hend
      clear hend htk hc hc2
      generalize (34 :: (t.data.toList.take k).flatMap qf) = l at *
      by_cases h92 : c.toNat = 92
      · have hq := q1 _ (.inl h92)
        have he : c = 92 := UInt8.toNat_inj.1 h92
        go_wp2_with (first
          | (go_at_call 13; refine (HX.out.1 _ 92 _ _ (by decide) hA (by (try simp only [List.length_append, List.length_cons, List.length_nil]); omega) hs).mono ?_; rintro e w2 ⟨rfl, hA2, hb2⟩; replace hB := hB.trans hb2; replace hs := hB.size; replace hA := hA2; clear hb2))
        go_roundw
        case rel => exact ⟨k + 1, by omega, by go_num, HE.out _ (by rw [hq, he]; simpa using hA), hB⟩
        case measure => simp [intOf]; omega
      · by_cases h34 : c.toNat = 34
        · have hq := q1 _ (.inr h34)
          have he : c = 34 := UInt8.toNat_inj.1 h34
          go_wp2_with (first
          | (go_at_call 13; refine (HX.out.1 _ 92 _ _ (by decide) hA (by (try simp only [List.length_append, List.length_cons, List.length_nil]); omega) hs).mono ?_; rintro e w2 ⟨rfl, hA2, hb2⟩; replace hB := hB.trans hb2; replace hs := hB.size; replace hA := hA2; clear hb2)
          | (go_at_call 13; refine (HX.out.1 _ 34 _ _ (by decide) hA (by (try simp only [List.length_append, List.length_cons, List.length_nil]); omega) hs).mono ?_; rintro e w2 ⟨rfl, hA2, hb2⟩; replace hB := hB.trans hb2; replace hs := hB.size; replace hA := hA2; clear hb2))
          go_roundw
          case rel => exact ⟨k + 1, by omega, by go_num, HE.out _ (by rw [hq, he]; simpa using hA), hB⟩
          case measure => simp [intOf]; omega
        · have hn : ¬ (c.toNat = 92 ∨ c.toNat = 34) := by omega
          have e92 : ((c.toNat : Int) == 92) = false := beq_eq_false_iff_ne.2 (by omega)
          have e34 : ((c.toNat : Int) == 34) = false := beq_eq_false_iff_ne.2 (by omega)
          have hP := fun w => plain_any c.toNat w
          cases hp : (!(decide (c.toNat < 32)) && (!(decide (126 < c.toNat)) && (!(c.toNat == 92) && !(c.toNat == 34)))) with
          | true =>
            have hq := q2 _ hn hp
            rw [hp] at hP
            clear hp
            go_wp2_with (first
          | (go_at_call 14; refine (hP _).mono ?_; rintro e w2 ⟨rfl, rfl⟩)
          | (go_at_call 13; refine (HX.out.1 _ c _ _ (rfl) hA (by (try simp only [List.length_append, List.length_cons, List.length_nil]); omega) hs).mono ?_; rintro e w2 ⟨rfl, hA2, hb2⟩; replace hB := hB.trans hb2; replace hs := hB.size; replace hA := hA2; clear hb2))
            go_roundw
            case rel => exact ⟨k + 1, by omega, by go_num, HE.out _ (by rw [hq]; simpa using hA), hB⟩
            case measure => simp [intOf]; omega
          | false =>
            have hq := q3 _ hn hp
            rw [hp] at hP
            clear hp
            have hc256 := c.toNat_lt
            have b1 : 0 ≤ (c.toNat : Int) / 16 % 256 ∧ (c.toNat : Int) / 16 % 256 < 16 := by omega
            have b2 : 0 ≤ (c.toNat : Int) % 16 % 256 ∧ (c.toNat : Int) % 16 % 256 < 16 := by omega
            have b3 : 0 ≤ (c.toNat : Int) % 16 ∧ (c.toNat : Int) % 16 < 16 := by omega
            have x1 : c.toNat / 16 % 256 = c.toNat / 16 := by omega
            have x2 : c.toNat % 16 % 256 = c.toNat % 16 := by omega
            go_wp2_with (first
          | (go_at_call 14; refine (hP _).mono ?_; rintro e w2 ⟨rfl, rfl⟩)
          | (go_at_call 15; refine (HX.out.2.1 _ _ _ hA (by (try simp only [List.length_append, List.length_cons, List.length_nil]); show _ + 2 ≤ _; omega) hs).mono ?_; rintro e w2 ⟨rfl, hA2, hb2⟩; replace hB := hB.trans hb2; replace hs := hB.size; replace hA := hA2; clear hb2)
          | (go_at_call 13; refine (HX.out.1 _ _ _ _ (rfl) hA (by (try simp only [List.length_append, List.length_cons, List.length_nil]); omega) hs).mono ?_; rintro e w2 ⟨rfl, hA2, hb2⟩; replace hB := hB.trans hb2; replace hs := hB.size; replace hA := hA2; clear hb2))
            go_roundw
            case rel =>
              refine ⟨k + 1, by omega, by go_num, HE.out _ ?_, hB⟩
              rw [hq]
              simp only [hxp, x1, x2, List.append_assoc] at hA
              exact hA
            case measure => simp [intOf]; omega
    · have hk' : k = t.size := by omega
      have hl : t.data.toList.take k = t.data.toList := List.take_of_length_le (by rw [Array.length_toList]; have : t.data.size = t.size := rfl; omega)
      rw [hl] at hA
      have hc := hl4 t.data.toList
      rw [Array.length_toList] at hc
      have hc : (t.data.toList.flatMap qf).length ≤ 4 * t.size := hc
      have hlen : (34 :: t.data.toList.flatMap qf).length ≤ 4500000 := by rw [List.length_cons]; omega
      have e0 : ∀ l : List UInt8, 34 :: l ++ [34] = 34 :: (l ++ [34]) := fun l => rfl
      have HE := Lib.hid (e0 (t.data.toList.flatMap qf))
      clear hc e0 hl
      have hne : 34 :: (t.data.toList.flatMap qf ++ [34]) ≠ [] := by simp
      obtain ⟨r, hr⟩ : ∃ r, 34 :: (t.data.toList.flatMap qf ++ [34]) = r := ⟨_, rfl⟩
      obtain ⟨l, hl⟩ : ∃ l : List UInt8, 34 :: t.data.toList.flatMap qf = l := ⟨_, rfl⟩
      rw [hr] at hne HE
      rw [hl] at hA hlen HE
      have HR := Lib.hid hr
      clear hr hl
      go_wp2_with (first
          | (go_at_call 13; refine (HX.out.1 _ 34 _ _ (by decide) hA (by (try simp only [List.length_append, List.length_cons, List.length_nil]); omega) hs).mono ?_; rintro e w2 ⟨rfl, hA2, hb2⟩; replace hB := hB.trans hb2; replace hs := hB.size; replace hA := hA2; clear hb2)
          | (go_at_call 16; rw [HE.out] at hA; refine (HX.out.2.2 _ _ _ _ (.inr hA) hne).mono ?_; rintro e w3 ⟨rfl, hb3⟩))
      go_ret
      exact ⟨by rw [HR.out]; rfl, hB.trans hb3⟩
end Go.Proofs.YtaepplhgeeaidaaDoor
end
section
set_option linter.unusedVariables false
set_option linter.unusedSimpArgs false
set_option linter.unusedSectionVars false
set_option maxRecDepth 100000
namespace Go.Proofs.YtaepplhgeeaidaaDoor
open Go Go.RowKit Ev
theorem dat_on {w w' : World} (hb : Below w.heap.size w w') : ∀ a v, w.cell? a = some v → w'.cell? a = some v := by
  intro a v h
  have hlt : a.block < w.heap.size := by
    unfold World.cell? at h
    cases hh : w.heap[a.block]? with
    | none => simp [hh] at h
    | some o => exact (Array.getElem?_eq_some_iff.1 hh).1
  rw [hb.cell hlt]
  exact h
theorem join_eq : ∀ l : List Tok, Lib.join (l.map shw) [32] = joinT l
  | [] => rfl
  | [x] => Lib.join_one _ _
  | x :: y :: l => by
    have ih := join_eq (y :: l)
    have : Lib.join ((x :: y :: l).map shw) [32] = shw x ++ ([32] ++ Lib.join ((y :: l).map shw) [32]) := by
      simp [Lib.join, List.intercalate, List.intersperse]
    rw [this, ih]
    rfl
theorem info_str : (Tryd.prog.info? 9).map (fun i => (i.zero, i.size, i.bytes)) = some (some (.string ⟨#[]⟩), 1, 16) := by kernel_rfl
structure Shown (w : World) (g : Nat) (l : List Tok) (k : Nat) (cs : Array Value) : Prop where
  row : w.heap[g]? = some (.cells cs 9 (0, 0))
  len : cs.size = l.length
  at_ : ∀ j x, j < k → l[j]? = some x → cs[j]? = some (.string (tx (shw x)))
theorem qs_four (t : B8) : (t.flatMap qB).length ≤ 4 * t.length := by
  induction t with
  | nil => exact Nat.le_refl _
  | cons c t ih =>
    have : (qB c).length ≤ 4 := by
      unfold qB
      split
      · simp
      · split <;> simp
    rw [List.flatMap_cons, List.length_append, List.length_cons]
    omega
theorem shw_len {x : Tok} (h : x.2.1.length ≤ 1048576) (hv : -9223372036854775808 ≤ x.2.2.1 ∧ x.2.2.1 ≤ 9223372036854775807) : (shw x).length ≤ 4194400 := by
  unfold shw
  split
  · unfold quoF
    have := qs_four x.2.1
    rw [List.length_cons, List.length_append]
    show _ + 1 + 1 ≤ _
    omega
  · split
    · have := Lib.itoa_length_le x.2.2.1 hv.1 hv.2
      omega
    · omega
theorem joinT_len : ∀ (l : List Tok) (m : Nat), (∀ x, x ∈ l → (shw x).length ≤ m) → (joinT l).length ≤ l.length * (m + 1)
  | [], m, h => Nat.zero_le _
  | [x], m, h => by
    have := h x (by simp)
    show (shw x).length ≤ 1 * (m + 1)
    omega
  | x :: y :: l, m, h => by
    have h1 := h x (by simp)
    have h2 := joinT_len (y :: l) m (fun z hz => h z (by simp [hz]))
    show (shw x ++ 32 :: joinT (y :: l)).length ≤ ((y :: l).length + 1) * (m + 1)
    rw [List.length_append, List.length_cons, Nat.succ_mul]
    omega
theorem Shown.on {w w' : World} {B g k : Nat} {l : List Tok} {cs : Array Value} (h : Shown w g l k cs) (hb : Below B w w') (hg : g < B) : Shown w' g l k cs := ⟨(hb.block _ hg).trans h.row, h.len, h.at_⟩
theorem Shown.put {w : World} {g k : Nat} {l : List Tok} {cs : Array Value} {x : Tok} {v : Value} (h : Shown w g l k cs) (hx : l[k]? = some x) (hv : v = .string (tx (shw x))) : Shown (w.setCell ⟨g, k, none⟩ v) g l (k + 1) (cs.setIfInBounds k v) := by
  have hk : k < cs.size := by rw [h.len]; exact (List.getElem?_eq_some_iff.1 hx).1
  refine ⟨heap_setCell_same w g k cs _ v h.row, by rw [Array.size_setIfInBounds]; exact h.len, fun j y hj hy => ?_⟩
  by_cases hjk : j = k
  · subst hjk
    rw [hx] at hy
    injection hy with hy
    subst hy
    rw [Array.getElem?_setIfInBounds_self_of_lt hk, hv]
  · rw [Array.getElem?_setIfInBounds_ne (fun h => hjk h.symm)]
    exact h.at_ j y (by omega) hy
theorem Shown.cell {w : World} {g k : Nat} {l : List Tok} {cs : Array Value} {j : Nat} (h : Shown w g l k cs) (hj : j < l.length) : ∃ v, w.cell? ⟨g, j, none⟩ = some v ∧ w.frozen? ⟨g, j, none⟩ = false := by
  have hs : j < cs.size := by rw [h.len]; exact hj
  exact ⟨cs[j], (cell_of_row w g j cs _ _ h.row).trans (Array.getElem?_eq_getElem hs), frozen_of_row w g j cs _ h.row⟩
set_option maxHeartbeats 4000000 in
theorem join_any (ad : Option Addr) (l : List Tok) (c : Nat) (w : World) (M : LstK (fun a => w.cell? a) ad l) (h8 : l.length ≤ 20000) (hx : ∀ x, x ∈ l → x.2.1.length ≤ 1048576 ∧ (-9223372036854775808 ≤ x.2.2.1 ∧ x.2.2.1 ≤ 9223372036854775807))
    (HQ : ∀ (u : ByteArray) (w' : World), u.size ≤ 1048576 → Calls Tryd.prog 6 #[.string u] w' fun e w2 => e = .returned (.string (tx (quoF (tl u)))) ∧ Below w'.heap.size w' w2)
    (HF : ∀ (v : Int) (w' : World), -9223372036854775808 ≤ v ∧ v ≤ 9223372036854775807 → Below w.heap.size w w' → Calls Tryd.prog 20 #[.int .i64 v, .int .i64 10] w' fun e w2 => e = .returned (.string (tx (Lib.itoa v))) ∧ Below w'.heap.size w' w2)
    (HJ : ∀ (b : Nat) (xs : List ByteArray) (c : Nat) (w' : World), (∀ (j : Nat) x, xs[j]? = some x → w'.cell? ⟨b, j, none⟩ = some (.string x)) → b < w'.heap.size → xs.length ≤ 20000 → xs.length ≤ c → (Lib.join (xs.map (·.data.toList)) [32]).length ≤ 140737488355328 →
      Calls Tryd.prog 21 #[.slice (some ⟨b, 0, none⟩) xs.length c, .string ⟨#[32]⟩] w' fun e w2 => e = .returned (.string ⟨(Lib.join (xs.map (·.data.toList)) [32]).toArray⟩) ∧ Below w'.heap.size w' w2) :
    Calls Tryd.prog 8 #[.slice ad l.length c] w fun e w' => e = .returned (.string (tx (joinT l))) ∧ Below w.heap.size w w' := by
  have hmk := run_make_row' (P := Tryd.prog) 57 9 (.string ⟨#[]⟩) 16 Tryd.underlying57 info_str rfl .i64 .i64 l.length (by omega) (by omega)
  have HC := Lib.hid (And.intro HQ (And.intro HF HJ))
  clear HQ HF HJ
  go_enter Tryd.func8, Tryd.ntmps8
  go_wp2_with (fail)
  go_loopw [11] (fun i wr => ∃ k : Nat, k ≤ l.length ∧ i = .int .i64 k ∧ Below w.heap.size w wr ∧ w.heap.size < wr.heap.size ∧ ∃ cs, Shown wr w.heap.size l k cs) (fun i _ => l.length - (intOf i).toNat)
  case atStart => exact ⟨0, Nat.zero_le _, rfl, (Below.refl _ _).alloc (Nat.le_refl _) _, by simp, _, ⟨heap_alloc_new w _, by simp [madeCells], fun j x hj => by omega⟩⟩
  case round =>
    obtain ⟨k, hk, rfl, hb, hlt, cs, hc⟩ := hrel
    by_cases hkm : k < l.length
    · obtain ⟨x, a, rfl, hv, qa, g, -⟩ := lstG_at M hkm
      have ha := (hx a (List.mem_of_getElem? hv)).1
      have g0 := dat_on hb _ _ (g 0 _ rfl)
      have g1 := dat_on hb _ _ (g 1 _ rfl)
      have g2 := dat_on hb _ _ (g 2 _ rfl)
      have g3 := dat_on hb _ _ (g 3 _ rfl)
      obtain ⟨n, t, v, p⟩ := a
      have c0 : wr.cell? (x.add (k * 4)) = some (.int .i64 n) := g0
      have c1 : wr.cell? ⟨(x.add (k * 4)).block, (x.add (k * 4)).off + 1, none⟩ = some (.string (tx t)) := g1
      have c2 : wr.cell? ⟨(x.add (k * 4)).block, (x.add (k * 4)).off + 2, none⟩ = some (.int .i64 v) := g2
      have c3 : wr.cell? ⟨(x.add (k * 4)).block, (x.add (k * 4)).off + 3, none⟩ = some (.int .i64 p) := g3
      have qv := qa.2.2.1
      have HS := Lib.hid hc
      have HB := Lib.hid hb
      clear g M g0 g1 g2 g3 qa
      by_cases h3 : n = 3
      · subst h3
        clear hc hb
        go_wp2_with (first
          | (go_at_call 6; refine (HC.out.1 (tx t) _ ha).mono ?_; rintro e w2 ⟨rfl, hb2⟩; have B2 : Below wr.heap.size wr w2 := ((Below.refl _ _).alloc (Nat.le_refl _) _).trans (hb2.mono (by simp)); have S2 := HS.out.on B2 hlt; have hz2 : w.heap.size < w2.heap.size := Nat.lt_of_lt_of_le hlt B2.size; obtain ⟨v0, hcl, hfr⟩ := S2.cell hkm; have HS2 := Lib.hid S2; have HB2 := Lib.hid (HB.out.trans (B2.mono (Nat.le_of_lt hlt))); clear S2 B2 hb2))
        go_roundw
        case rel => exact ⟨k + 1, by omega, by go_num, HB2.out.setCell (Nat.le_refl _) _, by simp; omega, _, HS2.out.put hv rfl⟩
        case measure => simp [intOf]; omega
      · by_cases h2 : n = 2
        · subst h2
          clear hc hb
          go_wp2_with (first
            | (go_at_call 20; refine (HC.out.2.1 v _ qv (HB.out.alloc (by omega) _)).mono ?_; rintro e w2 ⟨rfl, hb2⟩; have B2 : Below wr.heap.size wr w2 := ((Below.refl _ _).alloc (Nat.le_refl _) _).trans (hb2.mono (by simp)); have S2 := HS.out.on B2 hlt; have hz2 : w.heap.size < w2.heap.size := Nat.lt_of_lt_of_le hlt B2.size; obtain ⟨v0, hcl, hfr⟩ := S2.cell hkm; have HS2 := Lib.hid S2; have HB2 := Lib.hid (HB.out.trans (B2.mono (Nat.le_of_lt hlt))); clear S2 B2 hb2))
          go_roundw
          case rel => exact ⟨k + 1, by omega, by go_num, HB2.out.setCell (Nat.le_refl _) _, by simp; omega, _, HS2.out.put hv rfl⟩
          case measure => simp [intOf]; omega
        · have e3 : (n == 3) = false := beq_eq_false_iff_ne.2 h3
          have e2 : (n == 2) = false := beq_eq_false_iff_ne.2 h2
          have hsh : shw (n, t, v, p) = t := by unfold shw; rw [if_neg h3, if_neg h2]
          obtain ⟨v0, hcl, hfr⟩ := hc.cell hkm
          clear hc hb
          go_wp2_with (fail)
          have hB3 := (HB.out.setCell (p := ⟨w.heap.size, k, none⟩) (Nat.le_refl _) (.string (tx t)))
          have hS3 := HS.out.put hv (v := .string (tx t)) (by rw [hsh])
          have hs3 : (wr.setCell ⟨w.heap.size, k, none⟩ (.string (tx t))).heap.size = wr.heap.size := by simp
          go_roundw
          case rel => exact ⟨k + 1, by omega, by go_num, hB3.alloc (by omega) _, by simp; omega, _, hS3.on ((Below.refl _ _).alloc (Nat.le_refl _) _) (by omega)⟩
          case measure => simp [intOf]; omega
    · have hk' : k = l.length := by omega
      subst hk'
      have J := HC.out.2.2 w.heap.size (l.map fun x => tx (shw x)) l.length wr (fun j y hj => by
        obtain ⟨x, hx1, rfl⟩ : ∃ x, l[j]? = some x ∧ tx (shw x) = y := by
          rw [List.getElem?_map] at hj
          cases h : l[j]? with
          | none => rw [h] at hj; cases hj
          | some x => rw [h] at hj; injection hj with hj; exact ⟨x, rfl, hj⟩
        exact (cell_of_row wr _ j cs _ _ hc.row).trans (hc.at_ j x (List.getElem?_eq_some_iff.1 hx1).1 hx1)) hlt (by rw [List.length_map]; exact h8) (by rw [List.length_map]; exact Nat.le_refl _) (by
        have e : (l.map fun x => tx (shw x)).map (·.data.toList) = l.map shw := by rw [List.map_map]; rfl
        rw [e, join_eq]
        have := joinT_len l 4194400 (fun x hm => shw_len (hx x hm).1 (hx x hm).2)
        have : l.length * (4194400 + 1) ≤ 20000 * 4194401 := Nat.mul_le_mul_right _ h8
        omega)
      have e : (l.map fun x => tx (shw x)).map (·.data.toList) = l.map shw := by rw [List.map_map]; rfl
      rw [e, join_eq, List.length_map] at J
      have HB := Lib.hid hb
      clear hc hb M e hmk
      go_wp2_with (go_at_call 21; refine J.mono ?_; rintro e w2 ⟨rfl, hb2⟩)
      go_ret
      exact ⟨rfl, HB.out.trans (hb2.mono (Nat.le_of_lt hlt))⟩
end Go.Proofs.YtaepplhgeeaidaaDoor
end
