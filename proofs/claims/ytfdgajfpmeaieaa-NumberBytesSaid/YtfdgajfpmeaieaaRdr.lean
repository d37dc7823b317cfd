/- A reader that New returned: what it holds, and its calls. -/
import Derived.Test.YtfdgajfpmeaieaaVal
import Derived.Deep.QuietTactic
import Derived.BigQuiet
namespace Go.Proofs.Ytfdgajfpmeaieaa
open Go.RowKit

/-- The reader at block r: the bytes that are left, the error. The block behind it is the variable that the closure captured; its bytes lie from block lo on, and below r. -/
def Rdr (w : World) (lo r : Nat) (l : List UInt8) (q : Nat) : Prop :=
  ∃ A n c, n = l.length ∧ (∀ ad : Addr, A = some ad → lo ≤ ad.block) ∧ w.heap[r]? = some (.cells #[.slice A n c, .int .i64 (q : Int), .func (.func 79) #[] #[.pointer (some ⟨r + 1, 0, none⟩)]] 93 (0, 0)) ∧
    w.heap[r + 1]? = some (.cells #[.pointer (some ⟨r, 0, none⟩)] 43 (0, 0)) ∧ Rd w r (.slice A n c) (u8s l)

/-- What an attempt by a rule gives, and what it leaves. -/
def att (R : List UInt8 → Nat → Nat × Nat × Nat) (m : Nat) (l : List UInt8) (q : Nat) : (Nat × List UInt8) × (List UInt8 × Nat) :=
  if q ≠ 0 then ((0, []), (l, q)) else if (R l m).2.2 ≠ 0 then ((0, []), (l, (R l m).2.2)) else (((R l m).1, l.take (R l m).2.1), (l.drop (R l m).2.1, 0))

/-- Behind an attempt. -/
def Took (w : World) (lo r : Nat) (a : (Nat × List UInt8) × (List UInt8 × Nat)) (e : Ending) (w' : World) : Prop :=
  ∃ A n c, n = a.1.2.length ∧ e = .returned (.tuple #[.int .u64 (a.1.1 : Int), .slice A n c]) ∧ Rd w' r (.slice A n c) (u8s a.1.2) ∧ Rdr w' lo r a.2.1 a.2.2 ∧ w.grownBy w' (some r)

theorem took_of {w : World} {lo r x k n c : Nat} {l : List UInt8} {A A' : Option Addr} {n' c' : Nat} (hrd : Rd w r (.slice A n c) (u8s l)) (hn : n = l.length) (hk : k ≤ n)
    (h1 : w.heap[r]? = some (.cells #[.slice A n c, .int .i64 ((0 : Nat) : Int), .func (.func 79) #[] #[.pointer (some ⟨r + 1, 0, none⟩)]] 93 (0, 0)))
    (h2 : w.heap[r + 1]? = some (.cells #[.pointer (some ⟨r, 0, none⟩)] 43 (0, 0)))
    (hlo : ∀ ad : Addr, A' = some ad → lo ≤ ad.block) (hA : Rd w r (.slice A' n' c') (u8s (l.drop k))) (hn' : n' = n - k) :
    Took w lo r ((x, l.take k), (l.drop k, 0)) (.returned (.tuple #[.int .u64 (x : Int), .slice A k c])) (w.setCell ⟨r, 0, none⟩ (.slice A' n' c')).drew := by
  have h1' := heap_setCell_same w r 0 _ _ (.slice A' n' c') h1
  have h2' := (Below.heap_setCell w ⟨r, 0, none⟩ (.slice A' n' c') (r + 1) (by simp)).trans h2
  have hg : w.grownBy (w.setCell ⟨r, 0, none⟩ (.slice A' n' c')) (some r) := ⟨rfl, rfl, rfl, by simp, fun i _ hne => Below.heap_setCell _ _ _ _ (fun e => hne (by rw [e]))⟩
  refine ⟨A, k, c, by rw [List.length_take]; omega, rfl, ((hrd.cutTo hn hk).setCell (Nat.le_refl _) _).drewN 1, ⟨A', n', c', by rw [List.length_drop]; omega, hlo, h1', h2', (hA.setCell (Nat.le_refl _) _).drewN 1⟩, ⟨hg.os, hg.tape, hg.output, hg.size, hg.block⟩⟩

/-- A reader is kept where another block than its own has turned. -/
theorem Rdr.kept {w w' : World} {lo r q g : Nat} {l : List UInt8} (h : Rdr w lo r l q) (hg : w.grownBy w' (some g)) (hne : g < lo ∨ r + 1 < g) (hlo : lo ≤ r) : Rdr w' lo r l q := by
  obtain ⟨A, n, c, hn, hl, h1, h2, hr⟩ := h
  have hr1 : r + 1 < w.heap.size := (Array.getElem?_eq_some_iff.1 h2).1
  refine ⟨A, n, c, hn, hl, (hg.block r (by omega) (by simp; omega)).trans h1, (hg.block (r + 1) hr1 (by simp; omega)).trans h2, ?_⟩
  obtain ⟨A', c', hv, hc, hm, hx⟩ := hr
  refine ⟨A', c', hv, hc, hm, fun hp => ?_⟩
  obtain ⟨ad, rfl, hb, hcell⟩ := hx hp
  injection hv with e1
  have := hl ad e1
  refine ⟨ad, rfl, hb, fun j u hu => (World.cell?_of_block (hg.block _ ?_ ?_)).trans (hcell j u hu)⟩
  · rw [block_of_add']; omega
  · rw [block_of_add']; simp; omega

theorem Rdr.below {w w' : World} {lo r q : Nat} {l : List UInt8} (h : Rdr w lo r l q) (hb : Below w.heap.size w w') : Rdr w' lo r l q := by
  obtain ⟨A, n, c, hn, hl, h1, h2, hr⟩ := h
  have hr1 : r + 1 < w.heap.size := (Array.getElem?_eq_some_iff.1 h2).1
  exact ⟨A, n, c, hn, hl, (hb.block r (by omega)).trans h1, (hb.block (r + 1) hr1).trans h2, hr.below (hb.mono (by omega))⟩

theorem Rdr.lt {w : World} {lo r q : Nat} {l : List UInt8} (h : Rdr w lo r l q) : r + 1 < w.heap.size := by
  obtain ⟨A, n, c, hn, hl, h1, h2, hr⟩ := h
  exact (Array.getElem?_eq_some_iff.1 h2).1

end Go.Proofs.Ytfdgajfpmeaieaa
