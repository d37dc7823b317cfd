/- What is known of cells, kept behind a call that leaves what was there, behind an allocation, behind a draw: plain terms, for the arms of a walk. -/
import Derived.WalkKit
import Derived.Deep.Draws
import Derived.Below
namespace Go.Proofs.Ytehlaekhngohgaa
set_option linter.unusedVariables false
set_option linter.unusedSimpArgs false
open Go.RowKit
section
variable {W w1 : World} {a : Addr} {v v0 v1 v2 : Value} {t : TypeId} {o : Obj} {b : Bool} {n : Nat}
theorem lt_of_cell (h : W.cell? a = some v) : a.block < W.heap.size := World.block_lt_of_cell? W a h
theorem keepc (hb : Below W.heap.size W w1) (h : W.cell? a = some v) : w1.cell? a = some v := (hb.cell (lt_of_cell h)).trans h
theorem keepf (hb : Below W.heap.size W w1) (h : W.cell? a = some v) (hf : W.frozen? a = b) : w1.frozen? a = b := (hb.frozen (lt_of_cell h)).trans hf
theorem keepa (h : W.cell? a = some v) : (W.alloc o).cell? a = some v := (World.cell?_alloc_lt W o a (lt_of_cell h)).trans h
theorem keepaf (h : W.cell? a = some v) (hf : W.frozen? a = b) : (W.alloc o).frozen? a = b := (((Below.refl W.heap.size W).alloc (Nat.le_refl _) o).frozen (lt_of_cell h)).trans hf
theorem drewc (h : W.cell? a = some v) : W.drew.cell? a = some v := h
theorem drewf (h : W.frozen? a = b) : W.drew.frozen? a = b := h
theorem newc {cs : Array Value} (j : Nat) (h : cs[j]? = some v) : (W.alloc (.cells cs t)).cell? ⟨W.heap.size, j, none⟩ = some v := by
  simp [h]
theorem newc20 : (W.alloc (.cells #[v0, v1] t)).cell? ⟨W.heap.size, 0, none⟩ = some v0 := newc 0 rfl
theorem newc21 : (W.alloc (.cells #[v0, v1] t)).cell? ⟨W.heap.size, 1, none⟩ = some v1 := newc 1 rfl
theorem newf {cs : Array Value} (j : Nat) : (W.alloc (.cells cs t)).frozen? ⟨W.heap.size, j, none⟩ = false := by
  simp [go_sem]
theorem setc {p : Addr} {u : Value} (h : W.cell? a = some v) (hne : p.block ≠ a.block) : (W.setCell p u).cell? a = some v := (World.cell?_setCell_other W p a u (fun e => hne (by rw [e]))).trans h
theorem keepz (hb : Below W.heap.size W w1) (h : n < W.heap.size) : n < w1.heap.size := Nat.lt_of_lt_of_le h hb.size
theorem allocz (h : n < W.heap.size) : n < (W.alloc o).heap.size := by simp; omega
theorem newz : W.heap.size < (W.alloc o).heap.size := by simp
theorem drewz (h : n < W.heap.size) : n < W.drew.heap.size := h
end
end Go.Proofs.Ytehlaekhngohgaa
