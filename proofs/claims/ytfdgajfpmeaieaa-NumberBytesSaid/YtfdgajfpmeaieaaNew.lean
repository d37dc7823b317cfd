/- wire.New: a reader of a copy of the bytes. -/
import Derived.Test.YtfdgajfpmeaieaaRead
import Derived.Laws.EntriesVeiled
namespace Go.Proofs.Ytfdgajfpmeaieaa
open Go.RowKit

/-- What New answers: a reader in blocks of its own. -/
def Newed (w : World) (l : List UInt8) (e : Ending) (w' : World) : Prop :=
  ∃ lo r, e = .returned (.pointer (some ⟨r, 0, none⟩)) ∧ w.heap.size ≤ lo ∧ lo ≤ r ∧ Rdr w' lo r l 0 ∧ Below w.heap.size w w'

theorem new_any (A : Option Addr) (c : Nat) (l : List UInt8) (n : Nat) (w : World) (hr : Rd w w.heap.size (.slice A n c) (u8s l)) (hl : n ≤ 35184372088832) (hn : n = l.length) :
    Calls Try.prog 28 #[.slice A n c] w (Newed w l) := by
  have hmf : ∀ (fn : Fn) (first cap : Array Value) (w : World), (Instr.makeFunc fn first cap).run Try.prog w = .ok (.func fn first cap) w := fun _ _ _ _ => rfl
  have J := join_new #[.slice A n c] [l] w (rdAll1 hr) 1 n l rfl (by simp) hn.symm (by omega) (by omega) _ rfl
  have HN := Lib.hid hn
  clear hn
  go_enter Try.func28, Try.ntmps28
  go_wp2_with (go_at_call 78; refine J.mono ?_; rintro e w1 ⟨A1, c1, rfl, hown, hb⟩)
  go_ret
  have hlo : ∀ ad : Addr, A1 = some ad → w.heap.size ≤ ad.block := fun ad e => by
    subst e
    exact (hown.lt _ rfl).1
  have hrd := Rd.of_own hown
  refine ⟨w.heap.size, w1.heap.size, rfl, Nat.le_refl _, hb.size, ⟨A1, n, c1, HN.out, hlo, heap_alloc2_old _ _ _, heap_alloc2_new _ _ _, ?_⟩, (hb.alloc hb.size _).alloc (by simp; exact Nat.le_succ_of_le hb.size) _⟩
  exact (hrd.alloc (Nat.le_refl _) _).alloc (by simp) _
end Go.Proofs.Ytfdgajfpmeaieaa
