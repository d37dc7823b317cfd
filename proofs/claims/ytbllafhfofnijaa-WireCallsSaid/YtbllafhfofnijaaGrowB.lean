/- A region that draws its order, walked in two texts: what follows an operation is handed in, and the walk ends there. -/
import Derived.Test.YtbllafhfofnijaaGrow
namespace Go.Proofs.Ytbllafhfofnijaa

theorem twice {p : Prop} (h : p) (k : p → p) : p := k h

/-- Where what follows is proved already, the way back into the region may be one into an empty region. -/
theorem shut_end {P : Program} {md : Region.Mode} {ops : Array Oper} {Q : Exit → Act → World → Prop} {S : World → Prop} {fuel : Nat} {l : Array Bool} {K : Act → World → Prop} {a0 : Act} {w0 : World} (hd : K a0 w0)
    (h : Shut (∀ a w, S w → (S w → wpAnyH P md ops Q S fuel l a w) → K a w)) :
    Shut (∀ a w, S w → (S w → wpAnyH P md ops Q S fuel l a w) → K a w) = Shut (∀ a w, (a = a0 ∧ w = w0) → ((a = a0 ∧ w = w0) → wpAnyH P md #[] (NoPanic (fun _ _ _ => True)) (fun _ => True) 0 #[] a w) → K a w) :=
  propext ⟨fun _ a w e _ => by obtain ⟨rfl, rfl⟩ := e; exact hd, fun _ => h⟩

theorem use_shut {P : Program} {md : Region.Mode} {ops : Array Oper} {Q : Exit → Act → World → Prop} {S : World → Prop} {fuel : Nat} {l : Array Bool} {K : Act → World → Prop} {a : Act} {w : World}
    (h : Shut (∀ a w, S w → (S w → wpAnyH P md ops Q S fuel l a w) → K a w)) (hs : S w) (hr : wpAnyH P md ops Q S fuel l a w) : K a w := h.out a w hs fun _ => hr

/-- An operation that yields in every world that is held is taken first; the slot that it writes is named. -/
theorem take_at {P : Program} {md : Region.Mode} {ops : Array Oper} {Q : Exit → Act → World → Prop} {S : World → Prop} {fuel : Nat} {l : Array Bool} {tm : Array Value} {w : World} (i d : Nat) {oi : Oper} {v : Value} (hi : ops[i]? = some oi) (hd : oi.dst = some d)
    (hs : Region.noSelect ops = true) (hf : Region.free md ops l i = true) (hr : (Region.ready md ops l).contains i = true) (hy : YieldsIf P ops S oi v { tmps := tm, defers := [] }) (hS : S w)
    (h : wpAnyH P md ops (NoPanic Q) S fuel (l.setIfInBounds i true) { tmps := tm.setIfInBounds d v, defers := [] } w) : wpAnyH P md ops (NoPanic Q) S (fuel + 1) l { tmps := tm, defers := [] } w :=
  wpAnyH_take hi hs hf hr (fun _ _ _ h => h) hy hS (by unfold Act.put; rw [hd]; exact h)
end Go.Proofs.Ytbllafhfofnijaa
