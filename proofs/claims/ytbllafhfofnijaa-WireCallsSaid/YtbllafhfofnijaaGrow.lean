/- A region that draws its order: what is held of the world may grow on the way. -/
import Derived.Deep.RegionHeld3
namespace Go.Proofs.Ytbllafhfofnijaa

theorem wpAnyH_mono {P : Program} {md : Region.Mode} {ops : Array Oper} {Q : Exit → Act → World → Prop} {S S' : World → Prop} (hS : ∀ w, S' w → S w) :
    ∀ (fuel : Nat) (l : Array Bool) (a : Act) (w : World), wpAnyH P md ops Q S' fuel l a w → wpAnyH P md ops Q S fuel l a w
  | 0, _, _, _, h => h
  | fuel + 1, _, _, _, h => ⟨h.1, fun i hi => wpOp_mono (fun a w ⟨s, k⟩ => ⟨hS w s, wpAnyH_mono hS fuel _ a w k⟩) (h.2 i hi)⟩

/-- The way back into a region, with more that is held from here on. -/
theorem shut_eq {P : Program} {md : Region.Mode} {ops : Array Oper} {Q : Exit → Act → World → Prop} {S : World → Prop} (S' : World → Prop) {fuel : Nat} {l : Array Bool} {K : Act → World → Prop}
    (hS : ∀ w, S' w → S w) (h : Shut (∀ a w, S w → (S w → wpAnyH P md ops Q S fuel l a w) → K a w)) :
    Shut (∀ a w, S w → (S w → wpAnyH P md ops Q S fuel l a w) → K a w) = Shut (∀ a w, S' w → (S' w → wpAnyH P md ops Q S' fuel l a w) → K a w) :=
  propext ⟨fun h a w s k => h.out a w (hS w s) fun _ => wpAnyH_mono hS _ _ _ _ (k s), fun _ => h⟩
end Go.Proofs.Ytbllafhfofnijaa
