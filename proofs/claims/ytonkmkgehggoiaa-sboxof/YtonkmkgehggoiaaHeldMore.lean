/-
  Own lemma: in a statement that draws its order, what is held may grow on the way. No program is named here; no conditions.
-/
import Derived.Deep.RegionHeld3
namespace Go.Proofs.Ytonkmkgehggoiaa
theorem wpAnyH_more {P : Program} {md : Region.Mode} {ops : Array Oper} {Q : Exit → Act → World → Prop} {S S' : World → Prop} (hs : ∀ w, S' w → S w) :
    ∀ (fuel : Nat) (listed : Array Bool) (a : Act) (w : World), wpAnyH P md ops Q S' fuel listed a w → wpAnyH P md ops Q S fuel listed a w
  | 0, _, _, _, h => h
  | fuel + 1, _, _, _, h => ⟨h.1, fun i hi => wpOp_mono (fun a' w' hk => ⟨hs _ hk.1, wpAnyH_more hs fuel _ a' w' hk.2⟩) (h.2 i hi)⟩
end Go.Proofs.Ytonkmkgehggoiaa
