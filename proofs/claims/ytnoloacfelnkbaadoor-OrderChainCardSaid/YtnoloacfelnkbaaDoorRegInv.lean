/-
  A RULE for a region that draws its order of evaluation: an invariant that each operation keeps, whichever come up, once for each operation and not once for each order.
  CONDITIONS: the theorem's own hypotheses.
-/
import Derived.RegionTactic
namespace Go.Proofs.YtnoloacfelnkbaaDoor
open Go

/-- I n: the invariant with n operations still to come. -/
theorem wpAny_inv {P : Program} {ops : Array Oper} {Q : Exit → Act → World → Prop} {md : Region.Mode} (I : Nat → Array Bool → Act → World → Prop)
    (hstep : ∀ n listed a w i, I (n + 1) listed a w → i ∈ Region.ready md ops listed → wpOp P ops Q i (I n (listed.setIfInBounds i true)) a w)
    (hzero : ∀ listed a w, I 0 listed a w → Region.ready md ops listed = [])
    (hdone : ∀ n listed a w, I n listed a w → Region.ready md ops listed = [] → Q .normal a w) :
    ∀ n listed a w, I n listed a w → wpAny P md ops Q n listed a w
  | 0, listed, a, w, h => ⟨hzero listed a w h, hdone 0 listed a w h (hzero listed a w h)⟩
  | n + 1, listed, a, w, h => ⟨hdone (n + 1) listed a w h, fun i hi => wpOp_mono (fun a' w' h' => wpAny_inv I hstep hzero hdone n _ a' w' h') (hstep n listed a w i h hi)⟩
end Go.Proofs.YtnoloacfelnkbaaDoor
