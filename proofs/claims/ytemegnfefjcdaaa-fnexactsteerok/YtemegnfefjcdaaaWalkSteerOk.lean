/-
  The exact law of SteerOk, walked. By the verifier.
-/
import Derived.Test.YtemegnfefjcdaaaSrImpl
import Derived.Test.YtemegnfefjcdaaaLawSteerOk
namespace Go.Proofs.Ytemegnfefjcdaaa
open Go.RowKit
theorem fnExactSteerOk_walk (p : Sr) (w : World) :
    Calls Try.prog 3 #[p.val] w fun e w' => e = .returned (.bool true) ∧ Below w.heap.size w w' :=
  fnExactSteerOk_law p w (fun w => implSteerOk p w)
end Go.Proofs.Ytemegnfefjcdaaa
