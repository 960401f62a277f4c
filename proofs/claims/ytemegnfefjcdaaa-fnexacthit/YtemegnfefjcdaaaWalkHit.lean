/-
  The exact law of Hit, walked. By the verifier.
-/
import Derived.Test.YtemegnfefjcdaaaSrHitI
import Derived.Test.YtemegnfefjcdaaaLawHit
namespace Go.Proofs.Ytemegnfefjcdaaa
open Go.RowKit
theorem fnExactHit_walk (p : Sr) (x : Int) (w : World) :
    Calls Try.prog 4 #[p.val, .int .i64 x] w fun e w' => e = .returned (.bool true) ∧ Below w.heap.size w w' :=
  fnExactHit_law p x w (fun w => implHit p x w)
end Go.Proofs.Ytemegnfefjcdaaa
