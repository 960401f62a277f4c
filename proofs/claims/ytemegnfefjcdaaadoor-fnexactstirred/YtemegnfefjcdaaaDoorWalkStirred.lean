/-
  The exact law of Stirred, walked, the table of divisors given. By the verifier.
-/
import Derived.Test.YtemegnfefjcdaaaDoorSrStirI
import Derived.Test.YtemegnfefjcdaaaDoorLawStirred
namespace Go.Proofs.YtemegnfefjcdaaaDoor
open Go.RowKit
theorem fnExactStirred_walk (p : Sr) (d : Int) (w : World) (hD : Dv w) :
    Calls Tryd.prog 5 #[p.val, .int .i64 d] w fun e w' => e = .returned (.bool true) ∧ Below w.heap.size w w' :=
  fnExactStirred_law p d w (fun x hx => implStirred p d x (hD.on hx))
end Go.Proofs.YtemegnfefjcdaaaDoor
