/-
  The exact law of Settled, walked, the table of divisors given. By the verifier.
-/
import Derived.Test.YtemegnfefjcdaaaDoorSrSetI
import Derived.Test.YtemegnfefjcdaaaDoorLawSettled
namespace Go.Proofs.YtemegnfefjcdaaaDoor
open Go.RowKit
theorem fnExactSettled_walk (p : Sr) (d n : Int) (w : World) (hD : Dv w) :
    Calls Tryd.prog 6 #[p.val, .int .i64 d, .int .i64 n] w fun e w' => e = .returned (.bool true) ∧ Below w.heap.size w w' :=
  fnExactSettled_law p d n w (fun x hx => implSettled p d n x (hD.on hx))
end Go.Proofs.YtemegnfefjcdaaaDoor
