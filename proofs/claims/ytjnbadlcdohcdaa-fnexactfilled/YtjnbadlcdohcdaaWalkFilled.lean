/-
  The walk of the law of Filled, with what the program answers. By the verifier.
-/
import Derived.Test.YtjnbadlcdohcdaaLawFilled
import Derived.Test.YtjnbadlcdohcdaaPzImpl
import Derived.OpenShut
namespace Go.Proofs.Ytjnbadlcdohcdaa
open Go.RowKit

theorem fnExactFilled_walk (l : Pz) (now : Int) (w : World) :
    Calls Try.prog 4 #[l.val, .int .i64 now] w fun e w' => e = .returned (.bool true) ∧ Below w.heap.size w w' :=
  fnExactFilled_law l now w (fun w => implFilled l now w)
end Go.Proofs.Ytjnbadlcdohcdaa
