/-
  The walk of the law of Leaky, with what the program answers. By the verifier.
-/
import Derived.Test.YtjnbadlcdohcdaaLawLeaky
import Derived.Test.YtjnbadlcdohcdaaPeEL
import Derived.OpenShut
namespace Go.Proofs.Ytjnbadlcdohcdaa
open Go.RowKit

theorem fnExactLeaky_walk (l : Pe) (now : Int) (w : World) :
    Calls Try.prog 8 #[l.val, .int .i64 now] w fun e w' => e = .returned (.bool true) ∧ Below w.heap.size w w' :=
  fnExactLeaky_law l now w (fun w => implLeaky l now w)
end Go.Proofs.Ytjnbadlcdohcdaa
