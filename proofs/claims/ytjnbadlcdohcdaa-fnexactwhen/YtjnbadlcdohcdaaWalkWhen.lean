/-
  The walk of the law of When, with what the program answers. By the verifier.
-/
import Derived.Test.YtjnbadlcdohcdaaLawWhen
import Derived.Test.YtjnbadlcdohcdaaPzImplW
import Derived.OpenShut
namespace Go.Proofs.Ytjnbadlcdohcdaa
open Go.RowKit

theorem fnExactWhen_walk (l : Pz) (n : Int) (w : World) (hn : (Lit.int .i64 n).wf = true) :
    Calls Try.prog 6 #[l.val, .int .i64 n] w fun e w' => e = .returned (.bool true) ∧ Below w.heap.size w w' :=
  fnExactWhen_law l n (bounds_i64 hn).2 w (fun w => implWhen l n w)
end Go.Proofs.Ytjnbadlcdohcdaa
