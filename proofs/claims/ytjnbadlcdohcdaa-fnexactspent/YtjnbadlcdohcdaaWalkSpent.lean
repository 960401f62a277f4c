/-
  The walk of the law of Spent, with what the program answers. By the verifier.
-/
import Derived.Test.YtjnbadlcdohcdaaLawSpent
import Derived.Test.YtjnbadlcdohcdaaPzImplS
import Derived.OpenShut
namespace Go.Proofs.Ytjnbadlcdohcdaa
open Go.RowKit

theorem fnExactSpent_walk (l : Pz) (now n : Int) (w : World) (hn : (Lit.int .i64 n).wf = true) :
    Calls Try.prog 5 #[l.val, .int .i64 now, .int .i64 n] w fun e w' => e = .returned (.bool true) ∧ Below w.heap.size w w' :=
  fnExactSpent_law l now n (bounds_i64 hn).1 w (fun w => implSpent l now n w)
end Go.Proofs.Ytjnbadlcdohcdaa
