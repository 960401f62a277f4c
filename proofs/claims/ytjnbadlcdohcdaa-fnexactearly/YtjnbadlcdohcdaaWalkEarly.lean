/-
  The walk of the law of Early, with what the program answers. By the verifier.
-/
import Derived.Test.YtjnbadlcdohcdaaLawEarly
import Derived.Test.YtjnbadlcdohcdaaPeEL
import Derived.OpenShut
namespace Go.Proofs.Ytjnbadlcdohcdaa
open Go.RowKit

theorem fnExactEarly_walk (l : Pe) (now : Int) (w : World) :
    Calls Try.prog 7 #[l.val, .int .i64 now] w fun e w' => e = .returned (.bool true) ∧ Below w.heap.size w w' :=
  fnExactEarly_law l now w (fun w => implEarly l now w)
end Go.Proofs.Ytjnbadlcdohcdaa
