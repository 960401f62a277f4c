/-
  The walk of the law of PurseOk, with what the program answers. By the verifier.
-/
import Derived.Test.YtjnbadlcdohcdaaLawPurseOk
import Derived.Test.YtjnbadlcdohcdaaPzImpl
import Derived.OpenShut
namespace Go.Proofs.Ytjnbadlcdohcdaa
open Go.RowKit

theorem fnExactPurseOk_walk (l : Pz) (w : World) :
    Calls Try.prog 3 #[l.val] w fun e w' => e = .returned (.bool true) ∧ Below w.heap.size w w' :=
  fnExactPurseOk_law l w (fun w => implPurseOk l w)
end Go.Proofs.Ytjnbadlcdohcdaa
