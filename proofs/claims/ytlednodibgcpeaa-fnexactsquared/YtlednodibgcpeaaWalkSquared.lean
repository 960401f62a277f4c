/-
  FnExactSquared, walked. By the verifier.
-/
import Derived.Test.YtlednodibgcpeaaCoImpl
import Derived.Test.YtlednodibgcpeaaLawSquared
namespace Go.Proofs.Ytlednodibgcpeaa
open Go.RowKit
theorem fnExactSquared_walk (p : Int) (w : World) :
    Calls Try.prog 4 #[.int .i64 p] w fun e w' => e = .returned (.bool true) ∧ Below w.heap.size w w' :=
  fnExactSquared_law p w (fun w => implSquared p w)
end Go.Proofs.Ytlednodibgcpeaa
