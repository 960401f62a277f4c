/-
  FnExactCoupled, walked. By the verifier.
-/
import Derived.Test.YtlednodibgcpeaaCoImpl
import Derived.Test.YtlednodibgcpeaaLawCoupled
namespace Go.Proofs.Ytlednodibgcpeaa
open Go.RowKit
theorem fnExactCoupled_walk (p : Int) (f : Int) (w : World) :
    Calls Try.prog 5 #[.int .i64 p, .int .i64 f] w fun e w' => e = .returned (.bool true) ∧ Below w.heap.size w w' :=
  fnExactCoupled_law p f w (fun w => implCoupled p f w)
end Go.Proofs.Ytlednodibgcpeaa
