/-
  FnExactFair, walked. By the verifier.
-/
import Derived.Test.YtlednodibgcpeaaCoFair
import Derived.Test.YtlednodibgcpeaaLawFair
namespace Go.Proofs.Ytlednodibgcpeaa
open Go.RowKit
theorem fnExactFair_walk (p : Int) (f : Int) (w : World) :
    Calls Try.prog 6 #[.int .i64 p, .int .i64 f] w fun e w' => e = .returned (.bool true) ∧ Below w.heap.size w w' :=
  fnExactFair_law p f w (fun w => implFair p f w)
end Go.Proofs.Ytlednodibgcpeaa
