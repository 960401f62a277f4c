/-
  FnExactChoice, walked. By the verifier.
-/
import Derived.Test.YtlednodibgcpeaaCoChs
import Derived.Test.YtlednodibgcpeaaLawChoice
namespace Go.Proofs.Ytlednodibgcpeaa
open Go.RowKit
theorem fnExactChoice_walk (p : Int) (f : Int) (g : Bool) (x : Int) (w : World) :
    Calls Try.prog 7 #[.int .i64 p, .int .i64 f, .bool g, .int .i64 x] w fun e w' => e = .returned (.bool true) ∧ Below w.heap.size w w' :=
  fnExactChoice_law p f g x w (fun w => implChoice p f g x w)
end Go.Proofs.Ytlednodibgcpeaa
