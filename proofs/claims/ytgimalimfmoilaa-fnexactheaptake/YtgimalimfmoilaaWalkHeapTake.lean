/-
  The law HeapTake, walked with what the program answers. By the verifier.
-/
import Derived.Test.YtgimalimfmoilaaLawHeapTake
import Derived.Test.YtgimalimfmoilaaHpTakeI
namespace Go.Proofs.Ytgimalimfmoilaa
open Go.RowKit

theorem fnExactHeapTake_walk (l : List Du) (a : Option Addr) (cap : Nat) (w : World) (hl : (l.length : Int) ≤ 9223372036854775807) (h : Hid (DusAt w a l)) :
    Calls Try.prog 5 #[.slice a l.length cap] w fun e w' => e = .returned (.bool true) ∧ Below w.heap.size w w' :=
  fnExactHeapTake_of implHeapTake l a cap w hl h
end Go.Proofs.Ytgimalimfmoilaa
