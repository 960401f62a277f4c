/-
  The law WheelTake, walked with what the program answers. By the verifier.
-/
import Derived.Test.YtgimalimfmoilaaLawWheelTake
import Derived.Test.YtgimalimfmoilaaWhTkI
namespace Go.Proofs.Ytgimalimfmoilaa
open Go.RowKit

theorem fnExactWheelTake_walk (r : Wh) (a : Option Addr) (c : Nat) (w : World) (hl : (r.slots.length : Int) ≤ 9223372036854775807) (hin : Hid (∀ k, k < r.slots.length → ((dzAt r.slots k).length : Int) ≤ 9223372036854775807)) (h : Hid (DzAt w a r.slots)) :
    Calls Try.prog 8 #[r.val a c] w fun e w' => e = .returned (.bool true) ∧ Below w.heap.size w w' :=
  fnExactWheelTake_of implWheelTake r a c w hl hin h
end Go.Proofs.Ytgimalimfmoilaa
