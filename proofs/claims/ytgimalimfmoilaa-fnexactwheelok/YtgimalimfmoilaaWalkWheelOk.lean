/-
  The law WheelOk, walked with what the program answers. By the verifier.
-/
import Derived.Test.YtgimalimfmoilaaLawWheelOk
import Derived.Test.YtgimalimfmoilaaWhOkW
namespace Go.Proofs.Ytgimalimfmoilaa
open Go.RowKit

theorem fnExactWheelOk_walk (r : Wh) (a : Option Addr) (c : Nat) (w : World) (hl : (r.slots.length : Int) ≤ 9223372036854775807) (hin : Hid (∀ k, k < r.slots.length → ((dzAt r.slots k).length : Int) ≤ 9223372036854775807)) (h : Hid (DzAt w a r.slots)) :
    Calls Try.prog 6 #[r.val a c] w fun e w' => e = .returned (.bool true) ∧ Below w.heap.size w w' :=
  fnExactWheelOk_of implWheelOk r a c w hl hin h
end Go.Proofs.Ytgimalimfmoilaa
