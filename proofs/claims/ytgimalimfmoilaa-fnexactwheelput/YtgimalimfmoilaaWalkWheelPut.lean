/-
  The law WheelPut, walked with what the program answers. By the verifier.
-/
import Derived.Test.YtgimalimfmoilaaLawWheelPut
import Derived.Test.YtgimalimfmoilaaWhPtI
namespace Go.Proofs.Ytgimalimfmoilaa
open Go.RowKit

theorem fnExactWheelPut_walk (r : Wh) (a : Option Addr) (c : Nat) (d : Du) (w : World) (hl : (r.slots.length : Int) ≤ 9223372036854775807) (hin : Hid (∀ k, k < r.slots.length → ((dzAt r.slots k).length : Int) ≤ 9223372036854775807)) (h : Hid (DzAt w a r.slots)) :
    Calls Try.prog 7 #[r.val a c, d.val] w fun e w' => e = .returned (.bool true) ∧ Below w.heap.size w w' :=
  fnExactWheelPut_of implWheelPut r a c d w hl hin h
end Go.Proofs.Ytgimalimfmoilaa
