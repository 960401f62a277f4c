/-
  The walk of the law of Waiting, with what the program answers. By the verifier.
-/
import Derived.Test.YtlfklpencobgmaaLawWaiting
import Derived.Test.YtlfklpencobgmaaDlImW
namespace Go.Proofs.Ytlfklpencobgmaa
open Go.RowKit

theorem fnExactWaiting_walk (r : Dl) (a : Option Addr) (c : Nat) (w : World) (hl : (r.hosts.length : Int) ≤ 9223372036854775807) (hin : Hid (∀ k, k < r.hosts.length → ((hsAt r.hosts k).flows.length : Int) ≤ 9223372036854775807)) (h : Hid (HssAt w a r.hosts)) :
    Calls Try.prog 4 #[r.val a c] w fun e w' => e = .returned (.bool true) ∧ Below w.heap.size w w' :=
  fnExactWaiting_of implWaiting r a c w hl hin h
end Go.Proofs.Ytlfklpencobgmaa
