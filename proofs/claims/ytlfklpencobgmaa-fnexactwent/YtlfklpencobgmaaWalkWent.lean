/-
  The walk of the law of Went, with what the program answers. By the verifier.
-/
import Derived.Test.YtlfklpencobgmaaLawWent
import Derived.Test.YtlfklpencobgmaaDlWentI
namespace Go.Proofs.Ytlfklpencobgmaa
open Go.RowKit

theorem fnExactWent_walk (r : Dl) (a : Option Addr) (c : Nat) (w : World) (hl : (r.hosts.length : Int) ≤ 9223372036854775807) (hin : Hid (∀ k, k < r.hosts.length → ((hsAt r.hosts k).flows.length : Int) ≤ 9223372036854775807)) (h : Hid (HssAt w a r.hosts)) :
    Calls Try.prog 6 #[r.val a c] w fun e w' => e = .returned (.bool true) ∧ Below w.heap.size w w' :=
  fnExactWent_of implWent r a c w hl hin h
end Go.Proofs.Ytlfklpencobgmaa
