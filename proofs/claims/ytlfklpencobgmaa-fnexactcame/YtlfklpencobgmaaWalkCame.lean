/-
  The walk of the law of Came, with what the program answers. By the verifier.
-/
import Derived.Test.YtlfklpencobgmaaLawCame
import Derived.Test.YtlfklpencobgmaaDlCameI
namespace Go.Proofs.Ytlfklpencobgmaa
open Go.RowKit

theorem fnExactCame_walk (r : Dl) (a : Option Addr) (c : Nat) (host : Int) (flow : Int) (w : World) (hl : (r.hosts.length : Int) ≤ 9223372036854775807) (hin : Hid (∀ k, k < r.hosts.length → ((hsAt r.hosts k).flows.length : Int) ≤ 9223372036854775807)) (h : Hid (HssAt w a r.hosts)) :
    Calls Try.prog 5 #[r.val a c, .int .i64 host, .int .i64 flow] w fun e w' => e = .returned (.bool true) ∧ Below w.heap.size w w' :=
  fnExactCame_of implCame r a c host flow w hl hin h
end Go.Proofs.Ytlfklpencobgmaa
