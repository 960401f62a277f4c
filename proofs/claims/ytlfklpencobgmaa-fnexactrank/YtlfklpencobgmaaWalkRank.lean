/-
  The walk of the law of Rank, with what the program answers. By the verifier.
-/
import Derived.Test.YtlfklpencobgmaaLawRank
import Derived.Test.YtlfklpencobgmaaDlImW
namespace Go.Proofs.Ytlfklpencobgmaa
open Go.RowKit

theorem fnExactRank_walk (r : Dl) (a : Option Addr) (c : Nat) (host : Int) (w : World) (hl : (r.hosts.length : Int) ≤ 9223372036854775807) (hin : Hid (∀ k, k < r.hosts.length → ((hsAt r.hosts k).flows.length : Int) ≤ 9223372036854775807)) (h : Hid (HssAt w a r.hosts)) :
    Calls Try.prog 7 #[r.val a c, .int .i64 host] w fun e w' => e = .returned (.bool true) ∧ Below w.heap.size w w' :=
  fnExactRank_of implRank r a c host w hl hin h
end Go.Proofs.Ytlfklpencobgmaa
