/-
  The law WhenCan, walked with what the program answers. By the verifier.
-/
import Derived.Test.YtdnghdepiiimmaaLawWhenCan
import Derived.Test.YtdnghdepiiimmaaNdWhenI
import Derived.OpenShut
namespace Go.Proofs.Ytdnghdepiiimmaa
open Go.RowKit

theorem fnExactWhenCan_walk (l : List Nd) (a : Option Addr) (cap : Nat) (n : Int) (size : Int) (w : World) (hl : (l.length : Int) ≤ 9223372036854775807) (h : Hid (NdsAt w a l)) (hn : (Lit.int .i64 size).wf = true) :
    Calls Try.prog 8 #[.slice a l.length cap, .int .i64 n, .int .i64 size] w fun e w' => e = .returned (.bool true) ∧ Below w.heap.size w w' :=
  fnExactWhenCan_of implWhenCan l a cap n size w hl (bounds_i64 hn).2 h
end Go.Proofs.Ytdnghdepiiimmaa
