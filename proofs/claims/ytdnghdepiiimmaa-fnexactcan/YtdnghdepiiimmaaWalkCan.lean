/-
  The law Can, walked with what the program answers. By the verifier.
-/
import Derived.Test.YtdnghdepiiimmaaLawCan
import Derived.Test.YtdnghdepiiimmaaNdCanI
namespace Go.Proofs.Ytdnghdepiiimmaa
open Go.RowKit

theorem fnExactCan_walk (l : List Nd) (a : Option Addr) (cap : Nat) (n : Int) (size : Int) (w : World) (hl : (l.length : Int) ≤ 9223372036854775807) (h : Hid (NdsAt w a l)) :
    Calls Try.prog 6 #[.slice a l.length cap, .int .i64 n, .int .i64 size] w fun e w' => e = .returned (.bool true) ∧ Below w.heap.size w w' :=
  fnExactCan_of implCan l a cap n size w hl h
end Go.Proofs.Ytdnghdepiiimmaa
