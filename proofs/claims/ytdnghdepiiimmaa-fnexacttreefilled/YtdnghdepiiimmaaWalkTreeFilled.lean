/-
  The law TreeFilled, walked with what the program answers. By the verifier.
-/
import Derived.Test.YtdnghdepiiimmaaLawTreeFilled
import Derived.Test.YtdnghdepiiimmaaNdFillI
namespace Go.Proofs.Ytdnghdepiiimmaa
open Go.RowKit

theorem fnExactTreeFilled_walk (r : List Nd) (a : Option Addr) (c : Nat) (now : Int) (w : World) (hl : (r.length : Int) ≤ 9223372036854775807) (h : Hid (NdsAt w a r)) :
    Calls Try.prog 5 #[.slice a r.length c, .int .i64 now] w fun e w' => e = .returned (.bool true) ∧ Below w.heap.size w w' :=
  fnExactTreeFilled_of implTreeFilled r a c now w hl h
end Go.Proofs.Ytdnghdepiiimmaa
