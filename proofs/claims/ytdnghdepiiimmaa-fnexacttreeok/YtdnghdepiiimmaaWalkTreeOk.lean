/-
  The law TreeOk, walked with what the program answers. By the verifier.
-/
import Derived.Test.YtdnghdepiiimmaaLawTreeOk
import Derived.Test.YtdnghdepiiimmaaNdOkI
namespace Go.Proofs.Ytdnghdepiiimmaa
open Go.RowKit

theorem fnExactTreeOk_walk (l : List Nd) (a : Option Addr) (cap : Nat) (w : World) (hl : (l.length : Int) ≤ 9223372036854775807) (h : Hid (NdsAt w a l)) :
    Calls Try.prog 3 #[.slice a l.length cap] w fun e w' => e = .returned (.bool true) ∧ Below w.heap.size w w' :=
  fnExactTreeOk_of implTreeOk l a cap w hl h
end Go.Proofs.Ytdnghdepiiimmaa
