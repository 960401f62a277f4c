/-
  The law Paid, walked with what the program answers. By the verifier.
-/
import Derived.Test.YtdnghdepiiimmaaLawPaid
import Derived.Test.YtdnghdepiiimmaaNdPayI
namespace Go.Proofs.Ytdnghdepiiimmaa
open Go.RowKit

theorem fnExactPaid_walk (r : List Nd) (a : Option Addr) (c : Nat) (n : Int) (size : Int) (w : World) (hl : (r.length : Int) ≤ 9223372036854775807) (h : Hid (NdsAt w a r)) :
    Calls Try.prog 7 #[.slice a r.length c, .int .i64 n, .int .i64 size] w fun e w' => e = .returned (.bool true) ∧ Below w.heap.size w w' :=
  fnExactPaid_of implPaid r a c n size w hl h
end Go.Proofs.Ytdnghdepiiimmaa
