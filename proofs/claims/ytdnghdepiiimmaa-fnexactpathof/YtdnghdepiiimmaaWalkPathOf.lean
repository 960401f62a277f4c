/-
  The law PathOf, walked with what the program answers. By the verifier.
-/
import Derived.Test.YtdnghdepiiimmaaLawPathOf
import Derived.Test.YtdnghdepiiimmaaNdNum
namespace Go.Proofs.Ytdnghdepiiimmaa
open Go.RowKit

theorem fnExactPathOf_walk (r : List Nd) (a : Option Addr) (c : Nat) (n : Int) (w : World) (hl : (r.length : Int) ≤ 9223372036854775807) (h : Hid (NdsAt w a r)) :
    Calls Try.prog 4 #[.slice a r.length c, .int .i64 n] w fun e w' => e = .returned (.bool true) ∧ Below w.heap.size w w' :=
  fnExactPathOf_of implPathOf r a c n w hl h
end Go.Proofs.Ytdnghdepiiimmaa
