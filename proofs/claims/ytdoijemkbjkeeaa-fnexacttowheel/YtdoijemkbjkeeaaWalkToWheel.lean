/-
  The law ToWheel, walked with what the program answers. By the verifier.
-/
import Derived.Test.YtdoijemkbjkeeaaLawToWheel
import Derived.Test.YtdoijemkbjkeeaaWhToW
namespace Go.Proofs.Ytdoijemkbjkeeaa
open Go.RowKit

theorem fnExactToWheel_walk (r : List Du) (a : Option Addr) (c : Nat) (step : Int) (w : World) (hl : (r.length : Int) ≤ 9223372036854775807) (h : Hid (DusAt w a r)) :
    Calls Try.prog 4 #[.slice a r.length c, .int .i64 step] w fun e w' => e = .returned (.bool true) ∧ Below w.heap.size w w' :=
  fnExactToWheel_of implToWheel r a c step w hl h
end Go.Proofs.Ytdoijemkbjkeeaa
