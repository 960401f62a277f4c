/-
  The walk of the law of Weight, with what the program answers. By the verifier.
-/
import Derived.Test.YtdcekimldgjliaaLawWeight
import Derived.Test.YtdcekimldgjliaaRwWtI
namespace Go.Proofs.Ytdcekimldgjliaa
open Go.RowKit

theorem fnExactWeight_walk (r : Rw) (a : Option Addr) (c : Nat) (row : Int) (w : World) (hl : (r.lists.length : Int) ≤ 9223372036854775807) (hin : Hid (∀ k, k < r.lists.length → ((izAt r.lists k).length : Int) ≤ 9223372036854775807)) (h : Hid (IzAt w a r.lists)) :
    Calls Try.prog 7 #[r.val a c, .int .i64 row] w fun e w' => e = .returned (.bool true) ∧ Below w.heap.size w w' :=
  fnExactWeight_of implWeight r a c row w hl hin h
end Go.Proofs.Ytdcekimldgjliaa
