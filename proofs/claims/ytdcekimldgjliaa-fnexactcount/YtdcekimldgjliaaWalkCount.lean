/-
  The walk of the law of Count, with what the program answers. By the verifier.
-/
import Derived.Test.YtdcekimldgjliaaLawCount
import Derived.Test.YtdcekimldgjliaaRwWtI
namespace Go.Proofs.Ytdcekimldgjliaa
open Go.RowKit

theorem fnExactCount_walk (r : Rw) (a : Option Addr) (c : Nat) (w : World) (hl : (r.lists.length : Int) ≤ 9223372036854775807) (hin : Hid (∀ k, k < r.lists.length → ((izAt r.lists k).length : Int) ≤ 9223372036854775807)) (h : Hid (IzAt w a r.lists)) :
    Calls Try.prog 6 #[r.val a c] w fun e w' => e = .returned (.bool true) ∧ Below w.heap.size w w' :=
  fnExactCount_of implCount r a c w hl hin h
end Go.Proofs.Ytdcekimldgjliaa
