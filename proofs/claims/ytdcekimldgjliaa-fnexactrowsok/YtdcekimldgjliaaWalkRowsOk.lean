/-
  The walk of the law of RowsOk, with what the program answers. By the verifier.
-/
import Derived.Test.YtdcekimldgjliaaLawRowsOk
import Derived.Test.YtdcekimldgjliaaRwWtI
namespace Go.Proofs.Ytdcekimldgjliaa
open Go.RowKit

theorem fnExactRowsOk_walk (r : Rw) (a : Option Addr) (c : Nat) (w : World) (hl : (r.lists.length : Int) ≤ 9223372036854775807) (hin : Hid (∀ k, k < r.lists.length → ((izAt r.lists k).length : Int) ≤ 9223372036854775807)) (h : Hid (IzAt w a r.lists)) :
    Calls Try.prog 3 #[r.val a c] w fun e w' => e = .returned (.bool true) ∧ Below w.heap.size w w' :=
  fnExactRowsOk_of implRowsOkV r a c w hl hin h
end Go.Proofs.Ytdcekimldgjliaa
