/-
  The law Begins, walked with what the program answers. By the verifier.
-/
import Derived.Test.YtjcjhmimgpgfoaaLawBegins
import Derived.Test.YtjcjhmimgpgfoaaFsBegI
namespace Go.Proofs.Ytjcjhmimgpgfoaa
open Go.RowKit

theorem fnExactBegins_walk (r : Fs) (a : Option Addr) (c : Nat) (flow : Int) (w : World) (hl : (r.flows.length : Int) ≤ 9223372036854775807) (hin : Hid (∀ k, k < r.flows.length → ((fwAt r.flows k).sizes.length : Int) ≤ 9223372036854775807)) (h : Hid (FwsAt w a r.flows)) :
    Calls Try.prog 4 #[r.val a c, .int .i64 flow] w fun e w' => e = .returned (.bool true) ∧ Below w.heap.size w w' :=
  fnExactBegins_of implBegins r a c flow w hl hin h
end Go.Proofs.Ytjcjhmimgpgfoaa
