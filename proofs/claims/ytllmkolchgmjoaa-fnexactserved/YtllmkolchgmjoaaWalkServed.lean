/-
  The law Served, walked with what the program answers. By the verifier.
-/
import Derived.Test.YtllmkolchgmjoaaLawServed
import Derived.Test.YtllmkolchgmjoaaFsSvI
namespace Go.Proofs.Ytllmkolchgmjoaa
open Go.RowKit

theorem fnExactServed_walk (r : Fs) (a : Option Addr) (c : Nat) (w : World) (hl : (r.flows.length : Int) ≤ 9223372036854775807) (hin : Hid (∀ k, k < r.flows.length → ((fwAt r.flows k).sizes.length : Int) ≤ 9223372036854775807)) (h : Hid (FwsAt w a r.flows)) :
    Calls Try.prog 6 #[r.val a c] w fun e w' => e = .returned (.bool true) ∧ Below w.heap.size w w' :=
  fnExactServed_of implServed r a c w hl hin h
end Go.Proofs.Ytllmkolchgmjoaa
