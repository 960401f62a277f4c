/-
  The law FairOk, walked with what the program answers. By the verifier.
-/
import Derived.Test.YtjcjhmimgpgfoaaLawFairOk
import Derived.Test.YtjcjhmimgpgfoaaFwFn
namespace Go.Proofs.Ytjcjhmimgpgfoaa
open Go.RowKit

theorem fnExactFairOk_walk (r : Fs) (a : Option Addr) (c : Nat) (w : World) (hl : (r.flows.length : Int) ≤ 9223372036854775807) (hin : Hid (∀ k, k < r.flows.length → ((fwAt r.flows k).sizes.length : Int) ≤ 9223372036854775807)) (h : Hid (FwsAt w a r.flows)) :
    Calls Try.prog 3 #[r.val a c] w fun e w' => e = .returned (.bool true) ∧ Below w.heap.size w w' :=
  fnExactFairOk_of implFairOk r a c w hl hin h
end Go.Proofs.Ytjcjhmimgpgfoaa
