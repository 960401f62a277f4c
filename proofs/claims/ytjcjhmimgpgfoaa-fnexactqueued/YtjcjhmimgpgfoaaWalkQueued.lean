/-
  The law Queued, walked with what the program answers. By the verifier.
-/
import Derived.Test.YtjcjhmimgpgfoaaLawQueued
import Derived.Test.YtjcjhmimgpgfoaaFsQuI
namespace Go.Proofs.Ytjcjhmimgpgfoaa
open Go.RowKit

theorem fnExactQueued_walk (r : Fs) (a : Option Addr) (c : Nat) (flow : Int) (size : Int) (w : World) (hl : (r.flows.length : Int) ≤ 9223372036854775807) (hin : Hid (∀ k, k < r.flows.length → ((fwAt r.flows k).sizes.length : Int) ≤ 9223372036854775807)) (h : Hid (FwsAt w a r.flows)) :
    Calls Try.prog 5 #[r.val a c, .int .i64 flow, .int .i64 size] w fun e w' => e = .returned (.bool true) ∧ Below w.heap.size w w' :=
  fnExactQueued_of implQueued r a c flow size w hl hin h
end Go.Proofs.Ytjcjhmimgpgfoaa
