/-
  The law Fairs, walked with what the program answers. By the verifier.
-/
import Derived.Test.YtllmkolchgmjoaaLawFairs
import Derived.Test.YtllmkolchgmjoaaFsSvI
import Derived.Test.YtllmkolchgmjoaaFsQuI
namespace Go.Proofs.Ytllmkolchgmjoaa
open Go.RowKit

theorem fnFairs_walk (a : Option Addr) (len cap : Nat) (w : World) (hcode : ∀ k, k < len → ∃ b off z, a = some ⟨b, off, none⟩ ∧ b < w.heap.size ∧ w.cell? ⟨b, off + k, none⟩ = some (.int .u8 z) ∧ 0 ≤ z ∧ z ≤ 255) :
    Calls Try.prog 4 #[.slice a len cap] w fun e w' => e = .returned (.bool true) ∧ Below w.heap.size w w' :=
  fnFairs_law implFairOk implBegins implQueued implChosen implServed a len cap w hcode
end Go.Proofs.Ytllmkolchgmjoaa
