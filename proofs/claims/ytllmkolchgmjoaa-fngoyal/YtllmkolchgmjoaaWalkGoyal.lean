/-
  The law Goyal, walked with what the program answers. By the verifier.
-/
import Derived.Test.YtllmkolchgmjoaaLawGoyal
import Derived.Test.YtllmkolchgmjoaaFsSvI
namespace Go.Proofs.Ytllmkolchgmjoaa
open Go.RowKit

theorem fnGoyal_walk (a : Option Addr) (len cap : Nat) (w : World) (hcode : ∀ k, k < len → ∃ b off z, a = some ⟨b, off, none⟩ ∧ b < w.heap.size ∧ w.cell? ⟨b, off + k, none⟩ = some (.int .u8 z) ∧ 0 ≤ z ∧ z ≤ 255) :
    Calls Try.prog 3 #[.slice a len cap] w fun e w' => e = .returned (.bool true) ∧ Below w.heap.size w w' :=
  fnGoyal_law implFairOk implChosen implServed a len cap w hcode
end Go.Proofs.Ytllmkolchgmjoaa
