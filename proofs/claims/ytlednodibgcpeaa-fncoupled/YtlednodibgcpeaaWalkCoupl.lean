/-
  FnCoupled, walked. By the verifier.
-/
import Derived.Test.YtlednodibgcpeaaCoChs
import Derived.Test.YtlednodibgcpeaaLawCoupl
namespace Go.Proofs.Ytlednodibgcpeaa
open Go.RowKit
theorem fnCoupled_walk (a : Option Addr) (len cap : Nat) (w : World)
    (hcode : ∀ k, k < len → ∃ b off z, a = some ⟨b, off, none⟩ ∧ b < w.heap.size ∧ w.cell? ⟨b, off + k, none⟩ = some (.int .u8 z) ∧ 0 ≤ z ∧ z ≤ 255) :
    Calls Try.prog 3 #[.slice a len cap] w fun e w' => e = .returned (.bool true) ∧ Below w.heap.size w w' :=
  fnCoupled_law (fun p w => implSquared p w) (fun p f w => implCoupled p f w) (fun p f w => implFair p f w) (fun p f g x w => implChoice p f g x w) a len cap w hcode
end Go.Proofs.Ytlednodibgcpeaa
