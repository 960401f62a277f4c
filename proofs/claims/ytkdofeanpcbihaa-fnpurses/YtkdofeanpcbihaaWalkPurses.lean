/-
  The walk of FnPurses, with what the program answers. By the verifier.
-/
import Derived.Test.YtkdofeanpcbihaaLawPurses
import Derived.Test.YtkdofeanpcbihaaPzImplS
import Derived.Test.YtkdofeanpcbihaaPzImplW
namespace Go.Proofs.Ytkdofeanpcbihaa
open Go.RowKit

theorem fnPurses_walk (a : Option Addr) (len cap : Nat) (w : World)
    (hcode : ∀ k, k < len → ∃ b off z, a = some ⟨b, off, none⟩ ∧ b < w.heap.size ∧ w.cell? ⟨b, off + k, none⟩ = some (.int .u8 z) ∧ 0 ≤ z ∧ z ≤ 255) :
    Calls Try.prog 4 #[.slice a len cap] w fun e w' => e = .returned (.bool true) ∧ Below w.heap.size w w' :=
  fnPurses_law implFilled (fun l now n w _ => implSpent l now n w) (fun l n w _ => implWhen l n w) implPurseOk a len cap w hcode
end Go.Proofs.Ytkdofeanpcbihaa
