/-
  The law Whens, walked with what the program answers. By the verifier.
-/
import Derived.Test.YtfdapmchpikfiaaLawWhens
import Derived.Test.YtfdapmchpikfiaaNdCanI
import Derived.Test.YtfdapmchpikfiaaNdWhenI
import Derived.Test.YtfdapmchpikfiaaNdFillI
namespace Go.Proofs.Ytfdapmchpikfiaa
open Go.RowKit

theorem fnWhenCan_walk (a : Option Addr) (len cap : Nat) (w : World) (hcode : ∀ k, k < len → ∃ b off z, a = some ⟨b, off, none⟩ ∧ b < w.heap.size ∧ w.cell? ⟨b, off + k, none⟩ = some (.int .u8 z) ∧ 0 ≤ z ∧ z ≤ 255) :
    Calls Try.prog 4 #[.slice a len cap] w fun e w' => e = .returned (.bool true) ∧ Below w.heap.size w w' :=
  fnWhenCan_law implCan implWhenCan implTreeFilled implFilled a len cap w hcode
end Go.Proofs.Ytfdapmchpikfiaa
