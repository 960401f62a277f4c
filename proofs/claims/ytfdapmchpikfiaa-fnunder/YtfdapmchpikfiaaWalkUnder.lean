/-
  The law Under, walked with what the program answers. By the verifier.
-/
import Derived.Test.YtfdapmchpikfiaaLawUnder
import Derived.Test.YtfdapmchpikfiaaNdFillI
import Derived.Test.YtfdapmchpikfiaaNdPayI
namespace Go.Proofs.Ytfdapmchpikfiaa
open Go.RowKit

theorem fnUnder_walk (a : Option Addr) (len cap : Nat) (w : World) (hcode : ∀ k, k < len → ∃ b off z, a = some ⟨b, off, none⟩ ∧ b < w.heap.size ∧ w.cell? ⟨b, off + k, none⟩ = some (.int .u8 z) ∧ 0 ≤ z ∧ z ≤ 255) :
    Calls Try.prog 5 #[.slice a len cap] w fun e w' => e = .returned (.bool true) ∧ Below w.heap.size w w' :=
  fnUnder_law implCan implTreeFilled implPaid implPathOf a len cap w hcode
end Go.Proofs.Ytfdapmchpikfiaa
