/-
  FnSettled, walked, the table of divisors given. By the verifier.
-/
import Derived.Test.YtemegnfefjcdaaaDoorSrSetI
import Derived.Test.YtemegnfefjcdaaaDoorLawSettl
namespace Go.Proofs.YtemegnfefjcdaaaDoor
open Go.RowKit
theorem fnSettled_walk (a : Option Addr) (len cap : Nat) (w : World) (hD : Dv w)
    (hcode : ∀ k, k < len → ∃ b off z, a = some ⟨b, off, none⟩ ∧ b < w.heap.size ∧ w.cell? ⟨b, off + k, none⟩ = some (.int .u8 z) ∧ 0 ≤ z ∧ z ≤ 255) :
    Calls Tryd.prog 4 #[.slice a len cap] w fun e w' => e = .returned (.bool true) ∧ Below w.heap.size w w' :=
  fnSettled_law a len cap w (fun l d n x hx => implSettled l d n x (hD.on hx)) hcode
end Go.Proofs.YtemegnfefjcdaaaDoor
