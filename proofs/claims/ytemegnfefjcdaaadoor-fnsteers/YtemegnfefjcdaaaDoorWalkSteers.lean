/-
  FnSteers, walked, the table of divisors given. By the verifier.
-/
import Derived.Test.YtemegnfefjcdaaaDoorSrStirI
import Derived.Test.YtemegnfefjcdaaaDoorSrHitI
import Derived.Test.YtemegnfefjcdaaaDoorLawSteers
namespace Go.Proofs.YtemegnfefjcdaaaDoor
open Go.RowKit
theorem fnSteers_walk (a : Option Addr) (len cap : Nat) (w : World) (hD : Dv w)
    (hcode : ∀ k, k < len → ∃ b off z, a = some ⟨b, off, none⟩ ∧ b < w.heap.size ∧ w.cell? ⟨b, off + k, none⟩ = some (.int .u8 z) ∧ 0 ≤ z ∧ z ≤ 255) :
    Calls Tryd.prog 3 #[.slice a len cap] w fun e w' => e = .returned (.bool true) ∧ Below w.heap.size w w' :=
  fnSteers_law a len cap w (fun l d x hx => implStirred l d x (hD.on hx)) (fun l x w => implHit l x w) (fun l w => implSteerOk l w) hcode
end Go.Proofs.YtemegnfefjcdaaaDoor
