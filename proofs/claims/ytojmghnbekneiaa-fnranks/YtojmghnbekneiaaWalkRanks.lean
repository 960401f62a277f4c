/-
  FnRanks, walked. By the verifier.
-/
import Derived.Test.YtojmghnbekneiaaDlImW
import Derived.Test.YtojmghnbekneiaaDlCameI
import Derived.Test.YtojmghnbekneiaaDlWentI
import Derived.Test.YtojmghnbekneiaaLawRanks
namespace Go.Proofs.Ytojmghnbekneiaa
open Go.RowKit
theorem fnRanks_walk (a : Option Addr) (len cap : Nat) (w : World)
    (hcode : ∀ k, k < len → ∃ b off z, a = some ⟨b, off, none⟩ ∧ b < w.heap.size ∧ w.cell? ⟨b, off + k, none⟩ = some (.int .u8 z) ∧ 0 ≤ z ∧ z ≤ 255) :
    Calls Try.prog 4 #[.slice a len cap] w fun e w' => e = .returned (.bool true) ∧ Below w.heap.size w w' :=
  fnRanks_law implRank implCame implWaiting implDealOk implWent a len cap w hcode
end Go.Proofs.Ytojmghnbekneiaa
