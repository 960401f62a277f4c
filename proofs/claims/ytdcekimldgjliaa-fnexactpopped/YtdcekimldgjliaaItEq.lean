/-
  The walk of the laws' comparison of records (Item), where both hold the same. By the verifier, by program.
-/
import Derived.Test.YtdcekimldgjliaaItPlain
import Derived.RegionTactic
import Derived.WalkKit
namespace Go.Proofs.Ytdcekimldgjliaa
open Go.RowKit

set_option maxHeartbeats 1600000 in
theorem eqIt (r : It) (w : World) :
    Calls Try.prog 20 #[r.val, r.val] w fun e w' => e = .returned (.bool true) ∧ Below w.heap.size w w' := by
  unfold It.val
  obtain ⟨v0, v1, v2⟩ := r
  simp only []
  go_enter Try.func20, Try.ntmps20
  go_wp2
  go_ret
  exact ⟨rfl, ((Below.refl _ w).alloc (Nat.le_refl _) _).alloc (by simp) _⟩
end Go.Proofs.Ytdcekimldgjliaa
