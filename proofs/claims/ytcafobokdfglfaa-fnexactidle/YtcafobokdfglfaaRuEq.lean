/-
  The walk of the laws' comparison of records (Rule), where both hold the same. By the verifier, by program.
-/
import Derived.Test.YtcafobokdfglfaaRuPlain
import Derived.RegionTactic
import Derived.WalkKit
namespace Go.Proofs.Ytcafobokdfglfaa
open Go.RowKit

set_option maxHeartbeats 1600000 in
theorem eqRu (r : Ru) (w : World) :
    Calls Try.prog 35 #[r.val, r.val] w fun e w' => e = .returned (.bool true) ∧ Below w.heap.size w w' := by
  unfold Ru.val
  obtain ⟨v0, v1, v2, v3, v4, v5, v6, v7, v8, v9⟩ := r
  simp only []
  go_enter Try.func35, Try.ntmps35
  go_wp2
  go_ret
  exact ⟨rfl, ((Below.refl _ w).alloc (Nat.le_refl _) _).alloc (by simp) _⟩
end Go.Proofs.Ytcafobokdfglfaa
