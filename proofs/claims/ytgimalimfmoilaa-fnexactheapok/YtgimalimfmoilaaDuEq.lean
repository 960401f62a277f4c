/-
  The walk of the laws' comparison of records (Due), where both hold the same. By the verifier, by program.
-/
import Derived.Test.YtgimalimfmoilaaDuPlain
import Derived.RegionTactic
import Derived.WalkKit
namespace Go.Proofs.Ytgimalimfmoilaa
open Go.RowKit

set_option maxHeartbeats 1600000 in
theorem eqDu (r : Du) (w : World) :
    Calls Try.prog 21 #[r.val, r.val] w fun e w' => e = .returned (.bool true) ∧ Below w.heap.size w w' := by
  unfold Du.val
  obtain ⟨v0, v1⟩ := r
  simp only []
  go_enter Try.func21, Try.ntmps21
  go_wp2
  go_ret
  exact ⟨rfl, ((Below.refl _ w).alloc (Nat.le_refl _) _).alloc (by simp) _⟩
end Go.Proofs.Ytgimalimfmoilaa
