/-
  The walk of the laws' comparison of two records (Steer) that are alike. By the verifier, by program.
-/
import Derived.Test.YtemegnfefjcdaaaDoorSrRec
import Derived.RegionTactic
import Derived.Test.YtemegnfefjcdaaaDoorRows
import Derived.WalkKit
namespace Go.Proofs.YtemegnfefjcdaaaDoor
open Go.RowKit

set_option maxHeartbeats 3200000 in
set_option maxRecDepth 100000 in
theorem eqSr (r : Sr) (w : World) :
    Calls Tryd.prog 21 #[r.val, r.val] w fun e w' => e = .returned (.bool true) ∧ Below w.heap.size w w' := by
  unfold Sr.val
  obtain ⟨v0, v1, v2⟩ := r
  simp only []
  have H : Hid (Below w.heap.size w ((w.alloc (.cells #[.int .i64 v0, .int .i64 v1, .int .i64 v2] 25)).alloc (.cells #[.int .i64 v0, .int .i64 v1, .int .i64 v2] 25))) := ((Below.refl _ w).alloc (Nat.le_refl _) _).alloc (by simp) _
  go_enter Tryd.func21, Tryd.ntmps21
  go_wp2
  go_ret
  exact ⟨rfl, H.out⟩
end Go.Proofs.YtemegnfefjcdaaaDoor
