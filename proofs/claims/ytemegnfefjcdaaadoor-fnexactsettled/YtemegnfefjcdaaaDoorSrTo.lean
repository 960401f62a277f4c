/-
  The walk of the laws' copy of a record (Steer). By the verifier, by program.
-/
import Derived.Test.YtemegnfefjcdaaaDoorSrRec
import Derived.RegionTactic
import Derived.Test.YtemegnfefjcdaaaDoorRows
import Derived.WalkKit
namespace Go.Proofs.YtemegnfefjcdaaaDoor
open Go.RowKit

set_option maxHeartbeats 1600000 in
theorem toSr (r : Sr) (w : World) :
    Calls Tryd.prog 20 #[r.val] w fun e w' => e = .returned r.val ∧ w' = ((w.alloc (.cells r.cells.toArray 35)).alloc (.cells r.cells.toArray 25)).alloc (.cells r.cells.toArray 25) := by
  unfold Sr.val Sr.cells
  obtain ⟨v0, v1, v2⟩ := r
  simp only []
  go_enter Tryd.func20, Tryd.ntmps20
  go_wp2
  refine bodyPost_ret (v := .agg #[.int .i64 v0, .int .i64 v1, .int .i64 v2]) (by simp [results, Tryd.results20, go_sem]) rfl ⟨rfl, rfl⟩
theorem toSrB (r : Sr) (w : World) :
    Calls Tryd.prog 20 #[r.val] w fun e w' => e = .returned r.val ∧ Below w.heap.size w w' :=
  (toSr r w).mono fun _ _ h => ⟨h.1, by
    rw [h.2]
    exact (((Below.refl _ w).alloc (Nat.le_refl _) _).alloc (by simp) _).alloc (by simp; omega) _⟩
end Go.Proofs.YtemegnfefjcdaaaDoor
