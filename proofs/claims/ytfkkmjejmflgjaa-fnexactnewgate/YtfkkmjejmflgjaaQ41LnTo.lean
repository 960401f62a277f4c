/-
  The walk of the laws' copy of a record (Line). By the verifier, by program.
-/
import Derived.Test.YtfkkmjejmflgjaaQ0SrPlain
import Derived.RegionTactic
import Derived.Test.YtfkkmjejmflgjaaRows
import Derived.WalkKit
namespace Go.Proofs.Ytfkkmjejmflgjaa
open Go.RowKit

set_option maxHeartbeats 1600000 in
theorem toLn (r : Ln) (w : World) :
    Calls Try.prog 6 #[r.val] w fun e w' => e = .returned r.val ∧ w' = ((w.alloc (.cells r.cells.toArray 23)).alloc (.cells r.cells.toArray 27)).alloc (.cells r.cells.toArray 27) := by
  unfold Ln.val Ln.cells
  obtain ⟨v0, v1, v2⟩ := r
  simp only []
  go_enter Try.func6, Try.ntmps6
  go_wp2
  refine bodyPost_ret (v := .agg #[.int .i64 v0, .int .i64 v1, .int .i64 v2]) (by simp [results, Try.results6, go_sem]) rfl ⟨rfl, rfl⟩
theorem toLnB (r : Ln) (w : World) :
    Calls Try.prog 6 #[r.val] w fun e w' => e = .returned r.val ∧ Below w.heap.size w w' :=
  (toLn r w).mono fun _ _ h => ⟨h.1, by
    rw [h.2]
    exact (((Below.refl _ w).alloc (Nat.le_refl _) _).alloc (by simp) _).alloc (by simp; omega) _⟩
end Go.Proofs.Ytfkkmjejmflgjaa
