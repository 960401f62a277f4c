/-
  The walk of the laws' copy of a record (Item). By the verifier, by program.
-/
import Derived.Test.YtdcekimldgjliaaItPlain
import Derived.RegionTactic
import Derived.WalkKit
namespace Go.Proofs.Ytdcekimldgjliaa
open Go.RowKit

set_option maxHeartbeats 1600000 in
theorem toIt (r : It) (w : World) :
    Calls Try.prog 14 #[r.val] w fun e w' => e = .returned r.val ∧ w' = ((w.alloc (.cells r.cells.toArray 34)).alloc (.cells r.cells.toArray 37)).alloc (.cells r.cells.toArray 37) := by
  unfold It.val It.cells
  obtain ⟨v0, v1, v2⟩ := r
  simp only []
  go_enter Try.func14, Try.ntmps14
  go_wp2
  refine bodyPost_ret (v := .agg #[.int .i64 v0, .int .i64 v1, .int .i64 v2]) (by simp [results, Try.results14, go_sem]) rfl ⟨rfl, rfl⟩
theorem toItB (r : It) (w : World) :
    Calls Try.prog 14 #[r.val] w fun e w' => e = .returned r.val ∧ Below w.heap.size w w' :=
  (toIt r w).mono fun _ _ h => ⟨h.1, by
    rw [h.2]
    exact (((Below.refl _ w).alloc (Nat.le_refl _) _).alloc (by simp) _).alloc (by simp; omega) _⟩
end Go.Proofs.Ytdcekimldgjliaa
