/-
  The walk of the laws' copy of a record (Rule). By the verifier, by program.
-/
import Derived.Test.YtcafobokdfglfaaRuPlain
import Derived.RegionTactic
import Derived.WalkKit
namespace Go.Proofs.Ytcafobokdfglfaa
open Go.RowKit

set_option maxHeartbeats 1600000 in
theorem toRu (r : Ru) (w : World) :
    Calls Try.prog 16 #[r.val] w fun e w' => e = .returned r.val ∧ w' = ((w.alloc (.cells r.cells.toArray 30)).alloc (.cells r.cells.toArray 36)).alloc (.cells r.cells.toArray 36) := by
  unfold Ru.val Ru.cells
  obtain ⟨v0, v1, v2, v3, v4, v5, v6, v7, v8, v9⟩ := r
  simp only []
  go_enter Try.func16, Try.ntmps16
  go_wp2
  refine bodyPost_ret (v := .agg #[.int .i64 v0, .int .i64 v1, .int .i64 v2, .int .i64 v3, .int .i64 v4, .int .i64 v5, .int .i64 v6, .int .i64 v7, .int .i64 v8, .int .i64 v9]) (by simp [results, Try.results16, go_sem]) rfl ⟨rfl, rfl⟩
theorem toRuB (r : Ru) (w : World) :
    Calls Try.prog 16 #[r.val] w fun e w' => e = .returned r.val ∧ Below w.heap.size w w' :=
  (toRu r w).mono fun _ _ h => ⟨h.1, by
    rw [h.2]
    exact (((Below.refl _ w).alloc (Nat.le_refl _) _).alloc (by simp) _).alloc (by simp; omega) _⟩
end Go.Proofs.Ytcafobokdfglfaa
