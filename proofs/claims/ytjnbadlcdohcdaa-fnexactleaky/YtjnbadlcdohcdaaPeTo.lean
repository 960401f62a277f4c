/-
  The walk of the laws' copy of a record (Pace). By the verifier, by program.
-/
import Derived.Test.YtjnbadlcdohcdaaPeRec
import Derived.RegionTactic
import Derived.Test.YtjnbadlcdohcdaaRows
import Derived.WalkKit
namespace Go.Proofs.Ytjnbadlcdohcdaa
open Go.RowKit

set_option maxHeartbeats 1600000 in
theorem toPe (r : Pe) (w : World) :
    Calls Try.prog 20 #[r.val] w fun e w' => e = .returned r.val ∧ w' = ((w.alloc (.cells r.cells.toArray 36)).alloc (.cells r.cells.toArray 37)).alloc (.cells r.cells.toArray 37) := by
  unfold Pe.val Pe.cells
  obtain ⟨v0, v1, v2, v3, v4⟩ := r
  simp only []
  go_enter Try.func20, Try.ntmps20
  go_wp2
  refine bodyPost_ret (v := .agg #[.int .i64 v0, .int .i64 v1, .int .i64 v2, .int .i64 v3, .int .i64 v4]) (by simp [results, Try.results20, go_sem]) rfl ⟨rfl, rfl⟩
theorem toPeB (r : Pe) (w : World) :
    Calls Try.prog 20 #[r.val] w fun e w' => e = .returned r.val ∧ Below w.heap.size w w' :=
  (toPe r w).mono fun _ _ h => ⟨h.1, by
    rw [h.2]
    exact (((Below.refl _ w).alloc (Nat.le_refl _) _).alloc (by simp) _).alloc (by simp; omega) _⟩
end Go.Proofs.Ytjnbadlcdohcdaa
