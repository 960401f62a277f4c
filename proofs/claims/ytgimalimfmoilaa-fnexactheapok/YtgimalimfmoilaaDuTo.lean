/-
  The walk of the laws' copy of a record (Due). By the verifier, by program.
-/
import Derived.Test.YtgimalimfmoilaaDuPlain
import Derived.RegionTactic
import Derived.WalkKit
namespace Go.Proofs.Ytgimalimfmoilaa
open Go.RowKit

set_option maxHeartbeats 1600000 in
theorem toDu (r : Du) (w : World) :
    Calls Try.prog 15 #[r.val] w fun e w' => e = .returned r.val ∧ w' = ((w.alloc (.cells r.cells.toArray 30)).alloc (.cells r.cells.toArray 33)).alloc (.cells r.cells.toArray 33) := by
  unfold Du.val Du.cells
  obtain ⟨v0, v1⟩ := r
  simp only []
  go_enter Try.func15, Try.ntmps15
  go_wp2
  refine bodyPost_ret (v := .agg #[.int .i64 v0, .int .i64 v1]) (by simp [results, Try.results15, go_sem]) rfl ⟨rfl, rfl⟩
theorem toDuB (r : Du) (w : World) :
    Calls Try.prog 15 #[r.val] w fun e w' => e = .returned r.val ∧ Below w.heap.size w w' :=
  (toDu r w).mono fun _ _ h => ⟨h.1, by
    rw [h.2]
    exact (((Below.refl _ w).alloc (Nat.le_refl _) _).alloc (by simp) _).alloc (by simp; omega) _⟩
end Go.Proofs.Ytgimalimfmoilaa
