/-
  The walks of the laws' copies and comparisons of routes. By the verifier.
-/
import Derived.Test.YtilnjmpnhadidaaRtRoute
import Derived.RegionTactic
namespace Go.Proofs.Ytilnjmpnhadidaa
open Go.RowKit

theorem Below.of3 {w w' : World} {a b c : Obj} (h : w' = ((w.alloc a).alloc b).alloc c) : Below w.heap.size w w' := by
  rw [h]
  exact bel_alloc (bel_alloc ((Below.refl _ _).alloc (Nat.le_refl _) _) (Nat.le_refl _) _) (Nat.le_refl _) _
set_option maxHeartbeats 800000 in
theorem toRoutes (r : Rt) (w : World) :
    Calls Try.prog 49 #[r.val] w fun e w' => e = .returned r.val ∧ w' = ((w.alloc (.cells r.cells.toArray 62)).alloc (.cells r.cells.toArray 53)).alloc (.cells r.cells.toArray 53) := by
  unfold Rt.val Rt.cells
  obtain ⟨net, bits, hop⟩ := r
  simp only []
  go_enter Try.func49, Try.ntmps49
  go_wp2
  refine bodyPost_ret (v := .agg #[.int .i64 net, .int .i64 bits, .int .i64 hop]) (by simp [results, Try.results49, go_sem]) rfl ⟨rfl, rfl⟩

theorem toRoutesB (r : Rt) (w : World) :
    Calls Try.prog 49 #[r.val] w fun e w' => e = .returned r.val ∧ Below w.heap.size w w' :=
  (toRoutes r w).mono fun _ _ h => ⟨h.1, Below.of3 h.2⟩
end Go.Proofs.Ytilnjmpnhadidaa
