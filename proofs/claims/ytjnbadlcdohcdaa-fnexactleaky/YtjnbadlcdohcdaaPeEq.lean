/-
  The walk of the laws' comparison of two records (Pace) that are alike. By the verifier, by program.
-/
import Derived.Test.YtjnbadlcdohcdaaPeRec
import Derived.RegionTactic
import Derived.Test.YtjnbadlcdohcdaaRows
import Derived.WalkKit
namespace Go.Proofs.Ytjnbadlcdohcdaa
open Go.RowKit

set_option maxHeartbeats 3200000 in
set_option maxRecDepth 100000 in
theorem eqPe (r : Pe) (w : World) :
    Calls Try.prog 22 #[r.val, r.val] w fun e w' => e = .returned (.bool true) ∧ Below w.heap.size w w' := by
  unfold Pe.val
  obtain ⟨v0, v1, v2, v3, v4⟩ := r
  simp only []
  have H : Hid (Below w.heap.size w ((w.alloc (.cells #[.int .i64 v0, .int .i64 v1, .int .i64 v2, .int .i64 v3, .int .i64 v4] 37)).alloc (.cells #[.int .i64 v0, .int .i64 v1, .int .i64 v2, .int .i64 v3, .int .i64 v4] 37))) := ((Below.refl _ w).alloc (Nat.le_refl _) _).alloc (by simp) _
  go_enter Try.func22, Try.ntmps22
  go_wp2
  go_ret
  exact ⟨rfl, H.out⟩
end Go.Proofs.Ytjnbadlcdohcdaa
