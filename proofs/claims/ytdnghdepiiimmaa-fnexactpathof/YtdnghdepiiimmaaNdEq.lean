/-
  The walk of the laws' comparison of Nodes, where both hold the same. By the verifier, by program.
-/
import Derived.Test.YtdnghdepiiimmaaNdPlain
import Derived.Test.YtdnghdepiiimmaaM0PzEq
import Derived.RegionTactic
import Derived.WalkKit
namespace Go.Proofs.Ytdnghdepiiimmaa
open Go.RowKit

set_option maxHeartbeats 1600000 in
set_option maxRecDepth 100000 in
theorem eqNd (r : Nd) (w : World) :
    Calls Try.prog 34 #[r.val, r.val] w fun e w' => e = .returned (.bool true) ∧ Below w.heap.size w w' := by
  unfold Nd.val
  obtain ⟨v0, r⟩ := r
  have T := fun w => eqPz r w
  unfold Pz.val at T
  obtain ⟨v1, v2, v3, v4⟩ := r
  simp only [] at T ⊢
  have H : Hid (Below w.heap.size w ((w.alloc (.cells #[.int .i64 v0, .int .i64 v1, .int .i64 v2, .int .i64 v3, .int .i64 v4] 44)).alloc (.cells #[.int .i64 v0, .int .i64 v1, .int .i64 v2, .int .i64 v3, .int .i64 v4] 44))) := ((Below.refl _ w).alloc (Nat.le_refl _) _).alloc (by simp) _
  go_enter Try.func34, Try.ntmps34
  go_wp2_with fail
  refine (T _).mono ?_
  rintro e w1 ⟨rfl, q⟩
  have H1 : Hid (Below w.heap.size w w1) := H.out.trans (q.mono H.out.size)
  clear H q
  go_wp2
  go_ret
  exact ⟨rfl, H1.out⟩
end Go.Proofs.Ytdnghdepiiimmaa
