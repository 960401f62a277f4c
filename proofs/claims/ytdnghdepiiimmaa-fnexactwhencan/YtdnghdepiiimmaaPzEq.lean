/-
  The walk of the laws' comparison of two records (Purse) that are alike. By the verifier, by program.
-/
import Derived.Test.YtdnghdepiiimmaaPzRec
import Derived.RegionTactic
import Derived.Test.YtdnghdepiiimmaaRows
import Derived.WalkKit
namespace Go.Proofs.Ytdnghdepiiimmaa
open Go.RowKit

set_option maxHeartbeats 3200000 in
set_option maxRecDepth 100000 in
theorem eqPz (r : Pz) (w : World) :
    Calls Try.prog 55 #[r.val, r.val] w fun e w' => e = .returned (.bool true) ∧ Below w.heap.size w w' := by
  unfold Pz.val
  obtain ⟨v0, v1, v2, v3⟩ := r
  simp only []
  have H : Hid (Below w.heap.size w ((w.alloc (.cells #[.int .i64 v0, .int .i64 v1, .int .i64 v2, .int .i64 v3] 42)).alloc (.cells #[.int .i64 v0, .int .i64 v1, .int .i64 v2, .int .i64 v3] 42))) := ((Below.refl _ w).alloc (Nat.le_refl _) _).alloc (by simp) _
  go_enter Try.func55, Try.ntmps55
  go_wp2
  go_ret
  exact ⟨rfl, H.out⟩
end Go.Proofs.Ytdnghdepiiimmaa
