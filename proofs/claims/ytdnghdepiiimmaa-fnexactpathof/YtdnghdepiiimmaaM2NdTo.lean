import Derived.Test.YtdnghdepiiimmaaM0PzEq
import Derived.RegionTactic
import Derived.Test.YtdnghdepiiimmaaRows
import Derived.WalkKit
import Derived.Test.YtdnghdepiiimmaaNdPlain
/-
  The walk of the laws' copy of a record (Purse). By the verifier, by program.
-/
namespace Go.Proofs.Ytdnghdepiiimmaa
open Go.RowKit

set_option maxHeartbeats 1600000 in
theorem toPz (r : Pz) (w : World) :
    Calls Try.prog 52 #[r.val] w fun e w' => e = .returned r.val ∧ w' = ((w.alloc (.cells r.cells.toArray 47)).alloc (.cells r.cells.toArray 42)).alloc (.cells r.cells.toArray 42) := by
  unfold Pz.val Pz.cells
  obtain ⟨v0, v1, v2, v3⟩ := r
  simp only []
  go_enter Try.func52, Try.ntmps52
  go_wp2
  refine bodyPost_ret (v := .agg #[.int .i64 v0, .int .i64 v1, .int .i64 v2, .int .i64 v3]) (by simp [results, Try.results52, go_sem]) rfl ⟨rfl, rfl⟩
theorem toPzB (r : Pz) (w : World) :
    Calls Try.prog 52 #[r.val] w fun e w' => e = .returned r.val ∧ Below w.heap.size w w' :=
  (toPz r w).mono fun _ _ h => ⟨h.1, by
    rw [h.2]
    exact (((Below.refl _ w).alloc (Nat.le_refl _) _).alloc (by simp) _).alloc (by simp; omega) _⟩
end Go.Proofs.Ytdnghdepiiimmaa

/-
  The walk of the laws' copy of a Node. By the verifier, by program.
-/
namespace Go.Proofs.Ytdnghdepiiimmaa
open Go.RowKit

set_option maxHeartbeats 1600000 in
set_option maxRecDepth 100000 in
theorem toNdB (r : Nd) (w : World) :
    Calls Try.prog 30 #[r.val] w fun e w' => e = .returned r.val ∧ Below w.heap.size w w' := by
  unfold Nd.val
  obtain ⟨v0, r⟩ := r
  have T := fun w => toPz r w
  unfold Pz.val Pz.cells at T
  obtain ⟨v1, v2, v3, v4⟩ := r
  simp only [] at T ⊢
  go_enter Try.func30, Try.ntmps30
  go_wp2_with fail
  refine (T _).mono ?_
  rintro e w1 ⟨rfl, hw⟩
  rw [hw]
  go_wp2
  refine bodyPost_ret (v := .agg #[.int .i64 v0, .int .i64 v1, .int .i64 v2, .int .i64 v3, .int .i64 v4]) (by simp [results, Try.results30, go_sem]) rfl ⟨rfl, ?_⟩
  exact ((((((Below.refl _ w).alloc (Nat.le_refl _) _).alloc (by simp) _).alloc (by simp; omega) _).alloc (by simp; omega) _).alloc (by simp; omega) _).alloc (by simp; omega) _
end Go.Proofs.Ytdnghdepiiimmaa
