/-
  The walk of the program's isPlace. By the verifier.
-/
import Derived.Test.YtllmkolchgmjoaaOneN
namespace Go.Proofs.Ytllmkolchgmjoaa
open Go.RowKit

set_option maxHeartbeats 1600000 in
theorem implPlace (n : Nat) (p : Int) (w : World) (hn : n ≤ 1048576) :
    Calls Try.prog 50 #[.int .i64 (n : Int), .int .i64 p] w fun e w' => e = .returned (.bool (inB 0 ((n : Int) - 1) p)) ∧ w' = w.alloc (.cells #[.int .i64 p] 2) := by
  have A := fun B w h => implUpTo1 ((n : Int) - 1) p w B h
  generalize inB 0 ((n : Int) - 1) p = y at A ⊢
  have A' : Hid _ := A
  clear A
  have q1 : -9223372036854775808 ≤ (n : Int) - 1 := by omega
  have q2 : (n : Int) - 1 ≤ 9223372036854775807 := by omega
  go_enter Try.func50, Try.ntmps50
  go_wp2_with fail
  refine (A'.out _ _ (by simp)).mono ?_
  rintro e w' ⟨rfl, rfl⟩
  go_wp2
  go_ret
  exact ⟨rfl, rfl⟩
end Go.Proofs.Ytllmkolchgmjoaa
