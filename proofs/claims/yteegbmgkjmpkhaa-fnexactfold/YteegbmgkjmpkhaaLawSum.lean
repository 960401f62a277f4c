/-
  The walks of the exact laws of Sum16, Fold and Renewed. By the verifier.
-/
import Derived.Test.YteegbmgkjmpkhaaSumFold
import Derived.Test.YteegbmgkjmpkhaaSumRenew
namespace Go.Proofs.Yteegbmgkjmpkhaa
open Go.RowKit

set_option maxHeartbeats 400000 in
theorem fnExactSum16_walk (text : ByteArray) (w : World) :
    Calls Try.prog 4 #[.string text] w fun e w' => e = .returned (.bool true) ∧ Below w.heap.size w w' := by
  by_cases hsz : text.size ≤ 1048576
  · go_enter Try.func4, Try.ntmps4
    go_wp2_with (first | (go_at_call 14; refine (specSum16 _ hsz _).mono ?_; rintro e w' ⟨rfl, rfl⟩) | (go_at_call 11; refine (implSum16 _ hsz _).mono ?_; rintro e w' ⟨rfl, hg⟩))
    go_ret
    exact ⟨rfl, hg⟩
  · go_enter Try.func4, Try.ntmps4
    go_wp2
    go_ret
    exact ⟨rfl, Below.refl _ _⟩

set_option maxHeartbeats 400000 in
theorem fnExactFold_walk (a b : Int) (w : World) :
    Calls Try.prog 5 #[.int .i64 a, .int .i64 b] w fun e w' => e = .returned (.bool true) ∧ Grown w w' := by
  go_enter Try.func5, Try.ntmps5
  go_wp2_with (first | (go_at_call 15; refine (specFold _ _ _).mono ?_; rintro e w' ⟨rfl, rfl⟩) | (go_at_call 13; refine (implFold _ _ _).mono ?_; rintro e w' ⟨rfl, hg⟩))
  go_ret
  exact ⟨rfl, hg.1⟩

set_option maxHeartbeats 400000 in
theorem fnExactRenewed_walk (a b c : Int) (w : World) :
    Calls Try.prog 6 #[.int .i64 a, .int .i64 b, .int .i64 c] w fun e w' => e = .returned (.bool true) ∧ Grown w w' := by
  go_enter Try.func6, Try.ntmps6
  go_wp2_with (first | (go_at_call 16; refine (specRenewed _ _ _ _).mono ?_; rintro e w' ⟨rfl, rfl⟩) | (go_at_call 17; refine (implRenewed _ _ _ _).mono ?_; rintro e w' ⟨rfl, hg⟩))
  go_ret
  exact ⟨rfl, hg.1⟩
end Go.Proofs.Yteegbmgkjmpkhaa
