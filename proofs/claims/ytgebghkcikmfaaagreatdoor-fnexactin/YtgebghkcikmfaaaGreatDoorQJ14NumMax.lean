/-
  The model's greater one of two numbers. By the verifier.
-/
import Derived.Test.YtgebghkcikmfaaaGreatDoorQJ0NumUp
namespace Go.Proofs.YtgebghkcikmfaaaGreatDoor
open Go.RowKit

theorem specMx (a b : Int) (w : World) :
    Calls Tryz.prog 82 #[.int .i64 a, .int .i64 b] w fun e w' => e = .returned (.int .i64 (max a b)) ∧ w' = w := by
  by_cases h : b < a
  · go_enter Tryz.func82, Tryz.ntmps82
    go_wp2
    go_ret
    exact ⟨ret_num (by omega), rfl⟩
  · go_enter Tryz.func82, Tryz.ntmps82
    go_wp2
    go_ret
    exact ⟨ret_num (by omega), rfl⟩
end Go.Proofs.YtgebghkcikmfaaaGreatDoor
