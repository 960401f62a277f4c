/-
  The model's greater one of two numbers. By the verifier.
-/
import Derived.Test.YtllmkolchgmjoaaNumIn
namespace Go.Proofs.Ytllmkolchgmjoaa
open Go.RowKit

theorem specMx (a b : Int) (w : World) :
    Calls Try.prog 55 #[.int .i64 a, .int .i64 b] w fun e w' => e = .returned (.int .i64 (max a b)) ∧ w' = w := by
  by_cases h : b < a
  · go_enter Try.func55, Try.ntmps55
    go_wp2
    go_ret
    exact ⟨ret_num (by omega), rfl⟩
  · go_enter Try.func55, Try.ntmps55
    go_wp2
    go_ret
    exact ⟨ret_num (by omega), rfl⟩
end Go.Proofs.Ytllmkolchgmjoaa
