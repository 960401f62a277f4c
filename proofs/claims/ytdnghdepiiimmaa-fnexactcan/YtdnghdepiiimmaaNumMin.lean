/-
  The model's lesser one of two numbers. By the verifier.
-/
import Derived.Test.YtdnghdepiiimmaaNumIn
namespace Go.Proofs.Ytdnghdepiiimmaa
open Go.RowKit

theorem specMin (a b : Int) (w : World) :
    Calls Try.prog 56 #[.int .i64 a, .int .i64 b] w fun e w' => e = .returned (.int .i64 (min a b)) ∧ w' = w := by
  by_cases h : a < b
  · go_enter Try.func56, Try.ntmps56
    go_wp2
    go_ret
    exact ⟨ret_num (by omega), rfl⟩
  · go_enter Try.func56, Try.ntmps56
    go_wp2
    go_ret
    exact ⟨ret_num (by omega), rfl⟩
end Go.Proofs.Ytdnghdepiiimmaa
