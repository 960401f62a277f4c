/-
  The walk of the exact law of Check. By the verifier.
-/
import Derived.Test.YtbojgcfcnnbnpaaChkI
namespace Go.Proofs.Ytbojgcfcnnbnpaa
open Go.RowKit

set_option maxHeartbeats 400000 in
theorem fnExactCheck_walk (text : ByteArray) (w : World) :
    Calls Try.prog 3 #[.string text] w fun e w' => e = .returned (.bool true) ∧ Below w.heap.size w w' := by
  by_cases hsz : text.size ≤ 1048576
  · go_enter Try.func3, Try.ntmps3
    go_wp2_with (first | (go_at_call 4; refine (specCheck _ hsz _).mono ?_; rintro e w' ⟨rfl, rfl⟩) | (go_at_call 5; refine (implCheck _ hsz _).mono ?_; rintro e w' ⟨rfl, hg⟩))
    go_ret
    exact ⟨rfl, hg⟩
  · go_enter Try.func3, Try.ntmps3
    go_wp2
    go_ret
    exact ⟨rfl, Below.refl _ _⟩
end Go.Proofs.Ytbojgcfcnnbnpaa
