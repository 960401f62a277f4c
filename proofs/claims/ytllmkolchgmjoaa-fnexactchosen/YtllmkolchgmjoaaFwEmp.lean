/-
  Whether a row of sizes is empty, by the program. By the verifier.
-/
import Derived.Test.YtllmkolchgmjoaaFwFn
import Derived.Test.YtllmkolchgmjoaaFsFn
import Derived.Test.YtllmkolchgmjoaaOneN
import Derived.Test.YtllmkolchgmjoaaPlaceI
import Derived.Test.YtllmkolchgmjoaaStepRow
import Derived.Shelf.Abstract
import Derived.Laws.ResultCell
import Derived.Laws.CopyOwn
namespace Go.Proofs.Ytllmkolchgmjoaa
open Go.RowKit Go.Shelf

theorem implEmpty (a : Option Addr) (n cap : Nat) (w : World) :
    Calls Try.prog 53 #[.slice a n cap] w fun e w' => e = .returned (.bool (decide ((n : Int) = 0))) ∧ w' = w := by
  by_cases hn : (n : Int) = 0
  · rw [decide_eq_true hn]
    go_enter Try.func53, Try.ntmps53
    go_wp2
    go_ret
    exact ⟨by first | rfl | simp | (simp; omega), rfl⟩
  · rw [decide_eq_false hn]
    go_enter Try.func53, Try.ntmps53
    go_wp2
    go_ret
    exact ⟨by first | rfl | (simp; omega), rfl⟩
end Go.Proofs.Ytllmkolchgmjoaa
