/-
  The walk of the exact law of Squared, the program's contract given. By the verifier, by program.
-/
import Derived.Test.YtlednodibgcpeaaCoSpec
import Derived.Below
namespace Go.Proofs.Ytlednodibgcpeaa
open Go.RowKit

theorem fnExactSquared_law (p : Int) (w : World) (D : ∀ w, Calls Try.prog 12 #[.int .i64 p] w fun e w' => e = .returned (.int .i64 (sqO p)) ∧ Below w.heap.size w w') :
    Calls Try.prog 4 #[.int .i64 p] w fun e w' => e = .returned (.bool true) ∧ Below w.heap.size w w' := by
  have C := fun w => specSquared p w
  generalize sqO p = r at C D
  have C' : Hid _ := C
  have D' : Hid _ := D
  clear C D
  go_enter Try.func4, Try.ntmps4
  go_wp2_with fail
  refine (C'.out _).mono ?_
  rintro e w' ⟨rfl, rfl⟩
  go_wp2_with fail
  refine (D'.out _).mono ?_
  rintro e w1 ⟨rfl, q⟩
  have Q : Hid _ := q
  clear q
  go_wp2
  go_ret
  exact ⟨rfl, Q.out⟩
end Go.Proofs.Ytlednodibgcpeaa
