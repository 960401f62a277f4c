/-
  The walk of the exact law of Coupled, the program's contract given. By the verifier, by program.
-/
import Derived.Test.YtlednodibgcpeaaCoSpec
import Derived.Below
namespace Go.Proofs.Ytlednodibgcpeaa
open Go.RowKit

theorem fnExactCoupled_law (p f : Int) (w : World) (D : ∀ w, Calls Try.prog 10 #[.int .i64 p, .int .i64 f] w fun e w' => e = .returned (.int .i64 (cpO p f)) ∧ Below w.heap.size w w') :
    Calls Try.prog 5 #[.int .i64 p, .int .i64 f] w fun e w' => e = .returned (.bool true) ∧ Below w.heap.size w w' := by
  have C := fun w => specCoupled p f w
  generalize cpO p f = r at C D
  have C' : Hid _ := C
  have D' : Hid _ := D
  clear C D
  go_enter Try.func5, Try.ntmps5
  go_wp2_with fail
  refine (C'.out _).mono ?_
  rintro e w' ⟨rfl, rfl⟩
  go_wp2_with fail
  refine (D'.out _).mono ?_
  rintro e w1 ⟨rfl, q⟩
  have Q : Hid _ := q
  clear q
  go_wp2
  go_ret
  exact ⟨rfl, Q.out⟩
end Go.Proofs.Ytlednodibgcpeaa
