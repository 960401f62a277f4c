/-
  The walk of the exact law of SteerOk, the program's contract given. By the verifier, by program.
-/
import Derived.Test.YtemegnfefjcdaaaSrTo
import Derived.Test.YtemegnfefjcdaaaSrSpecK
import Derived.Test.YtemegnfefjcdaaaBoxed
import Derived.Test.YtemegnfefjcdaaaStepRow
namespace Go.Proofs.Ytemegnfefjcdaaa
open Go.RowKit

set_option maxHeartbeats 1600000 in
set_option maxRecDepth 100000 in
theorem fnExactSteerOk_law (l : Sr) (w : World) (D : ∀ w, Calls Try.prog 7 #[l.val] w fun e w' => e = .returned (.bool (l.ok)) ∧ Below w.heap.size w w') :
    Calls Try.prog 3 #[l.val] w fun e w' => e = .returned (.bool true) ∧ Below w.heap.size w w' := by
  have T := fun w => toSrB l w
  have C := fun w => specSteerOk l w
  generalize l.ok = r at C D
  obtain ⟨p0, p1, p2⟩ := l
  simp only [Sr.val] at *
  have T' : Hid _ := T
  have C' : Hid _ := C
  have D' : Hid _ := D
  clear T C D
  have X : Hid (Boxed (w.alloc (.cells #[.int .i64 p0, .int .i64 p1, .int .i64 p2] 23)) w.heap.size #[.int .i64 p0, .int .i64 p1, .int .i64 p2] 23 ∧ Below w.heap.size w (w.alloc (.cells #[.int .i64 p0, .int .i64 p1, .int .i64 p2] 23))) :=
    ⟨Boxed.new _ _ _, (Below.refl _ _).alloc (Nat.le_refl _) _⟩
  go_enter Try.func3, Try.ntmps3
  go_wp2_with (refine wpList_load_row rfl 23 (.tmp _) rfl w.heap.size rfl _ _ _ _ X.out.1 Try.underlying23 rfl (by kernel_rfl) ?_)
  refine (T'.out _).mono ?_
  rintro e w1 ⟨rfl, q⟩
  have X1 : Hid (Boxed w1 w.heap.size #[.int .i64 p0, .int .i64 p1, .int .i64 p2] 23 ∧ Below w.heap.size w w1) := ⟨X.out.1.below X.out.1.under q, X.out.2.trans (q.mono X.out.2.size)⟩
  clear q X
  go_wp2_with fail
  refine (C'.out _).mono ?_
  rintro e w2 ⟨rfl, q⟩
  have X2 : Hid (Boxed w2 w.heap.size #[.int .i64 p0, .int .i64 p1, .int .i64 p2] 23 ∧ Below w.heap.size w w2) := ⟨X1.out.1.below X1.out.1.under q, X1.out.2.trans (q.mono X1.out.2.size)⟩
  clear q X1
  have X3 : Hid (Boxed w2 w.heap.size #[.int .i64 p0, .int .i64 p1, .int .i64 p2] 23 ∧ Below w.heap.size w w2) := X2.out
  clear X2
  go_wp2_with (refine wpList_load_row rfl 23 (.tmp _) rfl w.heap.size rfl _ _ _ _ X3.out.1 Try.underlying23 rfl (by kernel_rfl) ?_)
  refine (T'.out _).mono ?_
  rintro e w4 ⟨rfl, q⟩
  have X4 : Hid (Boxed w4 w.heap.size #[.int .i64 p0, .int .i64 p1, .int .i64 p2] 23 ∧ Below w.heap.size w w4) := ⟨X3.out.1.below X3.out.1.under q, X3.out.2.trans (q.mono X3.out.2.size)⟩
  clear q X3
  go_wp2_with fail
  refine (D'.out _).mono ?_
  rintro e w5 ⟨rfl, q⟩
  have X5 : Hid (Boxed w5 w.heap.size #[.int .i64 p0, .int .i64 p1, .int .i64 p2] 23 ∧ Below w.heap.size w w5) := ⟨X4.out.1.below X4.out.1.under q, X4.out.2.trans (q.mono X4.out.2.size)⟩
  clear q X4
  go_wp2
  go_ret
  exact ⟨rfl, X5.out.2⟩
end Go.Proofs.Ytemegnfefjcdaaa
