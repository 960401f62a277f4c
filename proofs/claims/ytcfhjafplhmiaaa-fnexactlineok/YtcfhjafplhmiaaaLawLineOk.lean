/-
  The walk of the exact law of LineOk. By the verifier.
-/
import Derived.Test.YtcfhjafplhmiaaaLnTo
import Derived.Test.YtcfhjafplhmiaaaLnSpec
import Derived.Test.YtcfhjafplhmiaaaLnImpl
namespace Go.Proofs.Ytcfhjafplhmiaaa
open Go.RowKit

set_option maxHeartbeats 1600000 in
set_option maxRecDepth 100000 in
theorem fnExactLineOk_walk (l : Ln) (w : World) :
    Calls Try.prog 3 #[l.val] w fun e w' => e = .returned (.bool true) ∧ Below w.heap.size w w' := by
  have T := fun w => toLnB l w
  have C := fun w => (specLineOk l w).mono (R' := fun e w' => e = .returned (.bool l.ok) ∧ Below w.heap.size w w') fun _ _ h => ⟨h.1, by rw [h.2]; exact (Below.refl _ _).alloc (Nat.le_refl _) _⟩
  have D := fun w => implLineOk l w
  generalize l.ok = ok at C D
  obtain ⟨k, x, m⟩ := l
  simp only [Ln.val] at *
  have T' : Hid _ := T
  have C' : Hid _ := C
  have D' : Hid _ := D
  clear T C D
  have X : Hid (Boxed (w.alloc (.cells #[.int .i64 k, .int .i64 x, .int .i64 m] 23)) w.heap.size #[.int .i64 k, .int .i64 x, .int .i64 m] 23 ∧ Below w.heap.size w (w.alloc (.cells #[.int .i64 k, .int .i64 x, .int .i64 m] 23))) :=
    ⟨Boxed.new _ _ _, (Below.refl _ _).alloc (Nat.le_refl _) _⟩
  go_enter Try.func3, Try.ntmps3
  go_wp2_with fail
  refine (T'.out _).mono ?_
  rintro e w1 ⟨rfl, q⟩
  have X1 : Hid (Boxed w1 w.heap.size #[.int .i64 k, .int .i64 x, .int .i64 m] 23 ∧ Below w.heap.size w w1) := ⟨X.out.1.below X.out.1.under q, X.out.2.trans (q.mono X.out.2.size)⟩
  clear q X
  go_wp2_with fail
  refine (C'.out _).mono ?_
  rintro e w2 ⟨rfl, q⟩
  have X2 : Hid (Boxed w2 w.heap.size #[.int .i64 k, .int .i64 x, .int .i64 m] 23 ∧ Below w.heap.size w w2) := ⟨X1.out.1.below X1.out.1.under q, X1.out.2.trans ((q).mono X1.out.2.size)⟩
  clear q X1
  have d0 : w2.cell? ⟨w.heap.size, 0, none⟩ = some (.int .i64 k) := X2.out.1.cell 0 rfl
  have d1 : w2.cell? ⟨w.heap.size, 1, none⟩ = some (.int .i64 x) := X2.out.1.cell 1 rfl
  have d2 : w2.cell? ⟨w.heap.size, 2, none⟩ = some (.int .i64 m) := X2.out.1.cell 2 rfl
  go_wp2_with fail
  refine (T'.out _).mono ?_
  rintro e w3 ⟨rfl, q⟩
  have X3 : Hid (Below w.heap.size w w3) := X2.out.2.trans (q.mono X2.out.2.size)
  clear q d0 d1 d2
  go_wp2_with fail
  refine (D'.out _).mono ?_
  rintro e w4 ⟨rfl, q⟩
  have X4 : Hid (Below w.heap.size w w4) := X3.out.trans (q.mono X3.out.size)
  clear q
  cases ok
  all_goals (
    go_wp2
    go_ret
    exact ⟨rfl, X4.out⟩)
end Go.Proofs.Ytcfhjafplhmiaaa
