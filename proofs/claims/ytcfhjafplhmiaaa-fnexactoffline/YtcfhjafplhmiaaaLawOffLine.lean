/-
  The walk of the exact law of OffLine. By the verifier.
-/
import Derived.Test.YtcfhjafplhmiaaaLnTo
import Derived.Test.YtcfhjafplhmiaaaLnOffS
import Derived.Test.YtcfhjafplhmiaaaLnOff
namespace Go.Proofs.Ytcfhjafplhmiaaa
open Go.RowKit

set_option maxHeartbeats 1600000 in
set_option maxRecDepth 100000 in
theorem fnExactOffLine_walk (l : Ln) (room : Int) (w : World) :
    Calls Try.prog 5 #[l.val, .int .i64 room] w fun e w' => e = .returned (.bool true) ∧ Below w.heap.size w w' := by
  have T := fun w => toLnB l w
  have C := fun w => specOff l room w
  have D := fun w => implOff l room w
  have One : Hid (∀ r s, Off l room r → Off l room s → r = s) := fun _ _ => Off.one
  generalize Off l room = OFF at C D One
  obtain ⟨k, x, m⟩ := l
  simp only [Ln.val] at *
  have T' : Hid _ := T
  have C' : Hid _ := C
  have D' : Hid _ := D
  clear T C D
  have X : Hid (Boxed (w.alloc (.cells #[.int .i64 k, .int .i64 x, .int .i64 m] 23)) w.heap.size #[.int .i64 k, .int .i64 x, .int .i64 m] 23 ∧ Below w.heap.size w (w.alloc (.cells #[.int .i64 k, .int .i64 x, .int .i64 m] 23))) :=
    ⟨Boxed.new _ _ _, (Below.refl _ _).alloc (Nat.le_refl _) _⟩
  go_enter Try.func5, Try.ntmps5
  go_wp2_with fail
  refine (T'.out _).mono ?_
  rintro e w1 ⟨rfl, q⟩
  have X1 : Hid (Boxed w1 w.heap.size #[.int .i64 k, .int .i64 x, .int .i64 m] 23 ∧ Below w.heap.size w w1) := ⟨X.out.1.below X.out.1.under q, X.out.2.trans (q.mono X.out.2.size)⟩
  clear q X
  go_wp2_with fail
  refine (C'.out _).mono ?_
  rintro e w2 ⟨⟨r, rfl, hr⟩, q⟩
  have X2 : Hid (Boxed w2 w.heap.size #[.int .i64 k, .int .i64 x, .int .i64 m] 23 ∧ Below w.heap.size w w2 ∧ OFF r) := ⟨X1.out.1.below X1.out.1.under q, X1.out.2.trans ((q).mono X1.out.2.size), hr⟩
  clear q X1
  have d0 : w2.cell? ⟨w.heap.size, 0, none⟩ = some (.int .i64 k) := X2.out.1.cell 0 rfl
  have d1 : w2.cell? ⟨w.heap.size, 1, none⟩ = some (.int .i64 x) := X2.out.1.cell 1 rfl
  have d2 : w2.cell? ⟨w.heap.size, 2, none⟩ = some (.int .i64 m) := X2.out.1.cell 2 rfl
  go_wp2_with fail
  refine (T'.out _).mono ?_
  rintro e w3 ⟨rfl, q⟩
  have X3 : Hid (Below w.heap.size w w3) := X2.out.2.1.trans (q.mono X2.out.2.1.size)
  clear q d0 d1 d2
  go_wp2_with fail
  refine (D'.out _).mono ?_
  rintro e w4 ⟨⟨s, rfl, hs⟩, q⟩
  have X4 : Hid (Below w.heap.size w w4) := X3.out.trans (q.mono X3.out.size)
  obtain rfl := One.out _ _ X2.out.2.2 hs
  clear q
  go_wp2
  go_ret
  exact ⟨rfl, X4.out⟩
end Go.Proofs.Ytcfhjafplhmiaaa
