/-
  The walk of the exact law of Settled, the program's contract given. By the verifier, by program.
-/
import Derived.Test.YtemegnfefjcdaaaDoorSrTo
import Derived.Test.YtemegnfefjcdaaaDoorSrEq
import Derived.Test.YtemegnfefjcdaaaDoorSrSpecS
import Derived.Test.YtemegnfefjcdaaaDoorBoxed
import Derived.Test.YtemegnfefjcdaaaDoorStepRow
namespace Go.Proofs.YtemegnfefjcdaaaDoor
open Go.RowKit

set_option maxHeartbeats 1600000 in
set_option maxRecDepth 100000 in
theorem fnExactSettled_law (l : Sr) (d n : Int) (w : World) (D : ∀ x, Below w.heap.size w x → Calls Tryd.prog 17 #[l.val, .int .i64 d, .int .i64 n] x fun e w' => e = .returned ((l.settled d n).val) ∧ Below x.heap.size x w') :
    Calls Tryd.prog 6 #[l.val, .int .i64 d, .int .i64 n] w fun e w' => e = .returned (.bool true) ∧ Below w.heap.size w w' := by
  have T := fun w => toSrB l w
  have C := fun w => specSettled l d n w
  have E := fun w => eqSr (l.settled d n) w
  generalize l.settled d n = r at C D E
  obtain ⟨p0, p1, p2⟩ := l
  obtain ⟨r0, r1, r2⟩ := r
  simp only [Sr.val] at *
  have T' : Hid _ := T
  have C' : Hid _ := C
  have D' : Hid _ := D
  clear T C D
  have E' : Hid _ := E
  clear E
  have X : Hid (Boxed (w.alloc (.cells #[.int .i64 p0, .int .i64 p1, .int .i64 p2] 35)) w.heap.size #[.int .i64 p0, .int .i64 p1, .int .i64 p2] 35 ∧ Below w.heap.size w (w.alloc (.cells #[.int .i64 p0, .int .i64 p1, .int .i64 p2] 35))) :=
    ⟨Boxed.new _ _ _, (Below.refl _ _).alloc (Nat.le_refl _) _⟩
  go_enter Tryd.func6, Tryd.ntmps6
  go_wp2_with (refine wpList_load_row rfl 35 (.tmp _) rfl w.heap.size rfl _ _ _ _ X.out.1 Tryd.underlying35 rfl (by kernel_rfl) ?_)
  refine (T'.out _).mono ?_
  rintro e w1 ⟨rfl, q⟩
  have X1 : Hid (Boxed w1 w.heap.size #[.int .i64 p0, .int .i64 p1, .int .i64 p2] 35 ∧ Below w.heap.size w w1) := ⟨X.out.1.below X.out.1.under q, X.out.2.trans (q.mono X.out.2.size)⟩
  clear q X
  go_wp2_with fail
  refine (C'.out _).mono ?_
  rintro e w2 ⟨rfl, q⟩
  have X2 : Hid (Boxed w2 w.heap.size #[.int .i64 p0, .int .i64 p1, .int .i64 p2] 35 ∧ Below w.heap.size w w2) := ⟨X1.out.1.below X1.out.1.under q, X1.out.2.trans (q.mono X1.out.2.size)⟩
  clear q X1
  have N2 : Hid (Boxed (w2.alloc (.cells #[.int .i64 0, .int .i64 0, .int .i64 0] 25)) w2.heap.size #[.int .i64 0, .int .i64 0, .int .i64 0] 25) := Boxed.new _ _ _
  have X3 : Hid (Boxed ((w2.alloc (.cells #[.int .i64 0, .int .i64 0, .int .i64 0] 25)).setRow w2.heap.size #[.int .i64 r0, .int .i64 r1, .int .i64 r2]) w.heap.size #[.int .i64 p0, .int .i64 p1, .int .i64 p2] 35 ∧ Below w.heap.size w ((w2.alloc (.cells #[.int .i64 0, .int .i64 0, .int .i64 0] 25)).setRow w2.heap.size #[.int .i64 r0, .int .i64 r1, .int .i64 r2]) ∧ Boxed ((w2.alloc (.cells #[.int .i64 0, .int .i64 0, .int .i64 0] 25)).setRow w2.heap.size #[.int .i64 r0, .int .i64 r1, .int .i64 r2]) w2.heap.size #[.int .i64 r0, .int .i64 r1, .int .i64 r2] 25) := by
    have h1 := X2.out.1.under
    have h2 := X2.out.2.size
    exact ⟨(setRow_other _ _ _ _ (by omega)).trans (X2.out.1.more _), below_setRow (X2.out.2.alloc h2 _) h2 _, setRow_heap _ _ _ _ _ _ N2.out⟩
  go_wp2_with (first | (refine wpList_load_row rfl 35 (.tmp _) rfl w.heap.size rfl _ _ _ _ X3.out.1 Tryd.underlying35 rfl (by kernel_rfl) ?_) | (refine wpList_store_row rfl 25 (.tmp _) (.tmp _) rfl w2.heap.size #[.int .i64 r0, .int .i64 r1, .int .i64 r2] rfl rfl _ _ N2.out (by kernel_rfl) rfl (srOnes _ _ _) ?_))
  clear X2 N2
  generalize ((w2.alloc (.cells #[.int .i64 0, .int .i64 0, .int .i64 0] 25)).setRow w2.heap.size #[.int .i64 r0, .int .i64 r1, .int .i64 r2]) = w3 at X3 ⊢
  generalize w2.heap.size = g at X3 ⊢
  refine (T'.out _).mono ?_
  rintro e w4 ⟨rfl, q⟩
  have X4 : Hid (Boxed w4 w.heap.size #[.int .i64 p0, .int .i64 p1, .int .i64 p2] 35 ∧ Below w.heap.size w w4 ∧ Boxed w4 g #[.int .i64 r0, .int .i64 r1, .int .i64 r2] 25) := ⟨X3.out.1.below X3.out.1.under q, X3.out.2.1.trans (q.mono X3.out.2.1.size), X3.out.2.2.below X3.out.2.2.under q⟩
  clear q X3
  go_wp2_with fail
  refine (D'.out _ X4.out.2.1).mono ?_
  rintro e w5 ⟨rfl, q⟩
  have X5 : Hid (Boxed w5 w.heap.size #[.int .i64 p0, .int .i64 p1, .int .i64 p2] 35 ∧ Below w.heap.size w w5 ∧ Boxed w5 g #[.int .i64 r0, .int .i64 r1, .int .i64 r2] 25) := ⟨X4.out.1.below X4.out.1.under q, X4.out.2.1.trans (q.mono X4.out.2.1.size), X4.out.2.2.below X4.out.2.2.under q⟩
  clear q X4
  have N5 : Hid (Boxed (w5.alloc (.cells #[.int .i64 0, .int .i64 0, .int .i64 0] 25)) w5.heap.size #[.int .i64 0, .int .i64 0, .int .i64 0] 25) := Boxed.new _ _ _
  have X6 : Hid (Below w.heap.size w ((w5.alloc (.cells #[.int .i64 0, .int .i64 0, .int .i64 0] 25)).setRow w5.heap.size #[.int .i64 r0, .int .i64 r1, .int .i64 r2]) ∧ Boxed ((w5.alloc (.cells #[.int .i64 0, .int .i64 0, .int .i64 0] 25)).setRow w5.heap.size #[.int .i64 r0, .int .i64 r1, .int .i64 r2]) g #[.int .i64 r0, .int .i64 r1, .int .i64 r2] 25 ∧ Boxed ((w5.alloc (.cells #[.int .i64 0, .int .i64 0, .int .i64 0] 25)).setRow w5.heap.size #[.int .i64 r0, .int .i64 r1, .int .i64 r2]) w5.heap.size #[.int .i64 r0, .int .i64 r1, .int .i64 r2] 25) := by
    have h1 := X5.out.2.2.under
    have h2 := X5.out.2.1.size
    exact ⟨below_setRow (X5.out.2.1.alloc h2 _) h2 _, (setRow_other _ _ _ _ (by omega)).trans (X5.out.2.2.more _), setRow_heap _ _ _ _ _ _ N5.out⟩
  go_wp2_with (first | (refine wpList_store_row rfl 25 (.tmp _) (.tmp _) rfl w5.heap.size #[.int .i64 r0, .int .i64 r1, .int .i64 r2] rfl rfl _ _ N5.out (by kernel_rfl) rfl (srOnes _ _ _) ?_) | (refine wpList_load_row rfl 25 (.tmp _) rfl w5.heap.size rfl _ _ _ _ X6.out.2.2 Tryd.underlying25 rfl (by kernel_rfl) ?_) | (refine wpList_load_row rfl 25 (.tmp _) rfl g rfl _ _ _ _ X6.out.2.1 Tryd.underlying25 rfl (by kernel_rfl) ?_))
  refine (E'.out _).mono ?_
  rintro e w7 ⟨rfl, q⟩
  have X7 : Hid (Below w.heap.size w w7) := X6.out.1.trans (q.mono X6.out.1.size)
  clear q X6 X5 N5
  go_wp2
  go_ret
  exact ⟨rfl, X7.out⟩
end Go.Proofs.YtemegnfefjcdaaaDoor
