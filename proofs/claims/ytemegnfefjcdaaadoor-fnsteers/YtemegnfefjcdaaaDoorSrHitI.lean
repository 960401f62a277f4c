/-
  The walk of the program's Hit. By the verifier.
-/
import Derived.Test.YtemegnfefjcdaaaDoorSrImpl
namespace Go.Proofs.YtemegnfefjcdaaaDoor
open Go.RowKit

set_option maxHeartbeats 1600000 in
theorem implHit (p : Sr) (x : Int) (w : World) :
    Calls Tryd.prog 12 #[p.val, .int .i64 x] w fun e w' => e = .returned (.bool (p.hit x)) ∧ Below w.heap.size w w' := by
  have Hh : Hid (p.hit x = (p.ok && (inB 0 1048575 x && decide (x < p.prob)))) := rfl
  have A1 := fun w => implSteerOk p w
  have A2 := fun B w h => implUpTo1 1048575 x w B h
  generalize p.hit x = h at Hh ⊢
  generalize p.ok = ok at A1 Hh
  generalize inB 0 1048575 x = b at A2 Hh
  obtain ⟨v0, v1, v2⟩ := p
  simp only [Sr.val] at A1 Hh ⊢
  have A1' : Hid _ := A1
  have A2' : Hid _ := A2
  clear A1 A2
  have X : Hid (Boxed (w.alloc (.cells #[.int .i64 v0, .int .i64 v1, .int .i64 v2] 25)) w.heap.size #[.int .i64 v0, .int .i64 v1, .int .i64 v2] 25 ∧ Below w.heap.size w (w.alloc (.cells #[.int .i64 v0, .int .i64 v1, .int .i64 v2] 25))) :=
    ⟨Boxed.new _ _ _, (Below.refl _ _).alloc (Nat.le_refl _) _⟩
  go_enter Tryd.func12, Tryd.ntmps12
  go_wp2_with (refine wpList_load_row rfl 25 (.tmp _) rfl w.heap.size rfl _ _ _ _ X.out.1 Tryd.underlying25 rfl (by kernel_rfl) ?_)
  refine (A1'.out _).mono ?_
  rintro e w1 ⟨rfl, q⟩
  have X1 : Hid (Boxed w1 w.heap.size #[.int .i64 v0, .int .i64 v1, .int .i64 v2] 25 ∧ Below w.heap.size w w1) := ⟨X.out.1.below X.out.1.under q, X.out.2.trans (q.mono X.out.2.size)⟩
  clear q X
  cases ok
  · go_wp2
    go_ret
    exact ⟨ret_bool (by rw [Hh.out]; rfl), X1.out.2⟩
  go_wp2_with fail
  refine (A2'.out _ _ (by simp)).mono ?_
  rintro e w' ⟨rfl, rfl⟩
  cases b
  · go_wp2
    go_ret
    exact ⟨ret_bool (by rw [Hh.out]; rfl), X1.out.2.alloc X1.out.2.size _⟩
  have X2 : Hid (Boxed (w1.alloc (.cells #[.int .i64 x] 2)) w.heap.size #[.int .i64 v0, .int .i64 v1, .int .i64 v2] 25 ∧ Below w.heap.size w (w1.alloc (.cells #[.int .i64 x] 2))) := ⟨X1.out.1.more _, X1.out.2.alloc X1.out.2.size _⟩
  generalize w1.alloc (.cells #[.int .i64 x] 2) = w2 at X2 ⊢
  have c2 : w2.cell? ⟨w.heap.size, 2, none⟩ = some (.int .i64 v2) := X2.out.1.cell 2 rfl
  go_wp2
  go_ret
  exact ⟨ret_bool (by rw [Hh.out]; rfl), X2.out.2⟩
end Go.Proofs.YtemegnfefjcdaaaDoor
