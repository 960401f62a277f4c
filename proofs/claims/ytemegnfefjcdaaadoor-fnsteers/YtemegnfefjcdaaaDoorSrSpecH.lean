/-
  The walks of the model's steers: Hit. By the verifier, by program.
-/
import Derived.Test.YtemegnfefjcdaaaDoorSrSpecK
import Derived.Test.YtemegnfefjcdaaaDoorSrPlain
import Derived.Test.YtemegnfefjcdaaaDoorNumIn
import Derived.Test.YtemegnfefjcdaaaDoorBoxed
import Derived.Test.YtemegnfefjcdaaaDoorStepRow
import Derived.Test.YtemegnfefjcdaaaDoorQuiet
import Derived.BigQuiet
import Derived.Deep.DeepCutAuto
import Derived.Laws.ResultCell
import Derived.Laws.CopyOwn
import Derived.WalkKit
import Derived.WalkSpells
import Derived.WalkLawsBesides
import Derived.RegionTactic
namespace Go.Proofs.YtemegnfefjcdaaaDoor
open Go.RowKit

set_option maxHeartbeats 1600000 in
theorem specHit (p : Sr) (x : Int) (w : World) :
    Calls Tryd.prog 13 #[p.val, .int .i64 x] w fun e w' => e = .returned (.bool (p.hit x)) ∧ Below w.heap.size w w' := by
  have A1 := fun w => specSteerOk p w
  have A2 := fun w => specIn x 0 1048575 w
  have Hv : Hid (p.hit x = (p.ok && (inB 0 1048575 x && decide (x < p.prob)))) := rfl
  generalize p.hit x = F at Hv ⊢
  generalize p.ok = ok at A1 Hv
  generalize inB 0 1048575 x = tt at A2 Hv
  obtain ⟨v0, v1, v2⟩ := p
  simp only [Sr.val] at A1 Hv ⊢
  have A1' : Hid _ := A1
  have A2' : Hid _ := A2
  clear A1 A2
  have X : Hid (Boxed (w.alloc (.cells #[.int .i64 v0, .int .i64 v1, .int .i64 v2] 25)) w.heap.size #[.int .i64 v0, .int .i64 v1, .int .i64 v2] 25 ∧ Below w.heap.size w (w.alloc (.cells #[.int .i64 v0, .int .i64 v1, .int .i64 v2] 25))) := ⟨Boxed.new w _ _, (Below.refl _ _).alloc (Nat.le_refl _) _⟩
  go_enter Tryd.func13, Tryd.ntmps13
  go_wp2_with (refine wpList_load_row rfl 25 (.tmp 2) rfl w.heap.size rfl _ _ _ _ X.out.1 Tryd.underlying25 rfl (by kernel_rfl) ?_)
  refine (A1'.out _).mono ?_
  rintro e w1 ⟨rfl, q⟩
  have X1 : Hid (Boxed w1 w.heap.size #[.int .i64 v0, .int .i64 v1, .int .i64 v2] 25 ∧ Below w.heap.size w w1) := ⟨X.out.1.below X.out.1.under q, X.out.2.trans (q.mono X.out.2.size)⟩
  clear q X
  cases ok
  · go_wp2
    go_ret
    exact ⟨ret_bool (by rw [Hv.out]; rfl), X1.out.2⟩
  go_wp2_with fail
  refine (A2'.out _).mono ?_
  rintro e w2 ⟨rfl, hw⟩
  have hw := hw.symm
  subst hw
  cases tt
  · go_wp2
    go_ret
    exact ⟨ret_bool (by rw [Hv.out]; rfl), X1.out.2⟩
  have c2 : w1.cell? ⟨w.heap.size, 2, none⟩ = some (.int .i64 v2) := X1.out.1.cell 2 rfl
  go_wp2
  go_ret
  exact ⟨ret_bool (by rw [Hv.out]; rfl), X1.out.2⟩

end Go.Proofs.YtemegnfefjcdaaaDoor
