/-
  The walks of the model's steers: Stirred. By the verifier, by program.
-/
import Derived.Test.YtemegnfefjcdaaaDoorSrSpecT
import Derived.Test.YtemegnfefjcdaaaDoorSrPlain
import Derived.Test.YtemegnfefjcdaaaDoorNumIn
import Derived.Test.YtemegnfefjcdaaaDoorNumMin
import Derived.Test.YtemegnfefjcdaaaDoorNumMax
import Derived.Test.YtemegnfefjcdaaaDoorBoxed
import Derived.Test.YtemegnfefjcdaaaDoorStepRow
import Derived.Test.YtemegnfefjcdaaaDoorQuiet
import Derived.BigQuiet
import Derived.Deep.DeepCutAuto
import Derived.Laws.ResultCell
import Derived.Laws.CopyOwn
import Derived.WalkKit
import Derived.WalkSpells
import Derived.WalkLawsBesides
import Derived.RegionTactic
namespace Go.Proofs.YtemegnfefjcdaaaDoor
open Go.RowKit

set_option maxHeartbeats 3200000 in
set_option maxRecDepth 100000 in
theorem specStirred (p : Sr) (d : Int) (w : World) :
    Calls Tryd.prog 11 #[p.val, .int .i64 d] w fun e w' => e = .returned (p.stirred d).val ∧ Below w.heap.size w w' := by
  have A1 := fun w => specSteerOk p w
  have A2 := fun w => specIn d 0 100000 w
  have A3 := fun w h1 h2 => specStir p d w h1 h2
  have Hv : Hid (p.stirred d = if p.ok = true then (if inB 0 100000 d = true then p.stir d else p) else ⟨0, 0, 0⟩) := rfl
  generalize p.stirred d = F at Hv ⊢
  generalize p.stir d = G at A3 Hv
  generalize p.ok = ok at A1 A3 Hv
  generalize inB 0 100000 d = tt at A2 A3 Hv
  obtain ⟨v0, v1, v2⟩ := p
  obtain ⟨g0, g1, g2⟩ := G
  simp only [Sr.val] at A1 A3 ⊢
  have A1' : Hid _ := A1
  have A2' : Hid _ := A2
  have A3' : Hid _ := A3
  clear A1 A2 A3
  have X : Hid (Boxed ((w.alloc (.cells #[.int .i64 v0, .int .i64 v1, .int .i64 v2] 25)).alloc (.cells #[.int .i64 0, .int .i64 0, .int .i64 0] 25)) w.heap.size #[.int .i64 v0, .int .i64 v1, .int .i64 v2] 25 ∧ Boxed ((w.alloc (.cells #[.int .i64 v0, .int .i64 v1, .int .i64 v2] 25)).alloc (.cells #[.int .i64 0, .int .i64 0, .int .i64 0] 25)) (w.heap.size + 1) #[.int .i64 0, .int .i64 0, .int .i64 0] 25 ∧ Below w.heap.size w ((w.alloc (.cells #[.int .i64 v0, .int .i64 v1, .int .i64 v2] 25)).alloc (.cells #[.int .i64 0, .int .i64 0, .int .i64 0] 25))) := by
    refine ⟨(Boxed.new w _ _).more _, ?_, ((Below.refl _ _).alloc (Nat.le_refl _) _).alloc (by simp) _⟩
    have := Boxed.new (w.alloc (.cells #[.int .i64 v0, .int .i64 v1, .int .i64 v2] 25)) #[.int .i64 0, .int .i64 0, .int .i64 0] 25
    simpa using this
  go_enter Tryd.func11, Tryd.ntmps11
  go_wp2_with (refine wpList_load_row rfl 25 (.tmp 2) rfl w.heap.size rfl _ _ _ _ X.out.1 Tryd.underlying25 rfl (by kernel_rfl) ?_)
  refine (A1'.out _).mono ?_
  rintro e w1 ⟨rfl, q⟩
  have X1 : Hid (Boxed w1 w.heap.size #[.int .i64 v0, .int .i64 v1, .int .i64 v2] 25 ∧ Boxed w1 (w.heap.size + 1) #[.int .i64 0, .int .i64 0, .int .i64 0] 25 ∧ Below w.heap.size w w1) := ⟨X.out.1.below X.out.1.under q, X.out.2.1.below X.out.2.1.under q, X.out.2.2.trans (q.mono X.out.2.2.size)⟩
  clear q X
  cases ok
  · have e1 : F = ⟨0, 0, 0⟩ := by rw [Hv.out]; rfl
    subst e1
    go_wp2_with (refine wpList_store_row rfl 25 (.tmp 4) (.tmp 8) rfl (w.heap.size + 1) #[.int .i64 0, .int .i64 0, .int .i64 0] rfl rfl _ _ X1.out.2.1 (by kernel_rfl) rfl (srOnes _ _ _) ?_)
    exact bodyPost_ret (results_cell_row Tryd.results11 _ _ (w.heap.size + 1) _ _ _ _ rfl (setRow_heap _ (w.heap.size + 1) _ _ _ _ X1.out.2.1) Tryd.underlying25 rfl (by kernel_rfl)) rfl ⟨rfl, below_setRow X1.out.2.2 (by omega) _⟩
  go_wp2_with fail
  refine (A2'.out _).mono ?_
  rintro e w2 ⟨rfl, hw⟩
  have hw := hw.symm
  subst hw
  cases tt
  · have e1 : F = ⟨v0, v1, v2⟩ := by rw [Hv.out]; rfl
    subst e1
    go_wp2_with (first | (refine wpList_load_row rfl 25 (.tmp 2) rfl w.heap.size rfl _ _ _ _ X1.out.1 Tryd.underlying25 rfl (by kernel_rfl) ?_) | (refine wpList_store_row rfl 25 (.tmp 4) (.tmp 12) rfl (w.heap.size + 1) _ rfl rfl _ _ X1.out.2.1 (by kernel_rfl) rfl (srOnes _ _ _) ?_))
    exact bodyPost_ret (results_cell_row Tryd.results11 _ _ (w.heap.size + 1) _ _ _ _ rfl (setRow_heap _ (w.heap.size + 1) _ _ _ _ X1.out.2.1) Tryd.underlying25 rfl (by kernel_rfl)) rfl ⟨rfl, below_setRow X1.out.2.2 (by omega) _⟩
  have e1 : F = ⟨g0, g1, g2⟩ := by rw [Hv.out]; rfl
  subst e1
  go_wp2_with (refine wpList_load_row rfl 25 (.tmp 2) rfl w.heap.size rfl _ _ _ _ X1.out.1 Tryd.underlying25 rfl (by kernel_rfl) ?_)
  refine (A3'.out _ (by first | exact trivial | exact rfl) (by first | exact trivial | exact rfl)).mono ?_
  rintro e w2 ⟨rfl, q⟩
  have X2 : Hid (Boxed w2 w.heap.size #[.int .i64 v0, .int .i64 v1, .int .i64 v2] 25 ∧ Boxed w2 (w.heap.size + 1) #[.int .i64 0, .int .i64 0, .int .i64 0] 25 ∧ Below w.heap.size w w2) := ⟨X1.out.1.below X1.out.1.under q, X1.out.2.1.below X1.out.2.1.under q, X1.out.2.2.trans (q.mono X1.out.2.2.size)⟩
  clear q X1
  go_wp2_with (refine wpList_store_row rfl 25 (.tmp 4) (.tmp 15) rfl (w.heap.size + 1) #[.int .i64 g0, .int .i64 g1, .int .i64 g2] rfl rfl _ _ X2.out.2.1 (by kernel_rfl) rfl (srOnes _ _ _) ?_)
  exact bodyPost_ret (results_cell_row Tryd.results11 _ _ (w.heap.size + 1) _ _ _ _ rfl (setRow_heap _ (w.heap.size + 1) _ _ _ _ X2.out.2.1) Tryd.underlying25 rfl (by kernel_rfl)) rfl ⟨rfl, below_setRow X2.out.2.2 (by omega) _⟩

end Go.Proofs.YtemegnfefjcdaaaDoor
