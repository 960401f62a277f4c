/-
  The walks of the model's steers: SteerOk. By the verifier, by program.
-/
import Derived.Test.YtfkkmjejmflgjaaQ0SrPlain
import Derived.Test.YtfkkmjejmflgjaaQ3RtNet
import Derived.Test.YtfkkmjejmflgjaaQ2SsV
import Derived.Test.YtfkkmjejmflgjaaQ9StepRow
import Derived.Test.YtfkkmjejmflgjaaQ11Quiet
import Derived.BigQuiet
import Derived.Deep.DeepCutAuto
import Derived.Laws.ResultCell
import Derived.Laws.CopyOwn
import Derived.WalkKit
import Derived.WalkSpells
import Derived.WalkLawsBesides
import Derived.RegionTactic
namespace Go.Proofs.Ytfkkmjejmflgjaa
open Go.RowKit

set_option maxHeartbeats 1600000 in
theorem specSteerOk (p : Sr) (w : World) :
    Calls Try.prog 52 #[p.val] w fun e w' => e = .returned (.bool p.ok) ∧ Below w.heap.size w w' := by
  have Hok : Hid (p.ok = (inB 1 1000 p.target && (inB 0 100000 p.old && inB 0 1048576 p.prob))) := rfl
  obtain ⟨v0, v1, v2⟩ := p
  generalize Sr.ok _ = ok at Hok ⊢
  simp only [Sr.val] at Hok ⊢
  have A1 := fun w => specIn v0 1 1000 w
  have A2 := fun w => specIn v1 0 100000 w
  have A3 := fun w => specIn v2 0 1048576 w
  generalize inB 1 1000 v0 = b1 at A1 Hok
  generalize inB 0 100000 v1 = b2 at A2 Hok
  generalize inB 0 1048576 v2 = b3 at A3 Hok
  have A1' : Hid _ := A1
  have A2' : Hid _ := A2
  have A3' : Hid _ := A3
  clear A1 A2 A3
  go_enter Try.func52, Try.ntmps52
  go_wp2_with fail
  refine (A1'.out _).mono ?_
  rintro e w' ⟨rfl, rfl⟩
  cases b1
  · go_wp2
    go_ret
    exact ⟨ret_bool (by rw [Hok.out]; rfl), (Below.refl _ _).alloc (Nat.le_refl _) _⟩
  go_wp2_with fail
  refine (A2'.out _).mono ?_
  rintro e w' ⟨rfl, rfl⟩
  cases b2
  · go_wp2
    go_ret
    exact ⟨ret_bool (by rw [Hok.out]; rfl), (Below.refl _ _).alloc (Nat.le_refl _) _⟩
  go_wp2_with fail
  refine (A3'.out _).mono ?_
  rintro e w' ⟨rfl, rfl⟩
  go_wp2
  go_ret
  exact ⟨ret_bool (by rw [Hok.out]; rfl), (Below.refl _ _).alloc (Nat.le_refl _) _⟩

end Go.Proofs.Ytfkkmjejmflgjaa
