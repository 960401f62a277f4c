/-
  The walks of the program's SteerOk and Hit. By the verifier.
-/
import Derived.Test.YtemegnfefjcdaaaDoorSrPlain
import Derived.Test.YtemegnfefjcdaaaDoorOneN
import Derived.Test.YtemegnfefjcdaaaDoorBoxed
import Derived.Test.YtemegnfefjcdaaaDoorStepRow
import Derived.Laws.ResultCell
import Derived.Laws.CopyOwn
import Derived.WalkKit
import Derived.WalkSpells
import Derived.WalkLawsBesides
import Derived.RegionTactic
namespace Go.Proofs.YtemegnfefjcdaaaDoor
open Go.RowKit

set_option maxHeartbeats 1600000 in
theorem implSteerOk (p : Sr) (w : World) :
    Calls Tryd.prog 14 #[p.val] w fun e w' => e = .returned (.bool p.ok) ∧ Below w.heap.size w w' := by
  have Hok : Hid (p.ok = (inB 1 1000 p.target && (inB 0 100000 p.old && inB 0 1048576 p.prob))) := rfl
  obtain ⟨v0, v1, v2⟩ := p
  generalize Sr.ok _ = ok at Hok ⊢
  simp only [Sr.val] at Hok ⊢
  have A1 := fun B w h => implFromOne 1000 v0 B w h
  have A2 := fun B w h => implUpTo1 100000 v1 w B h
  have A3 := fun B w h => implUpTo1 1048576 v2 w B h
  generalize inB 1 1000 v0 = b1 at A1 Hok
  generalize inB 0 100000 v1 = b2 at A2 Hok
  generalize inB 0 1048576 v2 = b3 at A3 Hok
  have A1' : Hid _ := A1
  have A2' : Hid _ := A2
  have A3' : Hid _ := A3
  clear A1 A2 A3
  go_enter Tryd.func14, Tryd.ntmps14
  go_wp2_with fail
  refine (A1'.out _ _ (by simp)).mono ?_
  rintro e w' ⟨rfl, rfl⟩
  cases b1
  · go_wp2
    go_ret
    exact ⟨ret_bool (by rw [Hok.out]; rfl), by repeat (first | exact Below.refl _ _ | refine Below.alloc ?_ (by simp <;> omega) _)⟩
  go_wp2_with fail
  refine (A2'.out _ _ (by simp)).mono ?_
  rintro e w' ⟨rfl, rfl⟩
  cases b2
  · go_wp2
    go_ret
    exact ⟨ret_bool (by rw [Hok.out]; rfl), by repeat (first | exact Below.refl _ _ | refine Below.alloc ?_ (by simp <;> omega) _)⟩
  go_wp2_with fail
  refine (A3'.out _ _ (by simp)).mono ?_
  rintro e w' ⟨rfl, rfl⟩
  go_wp2
  go_ret
  exact ⟨ret_bool (by rw [Hok.out]; rfl), by repeat (first | exact Below.refl _ _ | refine Below.alloc ?_ (by simp <;> omega) _)⟩
end Go.Proofs.YtemegnfefjcdaaaDoor
