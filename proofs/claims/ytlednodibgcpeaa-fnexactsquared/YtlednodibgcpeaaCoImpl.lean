/-
  The walks of the program's chances. By the verifier.
-/
import Derived.Test.YtlednodibgcpeaaCoSpec
import Derived.Test.YtlednodibgcpeaaOneN
import Derived.Test.YtlednodibgcpeaaBoxed
import Derived.WalkKit
import Derived.WalkSpells
import Derived.WalkLawsBesides
import Derived.Below
namespace Go.Proofs.Ytlednodibgcpeaa
open Go.RowKit

set_option maxHeartbeats 1600000 in
theorem implSquared (p : Int) (w : World) :
    Calls Try.prog 12 #[.int .i64 p] w fun e w' => e = .returned (.int .i64 (sqO p)) ∧ Below w.heap.size w w' := by
  have A1 := fun B w h => implUpTo1 1048576 p w B h
  have Hv : Hid (sqO p = if inB 0 1048576 p = true then p * p / 1048576 else -1) := rfl
  have HW : Hid (inB 0 1048576 p = true → IntKind.i64.wrap (p * p) = p * p ∧ Int.tdiv (p * p) 1048576 = p * p / 1048576 ∧ IntKind.i64.wrap (p * p / 1048576) = p * p / 1048576) := fun h => by
    rw [inB_true] at h
    exact sq_wraps h.1 h.2
  generalize sqO p = F at Hv ⊢
  generalize inB 0 1048576 p = b at A1 Hv HW
  have A1' : Hid _ := A1
  clear A1
  go_enter Try.func12, Try.ntmps12
  go_wp2_with fail
  refine (A1'.out _ _ (by simp)).mono ?_
  rintro e w' ⟨rfl, rfl⟩
  cases b
  · go_wp2
    go_ret
    exact ⟨ret_num (by rw [Hv.out]; rfl), by repeat (first | exact Below.refl _ _ | refine Below.alloc ?_ (by simp <;> omega) _)⟩
  · obtain ⟨k1, k2, k3⟩ := HW.out (by first | exact trivial | exact rfl)
    go_wp2
    go_ret
    exact ⟨ret_num (by rw [Hv.out]; rfl), by repeat (first | exact Below.refl _ _ | refine Below.alloc ?_ (by simp <;> omega) _)⟩

set_option maxHeartbeats 1600000 in
theorem implCoupleOk (p f : Int) (w : World) :
    Calls Try.prog 24 #[.int .i64 p, .int .i64 f] w fun e w' => e = .returned (.bool (coB p f)) ∧ Below w.heap.size w w' := by
  have Hok : Hid (coB p f = (inB 0 1048576 p && inB 1 8 f)) := rfl
  generalize coB p f = ok at Hok ⊢
  have A1 := fun B w h => implUpTo1 1048576 p w B h
  have A2 := fun B w h => implFromOne 8 f B w h
  generalize inB 0 1048576 p = b1 at A1 Hok
  generalize inB 1 8 f = b2 at A2 Hok
  have A1' : Hid _ := A1
  have A2' : Hid _ := A2
  clear A1 A2
  go_enter Try.func24, Try.ntmps24
  go_wp2_with fail
  refine (A1'.out _ _ (by simp)).mono ?_
  rintro e w' ⟨rfl, rfl⟩
  cases b1
  · go_wp2
    go_ret
    exact ⟨ret_bool (by rw [Hok.out]; rfl), by repeat (first | exact Below.refl _ _ | refine Below.alloc ?_ (by simp <;> omega) _)⟩
  go_wp2_with fail
  refine (A2'.out _ _ (by simp)).mono ?_
  rintro e w' ⟨rfl, rfl⟩
  go_wp2
  go_ret
  exact ⟨ret_bool (by rw [Hok.out]; rfl), by repeat (first | exact Below.refl _ _ | refine Below.alloc ?_ (by simp <;> omega) _)⟩

set_option maxHeartbeats 1600000 in
theorem implCoupled (p f : Int) (w : World) :
    Calls Try.prog 10 #[.int .i64 p, .int .i64 f] w fun e w' => e = .returned (.int .i64 (cpO p f)) ∧ Below w.heap.size w w' := by
  have A1 := fun w => implCoupleOk p f w
  have Hv : Hid (cpO p f = if coB p f = true then min 1048576 (p * f) else -1) := rfl
  have HW : Hid (coB p f = true → IntKind.i64.wrap (p * f) = p * f) := fun h => cp_wraps h
  generalize cpO p f = F at Hv ⊢
  generalize coB p f = b at A1 Hv HW
  have A1' : Hid _ := A1
  clear A1
  go_enter Try.func10, Try.ntmps10
  go_wp2_with fail
  refine (A1'.out _).mono ?_
  rintro e w' ⟨rfl, q⟩
  have Q : Hid _ := q
  clear q
  cases b
  · go_wp2
    go_ret
    exact ⟨ret_num (by rw [Hv.out]; rfl), Q.out⟩
  · have k1 := HW.out (by first | exact trivial | exact rfl)
    obtain ⟨z, hz⟩ : ∃ z, p * f = z := ⟨_, rfl⟩
    rw [hz] at k1 Hv
    have k2 : IntKind.i64.wrap (p * f) = z := by rw [hz]; exact k1
    clear hz k1 HW
    by_cases hz : 1048576 < z
    · go_wp2
      go_ret
      exact ⟨ret_num (by rw [Hv.out]; simp only [if_true]; omega), Q.out⟩
    · go_wp2
      go_ret
      exact ⟨ret_num (by rw [Hv.out]; simp only [if_true]; omega), Q.out⟩

end Go.Proofs.Ytlednodibgcpeaa
