import Derived.Test.YtgebghkcikmfaaaGreatDoorQJ3SrPlain
import Derived.Test.YtgebghkcikmfaaaGreatDoorQJ44RwOkI
import Derived.Test.YtgebghkcikmfaaaGreatDoorQJ0NumUp
import Derived.Test.YtgebghkcikmfaaaGreatDoorQJ5StepRow
import Derived.Laws.ResultCell
import Derived.Laws.CopyOwn
import Derived.WalkKit
import Derived.WalkSpells
import Derived.WalkLawsBesides
import Derived.RegionTactic
/-
  The walks of the program's SteerOk and Hit. By the verifier.
-/
namespace Go.Proofs.YtgebghkcikmfaaaGreatDoor
open Go.RowKit

set_option maxHeartbeats 1600000 in
theorem implSteerOk (p : Sr) (w : World) :
    Calls Tryz.prog 157 #[p.val] w fun e w' => e = .returned (.bool p.ok) ∧ Below w.heap.size w w' := by
  have Hok : Hid (p.ok = (inB 1 1000 p.target && (inB 0 100000 p.old && inB 0 1048576 p.prob))) := rfl
  obtain ⟨v0, v1, v2⟩ := p
  generalize Sr.ok _ = ok at Hok ⊢
  simp only [Sr.val] at Hok ⊢
  have A1 := fun B w h => implFromOne 1000 v0 B w h
  have A2 := fun B w h => implUpTo1 100000 v1 w B h
  have A3 := fun B w h => implUpTo1 1048576 v2 w B h
  generalize inB 1 1000 v0 = b1 at A1 Hok
  generalize inB 0 100000 v1 = b2 at A2 Hok
  generalize inB 0 1048576 v2 = b3 at A3 Hok
  have A1' : Hid _ := A1
  have A2' : Hid _ := A2
  have A3' : Hid _ := A3
  clear A1 A2 A3
  go_enter Tryz.func157, Tryz.ntmps157
  go_wp2_with fail
  refine (A1'.out _ _ (by simp)).mono ?_
  rintro e w' ⟨rfl, rfl⟩
  cases b1
  · go_wp2
    go_ret
    exact ⟨ret_bool (by rw [Hok.out]; rfl), by repeat (first | exact Below.refl _ _ | refine Below.alloc ?_ (by simp <;> omega) _)⟩
  go_wp2_with fail
  refine (A2'.out _ _ (by simp)).mono ?_
  rintro e w' ⟨rfl, rfl⟩
  cases b2
  · go_wp2
    go_ret
    exact ⟨ret_bool (by rw [Hok.out]; rfl), by repeat (first | exact Below.refl _ _ | refine Below.alloc ?_ (by simp <;> omega) _)⟩
  go_wp2_with fail
  refine (A3'.out _ _ (by simp)).mono ?_
  rintro e w' ⟨rfl, rfl⟩
  go_wp2
  go_ret
  exact ⟨ret_bool (by rw [Hok.out]; rfl), by repeat (first | exact Below.refl _ _ | refine Below.alloc ?_ (by simp <;> omega) _)⟩
end Go.Proofs.YtgebghkcikmfaaaGreatDoor

/-
  The walk of the program's Hit. By the verifier.
-/
namespace Go.Proofs.YtgebghkcikmfaaaGreatDoor
open Go.RowKit

set_option maxHeartbeats 1600000 in
theorem implHit (p : Sr) (x : Int) (w : World) :
    Calls Tryz.prog 135 #[p.val, .int .i64 x] w fun e w' => e = .returned (.bool (p.hit x)) ∧ Below w.heap.size w w' := by
  have Hh : Hid (p.hit x = (p.ok && (inB 0 1048575 x && decide (x < p.prob)))) := rfl
  have A1 := fun w => implSteerOk p w
  have A2 := fun B w h => implUpTo1 1048575 x w B h
  generalize p.hit x = h at Hh ⊢
  generalize p.ok = ok at A1 Hh
  generalize inB 0 1048575 x = b at A2 Hh
  obtain ⟨v0, v1, v2⟩ := p
  simp only [Sr.val] at A1 Hh ⊢
  have A1' : Hid _ := A1
  have A2' : Hid _ := A2
  clear A1 A2
  have X : Hid (Boxed (w.alloc (.cells #[.int .i64 v0, .int .i64 v1, .int .i64 v2] 114)) w.heap.size #[.int .i64 v0, .int .i64 v1, .int .i64 v2] 114 ∧ Below w.heap.size w (w.alloc (.cells #[.int .i64 v0, .int .i64 v1, .int .i64 v2] 114))) :=
    ⟨Boxed.new _ _ _, (Below.refl _ _).alloc (Nat.le_refl _) _⟩
  go_enter Tryz.func135, Tryz.ntmps135
  go_wp2_with (refine wpList_load_row rfl 114 (.tmp _) rfl w.heap.size rfl _ _ _ _ X.out.1 Tryz.underlying114 rfl (by kernel_rfl) ?_)
  refine (A1'.out _).mono ?_
  rintro e w1 ⟨rfl, q⟩
  have X1 : Hid (Boxed w1 w.heap.size #[.int .i64 v0, .int .i64 v1, .int .i64 v2] 114 ∧ Below w.heap.size w w1) := ⟨X.out.1.below X.out.1.under q, X.out.2.trans (q.mono X.out.2.size)⟩
  clear q X
  cases ok
  · go_wp2
    go_ret
    exact ⟨ret_bool (by rw [Hh.out]; rfl), X1.out.2⟩
  go_wp2_with fail
  refine (A2'.out _ _ (by simp)).mono ?_
  rintro e w' ⟨rfl, rfl⟩
  cases b
  · go_wp2
    go_ret
    exact ⟨ret_bool (by rw [Hh.out]; rfl), X1.out.2.alloc X1.out.2.size _⟩
  have X2 : Hid (Boxed (w1.alloc (.cells #[.int .i64 x] 2)) w.heap.size #[.int .i64 v0, .int .i64 v1, .int .i64 v2] 114 ∧ Below w.heap.size w (w1.alloc (.cells #[.int .i64 x] 2))) := ⟨X1.out.1.more _, X1.out.2.alloc X1.out.2.size _⟩
  generalize w1.alloc (.cells #[.int .i64 x] 2) = w2 at X2 ⊢
  have c2 : w2.cell? ⟨w.heap.size, 2, none⟩ = some (.int .i64 v2) := X2.out.1.cell 2 rfl
  go_wp2
  go_ret
  exact ⟨ret_bool (by rw [Hh.out]; rfl), X2.out.2⟩
end Go.Proofs.YtgebghkcikmfaaaGreatDoor
