/-
  The walk of the exact law of Fits. By the verifier.
-/
import Derived.Test.YthkeabnfhgnpjaaRtTo
namespace Go.Proofs.Ythkeabnfhgnpjaa
open Go.RowKit

set_option maxHeartbeats 800000 in
theorem fnExactFits_walk (r : Rt) (addr : Int) (w : World) :
    Calls Try.prog 5 #[r.val, .int .i64 addr] w fun e w' => e = .returned (.bool true) ∧ Below w.heap.size w w' := by
  have T := fun w => toRoutesB r w
  have C := fun w => specFits r addr w
  have D := fun w => implFits r addr w
  unfold Rt.val at T C D ⊢
  generalize r.fits addr = b at C D
  obtain ⟨net, bits, hop⟩ := r
  simp only [] at T C D ⊢
  go_enter Try.func5, Try.ntmps5
  go_wp2_with fail
  refine (T _).mono ?_
  rintro e w1 ⟨rfl, b1⟩
  go_wp2_with fail
  refine (C _).mono ?_
  rintro e w2 ⟨rfl, b2⟩
  have c0 : w2.cell? ⟨w.heap.size, 0, none⟩ = some (.int .i64 net) := cell_of_below (b1.trans (b2.mono b1.size)) (by simp) (by simp)
  have c1 : w2.cell? ⟨w.heap.size, 1, none⟩ = some (.int .i64 bits) := cell_of_below (b1.trans (b2.mono b1.size)) (by simp) (by simp)
  have c2 : w2.cell? ⟨w.heap.size, 2, none⟩ = some (.int .i64 hop) := cell_of_below (b1.trans (b2.mono b1.size)) (by simp) (by simp)
  have B2 : Hid (Below w.heap.size w w2) := ((Below.refl _ w).alloc (Nat.le_refl _) _).trans ((b1.trans (b2.mono b1.size)).mono (by simp))
  clear b1 b2
  go_wp2_with fail
  refine (T _).mono ?_
  rintro e w3 ⟨rfl, b3⟩
  go_wp2_with fail
  refine (D _).mono ?_
  rintro e w4 ⟨rfl, b4⟩
  have B4 : Hid (Below w.heap.size w w4) := B2.out.trans ((b3.trans (b4.mono b3.size)).mono B2.out.size)
  clear b3 b4
  go_wp2
  all_goals (go_ret; exact ⟨rfl, B4.out⟩)
end Go.Proofs.Ythkeabnfhgnpjaa
