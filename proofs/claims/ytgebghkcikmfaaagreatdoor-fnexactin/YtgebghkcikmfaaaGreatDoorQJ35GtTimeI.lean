/-
  The walk of the program's timeOf. By the verifier.
-/
import Derived.Test.YtgebghkcikmfaaaGreatDoorQJ4GtSpot
import Derived.Test.YtgebghkcikmfaaaGreatDoorQJ21GtZero
import Derived.Deep.DeepCutAuto
namespace Go.Proofs.YtgebghkcikmfaaaGreatDoor
open Go.RowKit

set_option maxHeartbeats 1600000 in
set_option maxRecDepth 100000 in
theorem implTimeOf (g : Gt) (x : Ga) (w : World) (h0 : 0 < g.tree.length) (hT : g.tree.length ≤ 1048576) (h : NdsAt w x.a3 g.tree) :
    Calls Tryz.prog 113 #[g.val x] w fun e w' => e = .returned (.int .i64 (ndAt g.tree 0).pz.tm) ∧ Below w.heap.size w w' := by
  have bw : Below w.heap.size w (w.alloc (.cells (g.cells x) 50)) := (Below.refl _ _).alloc (Nat.le_refl _) _
  have X0 : Hid (Boxed (w.alloc (.cells (g.cells x) 50)) w.heap.size (g.cells x) 50) := Boxed.new _ _ _
  have c5 : (w.alloc (.cells (g.cells x) 50)).cell? ⟨w.heap.size, 5, none⟩ = some (.slice x.a3 g.tree.length x.c3) := X0.out.cell 5 rfl
  have H := h.below bw
  generalize x.a3 = a3 at c5 H h
  obtain ⟨b1, o1, ha1, hb1, -⟩ := H 0 h0
  subst ha1
  have d4 := (H.cells (k := 0) h0).2.2.2.2
  have hb : Hid (Below w.heap.size w (w.alloc (.cells (g.cells x) 50))) := bw
  unfold Gt.val
  generalize (ndAt g.tree 0).pz.tm = tm at d4 ⊢
  generalize g.cells x = cs at X0 c5 d4 hb ⊢
  generalize g.tree.length = n at c5 h0 hT
  have hi : (0 : Int) < (n : Int) := by omega
  clear H h bw
  obtain ⟨W, hW⟩ : ∃ W, W = w.alloc (.cells cs 50) := ⟨_, rfl⟩
  rw [← hW] at c5 d4 hb
  have HW : Hid (W = _) := hW
  clear hW X0
  go_enter Tryz.func113, Tryz.ntmps113
  go_upto_region 1 with fail
  rw [← HW.out]
  clear HW
  simp only [Nat.zero_mul, Nat.add_zero] at d4
  go_wp2
  go_ret
  exact ⟨rfl, hb.out⟩
end Go.Proofs.YtgebghkcikmfaaaGreatDoor
