/-
  The walk of the program's added, the table of divisors given. By the verifier.
-/
import Derived.Test.YtemegnfefjcdaaaDoorSrImpl
import Derived.Test.YtemegnfefjcdaaaDoorDvOf
namespace Go.Proofs.YtemegnfefjcdaaaDoor
open Go.RowKit

set_option maxHeartbeats 1600000 in
set_option maxRecDepth 100000 in
theorem implAdded (p : Sr) (d : Int) (w : World) (hD : Dv w) (hok : p.ok = true) (hd : inB 0 100000 d = true) :
    Calls Tryd.prog 26 #[p.val, .int .i64 d] w fun e w' => e = .returned (.int .i64 (Int.tdiv (p.add d) (byOf p.prob))) ∧ Below w.heap.size w w' := by
  obtain ⟨k1, k2, k3, k4, k5, k6, k7⟩ := Sr.wraps hok hd
  have b0 := (byOf_in p.prob).1
  have C := fun w h => implDivisorOf p.prob w h
  generalize p.add d = X at k5 k6 k7 ⊢
  generalize byOf p.prob = B at k6 k7 b0 C ⊢
  generalize hQ : Int.tdiv X B = Q at k6 k7 ⊢
  have k8 : IntKind.i64.wrap (Int.tdiv X B) = Q := by rw [hQ]; exact k6
  clear k6 k7 hQ
  obtain ⟨v0, v1, v2⟩ := p
  simp only [Sr.val] at k1 k2 k3 k4 k5 C ⊢
  clear hok hd
  have C' : Hid _ := C
  clear C
  have bz : ¬ B = 0 := by omega
  clear b0
  have Y : Hid (Boxed (w.alloc (.cells #[.int .i64 v0, .int .i64 v1, .int .i64 v2] 25)) w.heap.size #[.int .i64 v0, .int .i64 v1, .int .i64 v2] 25 ∧ Below w.heap.size w (w.alloc (.cells #[.int .i64 v0, .int .i64 v1, .int .i64 v2] 25)) ∧ Dv (w.alloc (.cells #[.int .i64 v0, .int .i64 v1, .int .i64 v2] 25))) :=
    ⟨Boxed.new _ _ _, (Below.refl _ _).alloc (Nat.le_refl _) _, hD.on ((Below.refl _ _).alloc (Nat.le_refl _) _)⟩
  clear hD
  go_enter Tryd.func26, Tryd.ntmps26
  go_wp2_with fail
  refine (C'.out _ Y.out.2.2).mono ?_
  rintro e w1 ⟨rfl, q⟩
  have Y1 : Hid (Below w.heap.size w w1) := Y.out.2.1.trans (q.mono Y.out.2.1.size)
  clear q Y
  go_wp2
  go_ret
  exact ⟨rfl, Y1.out⟩
end Go.Proofs.YtemegnfefjcdaaaDoor
