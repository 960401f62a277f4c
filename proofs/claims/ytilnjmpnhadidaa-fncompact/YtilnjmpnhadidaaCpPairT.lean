/-
  The walk of the model's Paired, its face. By the verifier.
-/
import Derived.Test.YtilnjmpnhadidaaCpPairS
import Derived.Test.YtilnjmpnhadidaaCpPair
namespace Go.Proofs.Ytilnjmpnhadidaa
open Go.RowKit

theorem pairV_length (l : List Rt) (h : l.length ≤ 1048576) : (pairV l).length ≤ 1048576 := by
  unfold pairV
  split
  · rename_i hok
    have := pair_length (fine_of hok)
    omega
  · simp

set_option maxHeartbeats 1600000 in
theorem specPair (a : Option Addr) (cap : Nat) (l : List Rt) (w : World) (hT : l.length ≤ 1048576) (hn : a = none → cap = 0) (h : Hid (RtsAt w a l)) :
    Calls Try.prog 18 #[.slice a l.length cap] w fun e w' => (∃ v', e = .returned v' ∧ RRow w.heap.size w' v' (pairV l)) ∧ Below w.heap.size w w' := by
  have C := fun w h => specOk a cap l w hT h
  unfold pairV
  cases hok : rtsOk l
  · simp only [Bool.false_eq_true, if_false]
    rw [hok] at C
    have C' : Hid _ := C
    clear C hok
    generalize l.length = len at C' ⊢
    go_enter Try.func18, Try.ntmps18
    go_wp2_with fail
    refine (C'.out _ h).mono ?_
    rintro e w1 ⟨rfl, b1⟩
    have B : Hid (Below w.heap.size w w1) := b1
    clear b1
    go_wp2
    go_ret
    exact ⟨⟨_, rfl, row_built _ _ B.out.size⟩, B.out.alloc B.out.size _⟩
  · simp only [if_true]
    rw [hok] at C
    have T := fun w h => specPairL a cap l w (ok_all hok).1 (fine_of hok) hn h
    have T' : Hid _ := T
    have C' : Hid _ := C
    clear C T hok
    generalize l.length = len at C' T' ⊢
    go_enter Try.func18, Try.ntmps18
    go_wp2_with fail
    refine (C'.out _ h).mono ?_
    rintro e w1 ⟨rfl, b1⟩
    have B : Hid (Below w.heap.size w w1) := b1
    clear b1
    go_wp2_with fail
    refine (T'.out _ (h.out.below B.out)).mono ?_
    rintro e w2 ⟨⟨v2, rfl, r2, _⟩, b2⟩
    have X : Hid (RRow w.heap.size w2 v2 (pairL l) ∧ Below w.heap.size w w2) := ⟨r2.mono B.out.size, B.out.trans (b2.mono B.out.size)⟩
    clear r2 b2
    go_wp2
    go_ret
    exact ⟨⟨_, rfl, X.out.1⟩, X.out.2⟩
end Go.Proofs.Ytilnjmpnhadidaa
