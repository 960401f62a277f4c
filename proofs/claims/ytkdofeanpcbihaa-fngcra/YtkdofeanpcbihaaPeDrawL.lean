/-
  The model's drawing of the arguments of Leaky. By the verifier, by program.
-/
import Derived.Test.YtkdofeanpcbihaaPeDrawE
namespace Go.Proofs.Ytkdofeanpcbihaa
open Go.RowKit

set_option maxHeartbeats 1600000 in
set_option maxRecDepth 100000 in
theorem dDrawLeaky {W : World} {ac : Option Addr} {len cap : Nat} (hc : Hid (Code W ac len)) (w : World) (bel : Hid (Below W.heap.size W w)) :
    Calls Try.prog 8 #[.slice ac len cap] w fun e w' => (∃ (l : Pe) (now : Int), e = .returned (.tuple #[l.val, .int .i64 now]) ∧ l.drawn ∧ (-1 ≤ now ∧ now ≤ 4611686018427387904)) ∧ Below w.heap.size w w' := by
  have hle := bel.out.size
  have H0 : Hid (Below W.heap.size W (w.alloc (.cells #[.int .i64 0, .int .i64 0, .int .i64 0, .int .i64 0, .int .i64 0] 25))) := bel.out.alloc hle _
  go_enter Try.func8, Try.ntmps8
  go_wp2_with fail
  refine (dDrawEarly hc _ H0).mono ?_
  rintro e w1 ⟨⟨l, now, rfl, h1, h2⟩, b1⟩
  have F : Hid (l.drawn ∧ (-1 ≤ now ∧ now ≤ 4611686018427387904)) := ⟨h1, h2⟩
  have bx : Hid (Below w.heap.size w w1 ∧ Boxed w1 w.heap.size #[.int .i64 0, .int .i64 0, .int .i64 0, .int .i64 0, .int .i64 0] 25) := ⟨((Below.refl _ _).alloc (Nat.le_refl _) _).trans (b1.mono (by simp)), (Boxed.new w _ _).below (by simp) b1⟩
  clear b1 h1 h2 H0
  go_wp2_with (refine wpList_store_row rfl 25 (.tmp 2) (.tmp 6) rfl w.heap.size #[.int .i64 l.gap, .int .i64 l.slack, .int .i64 l.next, .int .i64 l.fill, .int .i64 l.last] rfl rfl _ _ bx.out.2 (by kernel_rfl) rfl (peOnes _ _ _ _ _) ?_)
  exact bodyPost_ret (results_row_tmp Try.results8 _ _ w.heap.size _ _ _ _ (.int .i64 now) rfl rfl (setRow_heap _ _ _ _ _ _ bx.out.2) Try.underlying25 rfl (by kernel_rfl)) rfl ⟨⟨l, now, rfl, F.out.1, F.out.2⟩, below_setRow bx.out.1 (Nat.le_refl _) _⟩
end Go.Proofs.Ytkdofeanpcbihaa
