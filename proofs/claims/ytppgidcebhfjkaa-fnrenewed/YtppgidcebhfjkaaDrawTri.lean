/-
  The model's drawing of Renewed's arguments; the law's own choice of a place. By the verifier.
-/
import Derived.Test.YtppgidcebhfjkaaDrawWord
namespace Go.Proofs.Ytppgidcebhfjkaa
open Go.RowKit

set_option maxHeartbeats 800000 in
theorem drawRenewed {W : World} {a : Option Addr} {len cap : Nat} (hc : Hid (Code W a len)) (w : World) (bel : Hid (Below W.heap.size W w)) :
    Calls Try.prog 5 #[.slice a len cap] w fun e w' => (∃ x y z : Int, e = .returned (.tuple #[.int .i64 x, .int .i64 y, .int .i64 z]) ∧ (-1 ≤ x ∧ x ≤ 65536) ∧ (-1 ≤ y ∧ y ≤ 65536) ∧ (-1 ≤ z ∧ z ≤ 65536)) ∧ Below W.heap.size W w' := by
  go_enter Try.func5, Try.ntmps5
  go_wp2_with fail
  refine (drawNew hc _ bel).mono ?_
  rintro e w1 ⟨rfl, c1, -⟩
  generalize w.heap.size = bc at c1 ⊢
  have H1 : Hid (Cur W bc a len cap w1) := c1
  clear c1 bel
  go_wp2_with fail
  refine (drawWord hc _ H1.out).mono ?_
  rintro e w2 ⟨⟨x, rfl, x0, x1⟩, c2, k2⟩
  have H2 : Hid (Cur W bc a len cap w2) := c2
  clear c2 k2 H1
  go_wp2_with fail
  refine (drawWord hc _ H2.out).mono ?_
  rintro e w3 ⟨⟨y, rfl, y0, y1⟩, c3, k3⟩
  have H3 : Hid (Cur W bc a len cap w3) := c3
  clear c3 k3 H2
  go_wp2_with fail
  refine (drawWord hc _ H3.out).mono ?_
  rintro e w4 ⟨⟨z, rfl, z0, z1⟩, c4, k4⟩
  have H4 : Hid (Below W.heap.size W w4) := c4.bel
  clear c4 k4 H3
  go_wp2
  refine bodyPost_ret (v := .tuple #[.int .i64 x, .int .i64 y, .int .i64 z]) (by simp [results, Try.results5, go_sem]) rfl ?_
  exact ⟨⟨x, y, z, rfl, ⟨x0, x1⟩, ⟨y0, y1⟩, ⟨z0, z1⟩⟩, H4.out⟩
end Go.Proofs.Ytppgidcebhfjkaa
