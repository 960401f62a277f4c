/-
  The model's drawing between two bounds (l1From). By the verifier.
-/
import Derived.Test.YtfdapmchpikfiaaDraw
namespace Go.Proofs.Ytfdapmchpikfiaa
open Go.RowKit

theorem drawFrom {W : World} {bc : Nat} {a : Option Addr} {len cap : Nat} (hc : Hid (Code W a len)) (lo hi : Int) (h0 : -4294967296 ≤ lo) (h1 : lo ≤ hi) (h2 : hi ≤ 4294967296) (w : World) (cur : Hid (Cur W bc a len cap w)) :
    Calls Try.prog 35 #[.pointer (some ⟨bc, 0, none⟩), .int .i64 lo, .int .i64 hi] w fun e w' => (∃ x : Int, e = .returned (.int .i64 x) ∧ lo ≤ x ∧ x ≤ hi) ∧ Cur W bc a len cap w' ∧ Keep bc w w' := by
  go_enter Try.func35, Try.ntmps35
  go_wp2_with fail
  refine (drawBelow hc (hi - lo + 1) (by omega) _ cur).mono ?_
  rintro e w1 ⟨⟨x, rfl, x0, x1⟩, c1⟩
  have Hc : Hid (Cur W bc a len cap w1 ∧ Keep bc w w1) := c1
  clear c1 cur
  go_wp2
  go_ret
  exact ⟨⟨_, rfl, by omega, by omega⟩, Hc.out⟩
end Go.Proofs.Ytfdapmchpikfiaa
