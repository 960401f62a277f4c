/-
  The walks of the model's purses. By the verifier.
-/
import Derived.Test.YtfdapmchpikfiaaM2PzSpecF
import Derived.Test.YtfdapmchpikfiaaM1DrawCur
import Derived.Test.YtfdapmchpikfiaaStepRow
import Derived.Laws.ResultCell
import Derived.Laws.CopyOwn
import Derived.WalkKit
import Derived.WalkSpells
import Derived.WalkLawsBesides
import Derived.RegionTactic
namespace Go.Proofs.Ytfdapmchpikfiaa
open Go.RowKit

set_option maxHeartbeats 3200000 in
set_option maxRecDepth 100000 in
theorem specWhenL (p : Pz) (n : Int) (w : World) (hok : p.ok = true) (h0 : 0 ≤ n) (h63 : n ≤ 9223372036854775807) :
    Calls Try.prog 61 #[p.val, .int .i64 n] w fun e w' => e = .returned (.int .i64 (p.whenL n)) ∧ Below w.heap.size w w' := by
  have h := Pz.ok_iff.1 hok
  unfold Pz.whenL
  obtain ⟨v0, v1, v2, v3⟩ := p
  simp only [Pz.val] at h ⊢
  have H : Hid (Below w.heap.size w (w.alloc (.cells #[.int .i64 v0, .int .i64 v1, .int .i64 v2, .int .i64 v3] 38))) := (Below.refl _ w).alloc (Nat.le_refl _) _
  by_cases h1 : n ≤ v2
  · rw [if_pos h1]
    go_enter Try.func61, Try.ntmps61
    go_wp2
    go_ret
    exact ⟨rfl, H.out⟩
  rw [if_neg h1]
  by_cases h2 : v0 = 0
  · rw [if_pos (.inl h2)]
    subst h2
    go_enter Try.func61, Try.ntmps61
    go_wp2
    go_ret
    exact ⟨rfl, H.out⟩
  by_cases h3 : v1 < n
  · rw [if_pos (.inr h3)]
    go_enter Try.func61, Try.ntmps61
    go_wp2
    go_ret
    exact ⟨rfl, H.out⟩
  rw [if_neg (by omega)]
  have hd0 : 0 ≤ (n - v2 + v0 - 1) / v0 := Int.ediv_nonneg (by omega) (by omega)
  have hd1 : (n - v2 + v0 - 1) / v0 ≤ n - v2 + v0 - 1 := Int.ediv_le_self _ (by omega)
  have k1 : IntKind.i64.wrap (n - v2) = n - v2 := by rw [IntKind.wrap_i64]; omega
  have k2 : IntKind.i64.wrap (n - v2 + v0) = n - v2 + v0 := by rw [IntKind.wrap_i64]; omega
  have k3 : IntKind.i64.wrap (n - v2 + v0 - 1) = n - v2 + v0 - 1 := by rw [IntKind.wrap_i64]; omega
  have kd : Int.tdiv (n - v2 + v0 - 1) v0 = (n - v2 + v0 - 1) / v0 := Int.tdiv_eq_ediv_of_nonneg (by omega)
  have k4 : IntKind.i64.wrap ((n - v2 + v0 - 1) / v0) = (n - v2 + v0 - 1) / v0 := by rw [IntKind.wrap_i64]; omega
  have k5 : IntKind.i64.wrap (v3 + (n - v2 + v0 - 1) / v0) = v3 + (n - v2 + v0 - 1) / v0 := by rw [IntKind.wrap_i64]; omega
  have H2 : Hid (Below w.heap.size w (w.alloc (.cells #[.int .i64 v0, .int .i64 v1, .int .i64 v2, .int .i64 v3] 38)).drew) := H.out.drew
  by_cases h4 : 1099511627776 < v3 + (n - v2 + v0 - 1) / v0
  · rw [if_pos h4]
    go_enter Try.func61, Try.ntmps61
    go_wp2
    go_region
    all_goals (
      go_wp2
      go_ret
      exact ⟨rfl, H2.out⟩)
  · rw [if_neg h4]
    go_enter Try.func61, Try.ntmps61
    go_wp2
    go_region
    all_goals (
      go_wp2
      go_ret
      exact ⟨rfl, H2.out⟩)

end Go.Proofs.Ytfdapmchpikfiaa
