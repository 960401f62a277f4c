import Derived.Test.YtfdapmchpikfiaaRows
import Derived.WalkKit
import Derived.WalkSpells
import Derived.WalkLawsBesides
import Derived.RowKit3
import Derived.Test.YtfdapmchpikfiaaFrPlain
import Derived.Test.YtfdapmchpikfiaaM0PzPlain
import Derived.Test.YtfdapmchpikfiaaM1DrawCur
import Derived.Test.YtfdapmchpikfiaaStepRow
import Derived.Laws.ResultCell
import Derived.Laws.CopyOwn
import Derived.RegionTactic
/-
  Numbers within bounds, the model's way. By the verifier.
-/
namespace Go.Proofs.Ytfdapmchpikfiaa
open Go.RowKit

theorem ret_bool {a b : Bool} (h : a = b) : Ending.returned (.bool a) = .returned (.bool b) := by rw [h]
theorem ret_num {a b : Int} (h : a = b) : Ending.returned (.int .i64 a) = .returned (.int .i64 b) := by rw [h]
theorem specIn (n lo hi : Int) (w : World) :
    Calls Try.prog 50 #[.int .i64 n, .int .i64 lo, .int .i64 hi] w fun e w' => e = .returned (.bool (inB lo hi n)) ∧ w' = w := by
  by_cases h0 : lo ≤ n
  · by_cases h1 : n ≤ hi
    · have h : inB lo hi n = true := by rw [inB_true]; omega
      rw [h]
      go_enter Try.func50, Try.ntmps50
      go_wp2
      go_ret
      exact ⟨rfl, rfl⟩
    · have h : inB lo hi n = false := by rw [inB_false]; omega
      rw [h]
      go_enter Try.func50, Try.ntmps50
      go_wp2
      go_ret
      exact ⟨rfl, rfl⟩
  · have h : inB lo hi n = false := by rw [inB_false]; omega
    rw [h]
    go_enter Try.func50, Try.ntmps50
    go_wp2
    go_ret
    exact ⟨rfl, rfl⟩
end Go.Proofs.Ytfdapmchpikfiaa

/-
  The model's lesser one of two numbers. By the verifier.
-/
namespace Go.Proofs.Ytfdapmchpikfiaa
open Go.RowKit

theorem specMin (a b : Int) (w : World) :
    Calls Try.prog 63 #[.int .i64 a, .int .i64 b] w fun e w' => e = .returned (.int .i64 (min a b)) ∧ w' = w := by
  by_cases h : a < b
  · go_enter Try.func63, Try.ntmps63
    go_wp2
    go_ret
    exact ⟨ret_num (by omega), rfl⟩
  · go_enter Try.func63, Try.ntmps63
    go_wp2
    go_ret
    exact ⟨ret_num (by omega), rfl⟩
end Go.Proofs.Ytfdapmchpikfiaa

/-
  The walks of the model's purses. By the verifier.
-/
namespace Go.Proofs.Ytfdapmchpikfiaa
open Go.RowKit

theorem specTm (t : Int) (w : World) :
    Calls Try.prog 59 #[.int .i64 t] w fun e w' => e = .returned (.bool (inB 0 1099511627776 t)) ∧ w' = w := by
  go_enter Try.func59, Try.ntmps59
  go_wp2_with (go_at_call 50; refine (specIn _ _ _ _).mono ?_; rintro e w' ⟨rfl, rfl⟩)
  go_ret
  exact ⟨rfl, rfl⟩
set_option maxHeartbeats 1600000 in
theorem specPurseOk (p : Pz) (w : World) :
    Calls Try.prog 46 #[p.val] w fun e w' => e = .returned (.bool p.ok) ∧ w' = w.alloc (.cells p.cells.toArray 38) := by
  have Hok : Hid (p.ok = (inB 0 1000 p.rate && (inB 1 100000 p.burst && (inB 0 p.burst p.level && inB 0 1099511627776 p.tm)))) := rfl
  obtain ⟨v0, v1, v2, v3⟩ := p
  generalize Pz.ok _ = ok at Hok ⊢
  simp only [Pz.val, Pz.cells] at Hok ⊢
  have A1 := fun w => specIn v0 0 1000 w
  have A2 := fun w => specIn v1 1 100000 w
  have A3 := fun w => specIn v2 0 v1 w
  have A4 := fun w => specTm v3 w
  generalize inB 0 1000 v0 = b1 at A1 Hok
  generalize inB 1 100000 v1 = b2 at A2 Hok
  generalize inB 0 v1 v2 = b3 at A3 Hok
  generalize inB 0 1099511627776 v3 = b4 at A4 Hok
  have A1' : Hid _ := A1
  have A2' : Hid _ := A2
  have A3' : Hid _ := A3
  have A4' : Hid _ := A4
  clear A1 A2 A3 A4
  go_enter Try.func46, Try.ntmps46
  go_wp2_with fail
  refine (A1'.out _).mono ?_
  rintro e w' ⟨rfl, rfl⟩
  cases b1
  · go_wp2
    go_ret
    exact ⟨ret_bool (by rw [Hok.out]; rfl), rfl⟩
  go_wp2_with fail
  refine (A2'.out _).mono ?_
  rintro e w' ⟨rfl, rfl⟩
  cases b2
  · go_wp2
    go_ret
    exact ⟨ret_bool (by rw [Hok.out]; rfl), rfl⟩
  go_wp2_with fail
  refine (A3'.out _).mono ?_
  rintro e w' ⟨rfl, rfl⟩
  cases b3
  · go_wp2
    go_ret
    exact ⟨ret_bool (by rw [Hok.out]; rfl), rfl⟩
  go_wp2_with fail
  refine (A4'.out _).mono ?_
  rintro e w' ⟨rfl, rfl⟩
  go_wp2
  go_ret
  exact ⟨ret_bool (by rw [Hok.out]; rfl), rfl⟩
theorem specPurseOkB (p : Pz) (w : World) :
    Calls Try.prog 46 #[p.val] w fun e w' => e = .returned (.bool p.ok) ∧ Below w.heap.size w w' :=
  (specPurseOk p w).mono fun _ _ h => ⟨h.1, by rw [h.2]; exact (Below.refl _ _).alloc (Nat.le_refl _) _⟩

end Go.Proofs.Ytfdapmchpikfiaa

/-
  The walks of the model's purses. By the verifier.
-/
namespace Go.Proofs.Ytfdapmchpikfiaa
open Go.RowKit

set_option maxHeartbeats 3200000 in
set_option maxRecDepth 100000 in
theorem specWhenL (p : Pz) (n : Int) (w : World) (hok : p.ok = true) (h0 : 0 ≤ n) (h63 : n ≤ 9223372036854775807) :
    Calls Try.prog 61 #[p.val, .int .i64 n] w fun e w' => e = .returned (.int .i64 (p.whenL n)) ∧ Below w.heap.size w w' := by
  have h := Pz.ok_iff.1 hok
  unfold Pz.whenL
  obtain ⟨v0, v1, v2, v3⟩ := p
  simp only [Pz.val] at h ⊢
  have H : Hid (Below w.heap.size w (w.alloc (.cells #[.int .i64 v0, .int .i64 v1, .int .i64 v2, .int .i64 v3] 38))) := (Below.refl _ w).alloc (Nat.le_refl _) _
  by_cases h1 : n ≤ v2
  · rw [if_pos h1]
    go_enter Try.func61, Try.ntmps61
    go_wp2
    go_ret
    exact ⟨rfl, H.out⟩
  rw [if_neg h1]
  by_cases h2 : v0 = 0
  · rw [if_pos (.inl h2)]
    subst h2
    go_enter Try.func61, Try.ntmps61
    go_wp2
    go_ret
    exact ⟨rfl, H.out⟩
  by_cases h3 : v1 < n
  · rw [if_pos (.inr h3)]
    go_enter Try.func61, Try.ntmps61
    go_wp2
    go_ret
    exact ⟨rfl, H.out⟩
  rw [if_neg (by omega)]
  have hd0 : 0 ≤ (n - v2 + v0 - 1) / v0 := Int.ediv_nonneg (by omega) (by omega)
  have hd1 : (n - v2 + v0 - 1) / v0 ≤ n - v2 + v0 - 1 := Int.ediv_le_self _ (by omega)
  have k1 : IntKind.i64.wrap (n - v2) = n - v2 := by rw [IntKind.wrap_i64]; omega
  have k2 : IntKind.i64.wrap (n - v2 + v0) = n - v2 + v0 := by rw [IntKind.wrap_i64]; omega
  have k3 : IntKind.i64.wrap (n - v2 + v0 - 1) = n - v2 + v0 - 1 := by rw [IntKind.wrap_i64]; omega
  have kd : Int.tdiv (n - v2 + v0 - 1) v0 = (n - v2 + v0 - 1) / v0 := Int.tdiv_eq_ediv_of_nonneg (by omega)
  have k4 : IntKind.i64.wrap ((n - v2 + v0 - 1) / v0) = (n - v2 + v0 - 1) / v0 := by rw [IntKind.wrap_i64]; omega
  have k5 : IntKind.i64.wrap (v3 + (n - v2 + v0 - 1) / v0) = v3 + (n - v2 + v0 - 1) / v0 := by rw [IntKind.wrap_i64]; omega
  have H2 : Hid (Below w.heap.size w (w.alloc (.cells #[.int .i64 v0, .int .i64 v1, .int .i64 v2, .int .i64 v3] 38)).drew) := H.out.drew
  by_cases h4 : 1099511627776 < v3 + (n - v2 + v0 - 1) / v0
  · rw [if_pos h4]
    go_enter Try.func61, Try.ntmps61
    go_wp2
    go_region
    all_goals (
      go_wp2
      go_ret
      exact ⟨rfl, H2.out⟩)
  · rw [if_neg h4]
    go_enter Try.func61, Try.ntmps61
    go_wp2
    go_region
    all_goals (
      go_wp2
      go_ret
      exact ⟨rfl, H2.out⟩)

end Go.Proofs.Ytfdapmchpikfiaa
