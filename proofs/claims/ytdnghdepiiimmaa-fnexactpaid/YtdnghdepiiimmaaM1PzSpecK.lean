import Derived.Test.YtdnghdepiiimmaaRows
import Derived.WalkKit
import Derived.WalkSpells
import Derived.WalkLawsBesides
import Derived.RowKit3
import Derived.Test.YtdnghdepiiimmaaFrPlain
import Derived.Test.YtdnghdepiiimmaaM0PzEq
import Derived.Test.YtdnghdepiiimmaaBoxed
import Derived.Test.YtdnghdepiiimmaaStepRow
import Derived.Laws.ResultCell
import Derived.Laws.CopyOwn
import Derived.RegionTactic
/-
  Numbers within bounds, the model's way. By the verifier.
-/
namespace Go.Proofs.Ytdnghdepiiimmaa
open Go.RowKit

theorem ret_bool {a b : Bool} (h : a = b) : Ending.returned (.bool a) = .returned (.bool b) := by rw [h]
theorem ret_num {a b : Int} (h : a = b) : Ending.returned (.int .i64 a) = .returned (.int .i64 b) := by rw [h]
theorem specIn (n lo hi : Int) (w : World) :
    Calls Try.prog 40 #[.int .i64 n, .int .i64 lo, .int .i64 hi] w fun e w' => e = .returned (.bool (inB lo hi n)) ∧ w' = w := by
  by_cases h0 : lo ≤ n
  · by_cases h1 : n ≤ hi
    · have h : inB lo hi n = true := by rw [inB_true]; omega
      rw [h]
      go_enter Try.func40, Try.ntmps40
      go_wp2
      go_ret
      exact ⟨rfl, rfl⟩
    · have h : inB lo hi n = false := by rw [inB_false]; omega
      rw [h]
      go_enter Try.func40, Try.ntmps40
      go_wp2
      go_ret
      exact ⟨rfl, rfl⟩
  · have h : inB lo hi n = false := by rw [inB_false]; omega
    rw [h]
    go_enter Try.func40, Try.ntmps40
    go_wp2
    go_ret
    exact ⟨rfl, rfl⟩
end Go.Proofs.Ytdnghdepiiimmaa

/-
  The model's lesser one of two numbers. By the verifier.
-/
namespace Go.Proofs.Ytdnghdepiiimmaa
open Go.RowKit

theorem specMin (a b : Int) (w : World) :
    Calls Try.prog 56 #[.int .i64 a, .int .i64 b] w fun e w' => e = .returned (.int .i64 (min a b)) ∧ w' = w := by
  by_cases h : a < b
  · go_enter Try.func56, Try.ntmps56
    go_wp2
    go_ret
    exact ⟨ret_num (by omega), rfl⟩
  · go_enter Try.func56, Try.ntmps56
    go_wp2
    go_ret
    exact ⟨ret_num (by omega), rfl⟩
end Go.Proofs.Ytdnghdepiiimmaa

/-
  The walks of the model's purses. By the verifier.
-/
namespace Go.Proofs.Ytdnghdepiiimmaa
open Go.RowKit

theorem specTm (t : Int) (w : World) :
    Calls Try.prog 51 #[.int .i64 t] w fun e w' => e = .returned (.bool (inB 0 1099511627776 t)) ∧ w' = w := by
  go_enter Try.func51, Try.ntmps51
  go_wp2_with (go_at_call 40; refine (specIn _ _ _ _).mono ?_; rintro e w' ⟨rfl, rfl⟩)
  go_ret
  exact ⟨rfl, rfl⟩
set_option maxHeartbeats 1600000 in
theorem specPurseOk (p : Pz) (w : World) :
    Calls Try.prog 29 #[p.val] w fun e w' => e = .returned (.bool p.ok) ∧ w' = w.alloc (.cells p.cells.toArray 42) := by
  have Hok : Hid (p.ok = (inB 0 1000 p.rate && (inB 1 100000 p.burst && (inB 0 p.burst p.level && inB 0 1099511627776 p.tm)))) := rfl
  obtain ⟨v0, v1, v2, v3⟩ := p
  generalize Pz.ok _ = ok at Hok ⊢
  simp only [Pz.val, Pz.cells] at Hok ⊢
  have A1 := fun w => specIn v0 0 1000 w
  have A2 := fun w => specIn v1 1 100000 w
  have A3 := fun w => specIn v2 0 v1 w
  have A4 := fun w => specTm v3 w
  generalize inB 0 1000 v0 = b1 at A1 Hok
  generalize inB 1 100000 v1 = b2 at A2 Hok
  generalize inB 0 v1 v2 = b3 at A3 Hok
  generalize inB 0 1099511627776 v3 = b4 at A4 Hok
  have A1' : Hid _ := A1
  have A2' : Hid _ := A2
  have A3' : Hid _ := A3
  have A4' : Hid _ := A4
  clear A1 A2 A3 A4
  go_enter Try.func29, Try.ntmps29
  go_wp2_with fail
  refine (A1'.out _).mono ?_
  rintro e w' ⟨rfl, rfl⟩
  cases b1
  · go_wp2
    go_ret
    exact ⟨ret_bool (by rw [Hok.out]; rfl), rfl⟩
  go_wp2_with fail
  refine (A2'.out _).mono ?_
  rintro e w' ⟨rfl, rfl⟩
  cases b2
  · go_wp2
    go_ret
    exact ⟨ret_bool (by rw [Hok.out]; rfl), rfl⟩
  go_wp2_with fail
  refine (A3'.out _).mono ?_
  rintro e w' ⟨rfl, rfl⟩
  cases b3
  · go_wp2
    go_ret
    exact ⟨ret_bool (by rw [Hok.out]; rfl), rfl⟩
  go_wp2_with fail
  refine (A4'.out _).mono ?_
  rintro e w' ⟨rfl, rfl⟩
  go_wp2
  go_ret
  exact ⟨ret_bool (by rw [Hok.out]; rfl), rfl⟩
theorem specPurseOkB (p : Pz) (w : World) :
    Calls Try.prog 29 #[p.val] w fun e w' => e = .returned (.bool p.ok) ∧ Below w.heap.size w w' :=
  (specPurseOk p w).mono fun _ _ h => ⟨h.1, by rw [h.2]; exact (Below.refl _ _).alloc (Nat.le_refl _) _⟩

end Go.Proofs.Ytdnghdepiiimmaa
