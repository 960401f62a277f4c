/-
  The walks of the model's chances. By the verifier.
-/
import Derived.Test.YtlednodibgcpeaaCoPlain
import Derived.Test.YtlednodibgcpeaaNumIn
import Derived.Test.YtlednodibgcpeaaNumMin
import Derived.WalkKit
import Derived.WalkSpells
import Derived.WalkLawsBesides
namespace Go.Proofs.Ytlednodibgcpeaa
open Go.RowKit

theorem specProb (p : Int) (w : World) :
    Calls Try.prog 28 #[.int .i64 p] w fun e w' => e = .returned (.bool (inB 0 1048576 p)) ∧ w' = w := by
  go_enter Try.func28, Try.ntmps28
  go_wp2_with (go_at_call 29; refine (specIn _ _ _ _).mono ?_; rintro e w' ⟨rfl, rfl⟩)
  go_ret
  exact ⟨rfl, rfl⟩
/-- The numbers that come up on the way. -/
theorem sq_wraps {p : Int} (h0 : 0 ≤ p) (h1 : p ≤ 1048576) : IntKind.i64.wrap (p * p) = p * p ∧ Int.tdiv (p * p) 1048576 = p * p / 1048576 ∧ IntKind.i64.wrap (p * p / 1048576) = p * p / 1048576 := by
  have h2 := mul_in h0 h1 h0 h1
  have h3 := sq_le h0 h1
  refine ⟨by rw [IntKind.wrap_i64]; omega, Int.tdiv_eq_ediv_of_nonneg h2.1, by rw [IntKind.wrap_i64]; omega⟩
theorem cp_wraps {p f : Int} (h : coB p f = true) : IntKind.i64.wrap (p * f) = p * f := by
  have h1 := coB_iff.1 h
  have h2 := mul_in h1.1.1 h1.1.2 (show 0 ≤ f by omega) h1.2.2
  rw [IntKind.wrap_i64]
  omega

set_option maxHeartbeats 1600000 in
theorem specSquared (p : Int) (w : World) :
    Calls Try.prog 18 #[.int .i64 p] w fun e w' => e = .returned (.int .i64 (sqO p)) ∧ w' = w := by
  have A1 := fun w => specProb p w
  have Hv : Hid (sqO p = if inB 0 1048576 p = true then p * p / 1048576 else -1) := rfl
  have HW : Hid (inB 0 1048576 p = true → IntKind.i64.wrap (p * p) = p * p ∧ Int.tdiv (p * p) 1048576 = p * p / 1048576 ∧ IntKind.i64.wrap (p * p / 1048576) = p * p / 1048576) := fun h => by
    rw [inB_true] at h
    exact sq_wraps h.1 h.2
  generalize sqO p = F at Hv ⊢
  generalize inB 0 1048576 p = b at A1 Hv HW
  have A1' : Hid _ := A1
  clear A1
  go_enter Try.func18, Try.ntmps18
  go_wp2_with fail
  refine (A1'.out _).mono ?_
  rintro e w' ⟨rfl, rfl⟩
  cases b
  · go_wp2
    go_ret
    exact ⟨ret_num (by rw [Hv.out]; rfl), rfl⟩
  · obtain ⟨k1, k2, k3⟩ := HW.out (by first | exact trivial | exact rfl)
    go_wp2
    go_ret
    exact ⟨ret_num (by rw [Hv.out]; rfl), rfl⟩

set_option maxHeartbeats 1600000 in
theorem specCoupled (p f : Int) (w : World) :
    Calls Try.prog 17 #[.int .i64 p, .int .i64 f] w fun e w' => e = .returned (.int .i64 (cpO p f)) ∧ w' = w := by
  have A1 := fun w => specProb p w
  have A2 := fun w => specIn f 1 8 w
  have A3 := fun w => specMin 1048576 (p * f) w
  have Hv : Hid (cpO p f = if (inB 0 1048576 p && inB 1 8 f) = true then min 1048576 (p * f) else -1) := rfl
  have HW : Hid (inB 0 1048576 p = true → inB 1 8 f = true → IntKind.i64.wrap (p * f) = p * f) := fun h1 h2 => cp_wraps (by unfold coB; rw [h1, h2]; rfl)
  generalize cpO p f = F at Hv ⊢
  generalize inB 0 1048576 p = b at A1 Hv HW
  generalize inB 1 8 f = c at A2 Hv HW
  generalize min 1048576 (p * f) = m at A3 Hv
  have A1' : Hid _ := A1
  have A2' : Hid _ := A2
  have A3' : Hid _ := A3
  clear A1 A2 A3
  go_enter Try.func17, Try.ntmps17
  go_wp2_with fail
  refine (A1'.out _).mono ?_
  rintro e w' ⟨rfl, rfl⟩
  cases b
  · go_wp2
    go_ret
    exact ⟨ret_num (by rw [Hv.out]; rfl), rfl⟩
  go_wp2_with fail
  refine (A2'.out _).mono ?_
  rintro e w' ⟨rfl, rfl⟩
  cases c
  · go_wp2
    go_ret
    exact ⟨ret_num (by rw [Hv.out]; rfl), rfl⟩
  have k1 := HW.out (by first | exact trivial | exact rfl) (by first | exact trivial | exact rfl)
  go_wp2_with fail
  refine (A3'.out _).mono ?_
  rintro e w' ⟨rfl, rfl⟩
  go_wp2
  go_ret
  exact ⟨ret_num (by rw [Hv.out]; rfl), rfl⟩

set_option maxHeartbeats 1600000 in
theorem specFair (p f : Int) (w : World) :
    Calls Try.prog 19 #[.int .i64 p, .int .i64 f] w fun e w' => e = .returned (.int .i64 (frO p f)) ∧ w' = w := by
  have A1 := fun w => specProb p w
  have A2 := fun w => specIn f 1 8 w
  have A3 := fun w => specMin 1048576 (p * f) w
  have Hv : Hid (frO p f = if (inB 0 1048576 p && inB 1 8 f) = true then min 1048576 (p * f) * min 1048576 (p * f) / 1048576 / (f * f) else -1) := rfl
  have HW : Hid (inB 0 1048576 p = true → inB 1 8 f = true → IntKind.i64.wrap (p * f) = p * f ∧ (0 ≤ min 1048576 (p * f) ∧ min 1048576 (p * f) ≤ 1048576) ∧ 1 ≤ f ∧ f ≤ 8) := fun h1 h2 => by
    have h : coB p f = true := by unfold coB; rw [h1, h2]; rfl
    have h3 := cpV_in h
    have h4 := coB_iff.1 h
    exact ⟨cp_wraps h, ⟨h3.1, h3.2.1⟩, h4.2⟩
  generalize frO p f = F at Hv ⊢
  generalize inB 0 1048576 p = b at A1 Hv HW
  generalize inB 1 8 f = c at A2 Hv HW
  generalize min 1048576 (p * f) = m at A3 Hv HW
  have A1' : Hid _ := A1
  have A2' : Hid _ := A2
  have A3' : Hid _ := A3
  clear A1 A2 A3
  go_enter Try.func19, Try.ntmps19
  go_wp2_with fail
  refine (A1'.out _).mono ?_
  rintro e w' ⟨rfl, rfl⟩
  cases b
  · go_wp2
    go_ret
    exact ⟨ret_num (by rw [Hv.out]; rfl), rfl⟩
  go_wp2_with fail
  refine (A2'.out _).mono ?_
  rintro e w' ⟨rfl, rfl⟩
  cases c
  · go_wp2
    go_ret
    exact ⟨ret_num (by rw [Hv.out]; rfl), rfl⟩
  obtain ⟨k1, hm, hf⟩ := HW.out (by first | exact trivial | exact rfl) (by first | exact trivial | exact rfl)
  obtain ⟨k2, k3, k4⟩ := sq_wraps hm.1 hm.2
  have q := sq_le hm.1 hm.2
  have ff := mul_in (show 0 ≤ f by omega) hf.2 (show 0 ≤ f by omega) hf.2
  have f1 : 0 < f * f := Int.mul_pos (by omega) (by omega)
  have k5 : IntKind.i64.wrap (f * f) = f * f := by rw [IntKind.wrap_i64]; omega
  have k6 : Int.tdiv (m * m / 1048576) (f * f) = m * m / 1048576 / (f * f) := Int.tdiv_eq_ediv_of_nonneg q.1
  have g0 : 0 ≤ m * m / 1048576 / (f * f) := Int.ediv_nonneg q.1 (by omega)
  have g1 : m * m / 1048576 / (f * f) ≤ m * m / 1048576 := Int.ediv_le_self _ q.1
  have k7 : IntKind.i64.wrap (m * m / 1048576 / (f * f)) = m * m / 1048576 / (f * f) := by rw [IntKind.wrap_i64]; omega
  have k8 : ¬ f * f = 0 := by omega
  clear q ff f1 g0 g1 hm hf
  go_wp2_with fail
  refine (A3'.out _).mono ?_
  rintro e w' ⟨rfl, rfl⟩
  go_wp2
  go_ret
  exact ⟨ret_num (by rw [Hv.out]; rfl), rfl⟩

set_option maxHeartbeats 1600000 in
theorem specChoice (p f : Int) (g : Bool) (x : Int) (w : World) :
    Calls Try.prog 20 #[.int .i64 p, .int .i64 f, .bool g, .int .i64 x] w fun e w' => e = .returned (.int .i64 (chO p f g x)) ∧ w' = w := by
  have A1 := fun w => specProb p w
  have A2 := fun w => specIn f 1 8 w
  have A3 := fun w => specMin 1048576 (p * f) w
  have A4 := fun w => specIn x 0 1048575 w
  have Hv : Hid (chO p f g x = if ((inB 0 1048576 p && inB 1 8 f) && inB 0 1048575 x) = true then (if g = true then (if x < min 1048576 (p * f) then 1 else 0) else (if x < p * p / 1048576 then 2 else 0)) else 3) := rfl
  have HW : Hid (inB 0 1048576 p = true → inB 1 8 f = true → IntKind.i64.wrap (p * f) = p * f ∧ IntKind.i64.wrap (p * p) = p * p ∧ Int.tdiv (p * p) 1048576 = p * p / 1048576 ∧ IntKind.i64.wrap (p * p / 1048576) = p * p / 1048576) := fun h1 h2 => by
    refine ⟨cp_wraps (by unfold coB; rw [h1, h2]; rfl), ?_⟩
    rw [inB_true] at h1
    exact sq_wraps h1.1 h1.2
  generalize chO p f g x = F at Hv ⊢
  generalize inB 0 1048576 p = b at A1 Hv HW
  generalize inB 1 8 f = c at A2 Hv HW
  generalize min 1048576 (p * f) = m at A3 Hv
  generalize inB 0 1048575 x = d at A4 Hv
  have A1' : Hid _ := A1
  have A2' : Hid _ := A2
  have A3' : Hid _ := A3
  have A4' : Hid _ := A4
  clear A1 A2 A3 A4
  go_enter Try.func20, Try.ntmps20
  go_wp2_with fail
  refine (A1'.out _).mono ?_
  rintro e w' ⟨rfl, rfl⟩
  cases b
  · go_wp2
    go_ret
    exact ⟨ret_num (by rw [Hv.out]; rfl), rfl⟩
  go_wp2_with fail
  refine (A2'.out _).mono ?_
  rintro e w' ⟨rfl, rfl⟩
  cases c
  · go_wp2
    go_ret
    exact ⟨ret_num (by rw [Hv.out]; rfl), rfl⟩
  go_wp2_with fail
  refine (A4'.out _).mono ?_
  rintro e w' ⟨rfl, rfl⟩
  cases d
  · go_wp2
    go_ret
    exact ⟨ret_num (by rw [Hv.out]; rfl), rfl⟩
  obtain ⟨k1, k2, k3, k4⟩ := HW.out (by first | exact trivial | exact rfl) (by first | exact trivial | exact rfl)
  cases g
  · by_cases h : x < p * p / 1048576
    · go_wp2
      go_ret
      exact ⟨ret_num (by rw [Hv.out]; simp [h]), rfl⟩
    · go_wp2
      go_ret
      exact ⟨ret_num (by rw [Hv.out]; simp; omega), rfl⟩
  · go_wp2_with fail
    refine (A3'.out _).mono ?_
    rintro e w' ⟨rfl, rfl⟩
    by_cases h : x < m
    · go_wp2
      go_ret
      exact ⟨ret_num (by rw [Hv.out]; simp [h]), rfl⟩
    · go_wp2
      go_ret
      exact ⟨ret_num (by rw [Hv.out]; simp; omega), rfl⟩
end Go.Proofs.Ytlednodibgcpeaa
