/-
  The walks of Share, the program's and the model's. By the verifier.
-/
import Derived.Test.YtmcklibhfkhdhaaDiv
import Derived.Test.YtmcklibhfkhdhaaFix
namespace Go.Proofs.Ytmcklibhfkhdhaa
open Go.RowKit

theorem div64 (hi lo y : Int) (w : World) (h0 : 0 ≤ hi) (h1 : hi < y) (h2 : y < 18446744073709551616) (h3 : 0 ≤ lo) (h4 : lo < 18446744073709551616) :
    Calls Try.prog 37 #[.int .u64 hi, .int .u64 lo, .int .u64 y] w fun e w' => (∃ r, e = .returned (.tuple #[.int .u64 ((hi * 18446744073709551616 + lo) / y), r])) ∧ New w w' := by
  by_cases h : hi = 0
  · subst h
    rw [show 0 * 18446744073709551616 + lo = lo by omega]
    exact div64_low lo y w h1 h3 h4
  · exact div64_high hi lo y w (by omega) h1 h2 h3 h4
theorem mul64 (x y : Int) (w : World) (h0 : 0 ≤ x) (h1 : x < 18446744073709551616) (h2 : 0 ≤ y) (h3 : y < 18446744073709551616) :
    Calls Try.prog 36 #[.int .u64 x, .int .u64 y] w fun e w' => (∃ hi lo : Int, e = .returned (.tuple #[.int .u64 hi, .int .u64 lo]) ∧ 0 ≤ hi ∧ 0 ≤ lo ∧ lo < 18446744073709551616 ∧ hi = x * y / 18446744073709551616 ∧ hi * 18446744073709551616 + lo = x * y) ∧ w' = w := by
  obtain ⟨x, rfl⟩ := Int.eq_ofNat_of_zero_le h0
  obtain ⟨y, rfl⟩ := Int.eq_ofNat_of_zero_le h2
  refine (Try.bits_Mul64 x y (by omega) (by omega) w).mono ?_
  rintro e w' ⟨rfl, rfl⟩
  have c : ((x * y : Nat) : Int) = (x : Int) * (y : Int) := by simp
  generalize (x : Int) * (y : Int) = z at *
  exact ⟨⟨_, _, rfl, by omega, by omega, by omega, by omega, by omega⟩, rfl⟩

/-- What Share answers. -/
def shareV (a b c : Int) : Int :=
  if 0 ≤ a ∧ a ≤ 1099511627776 ∧ 0 ≤ b ∧ b ≤ 1099511627776 ∧ 0 ≤ c ∧ c ≤ 1099511627776 then Plain.share a b c else -1

set_option maxHeartbeats 800000 in
theorem implShare (a b c : Int) (w : World) :
    Calls Try.prog 7 #[.int .i64 a, .int .i64 b, .int .i64 c] w fun e w' => e = .returned (.int .i64 (shareV a b c)) ∧ New w w' := by
  by_cases h : 0 ≤ a ∧ a ≤ 1099511627776 ∧ 0 ≤ b ∧ b ≤ 1099511627776 ∧ 0 ≤ c ∧ c ≤ 1099511627776
  · have hv : shareV a b c = Plain.share a b c := if_pos h
    have hall : [a, b, c].all okB = true := by simp [okB]; omega
    have Hall : Hid ([a, b, c].all okB = true) := hall
    clear hall
    obtain ⟨ha0, ha1, hb0, hb1, hc0, hc1⟩ := h
    have sw := Plain.share_words (a := a) (b := b) (Int.mul_nonneg ha0 hb0) hc0
    rw [← hv] at sw
    have Hsw : Hid (shareV a b c = if c ≤ a * b / 18446744073709551616 then 1099511627776 else if a * b / c < 1099511627776 then a * b / c else 1099511627776) := sw
    have Hab : Hid (0 ≤ a * b) := Int.mul_nonneg ha0 hb0
    clear sw hv
    go_enter Try.func7, Try.ntmps7
    go_wp2_with (first | (go_at_call 21; refine (implAllFixes w.heap.size 3 [a, b, c] _ rfl (by omega) three_all).mono ?_; rintro e w' ⟨rfl, rfl⟩; rw [Hall.out]) | (go_at_call 22; go_in))
    refine (mul64 a b _ ha0 (by omega) hb0 (by omega)).mono ?_
    rintro e w' ⟨⟨hi, lo, rfl, hi0, lo0, lo1, hhi, hx⟩, rfl⟩
    have Hhi : Hid (hi = a * b / 18446744073709551616) := hhi
    have Hx : Hid (hi * 18446744073709551616 + lo = a * b) := hx
    clear hhi hx
    by_cases hc : c ≤ hi
    · go_wp2_with fail
      go_ret
      exact ⟨ret_i64 (by rw [Hsw.out, if_pos (by rw [← Hhi.out]; exact hc)]), (New.refl _).alloc _ _⟩
    · go_wp2_with fail
      refine (div64 hi lo c _ hi0 (by omega) (by omega) lo0 lo1).mono ?_
      rintro e w' ⟨⟨r, rfl⟩, hg⟩
      rw [Hx.out]
      have z0 : 0 ≤ a * b / c := Int.ediv_nonneg Hab.out hc0
      generalize a * b / c = z at *
      have HV : Hid (shareV a b c = if z < 1099511627776 then z else 1099511627776) := by
        show _ = _
        rw [Hsw.out, if_neg (by rw [← Hhi.out]; omega)]
      go_wp2
      all_goals (go_ret; exact ⟨ret_i64 (by rw [HV.out]; split <;> omega), ((New.refl _).alloc _ _).trans hg⟩)
  · have hv : shareV a b c = -1 := if_neg h
    have Hv : Hid (shareV a b c = -1) := hv
    have hall : [a, b, c].all okB = false := by simp [okB]; omega
    have Hall : Hid ([a, b, c].all okB = false) := hall
    clear hall hv h
    go_enter Try.func7, Try.ntmps7
    go_wp2_with (first | (go_at_call 21; refine (implAllFixes w.heap.size 3 [a, b, c] _ rfl (by omega) three_all).mono ?_; rintro e w' ⟨rfl, rfl⟩; rw [Hall.out]) | go_in)
    go_ret
    exact ⟨ret_i64 Hv.out.symm, (New.refl _).alloc _ _⟩

set_option maxHeartbeats 800000 in
theorem specShare_pos (a b c : Int) (w : World) (ha0 : 0 ≤ a) (ha1 : a ≤ 1099511627776) (hb0 : 0 ≤ b) (hb1 : b ≤ 1099511627776) (hc0 : 0 < c) (hc1 : c ≤ 1099511627776) :
    Calls Try.prog 26 #[.int .i64 a, .int .i64 b, .int .i64 c] w fun e w' => e = .returned (.int .i64 (Plain.share a b c)) ∧ w' = w := by
  have sc := Plain.share_cut (a := a) hb0 hc0
  have hh0 : 0 ≤ a / 1048576 := by omega
  have hh1 : a / 1048576 ≤ 1048576 := by omega
  have hl0 : 0 ≤ a % 1048576 := by omega
  have hl1 : a % 1048576 ≤ 1048575 := by omega
  have hb_0 : 0 ≤ a / 1048576 * b := Int.mul_nonneg hh0 hb0
  have hb_1 : a / 1048576 * b ≤ 1152921504606846976 := by
    have := Int.mul_le_mul_of_nonneg_right hh1 hb0; omega
  have lb_0 : 0 ≤ a % 1048576 * b := Int.mul_nonneg hl0 hb0
  have lb_1 : a % 1048576 * b ≤ 1152921504606846976 := by
    have := Int.mul_le_mul_of_nonneg_right hl1 hb0; omega
  have q0 : 0 ≤ a / 1048576 * b / c := Int.ediv_nonneg hb_0 (by omega)
  have r0 : 0 ≤ a / 1048576 * b % c := Int.emod_nonneg _ (by omega)
  have r1 : a / 1048576 * b % c < 1099511627776 := by have := Int.emod_lt_of_pos (a / 1048576 * b) hc0; omega
  have k0 : 0 ≤ (a / 1048576 * b % c * 1048576 + a % 1048576 * b) / c := Int.ediv_nonneg (by omega) (by omega)
  have k1 : (a / 1048576 * b % c * 1048576 + a % 1048576 * b) / c ≤ a / 1048576 * b % c * 1048576 + a % 1048576 * b := Int.ediv_le_self _ (by omega)
  have Hsc : Hid (Plain.share a b c = if 1048576 < a / 1048576 * b / c then 1099511627776 else
      if 1099511627776 < a / 1048576 * b / c * 1048576 + (a / 1048576 * b % c * 1048576 + a % 1048576 * b) / c then 1099511627776
      else a / 1048576 * b / c * 1048576 + (a / 1048576 * b % c * 1048576 + a % 1048576 * b) / c) := sc
  clear sc
  have c3 : ¬ c = 0 := by omega
  by_cases hq : 1048576 < a / 1048576 * b / c
  · go_enter Try.func26, Try.ntmps26
    go_wp2
    go_ret
    exact ⟨ret_i64 (by rw [Hsc.out, if_pos hq]), rfl⟩
  · go_enter Try.func26, Try.ntmps26
    go_wp2
    all_goals (go_ret; exact ⟨ret_i64 (by rw [Hsc.out, if_neg (by omega)]; split <;> omega), rfl⟩)

set_option maxHeartbeats 800000 in
theorem specShare (a b c : Int) (w : World) :
    Calls Try.prog 11 #[.int .i64 a, .int .i64 b, .int .i64 c] w fun e w' => e = .returned (.int .i64 (shareV a b c)) ∧ w' = w := by
  have Hv : Hid (shareV a b c = if 0 ≤ a ∧ a ≤ 1099511627776 ∧ 0 ≤ b ∧ b ≤ 1099511627776 ∧ 0 ≤ c ∧ c ≤ 1099511627776 then Plain.share a b c else -1) := rfl
  cases ha : okB a
  · have hf := okB_false.1 ha
    go_enter Try.func11, Try.ntmps11
    go_wp2_with (first | (go_at_call 15; refine (specFixOk _ _).mono ?_; rintro e w' ⟨rfl, rfl⟩))
    all_goals (go_ret; exact ⟨ret_i64 (by rw [Hv.out, if_neg (by omega)]), rfl⟩)
  cases hb : okB b
  · have hf := okB_false.1 hb
    go_enter Try.func11, Try.ntmps11
    go_wp2_with (first | (go_at_call 15; refine (specFixOk _ _).mono ?_; rintro e w' ⟨rfl, rfl⟩))
    all_goals (go_ret; exact ⟨ret_i64 (by rw [Hv.out, if_neg (by omega)]), rfl⟩)
  cases hc : okB c
  · have hf := okB_false.1 hc
    go_enter Try.func11, Try.ntmps11
    go_wp2_with (first | (go_at_call 15; refine (specFixOk _ _).mono ?_; rintro e w' ⟨rfl, rfl⟩))
    all_goals (go_ret; exact ⟨ret_i64 (by rw [Hv.out, if_neg (by omega)]), rfl⟩)
  obtain ⟨ha0, ha1⟩ := okB_true.1 ha
  obtain ⟨hb0, hb1⟩ := okB_true.1 hb
  obtain ⟨hc0, hc1⟩ := okB_true.1 hc
  by_cases h : c = 0
  · subst h
    go_enter Try.func11, Try.ntmps11
    go_wp2_with (first | (go_at_call 15; refine (specFixOk _ _).mono ?_; rintro e w' ⟨rfl, rfl⟩))
    go_ret
    exact ⟨ret_i64 (by rw [Hv.out, if_pos ⟨ha0, ha1, hb0, hb1, hc0, hc1⟩, Plain.share_zero]), rfl⟩
  · have hz : (c == 0) = false := by simp [h]
    go_enter Try.func11, Try.ntmps11
    go_wp2_with (first | (go_at_call 15; refine (specFixOk _ _).mono ?_; rintro e w' ⟨rfl, rfl⟩))
    refine (specShare_pos a b c _ ha0 ha1 hb0 hb1 (by omega) hc1).mono ?_
    rintro e w' ⟨rfl, rfl⟩
    go_wp2
    go_ret
    exact ⟨ret_i64 (by rw [Hv.out, if_pos ⟨ha0, ha1, hb0, hb1, hc0, hc1⟩]), rfl⟩
end Go.Proofs.Ytmcklibhfkhdhaa
