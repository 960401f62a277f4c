namespace Go.Proofs.Ytmcklibhfkhdhaa.Plain
/-! Plain arithmetic of chapter 1: shares and roots. No program in sight. -/

/-- The share: a times b by c, at most 2^40; 2^40 where c is 0. -/
def share (a b c : Int) : Int := if c = 0 then 1099511627776 else min 1099511627776 (a * b / c)

theorem share_zero (a b : Int) : share a b 0 = 1099511627776 := rfl

/-- Cut at 2^20 the share comes out the same. -/
theorem share_cut {a b c : Int} (hb0 : 0 ≤ b) (hc : 0 < c) :
    share a b c = if 1048576 < a / 1048576 * b / c then 1099511627776 else
      if 1099511627776 < a / 1048576 * b / c * 1048576 + (a / 1048576 * b % c * 1048576 + a % 1048576 * b) / c then 1099511627776
      else a / 1048576 * b / c * 1048576 + (a / 1048576 * b % c * 1048576 + a % 1048576 * b) / c := by
  have e : a * b / c = a / 1048576 * b / c * 1048576 + (a / 1048576 * b % c * 1048576 + a % 1048576 * b) / c := by
    have ea : a * b = a / 1048576 * b * 1048576 + a % 1048576 * b := by
      have : a = a / 1048576 * 1048576 + a % 1048576 := by omega
      have x : (a / 1048576 * 1048576 + a % 1048576) * b = a / 1048576 * b * 1048576 + a % 1048576 * b := by
        rw [Int.add_mul, Int.mul_assoc, Int.mul_comm 1048576 b, ← Int.mul_assoc]
      rw [← this] at x
      exact x
    generalize a / 1048576 * b = h at *
    generalize a % 1048576 * b = l at *
    have eh : h = h / c * c + h % c := by
      have := Int.mul_ediv_add_emod h c
      rw [Int.mul_comm] at this; omega
    have : a * b = h % c * 1048576 + l + h / c * 1048576 * c := by
      have x : h / c * 1048576 * c = h / c * c * 1048576 := by rw [Int.mul_assoc, Int.mul_comm 1048576 c, ← Int.mul_assoc]
      omega
    rw [this, Int.add_mul_ediv_right _ _ (by omega)]
    omega
  have p1 : 0 ≤ a / 1048576 * b % c * 1048576 + a % 1048576 * b := by
    have := Int.emod_nonneg (a / 1048576 * b) (show c ≠ 0 by omega)
    have := Int.mul_nonneg (show 0 ≤ a % 1048576 by omega) hb0
    omega
  have p2 := Int.ediv_nonneg p1 (show 0 ≤ c by omega)
  rw [share, if_neg (by omega), e]
  generalize (a / 1048576 * b % c * 1048576 + a % 1048576 * b) / c = k at *
  generalize a / 1048576 * b / c = q at *
  by_cases h1 : 1048576 < q
  · rw [if_pos h1]; omega
  · rw [if_neg h1]; split <;> omega

/-- By two words it comes out the same. -/
theorem share_words {a b c : Int} (hab : 0 ≤ a * b) (hc0 : 0 ≤ c) :
    share a b c = if c ≤ a * b / 18446744073709551616 then 1099511627776 else if a * b / c < 1099511627776 then a * b / c else 1099511627776 := by
  by_cases hc : c = 0
  · subst hc
    rw [if_pos (by omega)]; rfl
  · rw [share, if_neg hc]
    by_cases h : c ≤ a * b / 18446744073709551616
    · rw [if_pos h]
      have h1 : c * 18446744073709551616 ≤ a * b := (Int.le_ediv_iff_mul_le (by omega)).1 h
      have h2 : 18446744073709551616 ≤ a * b / c := (Int.le_ediv_iff_mul_le (by omega)).2 (by omega)
      omega
    · rw [if_neg h]; split <;> omega

/-- The root is one alone. -/
theorem root_one {a r s : Int} (hr : 0 ≤ r) (hs : 0 ≤ s) (h1 : r * r ≤ a) (h2 : a < (r + 1) * (r + 1)) (h3 : s * s ≤ a) (h4 : a < (s + 1) * (s + 1)) : r = s := by
  have le : ∀ {x y : Int}, 0 ≤ x → 0 ≤ y → x * x ≤ a → a < (y + 1) * (y + 1) → x ≤ y := by
    intro x y hx hy h5 h6
    refine Int.le_of_lt_add_one (Int.not_le.1 fun h => ?_)
    have a1 : (y + 1) * (y + 1) ≤ x * (y + 1) := Int.mul_le_mul_of_nonneg_right h (by omega)
    have a2 : x * (y + 1) ≤ x * x := Int.mul_le_mul_of_nonneg_left h hx
    omega
  have := le hr hs h1 h4
  have := le hs hr h3 h2
  omega
theorem sq_fits {m : Int} (h0 : 0 ≤ m) (h1 : m ≤ 1048576) : 0 ≤ m * m ∧ m * m ≤ 1099511627776 := by
  have a : m * m ≤ 1048576 * m := Int.mul_le_mul_of_nonneg_right h1 h0
  exact ⟨Int.mul_nonneg h0 h0, by omega⟩
theorem sq_fits' {m : Int} (h0 : 0 ≤ m) (h1 : m ≤ 1048576) : 0 ≤ (m + 1) * (m + 1) ∧ (m + 1) * (m + 1) ≤ 1099513724929 := by
  have a : (m + 1) * (m + 1) ≤ 1048577 * (m + 1) := Int.mul_le_mul_of_nonneg_right (by omega) (by omega)
  exact ⟨Int.mul_nonneg (by omega) (by omega), by omega⟩
end Go.Proofs.Ytmcklibhfkhdhaa.Plain
