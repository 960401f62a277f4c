namespace Go.Proofs.Ytmcklibhfkhdhaa.Knuth
/-! Plain arithmetic: the division of a two-word number by one word, digit by digit. No program in sight. -/

/-- The first guess of a digit is no less than the digit, and hardly more. -/
theorem start {u v y1 y0 : Int} (hu0 : 0 ≤ u) (hu : u < y1 * 4294967296 + y0) (hv : v < 4294967296)
    (h1 : 2147483648 ≤ y1) (h2 : y1 < 4294967296) (h3 : 0 ≤ y0) (h4 : y0 < 4294967296) :
    0 ≤ u / y1 ∧ u / y1 ≤ 4294967297 ∧ (u * 4294967296 + v) / (y1 * 4294967296 + y0) ≤ u / y1 ∧
      u / y1 * y1 + (u - u / y1 * y1) = u ∧ 0 ≤ u - u / y1 * y1 ∧ u - u / y1 * y1 < y1 := by
  have hy : 0 < y1 := by omega
  have hY : 0 < y1 * 4294967296 + y0 := by omega
  have e := Int.emod_def u y1
  have c : u / y1 * y1 = y1 * (u / y1) := Int.mul_comm _ _
  have r0 := Int.emod_nonneg u (show y1 ≠ 0 by omega)
  have r1 := Int.emod_lt_of_pos u hy
  have q0 : 0 ≤ u / y1 := Int.ediv_nonneg hu0 (by omega)
  refine ⟨q0, ?_, ?_, by omega, by omega, by omega⟩
  · refine Int.le_of_lt_add_one ?_
    refine Int.ediv_lt_of_lt_mul hy ?_
    have : (4294967297 + 1) * y1 = y1 * 4294967296 + 2 * y1 := by omega
    omega
  · refine (Int.le_ediv_iff_mul_le hy).2 ?_
    have hq := Int.ediv_mul_le (u * 4294967296 + v) (show y1 * 4294967296 + y0 ≠ 0 by omega)
    have hn : 0 ≤ (u * 4294967296 + v) / (y1 * 4294967296 + y0) ∨ (u * 4294967296 + v) / (y1 * 4294967296 + y0) < 0 := by omega
    rcases hn with hn | hn
    · generalize (u * 4294967296 + v) / (y1 * 4294967296 + y0) = Q at *
      have hp : 0 ≤ Q * y0 := Int.mul_nonneg hn h3
      have ex : Q * (y1 * 4294967296 + y0) = Q * y1 * 4294967296 + Q * y0 := by
        rw [Int.mul_add, Int.mul_assoc]
      omega
    · generalize (u * 4294967296 + v) / (y1 * 4294967296 + y0) = Q at *
      have : Q * y1 ≤ 0 := Int.mul_nonpos_of_nonpos_of_nonneg (by omega) (by omega)
      omega

/-- Where the test says yes the guess is too great. -/
theorem more {u v y1 y0 q r : Int} (hu : u < y1 * 4294967296 + y0) (hv : v < 4294967296)
    (hY : 0 < y1 * 4294967296 + y0) (he : q * y1 + r = u) (hQ : (u * 4294967296 + v) / (y1 * 4294967296 + y0) ≤ q)
    (ht : 4294967296 ≤ q ∨ 4294967296 * r + v < q * y0) : (u * 4294967296 + v) / (y1 * 4294967296 + y0) ≤ q - 1 := by
  have hq := Int.ediv_mul_le (u * 4294967296 + v) (show y1 * 4294967296 + y0 ≠ 0 by omega)
  have hB : (u * 4294967296 + v) / (y1 * 4294967296 + y0) < 4294967296 := by
    refine Int.ediv_lt_of_lt_mul hY ?_
    omega
  generalize (u * 4294967296 + v) / (y1 * 4294967296 + y0) = Q at *
  have hne : Q ≠ q := by
    rintro rfl
    rcases ht with ht | ht
    · omega
    · have ex : Q * (y1 * 4294967296 + y0) = Q * y1 * 4294967296 + Q * y0 := by
        rw [Int.mul_add, Int.mul_assoc]
      omega
  omega

/-- Where what is left is enough the guess is the digit. -/
theorem done {u v y1 y0 q r : Int} (hY : 0 < y1 * 4294967296 + y0) (he : q * y1 + r = u)
    (hQ : (u * 4294967296 + v) / (y1 * 4294967296 + y0) ≤ q) (ht : q * y0 ≤ 4294967296 * r + v) :
    q = (u * 4294967296 + v) / (y1 * 4294967296 + y0) := by
  have : q ≤ (u * 4294967296 + v) / (y1 * 4294967296 + y0) := by
    refine (Int.le_ediv_iff_mul_le hY).2 ?_
    have ex : q * (y1 * 4294967296 + y0) = q * y1 * 4294967296 + q * y0 := by
      rw [Int.mul_add, Int.mul_assoc]
    omega
  omega

/-- What is left is enough where it is a whole digit. -/
theorem whole {v y0 q r : Int} (h3 : 0 ≤ y0) (h4 : y0 < 4294967296) (hq : q ≤ 4294967296) (hv : 0 ≤ v)
    (hr : 4294967296 ≤ r) : q * y0 ≤ 4294967296 * r + v := by
  have a : q * y0 ≤ 4294967296 * y0 := Int.mul_le_mul_of_nonneg_right hq h3
  omega

/-- A digit times less than a digit fits a word. -/
theorem fits {q y0 : Int} (h0 : 0 ≤ q) (hq : q < 4294967296) (h3 : 0 ≤ y0) (h4 : y0 < 4294967296) :
    0 ≤ q * y0 ∧ q * y0 < 18446744073709551616 := by
  have a : q * y0 ≤ 4294967295 * y0 := Int.mul_le_mul_of_nonneg_right (by omega) h3
  exact ⟨Int.mul_nonneg h0 h3, by omega⟩

/-- What is left behind the first digit. -/
theorem left {u v Y : Int} (hY : 0 < Y) :
    0 ≤ u * 4294967296 + v - (u * 4294967296 + v) / Y * Y ∧ u * 4294967296 + v - (u * 4294967296 + v) / Y * Y < Y := by
  have e := Int.emod_def (u * 4294967296 + v) Y
  have c : (u * 4294967296 + v) / Y * Y = Y * ((u * 4294967296 + v) / Y) := Int.mul_comm _ _
  have r0 := Int.emod_nonneg (u * 4294967296 + v) (show Y ≠ 0 by omega)
  have r1 := Int.emod_lt_of_pos (u * 4294967296 + v) hY
  omega

/-- Both digits together. -/
theorem both {n y p u v1 v0 : Int} (hy : 0 < y) (hp : 0 < p) (hn : n * p = u * 18446744073709551616 + (v1 * 4294967296 + v0)) :
    (u * 4294967296 + v1) / (y * p) * 4294967296 + ((u * 4294967296 + v1 - (u * 4294967296 + v1) / (y * p) * (y * p)) * 4294967296 + v0) / (y * p) = n / y := by
  have hY : 0 < y * p := Int.mul_pos hy hp
  have e1 : n / y = (n * p) / (y * p) := (Int.mul_ediv_mul_of_pos_left n y hp).symm
  rw [e1, hn]
  generalize y * p = Y at *
  generalize (u * 4294967296 + v1) / Y = Q at *
  have e2 : u * 18446744073709551616 + (v1 * 4294967296 + v0) = (u * 4294967296 + v1 - Q * Y) * 4294967296 + v0 + Q * 4294967296 * Y := by
    have : Q * 4294967296 * Y = Q * Y * 4294967296 := by rw [Int.mul_assoc, Int.mul_comm 4294967296 Y, ← Int.mul_assoc]
    omega
  rw [e2, Int.add_mul_ediv_right _ _ (by omega)]
  omega
end Go.Proofs.Ytmcklibhfkhdhaa.Knuth
