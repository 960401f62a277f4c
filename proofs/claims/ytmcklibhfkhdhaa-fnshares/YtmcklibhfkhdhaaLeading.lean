/-
  How many leading zeros a word has: the shift that sets its highest bit. By the verifier.
-/
import Derived.Test.YtmcklibhfkhdhaaShelf
import Derived.Test.YtmcklibhfkhdhaaDivPrep
namespace Go.Proofs.Ytmcklibhfkhdhaa
open Go.RowKit

theorem bitLenAux_pow : ∀ (f x : Nat), x < 2 ^ f → x < 2 ^ Lib.bitLenAux f x ∧ (x ≠ 0 → 2 ^ Lib.bitLenAux f x ≤ 2 * x)
  | 0, x, h => by
    have : x = 0 := by simp at h; exact h
    subst this
    exact ⟨by simp [Lib.bitLenAux], fun h => (h rfl).elim⟩
  | f + 1, x, h => by
    unfold Lib.bitLenAux
    by_cases h0 : x = 0
    · rw [if_pos h0]; subst h0; exact ⟨by simp, fun h => (h rfl).elim⟩
    · rw [if_neg h0]
      obtain ⟨i1, i2⟩ := bitLenAux_pow f (x / 2) (by rw [Nat.pow_succ] at h; omega)
      rw [Nat.add_comm, Nat.pow_succ]
      refine ⟨by omega, fun _ => ?_⟩
      by_cases h2 : x / 2 = 0
      · rw [h2] at i1 ⊢
        have e : Lib.bitLenAux f 0 = 0 := by cases f <;> simp [Lib.bitLenAux]
        rw [e]; omega
      · have := i2 h2; omega
theorem norm_of {y : Int} (h0 : 0 < y) (h1 : y < 18446744073709551616) : Norm y (64 - Lib.bitLen y.toNat) ∧ Lib.bitLen y.toNat ≤ 64 := by
  obtain ⟨n, rfl⟩ := Int.eq_ofNat_of_zero_le (show 0 ≤ y by omega)
  obtain ⟨i1, i2⟩ := bitLenAux_pow 64 n (by omega)
  have i3 := i2 (by omega)
  have le : Lib.bitLen n ≤ 64 := Lib.bitLen_le n 64 (by omega) (by omega)
  rw [show Lib.bitLenAux 64 n = Lib.bitLen n from rfl] at i1 i3
  simp only [Int.toNat_natCast]
  generalize Lib.bitLen n = b at *
  have hb : b ≠ 0 := by rintro rfl; omega
  have e : 2 ^ b * 2 ^ (64 - b) = 18446744073709551616 := by rw [← Nat.pow_add, show b + (64 - b) = 64 by omega]
  have pp : 0 < 2 ^ (64 - b) := Nat.pow_pos (by omega)
  have m1 : n * 2 ^ (64 - b) < 2 ^ b * 2 ^ (64 - b) := Nat.mul_lt_mul_of_pos_right i1 pp
  have m2 : 2 ^ b * 2 ^ (64 - b) ≤ 2 * n * 2 ^ (64 - b) := Nat.mul_le_mul_right _ i3
  rw [Nat.mul_assoc] at m2
  rw [e] at m1 m2
  have c : ((n * 2 ^ (64 - b) : Nat) : Int) = (n : Int) * 2 ^ (64 - b) := by simp
  refine ⟨⟨by omega, ?_, ?_⟩, le⟩
  · rw [← c]; omega
  · rw [← c]; omega
theorem leading (y : Int) (w : World) (h0 : 0 < y) (h1 : y < 18446744073709551616) :
    Calls Try.prog 39 #[.int .u64 y] w fun e w' => (∃ s : Nat, e = .returned (.int .i64 s) ∧ Norm y s) ∧ w' = w := by
  refine (Try.bits_LeadingZeros64 y w (by omega) (by omega)).mono ?_
  rintro e w' ⟨rfl, rfl⟩
  obtain ⟨n1, n2⟩ := norm_of h0 h1
  refine ⟨⟨64 - Lib.bitLen y.toNat, ?_, n1⟩, rfl⟩
  rw [show ((64 - Lib.bitLen y.toNat : Nat) : Int) = 64 - (Lib.bitLen y.toNat : Int) by omega]
end Go.Proofs.Ytmcklibhfkhdhaa
