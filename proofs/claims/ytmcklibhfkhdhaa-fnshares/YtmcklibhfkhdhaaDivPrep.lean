/-
  What the division of two words by one lays out ahead of its two digits: plain facts. By the verifier.
-/
import Derived.WalkKit
import Derived.Laws.BitsAllLaws
namespace Go.Proofs.Ytmcklibhfkhdhaa
open Go.RowKit

/-- How far y is shifted till its highest bit is set. -/
def Norm (y : Int) (s : Nat) : Prop := s ≤ 63 ∧ 9223372036854775808 ≤ y * 2 ^ s ∧ y * 2 ^ s < 18446744073709551616

theorem wrap_in {x : Int} (h0 : 0 ≤ x) (h1 : x < 18446744073709551616) : IntKind.u64.wrap x = x := by rw [IntKind.wrap_u64]; omega
theorem mask32 {x : Int} (h0 : 0 ≤ x) (h1 : x < 18446744073709551616) : bits .and .u64 x 4294967295 = x % 4294967296 := by
  rw [u64_and x 4294967295 h0 h1 (by omega) (by omega)]
  obtain ⟨n, rfl⟩ := Int.eq_ofNat_of_zero_le h0
  have e : n &&& 4294967295 = n % 4294967296 := Nat.and_two_pow_sub_one_eq_mod n 32
  simp [e]
theorem join {h s : Nat} {l : Int} (h1 : (h : Int) * 2 ^ s < 18446744073709551616) (h2 : 0 ≤ l) (h3 : l < 2 ^ s) (hs : s ≤ 63) :
    bits .or .u64 ((h : Int) * 2 ^ s) l = (h : Int) * 2 ^ s + l := by
  obtain ⟨n, rfl⟩ := Int.eq_ofNat_of_zero_le h2
  have e : ((h : Int) * 2 ^ s) = ((h * 2 ^ s : Nat) : Int) := by simp
  have h3' : n < 2 ^ s := by exact_mod_cast h3
  have hp : 2 ^ s ≤ 2 ^ 63 := Nat.pow_le_pow_right (by omega) hs
  rw [e] at h1 ⊢
  rw [u64_or_nat _ _ (by omega) (by omega), nat_join s _ _ (Nat.mul_mod_left _ _) h3']
  simp

/-- All that is laid out. -/
structure Laid (hi lo y : Int) (s : Nat) (Y y1 y0 u v1 v0 : Int) : Prop where
  shifted : Y = y * 2 ^ s
  halves : Y = y1 * 4294967296 + y0
  y1lo : 2147483648 ≤ y1
  y1hi : y1 < 4294967296
  y0lo : 0 ≤ y0
  y0hi : y0 < 4294967296
  ulo : 0 ≤ u
  uhi : u < Y
  v1lo : 0 ≤ v1
  v1hi : v1 < 4294967296
  v0lo : 0 ≤ v0
  v0hi : v0 < 4294967296
  whole : (hi * 18446744073709551616 + lo) * 2 ^ s = u * 18446744073709551616 + (v1 * 4294967296 + v0)

theorem prep {hi lo y : Int} {s : Nat} (hs : Norm y s) (h0 : 0 < hi) (h1 : hi < y) (h3 : 0 ≤ lo) (h4 : lo < 18446744073709551616) :
    ∃ Y y1 y0 u L v1 v0 : Int, IntKind.u64.wrap (y * 2 ^ s) = Y ∧ Y / 4294967296 = y1 ∧ bits .and .u64 Y 4294967295 = y0 ∧
      bits .or .u64 (IntKind.u64.wrap (hi * 2 ^ s)) (lo / 2 ^ (64 - s)) = u ∧ IntKind.u64.wrap (lo * 2 ^ s) = L ∧
      L / 4294967296 = v1 ∧ bits .and .u64 L 4294967295 = v0 ∧ Laid hi lo y s Y y1 y0 u v1 v0 := by
  obtain ⟨s63, n1, n2⟩ := hs
  obtain ⟨h, rfl⟩ := Int.eq_ofNat_of_zero_le (show 0 ≤ hi by omega)
  have pt : (2 : Int) ^ s * 2 ^ (64 - s) = 18446744073709551616 := by
    rw [← Int.pow_add, show s + (64 - s) = 64 by omega]; rfl
  have pp : (0 : Int) < 2 ^ s := Int.pow_pos (by omega)
  have tp : (0 : Int) < 2 ^ (64 - s) := Int.pow_pos (by omega)
  have jn := fun hx : (h : Int) * 2 ^ s < 18446744073709551616 => fun ha hb => @join h s (lo / 2 ^ (64 - s)) hx ha hb s63
  generalize (2 : Int) ^ (64 - s) = t at *
  generalize hp : (2 : Int) ^ s = p at *
  have hu1 : (h : Int) * p + p ≤ y * p := by
    have : ((h : Int) + 1) * p ≤ y * p := Int.mul_le_mul_of_nonneg_right (by omega) (by omega)
    rw [Int.add_mul] at this; omega
  have hl0 : 0 ≤ lo / t := Int.ediv_nonneg h3 (by omega)
  have hl1 : lo / t < p := Int.ediv_lt_of_lt_mul tp (by rw [pt]; exact h4)
  have hh0 : 0 ≤ (h : Int) * p := Int.mul_nonneg (by omega) (by omega)
  have hlo0 : 0 ≤ lo * p := Int.mul_nonneg h3 (by omega)
  have eq : lo * p / 18446744073709551616 = lo / t := by
    rw [← pt, Int.mul_comm p t]; exact Int.mul_ediv_mul_of_pos_left _ _ pp
  have w1 := jn (by omega) hl0 hl1
  refine ⟨y * p, y * p / 4294967296, y * p % 4294967296, (h : Int) * p + lo / t, lo * p % 18446744073709551616, lo * p % 18446744073709551616 / 4294967296, lo * p % 18446744073709551616 % 4294967296, wrap_in (by omega) n2, rfl, mask32 (by omega) n2, ?_, IntKind.wrap_u64 _, rfl, mask32 (by omega) (by omega), ?_⟩
  · rw [wrap_in hh0 (by omega), w1]
  refine ⟨by rw [hp], by omega, by omega, by omega, by omega, by omega, by omega, by omega, by omega, by omega, by omega, by omega, ?_⟩
  rw [hp]
  have ex : ((h : Int) * 18446744073709551616 + lo) * p = (h : Int) * p * 18446744073709551616 + lo * p := by
    rw [Int.add_mul, Int.mul_assoc, Int.mul_comm 18446744073709551616 p, ← Int.mul_assoc]
  rw [ex]
  omega
end Go.Proofs.Ytmcklibhfkhdhaa
