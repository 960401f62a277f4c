/-
  A pair that is changed: the total, and the sum renewed against the sum taken anew. By the verifier.
-/
import Derived.Test.YtppgidcebhfjkaaSumMath
namespace Go.Proofs.Ytppgidcebhfjkaa
open Go.RowKit

/-- The pair at k as a number. -/
def pairN (s : ByteArray) (k : Nat) : Int := byteAt s (2 * k) * 256 + byteAt s (2 * k + 1)
theorem pairN_in (s : ByteArray) (k : Nat) : 0 ≤ pairN s k ∧ pairN s k ≤ 65535 := by
  have a := byteAt_in s (2 * k)
  have b := byteAt_in s (2 * k + 1)
  unfold pairN
  omega
theorem total_swap (s t : ByteArray) (k : Nat) (h : ∀ i, i ≠ 2 * k → i ≠ 2 * k + 1 → byteAt t i = byteAt s i) (j : Nat) : totalTo t j = totalTo s j + (if k < j then pairN t k - pairN s k else 0) := by
  induction j with
  | zero => rfl
  | succ j ih =>
    show totalTo t j + pairN t j = totalTo s j + pairN s j + _
    rw [ih]
    by_cases hj : k = j
    · subst hj
      rw [if_neg (by omega), if_pos (by omega)]
      omega
    · have e : pairN t j = pairN s j := by
        unfold pairN
        rw [h (2 * j) (by omega) (by omega), h (2 * j + 1) (by omega) (by omega)]
      rw [e]
      by_cases h2 : k < j
      · rw [if_pos h2, if_pos (by omega)]; omega
      · rw [if_neg h2, if_neg (by omega)]; omega
theorem total_le (s : ByteArray) (k j : Nat) (h : k < j) : pairN s k ≤ totalTo s j := by
  induction j with
  | zero => omega
  | succ j ih =>
    have a := totalTo_nonneg s j
    have b := pairN_in s j
    show _ ≤ totalTo s j + pairN s j
    by_cases hj : k = j
    · subst hj; omega
    · have := ih (by omega); omega
/-- What is renewed is what is summed anew, but for nought, which can be told in two ways. -/
theorem renew_total {T p q : Int} (hT : 0 ≤ T) (p0 : 0 ≤ p) (p1 : p ≤ 65535) (pT : p ≤ T) (q0 : 0 ≤ q) (q1 : q ≤ 65535) :
    65535 - fold16 (fold16 (65535 - (65535 - norm T)) (65535 - p)) q = 65535 - norm (T - p + q) ∨ ((65535 - fold16 (fold16 (65535 - (65535 - norm T)) (65535 - p)) q) % 65535 = 0 ∧ (65535 - norm (T - p + q)) % 65535 = 0) := by
  rw [show 65535 - (65535 - norm T) = norm T by omega, fold_norm hT (by omega) (by omega), fold_norm (by omega) q0 q1]
  unfold norm
  by_cases h : T - p + q = 0
  · right
    rw [if_pos h, if_neg (by omega)]
    omega
  · left
    rw [if_neg h, if_neg (by omega)]
    omega
theorem sum_swap (s t : ByteArray) (hs : t.size = s.size) (k : Nat) (hk : 2 * k + 2 ≤ s.size) (h : ∀ i, i ≠ 2 * k → i ≠ 2 * k + 1 → byteAt t i = byteAt s i) :
    65535 - fold16 (fold16 (65535 - sum16 s) (65535 - pairN s k)) (pairN t k) = sum16 t ∨ ((65535 - fold16 (fold16 (65535 - sum16 s) (65535 - pairN s k)) (pairN t k)) % 65535 = 0 ∧ sum16 t % 65535 = 0) := by
  have a := pairN_in s k
  have b := pairN_in t k
  have c := total_le s k ((s.size + 1) / 2) (by omega)
  have d := renew_total (totalTo_nonneg s ((s.size + 1) / 2)) a.1 a.2 c b.1 b.2
  unfold sum16
  rw [hs, sumTo_norm, sumTo_norm, total_swap s t k h, if_pos (by omega)]
  rw [show totalTo s ((s.size + 1) / 2) + (pairN t k - pairN s k) = totalTo s ((s.size + 1) / 2) - pairN s k + pairN t k by omega]
  exact d
end Go.Proofs.Ytppgidcebhfjkaa
