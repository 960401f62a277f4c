/-
  Sums as plain arithmetic: a sum is told by the total of the pairs. By the verifier.
-/
import Derived.Test.YtppgidcebhfjkaaSumSpec
import Derived.Lib.Strings
namespace Go.Proofs.Ytppgidcebhfjkaa
open Go.RowKit

/-- A total, folded. -/
def norm (S : Int) : Int := if S = 0 then 0 else (S - 1) % 65535 + 1
theorem fold_norm {S p : Int} (hS : 0 ≤ S) (p0 : 0 ≤ p) (p1 : p ≤ 65535) : fold16 (norm S) p = norm (S + p) := by
  unfold fold16 norm
  by_cases h : S = 0
  · subst h
    rw [if_pos rfl]
    by_cases hp : p = 0
    · subst hp; simp
    · rw [if_neg (by omega), if_neg (by omega)]
      omega
  · have hx : ¬ S + p = 0 := by omega
    rw [if_neg h, if_neg hx]
    split <;> omega
/-- The total of the pairs ahead of j. -/
def totalTo (text : ByteArray) : Nat → Int
  | 0 => 0
  | j + 1 => totalTo text j + (byteAt text (2 * j) * 256 + byteAt text (2 * j + 1))
theorem totalTo_nonneg (text : ByteArray) (j : Nat) : 0 ≤ totalTo text j := by
  induction j with
  | zero => exact Int.le_refl _
  | succ j ih =>
    have a := byteAt_in text (2 * j)
    have b := byteAt_in text (2 * j + 1)
    show 0 ≤ totalTo text j + _
    omega
theorem sumTo_norm (text : ByteArray) (j : Nat) : sumTo text j = norm (totalTo text j) := by
  induction j with
  | zero => rfl
  | succ j ih =>
    have a := byteAt_in text (2 * j)
    have b := byteAt_in text (2 * j + 1)
    show fold16 (sumTo text j) _ = norm (totalTo text j + _)
    rw [ih, fold_norm (totalTo_nonneg _ _) (by omega) (by omega)]
theorem totalTo_congr {s t : ByteArray} (j : Nat) (h : ∀ k, k < 2 * j → byteAt s k = byteAt t k) : totalTo s j = totalTo t j := by
  induction j with
  | zero => rfl
  | succ j ih =>
    show totalTo s j + _ = totalTo t j + _
    rw [ih (fun k hk => h k (by omega)), h (2 * j) (by omega), h (2 * j + 1) (by omega)]
theorem byteAt_left (A B : ByteArray) {k : Nat} (h : k < A.size) : byteAt (A ++ B) k = byteAt A k := by
  unfold byteAt
  rw [dif_pos h, dif_pos (by rw [ByteArray.size_append]; omega)]
  rw [ByteArray.getElem_append_left h]
theorem byteAt_right (A B : ByteArray) (k : Nat) : byteAt (A ++ B) (A.size + k) = byteAt B k := by
  unfold byteAt
  by_cases h : k < B.size
  · rw [dif_pos h, dif_pos (by rw [ByteArray.size_append]; omega)]
    rw [ByteArray.getElem_append_right (by omega)]
    simp
  · rw [dif_neg h, dif_neg (by rw [ByteArray.size_append]; omega)]
theorem byteAt_beyond (A : ByteArray) {k : Nat} (h : A.size ≤ k) : byteAt A k = 0 := by
  unfold byteAt; rw [dif_neg (by omega)]
theorem byteAt_extract (A : ByteArray) (lo hi : Nat) (hh : hi ≤ A.size) {k : Nat} (h : k < hi - lo) : byteAt (A.extract lo hi) k = byteAt A (lo + k) := by
  have hs : (A.extract lo hi).size = hi - lo := by rw [ByteArray.size_extract]; omega
  unfold byteAt
  rw [dif_pos (by omega), dif_pos (by omega)]
  rw [ByteArray.getElem_extract]

/-- A single last byte counts as a pair with 0 behind it. -/
theorem sum_odd (s z : ByteArray) (hz : z.size = 1) (h0 : byteAt z 0 = 0) (h : s.size % 2 = 1) : sum16 (s ++ z) = sum16 s := by
  unfold sum16
  have e : ((s ++ z).size + 1) / 2 = (s.size + 1) / 2 := by rw [ByteArray.size_append]; omega
  rw [e, sumTo_norm, sumTo_norm, totalTo_congr]
  intro k hk
  by_cases hl : k < s.size
  · exact byteAt_left _ _ hl
  · obtain ⟨d, rfl⟩ : ∃ d, k = s.size + d := ⟨k - s.size, by omega⟩
    rw [byteAt_right, byteAt_beyond s (by omega)]
    obtain rfl : d = 0 := by omega
    exact h0
/-- What is behind its own sum comes to nought. -/
theorem sum_own (s t : ByteArray) (h : s.size % 2 = 0) (ht : t.size = 2) (hv : byteAt t 0 * 256 + byteAt t 1 = sum16 s) : sum16 (s ++ t) = 0 := by
  have e : ((s ++ t).size + 1) / 2 = s.size / 2 + 1 := by rw [ByteArray.size_append]; omega
  have e' : (s.size + 1) / 2 = s.size / 2 := by omega
  have tot : totalTo (s ++ t) (s.size / 2 + 1) = totalTo s (s.size / 2) + sum16 s := by
    show totalTo (s ++ t) (s.size / 2) + _ = _
    have h2 : 2 * (s.size / 2) = s.size := by omega
    rw [totalTo_congr (t := s) (s.size / 2) (fun k hk => byteAt_left _ _ (by omega)), h2, ← hv]
    have := byteAt_right s t 0
    rw [Nat.add_zero] at this
    rw [this, byteAt_right]
  have hn := totalTo_nonneg s (s.size / 2)
  unfold sum16 at tot ⊢
  rw [e, sumTo_norm, tot, e', sumTo_norm]
  generalize totalTo s (s.size / 2) = T at hn
  unfold norm
  by_cases h0 : T = 0
  · subst h0; simp
  · rw [if_neg h0, if_neg (by omega)]; omega
/-- Totals of two halves. -/
theorem sum_same {s t : ByteArray} (hs : s.size = t.size) (h : totalTo s ((s.size + 1) / 2) = totalTo t ((s.size + 1) / 2)) : sum16 s = sum16 t := by
  unfold sum16
  rw [← hs, sumTo_norm, sumTo_norm, h]
/-- One pair more behind. -/
theorem total_pair (A s : ByteArray) (t i : Nat) (hA : A.size = 2 * t) (hi : 2 * i + 2 ≤ s.size) :
    totalTo (A ++ s.extract (2 * i) (2 * i + 2)) (t + 1) = totalTo A t + (byteAt s (2 * i) * 256 + byteAt s (2 * i + 1)) := by
  show totalTo (A ++ _) t + _ = _
  rw [totalTo_congr (t := A) t (fun k hk => byteAt_left _ _ (by omega)), ← hA]
  have a : byteAt (A ++ s.extract (2 * i) (2 * i + 2)) A.size = byteAt (s.extract (2 * i) (2 * i + 2)) 0 := byteAt_right A _ 0
  rw [a, byteAt_right, byteAt_extract s _ _ hi (by omega), byteAt_extract s _ _ hi (by omega)]
  rfl
theorem fold_facts (a b : Int) : fold16 b a = fold16 a b ∧ (fold16 a b - a - b = 0 ∨ fold16 a b - a - b = -65535) := by
  unfold fold16
  refine ⟨by rw [Int.add_comm b a], ?_⟩
  split <;> omega
end Go.Proofs.Ytppgidcebhfjkaa
