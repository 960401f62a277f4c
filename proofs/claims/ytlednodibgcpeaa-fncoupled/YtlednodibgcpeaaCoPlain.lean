/-
  Chances as plain numbers: squared, coupled, fair, and the choice. By the verifier.
-/
import Derived.Test.YtlednodibgcpeaaFrPlain
import Derived.Test.YtlednodibgcpeaaRows
namespace Go.Proofs.Ytlednodibgcpeaa
open Go.RowKit

def sqO (p : Int) : Int := if inB 0 1048576 p = true then p * p / 1048576 else -1
def cpV (p f : Int) : Int := min 1048576 (p * f)
def coB (p f : Int) : Bool := inB 0 1048576 p && inB 1 8 f
def cpO (p f : Int) : Int := if coB p f = true then cpV p f else -1
def frO (p f : Int) : Int := if coB p f = true then cpV p f * cpV p f / 1048576 / (f * f) else -1
def chO (p f : Int) (g : Bool) (x : Int) : Int := if (coB p f && inB 0 1048575 x) = true then (if g = true then (if x < cpV p f then 1 else 0) else (if x < p * p / 1048576 then 2 else 0)) else 3
theorem mul_in {a b A B : Int} (a0 : 0 ≤ a) (a1 : a ≤ A) (b0 : 0 ≤ b) (b1 : b ≤ B) : 0 ≤ a * b ∧ a * b ≤ A * B :=
  ⟨Int.mul_nonneg a0 b0, Int.mul_le_mul a1 b1 b0 (by omega)⟩
theorem coB_iff {p f : Int} : coB p f = true ↔ (0 ≤ p ∧ p ≤ 1048576) ∧ (1 ≤ f ∧ f ≤ 8) := by
  unfold coB
  simp only [Bool.and_eq_true, inB_true]
theorem cpV_in {p f : Int} (h : coB p f = true) : 0 ≤ cpV p f ∧ cpV p f ≤ 1048576 ∧ p ≤ cpV p f := by
  have h1 := coB_iff.1 h
  have h2 := mul_in h1.1.1 h1.1.2 (show 0 ≤ f by omega) h1.2.2
  have h3 : p * 1 ≤ p * f := Int.mul_le_mul_of_nonneg_left h1.2.1 h1.1.1
  unfold cpV
  omega
theorem sq_le {p : Int} (h0 : 0 ≤ p) (h1 : p ≤ 1048576) : 0 ≤ p * p / 1048576 ∧ p * p / 1048576 ≤ p := by
  have h2 := mul_in h0 h1 h0 h1
  have h3 : p * p ≤ 1048576 * p := Int.mul_le_mul_of_nonneg_right h1 h0
  refine ⟨Int.ediv_nonneg h2.1 (by omega), ?_⟩
  have := Int.ediv_le_ediv (show (0 : Int) < 1048576 by omega) h3
  rw [Int.mul_ediv_cancel_left _ (by omega)] at this
  exact this
theorem sq_mono {p q : Int} (h0 : 0 ≤ p) (h1 : p ≤ q) : p * p / 1048576 ≤ q * q / 1048576 :=
  Int.ediv_le_ediv (by omega) (Int.mul_le_mul h1 h1 h0 (by omega))
/-- What is squared of what is coupled, by the factor's square. -/
theorem fr_is {p f : Int} (h : coB p f = true) : frO p f = cpV p f * cpV p f / (1048576 * (f * f)) := by
  have h1 := coB_iff.1 h
  unfold frO
  rw [if_pos h, Int.ediv_ediv_of_nonneg (by omega)]
theorem fr_le {p f : Int} (h : coB p f = true) : 0 ≤ frO p f ∧ frO p f ≤ sqO p ∧ (p * f ≤ 1048576 → frO p f = sqO p) := by
  have h1 := coB_iff.1 h
  have hc := cpV_in h
  have hf : 0 < f * f := Int.mul_pos (by omega) (by omega)
  have hs : sqO p = p * p / 1048576 := by unfold sqO; rw [if_pos (by rw [inB_true]; exact h1.1)]
  have e : (p * f) * (p * f) / (1048576 * (f * f)) = p * p / 1048576 := by
    have : (p * f) * (p * f) = (p * p) * (f * f) := by simp only [Int.mul_assoc, Int.mul_left_comm]
    rw [this, Int.mul_ediv_mul_of_pos_left _ _ hf]
  rw [fr_is h, hs]
  refine ⟨Int.ediv_nonneg (Int.mul_nonneg hc.1 hc.1) (by omega), ?_, fun hle => ?_⟩
  · rw [← e]
    have hm : cpV p f ≤ p * f := by unfold cpV; omega
    exact Int.ediv_le_ediv (by omega) (Int.mul_le_mul hm hm hc.1 (by omega))
  · have hm : cpV p f = p * f := by unfold cpV; omega
    rw [hm, e]
end Go.Proofs.Ytlednodibgcpeaa
