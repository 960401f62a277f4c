/-
  Plain facts of purses: filled by turns is filled at once; when there is so much. By the verifier.
-/
import Derived.Test.YtfdapmchpikfiaaM0PzPlain
namespace Go.Proofs.Ytfdapmchpikfiaa
open Go.RowKit

theorem fill_ok {p : Pz} {now : Int} (h : p.ok = true) (h2 : p.at' now = true) : (p.fill now).ok = true ∧ p.level ≤ (p.fill now).level := by
  have g := Pz.ok_iff.1 h
  unfold Pz.at' at h2
  rw [inB_true] at h2
  have hm := mul_small (a := p.rate) (b := now - p.tm) g.1.1 g.1.2 (by omega) (by omega)
  rw [Pz.ok_iff]
  unfold Pz.fill
  simp only
  omega
theorem fill_twice {p : Pz} {mid now : Int} (h : p.ok = true) (h1 : p.tm ≤ mid) (h2 : mid ≤ now) (h3 : now ≤ 1099511627776) : (p.fill mid).fill now = p.fill now := by
  have g := Pz.ok_iff.1 h
  have m1 := mul_small (a := p.rate) (b := mid - p.tm) g.1.1 g.1.2 (by omega) (by omega)
  have m2 := mul_small (a := p.rate) (b := now - mid) g.1.1 g.1.2 (by omega) (by omega)
  have e : p.rate * (now - p.tm) = p.rate * (mid - p.tm) + p.rate * (now - mid) := by rw [← Int.mul_add]; congr 1; omega
  unfold Pz.fill
  simp only [Pz.mk.injEq, true_and, and_true]
  rw [e]
  omega
theorem filled_at {p : Pz} {now : Int} (h : p.ok = true) (h1 : p.tm ≤ now) (h2 : now ≤ 1099511627776) : p.filled now = p.fill now := by
  have h3 : p.at' now = true := by unfold Pz.at'; rw [inB_true]; omega
  unfold Pz.filled
  rw [if_pos h, if_pos h3]
theorem filled_twice {p : Pz} {mid now : Int} (h : p.ok = true) (h1 : p.tm ≤ mid) (h2 : mid ≤ now) (h3 : now ≤ 1099511627776) : (p.filled mid).filled now = p.filled now := by
  rw [filled_at h h1 (by omega), filled_at h (by omega) h3]
  have ok := (fill_ok (now := mid) h (by unfold Pz.at'; rw [inB_true]; omega)).1
  rw [filled_at ok h2 h3]
  exact fill_twice h h1 h2 h3
/-- There is so much at the time that is told, and not ahead of it. -/
theorem when_is {p : Pz} {n : Int} (hw : 0 ≤ p.when n) : n ≤ (p.filled (p.when n)).level ∧ (p.tm < p.when n → (p.filled (p.when n - 1)).level < n) := by
  have hw0 := hw
  unfold Pz.when at hw
  by_cases hc : p.ok = true ∧ 0 ≤ n
  · rw [if_pos hc] at hw
    have ew : p.when n = p.whenL n := by unfold Pz.when; rw [if_pos hc]
    rw [ew]
    obtain ⟨hok, hn⟩ := hc
    have g := Pz.ok_iff.1 hok
    unfold Pz.whenL at hw ⊢
    by_cases h1 : n ≤ p.level
    · rw [if_pos h1] at hw ⊢
      refine ⟨?_, fun h => by omega⟩
      rw [filled_at hok (Int.le_refl _) g.2.2.2.2]
      have := (fill_ok (now := p.tm) hok (by unfold Pz.at'; rw [inB_true]; omega)).2
      omega
    · rw [if_neg h1] at hw ⊢
      by_cases h2 : p.rate = 0 ∨ p.burst < n
      · rw [if_pos h2] at hw; omega
      · rw [if_neg h2] at hw ⊢
        by_cases h3 : 1099511627776 < p.tm + (n - p.level + p.rate - 1) / p.rate
        · rw [if_pos h3] at hw; omega
        · rw [if_neg h3] at hw ⊢
          have r0 : 0 < p.rate := by omega
          obtain ⟨q, hq⟩ : ∃ q, (n - p.level + p.rate - 1) / p.rate = q := ⟨_, rfl⟩
          have d1 := Int.mul_ediv_add_emod (n - p.level + p.rate - 1) p.rate
          have d2 := Int.emod_nonneg (n - p.level + p.rate - 1) (show p.rate ≠ 0 by omega)
          have d3 := Int.emod_lt_of_pos (n - p.level + p.rate - 1) r0
          rw [hq] at d1 h3 hw ⊢
          generalize (n - p.level + p.rate - 1) % p.rate = rem at d1 d2 d3
          have q0 : 0 ≤ q := by rw [← hq]; exact Int.ediv_nonneg (by omega) (by omega)
          have e1 : p.rate * (p.tm + q - p.tm) = p.rate * q := by congr 1; omega
          have e2 : p.rate * (p.tm + q - 1 - p.tm) = p.rate * q - p.rate := by
            rw [show p.tm + q - 1 - p.tm = q - 1 by omega, Int.mul_sub, Int.mul_one]
          refine ⟨?_, fun h => ?_⟩
          · rw [filled_at hok (by omega) (by omega)]
            unfold Pz.fill
            simp only
            rw [e1]
            omega
          · rw [filled_at hok (by omega) (by omega)]
            unfold Pz.fill
            simp only
            rw [e2]
            omega
  · rw [if_neg hc] at hw
    omega
theorem spent_is {p : Pz} {now n : Int} (h : p.spentB now n = true) : (p.spent now n).level = (p.filled now).level - n ∧ 0 ≤ (p.spent now n).level ∧ (p.spent now n).ok = true := by
  unfold Pz.spentB at h
  simp only [Bool.and_eq_true] at h
  obtain ⟨h1, h2, h3⟩ := h
  have g := fill_ok h1 h2
  have gg := Pz.ok_iff.1 g.1
  have h4 := h3
  unfold Pz.may at h4
  simp only [Bool.and_eq_true, decide_eq_true_eq] at h4
  unfold Pz.spent Pz.filled
  rw [if_pos h1, if_pos h2, if_pos h3, if_pos h1, if_pos h2]
  refine ⟨rfl, by simp only; omega, ?_⟩
  rw [Pz.ok_iff]
  have e1 : (p.fill now).rate = p.rate := rfl
  have e2 : (p.fill now).burst = p.burst := rfl
  have e3 : (p.fill now).tm = now := rfl
  rw [e1, e2, e3] at gg
  simp only
  omega
end Go.Proofs.Ytfdapmchpikfiaa
