/-
  Plain facts of purses and paces: filled by turns is filled at once; when there is so much; early and leaky let the same through. By the verifier.
-/
import Derived.Test.YtkdofeanpcbihaaPzPlain
import Derived.Test.YtkdofeanpcbihaaPePlain
namespace Go.Proofs.Ytkdofeanpcbihaa
open Go.RowKit

theorem fill_ok {p : Pz} {now : Int} (h : p.ok = true) (h2 : p.at' now = true) : (p.fill now).ok = true ∧ p.level ≤ (p.fill now).level := by
  have g := Pz.ok_iff.1 h
  unfold Pz.at' at h2
  rw [inB_true] at h2
  have hm := mul_small (a := p.rate) (b := now - p.tm) g.1.1 g.1.2 (by omega) (by omega)
  rw [Pz.ok_iff]
  unfold Pz.fill
  simp only
  omega
theorem fill_twice {p : Pz} {mid now : Int} (h : p.ok = true) (h1 : p.tm ≤ mid) (h2 : mid ≤ now) (h3 : now ≤ 1099511627776) : (p.fill mid).fill now = p.fill now := by
  have g := Pz.ok_iff.1 h
  have m1 := mul_small (a := p.rate) (b := mid - p.tm) g.1.1 g.1.2 (by omega) (by omega)
  have m2 := mul_small (a := p.rate) (b := now - mid) g.1.1 g.1.2 (by omega) (by omega)
  have e : p.rate * (now - p.tm) = p.rate * (mid - p.tm) + p.rate * (now - mid) := by rw [← Int.mul_add]; congr 1; omega
  unfold Pz.fill
  simp only [Pz.mk.injEq, true_and, and_true]
  rw [e]
  omega
theorem filled_at {p : Pz} {now : Int} (h : p.ok = true) (h1 : p.tm ≤ now) (h2 : now ≤ 1099511627776) : p.filled now = p.fill now := by
  have h3 : p.at' now = true := by unfold Pz.at'; rw [inB_true]; omega
  unfold Pz.filled
  rw [if_pos h, if_pos h3]
theorem filled_twice {p : Pz} {mid now : Int} (h : p.ok = true) (h1 : p.tm ≤ mid) (h2 : mid ≤ now) (h3 : now ≤ 1099511627776) : (p.filled mid).filled now = p.filled now := by
  rw [filled_at h h1 (by omega), filled_at h (by omega) h3]
  have ok := (fill_ok (now := mid) h (by unfold Pz.at'; rw [inB_true]; omega)).1
  rw [filled_at ok h2 h3]
  exact fill_twice h h1 h2 h3
/-- There is so much at the time that is told, and not ahead of it. -/
theorem when_is {p : Pz} {n : Int} (hw : 0 ≤ p.when n) : n ≤ (p.filled (p.when n)).level ∧ (p.tm < p.when n → (p.filled (p.when n - 1)).level < n) := by
  have hw0 := hw
  unfold Pz.when at hw
  by_cases hc : p.ok = true ∧ 0 ≤ n
  · rw [if_pos hc] at hw
    have ew : p.when n = p.whenL n := by unfold Pz.when; rw [if_pos hc]
    rw [ew]
    obtain ⟨hok, hn⟩ := hc
    have g := Pz.ok_iff.1 hok
    unfold Pz.whenL at hw ⊢
    by_cases h1 : n ≤ p.level
    · rw [if_pos h1] at hw ⊢
      refine ⟨?_, fun h => by omega⟩
      rw [filled_at hok (Int.le_refl _) g.2.2.2.2]
      have := (fill_ok (now := p.tm) hok (by unfold Pz.at'; rw [inB_true]; omega)).2
      omega
    · rw [if_neg h1] at hw ⊢
      by_cases h2 : p.rate = 0 ∨ p.burst < n
      · rw [if_pos h2] at hw; omega
      · rw [if_neg h2] at hw ⊢
        by_cases h3 : 1099511627776 < p.tm + (n - p.level + p.rate - 1) / p.rate
        · rw [if_pos h3] at hw; omega
        · rw [if_neg h3] at hw ⊢
          have r0 : 0 < p.rate := by omega
          obtain ⟨q, hq⟩ : ∃ q, (n - p.level + p.rate - 1) / p.rate = q := ⟨_, rfl⟩
          have d1 := Int.mul_ediv_add_emod (n - p.level + p.rate - 1) p.rate
          have d2 := Int.emod_nonneg (n - p.level + p.rate - 1) (show p.rate ≠ 0 by omega)
          have d3 := Int.emod_lt_of_pos (n - p.level + p.rate - 1) r0
          rw [hq] at d1 h3 hw ⊢
          generalize (n - p.level + p.rate - 1) % p.rate = rem at d1 d2 d3
          have q0 : 0 ≤ q := by rw [← hq]; exact Int.ediv_nonneg (by omega) (by omega)
          have e1 : p.rate * (p.tm + q - p.tm) = p.rate * q := by congr 1; omega
          have e2 : p.rate * (p.tm + q - 1 - p.tm) = p.rate * q - p.rate := by
            rw [show p.tm + q - 1 - p.tm = q - 1 by omega, Int.mul_sub, Int.mul_one]
          refine ⟨?_, fun h => ?_⟩
          · rw [filled_at hok (by omega) (by omega)]
            unfold Pz.fill
            simp only
            rw [e1]
            omega
          · rw [filled_at hok (by omega) (by omega)]
            unfold Pz.fill
            simp only
            rw [e2]
            omega
  · rw [if_neg hc] at hw
    omega
theorem spent_is {p : Pz} {now n : Int} (h : p.spentB now n = true) : (p.spent now n).level = (p.filled now).level - n ∧ 0 ≤ (p.spent now n).level ∧ (p.spent now n).ok = true := by
  unfold Pz.spentB at h
  simp only [Bool.and_eq_true] at h
  obtain ⟨h1, h2, h3⟩ := h
  have g := fill_ok h1 h2
  have gg := Pz.ok_iff.1 g.1
  have h4 := h3
  unfold Pz.may at h4
  simp only [Bool.and_eq_true, decide_eq_true_eq] at h4
  unfold Pz.spent Pz.filled
  rw [if_pos h1, if_pos h2, if_pos h3, if_pos h1, if_pos h2]
  refine ⟨rfl, by simp only; omega, ?_⟩
  rw [Pz.ok_iff]
  have e1 : (p.fill now).rate = p.rate := rfl
  have e2 : (p.fill now).burst = p.burst := rfl
  have e3 : (p.fill now).tm = now := rfl
  rw [e1, e2, e3] at gg
  simp only
  omega
/-- Both paces as one: what is let through early is let through leaking, and they stay as one. -/
structure Same (p : Pe) (now sum : Int) : Prop where
  ok : p.ok = true
  one : p.next = p.last + p.fill
  past : p.last ≤ now
  low : sum * p.gap ≤ p.next
  few : (sum - 1) * p.gap ≤ p.slack + now
  sum0 : 0 ≤ sum
  small : p.next ≤ now + p.slack + 1000
/-- The next one of both. -/
def Pe.both (p : Pe) (now : Int) : Pe := ⟨p.gap, p.slack, (p.early now).next, (p.leaky now).fill, (p.leaky now).last⟩
theorem same_next {p : Pe} {now now' sum : Int} (h : Same p now sum) (h1 : now ≤ now') (h2 : now' ≤ 100000) (h0 : 0 ≤ now) : p.earlyB now' = p.leakyB now' ∧ Same (p.both now') now' (if p.earlyB now' = true then sum + 1 else sum) := by
  have g := Pe.ok_iff.1 h.ok
  have o1 := h.one
  have o2 := h.past
  have o3 := h.low
  have o4 := h.few
  have o5 := h.sum0
  have o6 := h.small
  have ht : inB 0 1099511627776 now' = true := by rw [inB_true]; omega
  have hl : p.left now' = max 0 (p.next - now') := by unfold Pe.left; rw [o1]; omega
  have e1 : p.earlyB now' = decide (p.next ≤ now' + p.slack) := by
    unfold Pe.earlyB
    rw [h.ok, ht, Bool.true_and, Bool.true_and]
    by_cases hc : p.next ≤ now' + p.slack
    · rw [decide_eq_true hc, decide_eq_true (by omega)]; rfl
    · rw [decide_eq_false hc]; rfl
  have e2 : p.leakyB now' = decide (p.next ≤ now' + p.slack) := by
    unfold Pe.leakyB
    rw [h.ok, ht, decide_eq_true (show p.last ≤ now' by omega), Bool.true_and, Bool.true_and, Bool.true_and, hl]
    by_cases hc : p.next ≤ now' + p.slack
    · rw [decide_eq_true hc, decide_eq_true (by omega)]
    · rw [decide_eq_false hc, decide_eq_false (by omega)]
  refine ⟨e1.trans e2.symm, ?_⟩
  by_cases hc : p.next ≤ now' + p.slack
  · have t1 : p.earlyB now' = true := by rw [e1, decide_eq_true hc]
    have t2 : p.leakyB now' = true := by rw [e2, decide_eq_true hc]
    have b1 : p.early now' = ⟨p.gap, p.slack, max p.next now' + p.gap, p.fill, p.last⟩ := by unfold Pe.early; rw [if_pos t1]
    have b2 : p.leaky now' = ⟨p.gap, p.slack, p.next, p.left now' + p.gap, now'⟩ := by unfold Pe.leaky; rw [if_pos t2]
    rw [if_pos t1]
    have eb : p.both now' = ⟨p.gap, p.slack, max p.next now' + p.gap, p.left now' + p.gap, now'⟩ := by unfold Pe.both; rw [b1, b2]
    rw [eb, hl]
    have hs : (sum + 1) * p.gap = sum * p.gap + p.gap := by rw [Int.add_mul, Int.one_mul]
    have hs2 : (sum + 1 - 1) * p.gap = sum * p.gap := by congr 1; omega
    refine ⟨?_, ?_, ?_, ?_, ?_, by omega, ?_⟩
    · rw [Pe.ok_iff]; simp only; omega
    · simp only; omega
    · simp only; omega
    · simp only; rw [hs]; omega
    · simp only; rw [hs2]; omega
    · simp only; omega
  · have t1 : p.earlyB now' = false := by rw [e1, decide_eq_false hc]
    have t2 : p.leakyB now' = false := by rw [e2, decide_eq_false hc]
    have b1 : p.early now' = p := by unfold Pe.early; rw [if_neg (by rw [t1]; decide)]
    have b2 : p.leaky now' = p := by unfold Pe.leaky; rw [if_neg (by rw [t2]; decide)]
    rw [if_neg (by rw [t1]; decide)]
    have eb : p.both now' = p := by unfold Pe.both; rw [b1, b2]
    rw [eb]
    exact ⟨h.ok, o1, by omega, o3, by omega, o5, by omega⟩
end Go.Proofs.Ytkdofeanpcbihaa
