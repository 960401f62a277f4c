/-
  How much flows are behind Queued and Served. By the verifier.
-/
import Derived.Test.YtllmkolchgmjoaaFsFn
namespace Go.Proofs.Ytllmkolchgmjoaa
open Go.RowKit

theorem fwSum_le {l : List Fw} (h : ∀ i, i < l.length → (fwAt l i).sizes.length ≤ 40) (k : Nat) (hk : k ≤ l.length) : fwSum l k ≤ 40 * k := by
  induction k with
  | zero => rw [fwSum_zero]; omega
  | succ k ih =>
    have h1 := ih (by omega)
    have h2 := h k (by omega)
    rw [fwSum_succ (by omega)]
    omega
theorem Fs.ok_big {f : Fs} (hk : f.ok = true) : f.big ≤ 328 := by
  have h1 := (Fs.ok_iff.1 hk).2.1
  have h2 := fwSum_le (l := f.flows) (fun i hi => (Fw.ok_iff.1 (Fs.ok_at hk hi)).2.2.1) f.flows.length (Nat.le_refl _)
  unfold Fs.big
  omega
theorem big_nil : (⟨0, []⟩ : Fs).big ≤ 1048576 := by simp [Fs.big, fwSum]
theorem big_queued {r : Fs} {flow size : Int} (h : r.big ≤ 1048576) : (r.queued flow size).big ≤ 1048576 := by
  by_cases hk : r.ok = true
  · by_cases hm : r.mayQ flow size = true
    · have := Fs.ok_big (Fs.queued_ok hk hm)
      omega
    · unfold Fs.queued
      rw [if_pos hk, if_neg hm]
      exact h
  · unfold Fs.queued
    rw [if_neg hk]
    exact big_nil
theorem Fs.served_ok {f : Fs} (hk : f.ok = true) : f.served.ok = true := by
  unfold Fs.served
  rw [if_pos hk]
  by_cases hc : f.can = true
  · rw [if_pos hc]
    have h := hc
    unfold Fs.can at h
    simp only [Bool.and_eq_true, decide_eq_true_eq] at h
    obtain ⟨b, e, hb, hw, _⟩ := Fs.chosen_is hk h.2.1
    rw [e, Int.toNat_natCast] at h ⊢
    exact Fs.serve_ok hk hb hw h.2.2
  · rw [if_neg hc]
    exact hk
theorem big_served {r : Fs} (_h : r.big ≤ 1048576) : r.served.big ≤ 1048576 := by
  by_cases hk : r.ok = true
  · have := Fs.ok_big (Fs.served_ok hk)
    omega
  · unfold Fs.served
    rw [if_neg hk]
    exact big_nil
end Go.Proofs.Ytllmkolchgmjoaa
