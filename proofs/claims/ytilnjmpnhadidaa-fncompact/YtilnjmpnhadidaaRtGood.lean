/-
  Right routes are right each, in order, and no two lie at one place. By the verifier.
-/
import Derived.Test.YtilnjmpnhadidaaM2
namespace Go.Proofs.Ytilnjmpnhadidaa
open Go.RowKit

theorem ok_all {l : List Rt} (h : rtsOk l = true) : l.length ≤ 64 ∧ (∀ r ∈ l, r.ok = true) ∧ l.Pairwise fun a b => a.lt b = true := by
  have t := trieOk_of h
  refine ⟨?_, ?_, t.sorted⟩
  · unfold rtsOk at h
    rw [Bool.and_eq_true, decide_eq_true_iff] at h
    exact h.1
  · intro r hr
    obtain ⟨k, hk, rfl⟩ := List.getElem_of_mem hr
    unfold rtsOk goodTo at h
    rw [Bool.and_eq_true, List.all_eq_true] at h
    have := h.2 k (List.mem_range.2 hk)
    unfold good at this
    rw [Bool.and_eq_true, rtAt_lt hk] at this
    exact this.1
theorem ok_of {l : List Rt} (h64 : l.length ≤ 64) (hok : ∀ r ∈ l, r.ok = true) (hs : l.Pairwise fun a b => a.lt b = true) : rtsOk l = true := by
  unfold rtsOk goodTo
  rw [Bool.and_eq_true, decide_eq_true_iff, List.all_eq_true]
  refine ⟨h64, fun k hk => ?_⟩
  rw [List.mem_range] at hk
  unfold good
  rw [rtAt_lt hk, hok _ (List.getElem_mem hk), Bool.true_and, Bool.or_eq_true, decide_eq_true_iff]
  by_cases h0 : k = 0
  · exact .inl h0
  · refine .inr ?_
    rw [rtAt_lt (by omega)]
    exact List.pairwise_iff_getElem.1 hs (k - 1) k (by omega) hk (by omega)
theorem lt_irrefl' {a b : Rt} (h : a.lt b = true) : ¬ (a.net = b.net ∧ a.bits = b.bits) := by
  have := lt_iff.1 h
  omega
theorem lt_trans' {a b c : Rt} (h : a.lt b = true) (g : b.lt c = true) : a.lt c = true := by
  have h1 := lt_iff.1 h
  have h2 := lt_iff.1 g
  rw [lt_iff]
  omega

end Go.Proofs.Ytilnjmpnhadidaa
