/-
  How much a deal is behind Came and Went. By the verifier.
-/
import Derived.Test.YtojmghnbekneiaaDlFn
namespace Go.Proofs.Ytojmghnbekneiaa
open Go.RowKit

theorem hsSum_set {l : List Hs} {j : Nat} {r : Hs} (hj : j < l.length) (hr : r.flows.length = (hsAt l j).flows.length) : hsSum (l.set j r) (l.set j r).length = hsSum l l.length := by
  unfold hsSum
  rw [List.take_length, List.take_length]
  have e : (l.set j r).map (fun r => r.flows.length) = l.map (fun r => r.flows.length) := by
    apply List.ext_getElem?
    intro i
    rw [List.getElem?_map, List.getElem?_map]
    by_cases h : i = j
    · subst h
      rw [List.getElem?_set_self hj, List.getElem?_eq_getElem hj]
      simp only [Option.map_some]
      rw [hr, hsAt_lt hj]
    · rw [List.getElem?_set_ne (fun e => h e.symm)]
  rw [e]
theorem big_set {d : Dl} {t : Int} {j : Nat} {r : Hs} (hj : j < d.hosts.length) (hr : r.flows.length = (hsAt d.hosts j).flows.length) : (Dl.mk t (d.hosts.set j r)).big = d.big := by
  unfold Dl.big
  simp only
  rw [hsSum_set hj hr, List.length_set]
theorem big_went {r : Dl} (h : r.big ≤ 1048576) : r.went.big ≤ 1048576 := by
  unfold Dl.went
  by_cases hk : r.ok = true
  · rw [if_pos hk]
    by_cases hh : r.has = true
    · rw [if_pos hh, big_set (Dl.at_lt hk) (by simp [Hs.less])]
      exact h
    · rw [if_neg hh]; exact h
  · rw [if_neg hk]
    simp [Dl.big, hsSum]
theorem big_came {r : Dl} {host flow : Int} (h : r.big ≤ 1048576) : (r.came host flow).big ≤ 1048576 := by
  unfold Dl.came
  by_cases hk : r.ok = true
  · rw [if_pos hk]
    by_cases hm : r.mayCome host flow = true
    · rw [if_pos hm]
      have := of_decide_eq_true hm
      rw [big_set (by omega) (by simp [Hs.more])]
      exact h
    · rw [if_neg hm]; exact h
  · rw [if_neg hk]
    simp [Dl.big, hsSum]
end Go.Proofs.Ytojmghnbekneiaa
