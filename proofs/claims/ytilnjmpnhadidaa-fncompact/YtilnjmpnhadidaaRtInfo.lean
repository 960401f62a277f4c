/-
  What the model holds of a route's shape; rows of nought routes. By the verifier.
-/
import Derived.Test.YtilnjmpnhadidaaRtRow
namespace Go.Proofs.Ytilnjmpnhadidaa
open Go.RowKit

theorem infoR : (Try.prog.info? 53).map (fun i => (i.zero, i.size, i.bytes)) = some (some (.agg #[.int .i64 0, .int .i64 0, .int .i64 0]), 3, 24) := by kernel_rfl
theorem madeR (n : Nat) : (madeCells #[Value.int .i64 0, .int .i64 0, .int .i64 0] (n * 3)).toList = rcells (List.replicate n ⟨0, 0, 0⟩) := by
  apply List.ext_getElem?
  intro i
  by_cases hi : i < n * 3
  · obtain ⟨k, j, rfl, hj⟩ : ∃ k j, i = k * 3 + j ∧ j < 3 := ⟨i / 3, i % 3, by omega, Nat.mod_lt _ (by omega)⟩
    have hk : k < n := by omega
    obtain ⟨e0, e1, e2⟩ := rcells_get (List.replicate n ⟨0, 0, 0⟩) k (by simpa using hk)
    have hz : rtAt (List.replicate n ⟨0, 0, 0⟩) k = ⟨0, 0, 0⟩ := by simp [rtAt, hk]
    rw [hz] at e0 e1 e2
    have hm : (k * 3 + j) % 3 = j := by omega
    have hL : (madeCells #[Value.int .i64 0, .int .i64 0, .int .i64 0] (n * 3)).toList[k * 3 + j]? = some (.int .i64 0) := by
      simp [madeCells, hi, hm]
      match j, hj with
      | 0, _ => rfl
      | 1, _ => rfl
      | 2, _ => rfl
    rw [hL]
    match j, hj with
    | 0, _ => exact e0.symm
    | 1, _ => exact e1.symm
    | 2, _ => exact e2.symm
  · rw [List.getElem?_eq_none (by simp [madeCells]; omega), List.getElem?_eq_none (by rw [rcells_length]; simp; omega)]

theorem take_set (l : List Rt) (n k : Nat) (hn : l.length = n) (hk : k < n) : (l.take k ++ List.replicate (n - k) (⟨0, 0, 0⟩ : Rt)).set k (rtAt l k) = l.take (k + 1) ++ List.replicate (n - (k + 1)) ⟨0, 0, 0⟩ := by
  subst hn
  rw [List.set_append_right _ _ (by simp; omega), List.take_succ_eq_append_getElem hk, rtAt_lt hk]
  simp only [List.length_take, Nat.min_eq_left (Nat.le_of_lt hk), Nat.sub_self]
  obtain ⟨m, hm⟩ : ∃ m, l.length - k = m + 1 := ⟨l.length - k - 1, by omega⟩
  rw [hm, show l.length - (k + 1) = m by omega, List.replicate_succ, List.set_cons_zero]
  simp only [List.append_assoc, List.cons_append, List.nil_append]

end Go.Proofs.Ytilnjmpnhadidaa
