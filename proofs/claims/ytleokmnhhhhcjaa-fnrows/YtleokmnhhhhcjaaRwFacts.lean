/-
  Plain facts of rows: what is pushed and popped stays right, is one more or one less, weighs as much more or less, and comes out in order. By the verifier.
-/
import Derived.Test.YtleokmnhhhhcjaaM3RwFn
namespace Go.Proofs.Ytleokmnhhhhcjaa
open Go.RowKit

/-- One list put in the place of another. -/
def Rw.putL (r : Rw) (j : Nat) (l : List It) : Rw := ⟨r.most, r.lists.set j l⟩
theorem parts {r : Rw} {j : Nat} (hj : j < r.lists.length) : ∃ A B, r.all = A ++ (izAt r.lists j ++ B) ∧ ∀ l, (r.putL j l).all = A ++ (l ++ B) := by
  refine ⟨(r.lists.take j).flatten, (r.lists.drop (j + 1)).flatten, ?_, fun l => ?_⟩
  · have e : r.lists = r.lists.take j ++ izAt r.lists j :: r.lists.drop (j + 1) := by
      rw [izAt_lt hj, ← List.drop_eq_getElem_cons hj, List.take_append_drop]
    unfold Rw.all
    conv => lhs; rw [e]
    simp only [List.flatten_append, List.flatten_cons]
  · have e2 : r.lists.set j l = r.lists.take j ++ l :: r.lists.drop (j + 1) := List.set_eq_take_append_cons_drop.trans (if_pos hj)
    unfold Rw.all Rw.putL
    rw [e2]
    simp only [List.flatten_append, List.flatten_cons]
theorem putL_at {r : Rw} {j : Nat} (hj : j < r.lists.length) (l : List It) : izAt (r.putL j l).lists j = l := by
  unfold izAt Rw.putL
  rw [List.getElem?_set_self hj]
  rfl
theorem putL_len (r : Rw) (j : Nat) (l : List It) : (r.putL j l).lists.length = r.lists.length := by unfold Rw.putL; simp
theorem putL_self {r : Rw} {j : Nat} (hj : j < r.lists.length) : r.putL j (izAt r.lists j) = r := by
  unfold Rw.putL
  rw [izAt_lt hj, List.set_getElem_self]
theorem putL_twice (r : Rw) (j : Nat) (l l' : List It) : (r.putL j l).putL j l' = r.putL j l' := by
  unfold Rw.putL
  simp
theorem ok_small {r : Rw} (h : r.ok = true) : r.big ≤ 216 := by
  have g := Rw.ok_iff.1 h
  have h1 := g.2.2.2.2
  have h2 := g.1.2
  have h3 := g.2.1.2
  unfold Rw.big
  rw [← all_length]
  omega
theorem ok_more {r : Rw} (h : r.ok = true) {j : Nat} (hj : j < r.lists.length) {i : It} (h1 : i.ok = true) (h2 : r.has i.id = false) (h3 : ¬ (izSum r.lists r.lists.length : Int) = r.most) : (r.putL j (izAt r.lists j ++ [i])).ok = true := by
  obtain ⟨A, B, e1, e2⟩ := parts hj
  have g := Rw.ok_iff.1 h
  rw [Rw.ok_iff]
  have hm : (r.putL j (izAt r.lists j ++ [i])).most = r.most := rfl
  refine ⟨g.1, by rw [putL_len]; exact g.2.1, ?_⟩
  rw [hm, e2]
  have gg := g.2.2
  rw [e1] at gg
  have hperm : (A ++ (izAt r.lists j ++ [i] ++ B)).Perm (i :: (A ++ (izAt r.lists j ++ B))) := by
    rw [List.append_assoc, ← List.append_assoc, List.singleton_append]
    rw [← List.append_assoc A]
    exact List.perm_middle
  refine ⟨?_, ?_, ?_⟩
  · intro x hx
    rcases List.mem_cons.1 (hperm.mem_iff.1 hx) with rfl | hx
    · exact h1
    · exact gg.1 x hx
  · rw [(hperm.map It.id).nodup_iff, List.map_cons, List.nodup_cons]
    refine ⟨?_, gg.2.1⟩
    unfold Rw.has at h2
    rw [decide_eq_false_iff_not, e1] at h2
    exact h2
  · have hl := hperm.length_eq
    have h4 := all_length r
    have h5 := gg.2.2
    rw [e1] at h4
    rw [hl, List.length_cons]
    have : (izSum r.lists r.lists.length : Int) = ((A ++ (izAt r.lists j ++ B)).length : Int) := by rw [h4]
    push_cast
    omega
theorem ok_less {r : Rw} (h : r.ok = true) {j : Nat} (hj : j < r.lists.length) (k : Nat) : (r.putL j ((izAt r.lists j).drop k)).ok = true := by
  obtain ⟨A, B, e1, e2⟩ := parts hj
  have g := Rw.ok_iff.1 h
  rw [Rw.ok_iff]
  have hm : (r.putL j ((izAt r.lists j).drop k)).most = r.most := rfl
  refine ⟨g.1, by rw [putL_len]; exact g.2.1, ?_⟩
  rw [hm, e2]
  have gg := g.2.2
  rw [e1] at gg
  have hs : (A ++ ((izAt r.lists j).drop k ++ B)).Sublist (A ++ (izAt r.lists j ++ B)) := (List.Sublist.refl A).append ((List.drop_sublist k _).append (List.Sublist.refl B))
  refine ⟨fun x hx => gg.1 x (hs.subset hx), gg.2.1.sublist (hs.map _), ?_⟩
  have := hs.length_le
  have := gg.2.2
  omega
theorem all_more {r : Rw} {j : Nat} (hj : j < r.lists.length) (i : It) : (r.putL j (izAt r.lists j ++ [i])).all.length = r.all.length + 1 := by
  obtain ⟨A, B, e1, e2⟩ := parts hj
  rw [e1, e2]
  simp only [List.length_append, List.length_singleton]
  omega
theorem all_less {r : Rw} {j : Nat} (hj : j < r.lists.length) (h : (izAt r.lists j).length ≠ 0) : (r.putL j ((izAt r.lists j).drop 1)).all.length + 1 = r.all.length := by
  obtain ⟨A, B, e1, e2⟩ := parts hj
  rw [e1, e2]
  simp only [List.length_append, List.length_drop]
  omega
theorem count_ok {r : Rw} (h : r.ok = true) : r.count = (r.all.length : Int) := by
  unfold Rw.count
  rw [if_pos h, all_length]
theorem wSum_all (l : List It) : wSum l l.length = (l.map It.size).sum := by unfold wSum; rw [List.take_length]
theorem weight_ok {r : Rw} (h : r.ok = true) {j : Nat} (hj : j < r.lists.length) : r.weight (j : Int) = ((izAt r.lists j).map It.size).sum := by
  unfold Rw.weight
  rw [if_pos ⟨h, by omega, by omega⟩]
  simp only [Int.toNat_natCast]
  exact wSum_all _

/-- What may be pushed, where. -/
theorem push_facts {r : Rw} {row : Int} {i : It} (h : r.ok = true) (hm : r.mayPush row i = true) : ∃ j : Nat, row = (j : Int) ∧ j < r.lists.length ∧ r.pushed row i = r.putL j (izAt r.lists j ++ [i]) ∧ (r.pushed row i).ok = true ∧ (r.pushed row i).count = r.count + 1 ∧ (r.pushed row i).weight row = r.weight row + i.size ∧ izAt (r.pushed row i).lists j = izAt r.lists j ++ [i] ∧ (r.pushed row i).lists.length = r.lists.length := by
  have h0 := hm
  unfold Rw.mayPush at h0
  simp only [Bool.and_eq_true, decide_eq_true_eq, Bool.not_eq_true', decide_eq_false_iff_not] at h0
  obtain ⟨⟨p1, p2⟩, p3, p4, p5⟩ := h0
  obtain ⟨j, rfl⟩ := Int.eq_ofNat_of_zero_le p1
  have hj : j < r.lists.length := by omega
  have e : r.pushed (j : Int) i = r.putL j (izAt r.lists j ++ [i]) := by
    unfold Rw.pushed Rw.putL
    rw [if_pos h, if_pos hm]
    simp
  have ok := ok_more h hj p3 p4 p5
  refine ⟨j, rfl, hj, e, by rw [e]; exact ok, ?_, ?_, by rw [e]; exact putL_at hj _, by rw [e]; exact putL_len _ _ _⟩
  · rw [e, count_ok ok, count_ok h, all_more hj]
    push_cast
    rfl
  · rw [e, weight_ok ok (by rw [putL_len]; exact hj), weight_ok h hj, putL_at hj]
    simp
/-- What may be popped, whence. -/
theorem pop_facts {r : Rw} {row : Int} (h : r.ok = true) (hm : r.mayPop row = true) : ∃ j : Nat, row = (j : Int) ∧ j < r.lists.length ∧ r.popped row = r.putL j ((izAt r.lists j).drop 1) ∧ (r.popped row).ok = true ∧ (r.popped row).count = r.count - 1 ∧ (r.popped row).weight row = r.weight row - (r.poppedI row).size ∧ r.poppedI row = itAt (izAt r.lists j) 0 := by
  have h0 := hm
  unfold Rw.mayPop at h0
  simp only [Bool.and_eq_true, decide_eq_true_eq, Bool.not_eq_true', decide_eq_false_iff_not] at h0
  obtain ⟨⟨p1, p2⟩, p3⟩ := h0
  obtain ⟨j, rfl⟩ := Int.eq_ofNat_of_zero_le p1
  have hj : j < r.lists.length := by omega
  simp only [Int.toNat_natCast] at p3
  have e : r.popped (j : Int) = r.putL j ((izAt r.lists j).drop 1) := by
    unfold Rw.popped Rw.putL
    rw [if_pos h, if_pos hm]
    simp
  have ei : r.poppedI (j : Int) = itAt (izAt r.lists j) 0 := by
    unfold Rw.poppedI
    rw [if_pos (by rw [h, hm]; rfl)]
    simp
  have ok := ok_less h hj 1
  refine ⟨j, rfl, hj, e, by rw [e]; exact ok, ?_, ?_, ei⟩
  · rw [e, count_ok ok, count_ok h]
    have := all_less hj p3
    omega
  · rw [e, weight_ok ok (by rw [putL_len]; exact hj), weight_ok h hj, putL_at hj, ei]
    cases hl : izAt r.lists j with
    | nil => rw [hl] at p3; simp at p3
    | cons x xs =>
      simp [itAt]
      omega
/-- So many popped, one behind the other. -/
def Rw.popK (r : Rw) (j k : Nat) : Rw := r.putL j ((izAt r.lists j).drop k)
theorem popK_zero {r : Rw} {j : Nat} (hj : j < r.lists.length) : r.popK j 0 = r := by unfold Rw.popK; rw [List.drop_zero]; exact putL_self hj
theorem popK_ok {r : Rw} (h : r.ok = true) {j : Nat} (hj : j < r.lists.length) (k : Nat) : (r.popK j k).ok = true := ok_less h hj k
theorem popK_len (r : Rw) (j k : Nat) : (r.popK j k).lists.length = r.lists.length := putL_len _ _ _
theorem popK_at {r : Rw} {j : Nat} (hj : j < r.lists.length) (k : Nat) : izAt (r.popK j k).lists j = (izAt r.lists j).drop k := putL_at hj _
theorem popK_may {r : Rw} {j : Nat} (hj : j < r.lists.length) (k : Nat) : (r.popK j k).mayPop (j : Int) = decide (k < (izAt r.lists j).length) := by
  unfold Rw.mayPop
  rw [popK_len, Bool.eq_iff_iff]
  simp only [Bool.and_eq_true, decide_eq_true_eq, Bool.not_eq_true', decide_eq_false_iff_not, Int.toNat_natCast]
  rw [popK_at hj, List.length_drop]
  omega
theorem popK_next {r : Rw} (h : r.ok = true) {j : Nat} (hj : j < r.lists.length) {k : Nat} (hk : k < (izAt r.lists j).length) : (r.popK j k).popped (j : Int) = r.popK j (k + 1) ∧ (r.popK j k).poppedI (j : Int) = itAt (izAt r.lists j) k ∧ (r.popK j k).poppedB (j : Int) = true := by
  have hm : (r.popK j k).mayPop (j : Int) = true := by rw [popK_may hj, decide_eq_true hk]
  have ok := popK_ok h hj k
  obtain ⟨j', e0, _, e, _, _, _, ei⟩ := pop_facts ok hm
  obtain rfl : j = j' := by omega
  refine ⟨?_, ?_, by unfold Rw.poppedB; rw [ok, hm]; rfl⟩
  · rw [e, popK_at hj, List.drop_drop]
    show (r.putL j _).putL j _ = _
    rw [putL_twice]
    rfl
  · rw [ei, popK_at hj]
    simp [itAt]
theorem popK_end {r : Rw} (h : r.ok = true) {j : Nat} (hj : j < r.lists.length) {k : Nat} (hk : ¬ k < (izAt r.lists j).length) : (r.popK j k).poppedB (j : Int) = false := by
  unfold Rw.poppedB
  rw [popK_ok h hj k, popK_may hj, decide_eq_false hk]
  rfl
end Go.Proofs.Ytleokmnhhhhcjaa
