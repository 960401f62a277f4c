/-
  Which gates are right, part by part as the program asks it. By the verifier.
-/
import Derived.Test.YtaojbmhodpffiaaGreatK19GtZero
namespace Go.Proofs.YtaojbmhodpffiaaGreat
open Go.RowKit

def lvB (ls : List Int) (n i : Nat) : Bool := decide (0 ≤ ls[i]?.getD 0) && (decide (ls[i]?.getD 0 < (n : Int)) && (decide (i = 0) || decide (ls[i - 1]?.getD 0 < ls[i]?.getD 0)))
/-- Leaves of a tree of so many. -/
def lvOk (ls : List Int) (n : Nat) : Bool := decide (1 ≤ ls.length) && (decide (ls.length ≤ 8) && (List.range ls.length).all (lvB ls n))
/-- Each part by itself. -/
def Gt.parts (g : Gt) : Bool := g.ln.ok && (rtsOk g.routes && (rusOk g.rules && (tok g.tree && (g.rows.ok && (g.fair.ok && g.steers.all Sr.ok)))))
/-- Items and sizes, one by one. -/
def keptB (ln : Ln) (l : List It) (s : List Int) : Bool := decide (l.length = s.length) && (List.range l.length).all fun k => decide (ln.on (itAt l k).size = s[k]?.getD 0)
def Gt.kept (g : Gt) : Bool := decide (g.rows.lists.length = g.leaves.length) && (decide (g.steers.length = g.leaves.length) && (decide (g.fair.flows.length = g.leaves.length) && (List.range g.rows.lists.length).all fun i => keptB g.ln (izAt g.rows.lists i) (fwAt g.fair.flows i).sizes))
def Gt.nextB (g : Gt) : Bool := inB 1 1000000 g.next && !(g.rows.lists.any fun l => l.any fun i => decide (g.next ≤ i.id))
theorem Rw.it_ok {r : Rw} (h : r.ok = true) {i k : Nat} (hi : i < r.lists.length) (hk : k < (izAt r.lists i).length) : (itAt (izAt r.lists i) k).ok = true := by
  have h1 := (Bool.and_eq_true _ _ ▸ (Bool.and_eq_true _ _ ▸ h).2 : _ ∧ _).1
  rw [List.all_eq_true] at h1
  refine h1 _ ?_
  unfold Rw.all
  rw [List.mem_flatten]
  refine ⟨izAt r.lists i, ?_, ?_⟩
  · rw [izAt, List.getElem?_eq_getElem hi, Option.getD_some]
    exact List.getElem_mem _
  · rw [itAt_lt hk]
    exact List.getElem_mem _
theorem Gt.ok_parts (g : Gt) : g.ok = (g.parts && (lvOk g.leaves g.tree.length && (g.kept && (g.nextB && inB 0 1048575 g.draw)))) := by
  rw [Bool.eq_iff_iff]
  constructor
  · intro h
    obtain ⟨h1, h2⟩ := Gt.ok_iff.1 h
    obtain ⟨a1, a2, a3, a4, a5, a6, a7, a8, a9, a10, a11, a12, a13⟩ := Gt.head_iff.1 h1
    have lf := fun i hi => Gt.leaf_iff.1 (h2 i hi)
    unfold Gt.parts lvOk Gt.kept Gt.nextB lvB keptB
    simp only [Bool.and_eq_true, Bool.or_eq_true, Bool.not_eq_true', decide_eq_true_eq, List.all_eq_true, List.mem_range, inB_true, List.any_eq_false, List.any_eq_true, not_exists, not_and, Int.not_le]
    refine ⟨⟨a1, a2, a3, a4, a6, a9, ?_⟩, ⟨a5.1, a5.2, fun i hi => ⟨(lf i hi).1.1, (lf i hi).1.2, (lf i hi).2.1⟩⟩, ⟨a7, a8, a10, fun i hi => ⟨(lf i (by omega)).2.2.2.1.symm, fun k hk => ?_⟩⟩, ⟨a11, ?_⟩, a12, a13⟩
    · intro s hs
      obtain ⟨i, hi, rfl⟩ := List.getElem_of_mem hs
      have := (lf i (by omega)).2.2.1
      rwa [srAt_lt hi] at this
    · have ok := Rw.it_ok a6 hi hk
      unfold It.ok at ok
      simp only [Bool.and_eq_true, inB_true] at ok
      rw [on_ok a1 (by rw [inB_true]; omega)]
      exact ((lf i (by omega)).2.2.2.2 k hk).2
    · intro l hl it hit
      obtain ⟨i, hi, rfl⟩ := List.getElem_of_mem hl
      obtain ⟨k, hk, rfl⟩ := List.getElem_of_mem hit
      have e1 : izAt g.rows.lists i = g.rows.lists[i] := by rw [izAt, List.getElem?_eq_getElem hi, Option.getD_some]
      have := ((lf i (by omega)).2.2.2.2 k (by rw [e1]; exact hk)).1
      rw [e1, itAt_lt hk] at this
      exact this
  · intro h
    unfold Gt.parts lvOk Gt.kept Gt.nextB lvB keptB at h
    simp only [Bool.and_eq_true, Bool.or_eq_true, Bool.not_eq_true', decide_eq_true_eq, List.all_eq_true, List.mem_range, inB_true, List.any_eq_false, List.any_eq_true, not_exists, not_and, Int.not_le] at h
    obtain ⟨⟨a1, a2, a3, a4, a6, a9, b1⟩, ⟨b2, b3, b4⟩, ⟨a7, a8, a10, b5⟩, ⟨a11, b6⟩, a12, a13⟩ := h
    refine Gt.ok_iff.2 ⟨Gt.head_iff.2 ⟨a1, a2, a3, a4, ⟨b2, b3⟩, a6, a7, a8, a9, a10, a11, a12, a13⟩, fun i hi => Gt.leaf_iff.2 ⟨⟨(b4 i hi).1, (b4 i hi).2.1⟩, (b4 i hi).2.2, ?_, (b5 i (by omega)).1.symm, fun k hk => ⟨?_, ?_⟩⟩⟩
    · rw [srAt_lt (by omega)]
      exact b1 _ (List.getElem_mem _)
    · have hi2 : i < g.rows.lists.length := by omega
      have e1 : izAt g.rows.lists i = g.rows.lists[i] := by rw [izAt, List.getElem?_eq_getElem hi2, Option.getD_some]
      rw [itAt_lt hk]
      refine b6 (izAt g.rows.lists i) (by rw [e1]; exact List.getElem_mem _) _ (List.getElem_mem _)
    · have ok := Rw.it_ok a6 (i := i) (by omega) hk
      unfold It.ok at ok
      simp only [Bool.and_eq_true, inB_true] at ok
      have := (b5 i (by omega)).2 k hk
      rwa [on_ok a1 (by rw [inB_true]; omega)] at this
end Go.Proofs.YtaojbmhodpffiaaGreat
