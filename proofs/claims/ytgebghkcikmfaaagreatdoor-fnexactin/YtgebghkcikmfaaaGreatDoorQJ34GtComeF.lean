/-
  What comes in at a gate: what Pushed and Queued tell of it. By the verifier.
-/
import Derived.Test.YtgebghkcikmfaaaGreatDoorQJ11GtFacts
namespace Go.Proofs.YtgebghkcikmfaaaGreatDoor
open Go.RowKit

theorem come_put {g : Gt} {i : Nat} {len : Int} (h : g.ok = true) (hi : i < g.leaves.length) (h1 : 1 ≤ len ∧ len ≤ 100000) (h2 : 1 ≤ g.ln.takes len ∧ g.ln.takes len ≤ 2000) :
    g.rows.pushedB (i : Int) ⟨g.next, len, (ndAt g.tree 0).pz.tm⟩ = !decide ((izSum g.rows.lists g.rows.lists.length : Int) = g.rows.most) ∧
    g.fair.queuedB (i : Int) (g.ln.takes len) = !decide ((fwAt g.fair.flows i).sizes.length = 40) ∧
    (g.rows.pushedB (i : Int) ⟨g.next, len, (ndAt g.tree 0).pz.tm⟩ = true → g.rows.pushed (i : Int) ⟨g.next, len, (ndAt g.tree 0).pz.tm⟩ = g.rows.putL i (izAt g.rows.lists i ++ [⟨g.next, len, (ndAt g.tree 0).pz.tm⟩])) ∧
    (g.fair.queuedB (i : Int) (g.ln.takes len) = true → g.fair.queued (i : Int) (g.ln.takes len) = ⟨g.fair.now, g.fair.flows.set i ((fwAt g.fair.flows i).more g.fair.now (g.ln.takes len))⟩) := by
  obtain ⟨hh, hl⟩ := Gt.ok_iff.1 h
  obtain ⟨a1, a2, a3, a4, a5, a6, a7, a8, a9, a10, a11, a12⟩ := Gt.head_iff.1 hh
  have hiL : i < g.rows.lists.length := by omega
  have hiF : i < g.fair.flows.length := by omega
  have htm := Pz.ok_iff.1 (tok_at a4 (k := 0) (by have := (tok_iff.1 a4).1; omega)).1
  have iok : It.ok ⟨g.next, len, (ndAt g.tree 0).pz.tm⟩ = true := by
    unfold It.ok
    simp only [Bool.and_eq_true, inB_true]
    omega
  have hno : g.rows.has g.next = false := by
    unfold Rw.has
    rw [decide_eq_false_iff_not]
    intro hm
    obtain ⟨x, hx, e⟩ := List.mem_map.1 hm
    have := Gt.ids h x hx
    omega
  have e1 : g.rows.pushedB (i : Int) ⟨g.next, len, (ndAt g.tree 0).pz.tm⟩ = !decide ((izSum g.rows.lists g.rows.lists.length : Int) = g.rows.most) := by
    unfold Rw.pushedB Rw.mayPush
    rw [a6, iok, hno, decide_eq_true (show (0 : Int) ≤ (i : Int) by omega), decide_eq_true (show (i : Int) < (g.rows.lists.length : Int) by omega)]
    simp
  have e2 : g.fair.queuedB (i : Int) (g.ln.takes len) = !decide ((fwAt g.fair.flows i).sizes.length = 40) := by
    unfold Fs.queuedB Fs.mayQ
    rw [a9, Int.toNat_natCast, Bool.true_and, Bool.eq_iff_iff]
    simp only [decide_eq_true_eq, Bool.not_eq_true', decide_eq_false_iff_not]
    constructor
    · exact fun z => z.2.2
    · exact fun z => ⟨⟨by omega, by omega⟩, h2, z⟩
  refine ⟨e1, e2, fun e => ?_, fun e => ?_⟩
  · unfold Rw.pushedB at e
    rw [Bool.and_eq_true] at e
    unfold Rw.pushed
    rw [if_pos e.1, if_pos e.2, Int.toNat_natCast]
    rfl
  · unfold Fs.queuedB at e
    rw [Bool.and_eq_true] at e
    unfold Fs.queued
    rw [if_pos e.1, if_pos e.2, Int.toNat_natCast]
end Go.Proofs.YtgebghkcikmfaaaGreatDoor
