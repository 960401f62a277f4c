/-
  Where a gate's lists lie; a cell of a variable put. By the verifier.
-/
import Derived.Test.YtgebghkcikmfaaaGreatDoorQJ3SrPlain
import Derived.Test.YtgebghkcikmfaaaGreatDoorQJ2RuMatch
namespace Go.Proofs.YtgebghkcikmfaaaGreatDoor
open Go.RowKit

theorem RtsV.spot' {w : World} {a : Option Addr} {n c : Nat} {l : List Rt} (h : RtsV w (.slice a n c) l) : RtsAt w a l := by
  obtain ⟨a', c', e, h1, _⟩ := h
  cases e
  exact h1
theorem RusV.spot' {w : World} {a : Option Addr} {n c : Nat} {l : List Ru} (h : RusV w (.slice a n c) l) : RusAt w a l := by
  obtain ⟨a', c', e, h1, _⟩ := h
  cases e
  exact h1
theorem NdsV.spot' {w : World} {a : Option Addr} {n c : Nat} {l : List Nd} (h : NdsV w (.slice a n c) l) : NdsAt w a l := by
  obtain ⟨a', c', e, h1, _⟩ := h
  cases e
  exact h1
theorem IntsV.spot' {w : World} {a : Option Addr} {n c : Nat} {l : List Int} (h : IntsV w (.slice a n c) l) : IntsAt w a l := by
  obtain ⟨a', c', e, h1, _⟩ := h
  cases e
  exact h1
theorem SrsV.spot' {w : World} {a : Option Addr} {n c : Nat} {l : List Sr} (h : SrsV w (.slice a n c) l) : SrsAt w a l := by
  obtain ⟨a', c', e, h1, _⟩ := h
  cases e
  exact h1
/-- A cell of a variable put: what else lies stays. -/
theorem lies_cell {w : World} {ts : List Thing} {W : World} {g : Nat} {cs : Array Value} {T : TypeId} (h : Lies w (Thing.box g cs T :: ts) W) (j : Nat) (u : Value) {cs' : Array Value} (hr : cs.setIfInBounds j u = cs') (off : OffT g (g + 1) ts) (lo : w.heap.size ≤ g) : Lies w (Thing.box g cs' T :: ts) (W.setCell ⟨g, j, none⟩ u) := by
  have sp : Span g (g + 1) W (W.setCell ⟨g, j, none⟩ u) := ⟨rfl, rfl, rfl, by simp [World.setCell], fun k _ hk => Below.heap_setCell _ _ _ _ (by show k ≠ g; omega)⟩
  exact ⟨⟨by rw [← hr]; exact (show Boxed W g cs T from h.1.1).put j u, h.1.2.span sp off⟩, h.2.setCell (p := ⟨g, j, none⟩) lo _⟩
theorem RwAt.spot {w : World} {r : Rw} {a : Option Addr} {c : Nat} (h : RwAt w (r.val a c) r) : IzAt w a r.lists := by
  obtain ⟨a', c', e, h⟩ := h
  unfold Rw.val at e
  injection e with e
  have := congrArg (·[1]?) e
  simp at this
  rw [this.1]
  exact h
theorem FsAt.spot {w : World} {r : Fs} {a : Option Addr} {c : Nat} (h : FsAt w (r.val a c) r) : FwsAt w a r.flows := by
  obtain ⟨a', c', e, h⟩ := h
  unfold Fs.val at e
  injection e with e
  have := congrArg (·[1]?) e
  simp at this
  rw [this.1]
  exact h
theorem Gt.small {g : Gt} (h : g.big ≤ 1048576) : g.routes.length ≤ 1048576 ∧ g.rules.length ≤ 1048576 ∧ g.tree.length ≤ 1048576 ∧ g.leaves.length ≤ 1048576 ∧ g.rows.big ≤ 1048576 ∧ g.steers.length ≤ 1048576 ∧ g.fair.big ≤ 1048576 := by
  unfold Gt.big at h
  omega
end Go.Proofs.YtgebghkcikmfaaaGreatDoor
