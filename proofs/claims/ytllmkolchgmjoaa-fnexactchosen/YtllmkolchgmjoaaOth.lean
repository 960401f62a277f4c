/-
  All blocks but a list's own are as they were. By the verifier.
-/
import Derived.RowKit3
import Derived.Below
namespace Go.Proofs.Ytllmkolchgmjoaa
open Go.RowKit

/-- All blocks but a list's own are as they were. -/
structure Oth (v : Value) (w w' : World) : Prop where
  size : w.heap.size ≤ w'.heap.size
  block : ∀ k, v.ownBlock ≠ some k → k < w.heap.size → w'.heap[k]? = w.heap[k]?
theorem Oth.refl (v : Value) (w : World) : Oth v w w := ⟨Nat.le_refl _, fun _ _ _ => rfl⟩
theorem Oth.trans {v : Value} {x y z : World} (h : Oth v x y) (g : Oth v y z) : Oth v x z := ⟨Nat.le_trans h.size g.size, fun k h1 h2 => (g.block k h1 (Nat.lt_of_lt_of_le h2 h.size)).trans (h.block k h1 h2)⟩
theorem Oth.set {g n c : Nat} {x y : World} {o : Nat} {u : Value} (h : Oth (.slice (some ⟨g, 0, none⟩) n c) x y) : Oth (.slice (some ⟨g, 0, none⟩) n c) x (y.setCell ⟨g, o, none⟩ u) :=
  h.trans ⟨by simp [World.setCell], fun k hk _ => Below.heap_setCell _ _ _ _ (by intro e; exact hk (by rw [e]; rfl))⟩
end Go.Proofs.Ytllmkolchgmjoaa
