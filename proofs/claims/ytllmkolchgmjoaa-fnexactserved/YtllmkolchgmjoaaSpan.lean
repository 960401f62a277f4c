/-
  Nothing but what lies between two places was turned. By the verifier.
-/
import Derived.Test.YtllmkolchgmjoaaSlIn
namespace Go.Proofs.Ytllmkolchgmjoaa
open Go.RowKit

/-- Nothing but what lies from b up to t was turned; what is new lies behind. -/
structure Span (b t : Nat) (w w' : World) : Prop where
  os : w'.os = w.os
  tape : w'.tape = w.tape
  output : w'.output = w.output
  size : w.heap.size ≤ w'.heap.size
  block : ∀ k, k < w.heap.size → k < b ∨ t ≤ k → w'.heap[k]? = w.heap[k]?
theorem Span.refl (b t : Nat) (w : World) : Span b t w w := ⟨rfl, rfl, rfl, Nat.le_refl _, fun _ _ _ => rfl⟩
theorem Span.trans {b t : Nat} {x y z : World} (h : Span b t x y) (g : Span b t y z) : Span b t x z :=
  ⟨g.os.trans h.os, g.tape.trans h.tape, g.output.trans h.output, Nat.le_trans h.size g.size, fun k hk hb => (g.block k (Nat.lt_of_lt_of_le hk h.size) hb).trans (h.block k hk hb)⟩
theorem Span.of_turn {H : Nat → Nat → Prop} {b t : Nat} {w w' : World} (h : Turn H w w') (hb : ∀ k o, H k o → b ≤ k ∧ k < t) : Span b t w w' :=
  ⟨h.os, h.tape, h.output, Nat.le_of_eq h.size.symm, fun k _ hk => h.block k fun o ho => by have := hb k o ho; omega⟩
theorem Span.of_below {b t : Nat} {w w' : World} (h : Below w.heap.size w w') : Span b t w w' := ⟨h.os, h.tape, h.output, h.size, fun k hk _ => h.block k hk⟩
theorem Span.below {b t n : Nat} {w w' : World} (h : Span b t w w') (hn : n ≤ b) (hs : n ≤ w.heap.size) : Below n w w' := ⟨h.os, h.tape, h.output, h.size, fun k hk => h.block k (by omega) (.inl (by omega))⟩
end Go.Proofs.Ytllmkolchgmjoaa
