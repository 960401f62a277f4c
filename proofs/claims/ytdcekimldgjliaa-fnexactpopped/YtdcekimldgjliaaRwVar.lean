/-
  What lies while a law over rows is walked: variables that hold rows, each in its own stretch of memory. By the verifier.
-/
import Derived.Test.YtdcekimldgjliaaRwStr
import Derived.Test.YtdcekimldgjliaaRwReg
namespace Go.Proofs.Ytdcekimldgjliaa
open Go.RowKit

/-- The variable at B holds x: its memory lies from b up to t; both lie from s on. -/
structure RwH (s b t B : Nat) (cs : Array Value) (x : Rw) (W : World) : Prop where
  box : Boxed W B cs 29
  mem : RwIn b t W (.agg cs) x
  lo : b ≤ t
  up : t ≤ W.heap.size
  off : B < b ∨ t ≤ B
  sb : s ≤ b
  sB : s ≤ B
section
variable {s b t B b' t' : Nat} {cs : Array Value} {x : Rw} {W W' : World}
theorem RwH.below (h : RwH s b t B cs x W) (g : Below W.heap.size W W') : RwH s b t B cs x W' := ⟨h.box.below h.box.under g, h.mem.below g, h.lo, Nat.le_trans h.up g.size, h.off, h.sb, h.sB⟩
theorem RwH.span (h : RwH s b t B cs x W) (g : Span b' t' W W') (hd : t ≤ b' ∨ t' ≤ b) (hB : B < b' ∨ t' ≤ B) : RwH s b t B cs x W' := by
  have h1 := h.lo
  have h2 := h.up
  have h3 := h.box.under
  refine ⟨?_, h.mem.keep g.size fun k k1 k2 => g.block k (by omega) (by omega), h.lo, Nat.le_trans h.up g.size, h.off, h.sb, h.sB⟩
  unfold Boxed
  rw [g.block B h3 hB]
  exact h.box
/-- The same variable, what it holds marked. -/
theorem RwH.marked {y : Rw} (h : RwH s b t B cs x W) (g : Span b t W W') (hm : RwIn b t W' (.agg cs) y) : RwH s b t B cs y W' := by
  refine ⟨?_, hm, h.lo, Nat.le_trans h.up g.size, h.off, h.sb, h.sB⟩
  unfold Boxed
  rw [g.block B h.box.under h.off]
  exact h.box
theorem RwH.at (h : RwH s b t B cs x W) : RwAt W (.agg cs) x := h.mem.at
/-- The variable made behind its memory. -/
theorem RwH.new {n : Nat} (h : RwIn b t W (.agg cs) x) (hl : b ≤ t) (ht : t ≤ W.heap.size) (hs : s ≤ b) (hn : n = W.heap.size) : RwH s b t n cs x (W.alloc (.cells cs 29)) := by
  subst hn
  exact ⟨Boxed.new _ _ _, h.below ((Below.refl _ _).alloc (Nat.le_refl _) _), hl, by simp; omega, .inr ht, hs, by omega⟩
end
theorem Hold.var {W x : World} {b t : Nat} {y : Nat × Nat} {cs : Array Value} {X : Rw} (h : Hold W b t y x cs X) : RwH W.heap.size b t y.1 cs X x := ⟨h.box, h.mem.mem, h.mem.lo, h.mem.up, h.mem.o1, h.mem.sb, h.s1⟩
theorem RwIn.cells {b t : Nat} {W : World} {v : Value} {x : Rw} (h : RwIn b t W v x) : ∃ p q, v = .agg #[.int .i64 x.most, .slice p x.lists.length q] := by
  obtain ⟨p, q, e, _⟩ := h
  exact ⟨p, q, e⟩
end Go.Proofs.Ytdcekimldgjliaa
