/-
  What lies while a law over records with memory (Fairness) is walked: variables that hold them, each in its own stretch of memory. By the verifier, by program.
-/
import Derived.Test.YtllmkolchgmjoaaFsStr
namespace Go.Proofs.Ytllmkolchgmjoaa
open Go.RowKit

/-- The variable at B holds x: its memory lies from b up to t; both lie from s on. -/
structure FsH (s b t B : Nat) (cs : Array Value) (x : Fs) (W : World) : Prop where
  box : Boxed W B cs 26
  mem : FsIn b t W (.agg cs) x
  lo : b ≤ t
  up : t ≤ W.heap.size
  off : B < b ∨ t ≤ B
  sb : s ≤ b
  sB : s ≤ B
section
variable {s b t B b' t' : Nat} {cs : Array Value} {x : Fs} {W W' : World}
theorem FsH.below (h : FsH s b t B cs x W) (g : Below W.heap.size W W') : FsH s b t B cs x W' := ⟨h.box.below h.box.under g, h.mem.below g, h.lo, Nat.le_trans h.up g.size, h.off, h.sb, h.sB⟩
theorem FsH.span (h : FsH s b t B cs x W) (g : Span b' t' W W') (hd : t ≤ b' ∨ t' ≤ b) (hB : B < b' ∨ t' ≤ B) : FsH s b t B cs x W' := by
  have h1 := h.lo
  have h2 := h.up
  have h3 := h.box.under
  refine ⟨?_, h.mem.keep g.size fun k k1 k2 => g.block k (by omega) (by omega), h.lo, Nat.le_trans h.up g.size, h.off, h.sb, h.sB⟩
  unfold Boxed
  rw [g.block B h3 hB]
  exact h.box
/-- The same variable, what it holds marked. -/
theorem FsH.marked {y : Fs} (h : FsH s b t B cs x W) (g : Span b t W W') (hm : FsIn b t W' (.agg cs) y) : FsH s b t B cs y W' := by
  refine ⟨?_, hm, h.lo, Nat.le_trans h.up g.size, h.off, h.sb, h.sB⟩
  unfold Boxed
  rw [g.block B h.box.under h.off]
  exact h.box
theorem FsH.at (h : FsH s b t B cs x W) : FsAt W (.agg cs) x := h.mem.at
/-- The variable made behind its memory. -/
theorem FsH.new {n : Nat} (h : FsIn b t W (.agg cs) x) (hl : b ≤ t) (ht : t ≤ W.heap.size) (hs : s ≤ b) (hn : n = W.heap.size) : FsH s b t n cs x (W.alloc (.cells cs 26)) := by
  subst hn
  exact ⟨Boxed.new _ _ _, h.below ((Below.refl _ _).alloc (Nat.le_refl _) _), hl, by simp; omega, .inr ht, hs, by omega⟩
end
theorem FsIn.cells {b t : Nat} {W : World} {v : Value} {x : Fs} (h : FsIn b t W v x) : ∃ p q, v = .agg #[.int .i64 x.now, .slice p x.flows.length q] := by
  obtain ⟨p, q, e, _⟩ := h
  exact ⟨p, q, e⟩
/-- What came in, boxed. -/
def FsS (w : World) (f : Int) (a : Option Addr) (n c : Nat) (W : World) : Prop := Boxed W w.heap.size #[.int .i64 f, .slice a n c] 46 ∧ Below w.heap.size w W
section
variable {w : World} {f : Int} {a : Option Addr} {n c : Nat} {W W' : World} {b t : Nat}
theorem FsS.below (h : FsS w f a n c W) (g : Below W.heap.size W W') : FsS w f a n c W' := ⟨h.1.below h.1.under g, h.2.trans (g.mono h.2.size)⟩
theorem FsS.span (h : FsS w f a n c W) (g : Span b t W W') (hb : w.heap.size + 1 ≤ b) : FsS w f a n c W' := by
  have u1 := h.1.under
  exact ⟨(g.block _ u1 (by omega)).trans h.1, h.2.trans (g.below (by omega) (by omega))⟩
theorem FsS.lt (h : FsS w f a n c W) : w.heap.size + 1 ≤ W.heap.size := h.1.under
theorem FsS.bel (h : FsS w f a n c W) : Below w.heap.size w W := h.2
end
/-- What lies behind both calls. -/
structure FsT (w : World) (f : Int) (a : Option Addr) (n c : Nat) (X g : Fs) (xf : Int) (xn b0 t0 B0 : Nat) (p0 : Option Addr) (q0 : Nat) (b2 t2 B2 : Nat) (p2 : Option Addr) (q2 : Nat) (W : World) : Prop where
  bs : FsS w f a n c W
  h0 : FsH (w.heap.size + 1) b0 t0 B0 #[.int .i64 xf, .slice p0 xn q0] X W
  hg : FsH (w.heap.size + 1) b2 t2 B2 #[.int .i64 xf, .slice p2 xn q2] g W
  d1 : t0 ≤ b2
  d2 : B0 < b2
section
variable {w : World} {f : Int} {a : Option Addr} {n c : Nat} {X g g' : Fs} {xf : Int} {xn b0 t0 B0 : Nat} {p0 : Option Addr} {q0 : Nat} {b2 t2 B2 : Nat} {p2 : Option Addr} {q2 : Nat} {W W' : World} {b1 t1 : Nat}
theorem FsT.below (h : FsT w f a n c X g xf xn b0 t0 B0 p0 q0 b2 t2 B2 p2 q2 W) (q : Below W.heap.size W W') : FsT w f a n c X g xf xn b0 t0 B0 p0 q0 b2 t2 B2 p2 q2 W' := ⟨h.bs.below q, h.h0.below q, h.hg.below q, h.d1, h.d2⟩
theorem FsT.other (h : FsT w f a n c X g xf xn b0 t0 B0 p0 q0 b2 t2 B2 p2 q2 W) (q : Span b1 t1 W W') (s1 : w.heap.size + 1 ≤ b1) (f1 : t0 ≤ b1) (f2 : B0 < b1) (f3 : t1 ≤ b2) (f4 : t1 ≤ B2) : FsT w f a n c X g xf xn b0 t0 B0 p0 q0 b2 t2 B2 p2 q2 W' := ⟨h.bs.span q s1, h.h0.span q (.inl f1) (.inl f2), h.hg.span q (.inr f3) (.inr f4), h.d1, h.d2⟩
theorem FsT.mark (h : FsT w f a n c X g xf xn b0 t0 B0 p0 q0 b2 t2 B2 p2 q2 W) (q : Span b2 t2 W W') (m : FsIn b2 t2 W' (.agg #[.int .i64 xf, .slice p2 xn q2]) g') : FsT w f a n c X g' xf xn b0 t0 B0 p0 q0 b2 t2 B2 p2 q2 W' := ⟨h.bs.span q h.hg.sb, h.h0.span q (.inl h.d1) (.inl h.d2), h.hg.marked q m, h.d1, h.d2⟩
end
end Go.Proofs.Ytllmkolchgmjoaa
