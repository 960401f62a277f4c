/-
  What lies while a wheel is turned. By the verifier, by program.
-/
import Derived.Test.YtkocbfikcjgigaaGreatM5WhFn
import Derived.Test.YtkocbfikcjgigaaGreatM4DzGrow
import Derived.Test.YtkocbfikcjgigaaGreatM6WhCopyS
import Derived.Laws.ResultCell
import Derived.Laws.CopyOwn
namespace Go.Proofs.YtkocbfikcjgigaaGreat
open Go.RowKit

theorem dzIn_nil (b t : Nat) (w : World) : DzIn b t w (.slice none 0 0) [] :=
  ⟨[], ⟨SlIn.nil _ _ _ _ _ _, rfl, fun i hi => by simp at hi, fun i hi => by simp at hi, fun i j k o hi => by simp at hi, fun i k o hi => by simp at hi⟩⟩

structure PuW (w : World) (f : Int) (a : Option Addr) (n c : Nat) (i : Du) (B G : Nat) (vx : Option Addr) (vc : Nat) (vs : List Value) (ls' : List (List Du)) (wr : World) : Prop where
  box : Boxed wr w.heap.size #[.int .i64 f, .slice a n c] 29
  item : Boxed wr (w.heap.size + 1) #[.int .i64 i.time, .int .i64 i.id] 33
  res : Boxed wr (w.heap.size + 1 + 1) #[.int .i64 0, .slice none 0 0] 29
  out : Boxed wr B #[.int .i64 f, .slice vx n vc] 29
  g : DzG G (.slice vx n vc) vs ls' wr
  bel : Below w.heap.size w wr
  lo : w.heap.size + 3 ≤ G
  hi : w.heap.size + 3 ≤ B
section
variable {w : World} {f : Int} {a : Option Addr} {n c : Nat} {i : Du} {B G : Nat} {vx : Option Addr} {vc : Nat} {vs : List Value} {ls' : List (List Du)} {wr wd : World}
theorem PuW.below (h : PuW w f a n c i B G vx vc vs ls' wr) (g : Below wr.heap.size wr wd) : PuW w f a n c i B G vx vc vs ls' wd :=
  ⟨h.box.below h.box.under g, h.item.below h.item.under g, h.res.below h.res.under g, h.out.below h.out.under g, h.g.below g, h.bel.trans (g.mono h.bel.size), h.lo, h.hi⟩
/-- The answer's variable filled. -/
theorem PuW.done (h : PuW w f a n c i B G vx vc vs ls' wr) (hl : ls'.length = n) : WhIn w.heap.size (wr.setRow (w.heap.size + 1 + 1) #[.int .i64 f, .slice vx n vc]).heap.size (wr.setRow (w.heap.size + 1 + 1) #[.int .i64 f, .slice vx n vc]) (.agg #[.int .i64 f, .slice vx n vc]) ⟨f, ls'⟩ ∧ Below w.heap.size w (wr.setRow (w.heap.size + 1 + 1) #[.int .i64 f, .slice vx n vc]) := by
  have lo := h.lo
  refine ⟨⟨vx, vc, by unfold Wh.val; simp [hl], vs, ?_⟩, below_setRow h.bel (by omega) _⟩
  have hg : DzG G (.slice vx n vc) vs ls' (wr.setRow (w.heap.size + 1 + 1) #[.int .i64 f, .slice vx n vc]) := h.g.other fun k hk _ => setRow_other _ _ _ _ (by omega)
  have hd := hg.done
  show DzV _ _ _ (.slice vx ls'.length vc) vs ls'
  rw [hl]
  exact hd.wide (by omega) (Nat.le_refl _) (Nat.le_refl _)
end
end Go.Proofs.YtkocbfikcjgigaaGreat
