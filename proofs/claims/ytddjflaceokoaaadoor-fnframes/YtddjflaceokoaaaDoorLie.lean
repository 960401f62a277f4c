/-
  What lies in a world while a law is walked: frames' cells, lists of tags, and all that lay. By the verifier.
-/
import Derived.Test.YtddjflaceokoaaaDoorFrRow
namespace Go.Proofs.YtddjflaceokoaaaDoor
open Go.RowKit

/-- What lies in a world: frames' cells, lists of tags, and all that lay. -/
def Lie (w : World) (bs : List (Nat × Array Value)) (ts : List (Option Addr × List Int)) (x : World) : Prop := (∀ p ∈ bs, Boxed x p.1 p.2 26) ∧ (∀ p ∈ ts, IntsAt x p.1 p.2) ∧ Below w.heap.size w x
theorem Lie.below {w : World} {bs : List (Nat × Array Value)} {ts : List (Option Addr × List Int)} {x y : World} (h : Lie w bs ts x) (g : Below x.heap.size x y) : Lie w bs ts y :=
  ⟨fun p hp => (h.1 p hp).below (h.1 p hp).under g, fun p hp => (h.2.1 p hp).below g, h.2.2.trans (g.mono h.2.2.size)⟩
theorem Lie.box {w : World} {bs : List (Nat × Array Value)} {ts : List (Option Addr × List Int)} {x : World} (h : Lie w bs ts x) (cs : Array Value) : Lie w ((x.heap.size, cs) :: bs) ts (x.alloc (.cells cs 26)) := by
  have h2 := h.below ((Below.refl _ x).alloc (Nat.le_refl _) (.cells cs 26))
  refine ⟨fun p hp => ?_, h2.2⟩
  rcases List.mem_cons.1 hp with rfl | h1
  · exact Boxed.new _ _ _
  · exact h2.1 p h1
theorem Lie.tags {w : World} {bs : List (Nat × Array Value)} {ts : List (Option Addr × List Int)} {x : World} (h : Lie w bs ts x) (a : Option Addr) (l : List Int) (hr : IntsAt x a l) : Lie w bs ((a, l) :: ts) x := by
  refine ⟨h.1, fun p hp => ?_, h.2.2⟩
  rcases List.mem_cons.1 hp with rfl | h1
  · exact hr
  · exact h.2.1 p h1
theorem Lie.boxed {w : World} {bs : List (Nat × Array Value)} {ts : List (Option Addr × List Int)} {x : World} (h : Lie w bs ts x) (p : Nat × Array Value) (hp : p ∈ bs) : Boxed x p.1 p.2 26 := h.1 p hp
theorem Lie.ints {w : World} {bs : List (Nat × Array Value)} {ts : List (Option Addr × List Int)} {x : World} (h : Lie w bs ts x) (p : Option Addr × List Int) (hp : p ∈ ts) : IntsAt x p.1 p.2 := h.2.1 p hp
end Go.Proofs.YtddjflaceokoaaaDoor
