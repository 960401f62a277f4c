/-
  Variables that are structs, with known cells, as one fact. By the verifier.
-/
import Derived.Test.YtemegnfefjcdaaaDoorBoxed
import Derived.Test.YtemegnfefjcdaaaDoorStepRow
import Derived.Laws.CopyOwn
import Derived.Laws.ResultCell
namespace Go.Proofs.YtemegnfefjcdaaaDoor
open Go.RowKit

/-- Variables with known cells, and all that lay lies. -/
structure Bxs (t : TypeId) (L : List (Nat × Array Value)) (w x : World) : Prop where
  bel : Below w.heap.size w x
  box : ∀ g cs, (g, cs) ∈ L → Boxed x g cs t
section
variable {t : TypeId} {L : List (Nat × Array Value)} {w x x' : World}
theorem Bxs.below (h : Bxs t L w x) (q : Below x.heap.size x x') : Bxs t L w x' :=
  ⟨h.bel.trans (q.mono h.bel.size), fun g cs hm => (h.box g cs hm).below (h.box g cs hm).under q⟩
theorem Bxs.at (h : Bxs t L w x) (k : Nat) {g : Nat} {cs : Array Value} (e : L[k]? = some (g, cs)) : Boxed x g cs t := h.box g cs (List.mem_of_getElem? e)
theorem Bxs.store (h : Bxs t L w x) (zs cs : Array Value) : Bxs t ((x.heap.size, cs) :: L) w ((x.alloc (.cells zs t)).setRow x.heap.size cs) := by
  refine ⟨below_setRow (h.bel.alloc h.bel.size _) h.bel.size _, fun g ds hm => ?_⟩
  rcases List.mem_cons.1 hm with e | hm
  · cases e
    exact setRow_heap _ _ _ _ _ _ (Boxed.new x zs t)
  · have hb := h.box g ds hm
    have := hb.under
    exact (setRow_other _ _ _ _ (by omega)).trans (hb.more _)
end

theorem hid_bel {t : TypeId} {L : List (Nat × Array Value)} {w x : World} (h : Hid (Bxs t L w x)) : Hid (Below w.heap.size w x) := h.out.bel
end Go.Proofs.YtemegnfefjcdaaaDoor
