/-
  Lists of nodes as values, with memory of their own or not. By the verifier.
-/
import Derived.Test.YtdnghdepiiimmaaThings
import Derived.Test.YtdnghdepiiimmaaNdIn
namespace Go.Proofs.Ytdnghdepiiimmaa
open Go.RowKit

def NdsV (w : World) (v : Value) (l : List Nd) : Prop := ∃ a c, v = .slice a l.length c ∧ NdsAt w a l ∧ l.length ≤ c ∧ (a = none → c = 0)
def NdsW (b t : Nat) (w : World) (v : Value) (l : List Nd) : Prop := NdIn b t w v l ∧ ∃ a c, v = .slice a l.length c ∧ l.length ≤ c ∧ (a = none → c = 0)
section
variable {b t : Nat} {w w' : World} {v : Value} {l : List Nd}
theorem NdsW.at (h : NdsW b t w v l) : NdsV w v l := by
  obtain ⟨h1, a, c, rfl, h2⟩ := h
  exact ⟨a, c, rfl, NdsAt.of_in h1, h2⟩
theorem NdsV.below (h : NdsV w v l) (g : Below w.heap.size w w') : NdsV w' v l := by
  obtain ⟨a, c, e, h1, h2⟩ := h
  exact ⟨a, c, e, h1.below g, h2⟩
theorem NdsW.keep (h : NdsW b t w v l) (hs : w.heap.size ≤ w'.heap.size) (hk : ∀ k, b ≤ k → k < t → w'.heap[k]? = w.heap[k]?) : NdsW b t w' v l := ⟨SlIn.keep h.1 hs hk, h.2⟩
theorem NdsW.below (h : NdsW b t w v l) (g : Below w.heap.size w w') : NdsW b t w' v l := ⟨SlIn.below h.1 g, h.2⟩
theorem NdsW.cells (h : NdsW b t w v l) : ∃ p q, v = .slice p l.length q := by
  obtain ⟨_, a, c, e, _⟩ := h
  exact ⟨a, c, e⟩
theorem NdsW.of_row (h : NdRow b w v l) : NdsW b w.heap.size w v l := by
  refine ⟨NdIn.of_row h (fun k hk => (h.lt k hk).2) (Nat.le_refl _), ?_⟩
  obtain ⟨a, c, e⟩ := h.shape
  subst e
  exact ⟨a, c, rfl, h.cap, h.nilCap⟩
end
end Go.Proofs.Ytdnghdepiiimmaa
