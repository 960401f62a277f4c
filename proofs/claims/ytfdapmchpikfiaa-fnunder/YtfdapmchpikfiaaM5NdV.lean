import Derived.Test.YtfdapmchpikfiaaNdPlain
import Derived.Test.YtfdapmchpikfiaaSlIn
import Derived.Test.YtfdapmchpikfiaaM4IntV
/-
  Lists of records (Node) that lie wherever: read. By the verifier, by program.
-/
namespace Go.Proofs.Ytfdapmchpikfiaa
open Go.RowKit

/-- A list of records in blocks from b up to t. -/
def NdIn (b t : Nat) (w : World) (v : Value) (l : List Nd) : Prop := SlIn b t w v l.length (ndcells l)
theorem ndcells_ne {l : List Nd} (h : 0 < l.length) : ndcells l ≠ [] := by
  intro e
  have := ndcells_length l
  rw [e] at this
  simp at this
  omega
theorem NdsAt.of_in {b t : Nat} {w : World} {a : Option Addr} {cap : Nat} {l : List Nd} (h : NdIn b t w (.slice a l.length cap) l) : NdsAt w a l := by
  intro k hk
  obtain ⟨g, off, rfl, h1, h2, h3⟩ := SlIn.some h (ndcells_ne (by omega))
  have hl := ndcells_length l
  obtain ⟨e0, e1, e2, e3, e4⟩ := ndcells_get l k hk
  refine ⟨g, off, rfl, by omega, ?_, ?_, ?_, ?_, ?_⟩
  · have := (SlIn.cells h (k * 5) (by omega)).1
    rw [e0] at this
    exact this
  · have := (SlIn.cells h (k * 5 + 1) (by omega)).1
    rw [e1] at this
    exact this
  · have := (SlIn.cells h (k * 5 + 2) (by omega)).1
    rw [e2] at this
    exact this
  · have := (SlIn.cells h (k * 5 + 3) (by omega)).1
    rw [e3] at this
    exact this
  · have := (SlIn.cells h (k * 5 + 4) (by omega)).1
    rw [e4] at this
    exact this
theorem NdIn.of_row {b t : Nat} {w : World} {v : Value} {l : List Nd} (h : NdRow b w v l) (ht : ∀ k, v.ownBlock = some k → k < t) (hs : t ≤ w.heap.size) : NdIn b t w v l := SlIn.of_row h ht hs
end Go.Proofs.Ytfdapmchpikfiaa

/-
  Lists of nodes as values, with memory of their own or not. By the verifier.
-/
namespace Go.Proofs.Ytfdapmchpikfiaa
open Go.RowKit

def NdsV (w : World) (v : Value) (l : List Nd) : Prop := ∃ a c, v = .slice a l.length c ∧ NdsAt w a l ∧ l.length ≤ c ∧ (a = none → c = 0)
def NdsW (b t : Nat) (w : World) (v : Value) (l : List Nd) : Prop := NdIn b t w v l ∧ ∃ a c, v = .slice a l.length c ∧ l.length ≤ c ∧ (a = none → c = 0)
section
variable {b t : Nat} {w w' : World} {v : Value} {l : List Nd}
theorem NdsW.at (h : NdsW b t w v l) : NdsV w v l := by
  obtain ⟨h1, a, c, rfl, h2⟩ := h
  exact ⟨a, c, rfl, NdsAt.of_in h1, h2⟩
theorem NdsV.below (h : NdsV w v l) (g : Below w.heap.size w w') : NdsV w' v l := by
  obtain ⟨a, c, e, h1, h2⟩ := h
  exact ⟨a, c, e, h1.below g, h2⟩
theorem NdsW.keep (h : NdsW b t w v l) (hs : w.heap.size ≤ w'.heap.size) (hk : ∀ k, b ≤ k → k < t → w'.heap[k]? = w.heap[k]?) : NdsW b t w' v l := ⟨SlIn.keep h.1 hs hk, h.2⟩
theorem NdsW.below (h : NdsW b t w v l) (g : Below w.heap.size w w') : NdsW b t w' v l := ⟨SlIn.below h.1 g, h.2⟩
theorem NdsW.cells (h : NdsW b t w v l) : ∃ p q, v = .slice p l.length q := by
  obtain ⟨_, a, c, e, _⟩ := h
  exact ⟨a, c, e⟩
theorem NdsW.of_row (h : NdRow b w v l) : NdsW b w.heap.size w v l := by
  refine ⟨NdIn.of_row h (fun k hk => (h.lt k hk).2) (Nat.le_refl _), ?_⟩
  obtain ⟨a, c, e⟩ := h.shape
  subst e
  exact ⟨a, c, rfl, h.cap, h.nilCap⟩
end
end Go.Proofs.Ytfdapmchpikfiaa
