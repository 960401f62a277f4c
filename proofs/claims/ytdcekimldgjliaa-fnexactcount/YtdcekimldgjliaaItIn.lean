/-
  Lists of records (Item) that lie wherever: read. By the verifier, by program.
-/
import Derived.Test.YtdcekimldgjliaaItPlain
import Derived.Test.YtdcekimldgjliaaSlIn
namespace Go.Proofs.Ytdcekimldgjliaa
open Go.RowKit

/-- A list of records in blocks from b up to t. -/
def ItIn (b t : Nat) (w : World) (v : Value) (l : List It) : Prop := SlIn b t w v l.length (itcells l)
theorem itcells_ne {l : List It} (h : 0 < l.length) : itcells l ≠ [] := by
  intro e
  have := itcells_length l
  rw [e] at this
  simp at this
  omega
theorem ItsAt.of_in {b t : Nat} {w : World} {a : Option Addr} {cap : Nat} {l : List It} (h : ItIn b t w (.slice a l.length cap) l) : ItsAt w a l := by
  intro k hk
  obtain ⟨g, off, rfl, h1, h2, h3⟩ := SlIn.some h (itcells_ne (by omega))
  have hl := itcells_length l
  obtain ⟨e0, e1, e2⟩ := itcells_get l k hk
  refine ⟨g, off, rfl, by omega, ?_, ?_, ?_⟩
  · have := (SlIn.cells h (k * 3) (by omega)).1
    rw [e0] at this
    exact this
  · have := (SlIn.cells h (k * 3 + 1) (by omega)).1
    rw [e1] at this
    exact this
  · have := (SlIn.cells h (k * 3 + 2) (by omega)).1
    rw [e2] at this
    exact this
theorem ItIn.of_row {b t : Nat} {w : World} {v : Value} {l : List It} (h : ItRow b w v l) (ht : ∀ k, v.ownBlock = some k → k < t) (hs : t ≤ w.heap.size) : ItIn b t w v l := SlIn.of_row h ht hs
end Go.Proofs.Ytdcekimldgjliaa
