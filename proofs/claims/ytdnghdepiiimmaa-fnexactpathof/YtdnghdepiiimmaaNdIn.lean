/-
  Lists of records (Node) that lie wherever: read. By the verifier, by program.
-/
import Derived.Test.YtdnghdepiiimmaaNdPlain
import Derived.Test.YtdnghdepiiimmaaSlIn
namespace Go.Proofs.Ytdnghdepiiimmaa
open Go.RowKit

/-- A list of records in blocks from b up to t. -/
def NdIn (b t : Nat) (w : World) (v : Value) (l : List Nd) : Prop := SlIn b t w v l.length (ndcells l)
theorem ndcells_ne {l : List Nd} (h : 0 < l.length) : ndcells l ≠ [] := by
  intro e
  have := ndcells_length l
  rw [e] at this
  simp at this
  omega
theorem NdsAt.of_in {b t : Nat} {w : World} {a : Option Addr} {cap : Nat} {l : List Nd} (h : NdIn b t w (.slice a l.length cap) l) : NdsAt w a l := by
  intro k hk
  obtain ⟨g, off, rfl, h1, h2, h3⟩ := SlIn.some h (ndcells_ne (by omega))
  have hl := ndcells_length l
  obtain ⟨e0, e1, e2, e3, e4⟩ := ndcells_get l k hk
  refine ⟨g, off, rfl, by omega, ?_, ?_, ?_, ?_, ?_⟩
  · have := (SlIn.cells h (k * 5) (by omega)).1
    rw [e0] at this
    exact this
  · have := (SlIn.cells h (k * 5 + 1) (by omega)).1
    rw [e1] at this
    exact this
  · have := (SlIn.cells h (k * 5 + 2) (by omega)).1
    rw [e2] at this
    exact this
  · have := (SlIn.cells h (k * 5 + 3) (by omega)).1
    rw [e3] at this
    exact this
  · have := (SlIn.cells h (k * 5 + 4) (by omega)).1
    rw [e4] at this
    exact this
theorem NdIn.of_row {b t : Nat} {w : World} {v : Value} {l : List Nd} (h : NdRow b w v l) (ht : ∀ k, v.ownBlock = some k → k < t) (hs : t ≤ w.heap.size) : NdIn b t w v l := SlIn.of_row h ht hs
end Go.Proofs.Ytdnghdepiiimmaa
