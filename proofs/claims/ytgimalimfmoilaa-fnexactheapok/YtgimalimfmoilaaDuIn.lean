/-
  Lists of records (Due) that lie wherever: read. By the verifier, by program.
-/
import Derived.Test.YtgimalimfmoilaaDuPlain
import Derived.Test.YtgimalimfmoilaaSlIn
namespace Go.Proofs.Ytgimalimfmoilaa
open Go.RowKit

/-- A list of records in blocks from b up to t. -/
def DuIn (b t : Nat) (w : World) (v : Value) (l : List Du) : Prop := SlIn b t w v l.length (ducells l)
theorem ducells_ne {l : List Du} (h : 0 < l.length) : ducells l ≠ [] := by
  intro e
  have := ducells_length l
  rw [e] at this
  simp at this
  omega
theorem DusAt.of_in {b t : Nat} {w : World} {a : Option Addr} {cap : Nat} {l : List Du} (h : DuIn b t w (.slice a l.length cap) l) : DusAt w a l := by
  intro k hk
  obtain ⟨g, off, rfl, h1, h2, h3⟩ := SlIn.some h (ducells_ne (by omega))
  have hl := ducells_length l
  obtain ⟨e0, e1⟩ := ducells_get l k hk
  refine ⟨g, off, rfl, by omega, ?_, ?_⟩
  · have := (SlIn.cells h (k * 2) (by omega)).1
    rw [e0] at this
    exact this
  · have := (SlIn.cells h (k * 2 + 1) (by omega)).1
    rw [e1] at this
    exact this
theorem DuIn.of_row {b t : Nat} {w : World} {v : Value} {l : List Du} (h : DuRow b w v l) (ht : ∀ k, v.ownBlock = some k → k < t) (hs : t ≤ w.heap.size) : DuIn b t w v l := SlIn.of_row h ht hs
end Go.Proofs.Ytgimalimfmoilaa
