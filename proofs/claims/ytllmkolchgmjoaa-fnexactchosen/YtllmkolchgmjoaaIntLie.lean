/-
  Lists of numbers that lie wherever. By the verifier.
-/
import Derived.Test.YtllmkolchgmjoaaIntRow
import Derived.Test.YtllmkolchgmjoaaSlIn
namespace Go.Proofs.Ytllmkolchgmjoaa
open Go.RowKit

/-- A list of numbers in blocks from b up to t. -/
def IntIn (b t : Nat) (w : World) (v : Value) (l : List Int) : Prop := SlIn b t w v l.length (l.map (Value.int .i64))
theorem IntsAt.of_in {b t : Nat} {w : World} {a : Option Addr} {cap : Nat} {l : List Int} (h : IntIn b t w (.slice a l.length cap) l) : IntsAt w a l := by
  intro k hk
  obtain ⟨g, off, rfl, h1, h2, h3⟩ := SlIn.some h (by intro e; rw [List.map_eq_nil_iff] at e; subst e; simp at hk)
  refine ⟨g, off, rfl, by omega, ?_⟩
  have := (SlIn.cells h k (by simpa using hk)).1
  rw [this, List.getElem?_map, List.getElem?_eq_getElem hk]
  rfl
theorem IntIn.of_row {b t : Nat} {w : World} {v : Value} {l : List Int} (h : IRow b w v l) (ht : ∀ k, v.ownBlock = some k → k < t) (hs : t ≤ w.heap.size) : IntIn b t w v l := SlIn.of_row h ht hs
end Go.Proofs.Ytllmkolchgmjoaa
