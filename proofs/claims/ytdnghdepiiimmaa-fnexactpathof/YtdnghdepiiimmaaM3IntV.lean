import Derived.Test.YtdnghdepiiimmaaIntRow
import Derived.Test.YtdnghdepiiimmaaSlIn
import Derived.Test.YtdnghdepiiimmaaThings
/-
  Lists of numbers that lie wherever. By the verifier.
-/
namespace Go.Proofs.Ytdnghdepiiimmaa
open Go.RowKit

/-- A list of numbers in blocks from b up to t. -/
def IntIn (b t : Nat) (w : World) (v : Value) (l : List Int) : Prop := SlIn b t w v l.length (l.map (Value.int .i64))
theorem IntsAt.of_in {b t : Nat} {w : World} {a : Option Addr} {cap : Nat} {l : List Int} (h : IntIn b t w (.slice a l.length cap) l) : IntsAt w a l := by
  intro k hk
  obtain ⟨g, off, rfl, h1, h2, h3⟩ := SlIn.some h (by intro e; rw [List.map_eq_nil_iff] at e; subst e; simp at hk)
  refine ⟨g, off, rfl, by omega, ?_⟩
  have := (SlIn.cells h k (by simpa using hk)).1
  rw [this, List.getElem?_map, List.getElem?_eq_getElem hk]
  rfl
theorem IntIn.of_row {b t : Nat} {w : World} {v : Value} {l : List Int} (h : IRow b w v l) (ht : ∀ k, v.ownBlock = some k → k < t) (hs : t ≤ w.heap.size) : IntIn b t w v l := SlIn.of_row h ht hs
end Go.Proofs.Ytdnghdepiiimmaa

/-
  Lists of numbers as values, with memory of their own or not. By the verifier.
-/
namespace Go.Proofs.Ytdnghdepiiimmaa
open Go.RowKit

def IntsV (w : World) (v : Value) (l : List Int) : Prop := ∃ a c, v = .slice a l.length c ∧ IntsAt w a l ∧ l.length ≤ c ∧ (a = none → c = 0)
def IntsW (b t : Nat) (w : World) (v : Value) (l : List Int) : Prop := IntIn b t w v l ∧ ∃ a c, v = .slice a l.length c ∧ l.length ≤ c ∧ (a = none → c = 0)
section
variable {b t : Nat} {w w' : World} {v : Value} {l : List Int}
theorem IntsW.at (h : IntsW b t w v l) : IntsV w v l := by
  obtain ⟨h1, a, c, rfl, h2⟩ := h
  exact ⟨a, c, rfl, IntsAt.of_in h1, h2⟩
theorem IntsV.below (h : IntsV w v l) (g : Below w.heap.size w w') : IntsV w' v l := by
  obtain ⟨a, c, e, h1, h2⟩ := h
  exact ⟨a, c, e, h1.below g, h2⟩
theorem IntsW.keep (h : IntsW b t w v l) (hs : w.heap.size ≤ w'.heap.size) (hk : ∀ k, b ≤ k → k < t → w'.heap[k]? = w.heap[k]?) : IntsW b t w' v l := ⟨SlIn.keep h.1 hs hk, h.2⟩
theorem IntsW.below (h : IntsW b t w v l) (g : Below w.heap.size w w') : IntsW b t w' v l := ⟨SlIn.below h.1 g, h.2⟩
theorem IntsW.cells (h : IntsW b t w v l) : ∃ p q, v = .slice p l.length q := by
  obtain ⟨_, a, c, e, _⟩ := h
  exact ⟨a, c, e⟩
theorem IntsW.of_row (h : IRow b w v l) : IntsW b w.heap.size w v l := by
  refine ⟨IntIn.of_row h (fun k hk => (World.ownsRow.lt h k hk).2) (Nat.le_refl _), ?_⟩
  obtain ⟨a, c, e⟩ := h.shape
  subst e
  refine ⟨a, c, rfl, ?_, h.none⟩
  rcases h.2 with ⟨e, hn⟩ | ⟨g', c', cur, e, _, _, h4, _⟩
  · omega
  · cases e; exact h4
end
end Go.Proofs.Ytdnghdepiiimmaa
