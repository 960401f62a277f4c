/-
  Lists of nodes as values with memory: what the laws' own functions do on them, in the form that records with memory have. By the verifier.
-/
import Derived.Test.YtdnghdepiiimmaaNdV
import Derived.Test.YtdnghdepiiimmaaNdCopy
import Derived.Test.YtdnghdepiiimmaaNdMarkG
import Derived.Test.YtdnghdepiiimmaaNdHeldF
namespace Go.Proofs.Ytdnghdepiiimmaa
open Go.RowKit

def ndMk1 (l : List Nd) : List Nd := ndMksF 1 l l.length
theorem ndMk1_length (l : List Nd) : (ndMk1 l).length = l.length := ndMksF_length 1 l l.length (Nat.le_refl _)
theorem toNdW (a : Option Addr) (c : Nat) (l : List Nd) (w : World) (hT : l.length ≤ 1048576) (h : Hid (NdsAt w a l)) :
    Calls Try.prog 11 #[.slice a l.length c] w fun e w' => (∃ v, e = .returned v ∧ NdsW w.heap.size w'.heap.size w' v l) ∧ Below w.heap.size w w' :=
  (toNds a c l w hT h).mono fun e w' hh => by
    obtain ⟨g, rfl, hr, hb⟩ := hh
    exact ⟨⟨_, rfl, NdsW.of_row hr⟩, hb⟩
theorem eqNdW (v1 v2 : Value) (l : List Nd) (w : World) (hT : l.length ≤ 1048576) (h1 : Hid (NdsV w v1 l)) (h2 : Hid (NdsV w v2 l)) :
    Calls Try.prog 13 #[v1, v2] w fun e w' => e = .returned (.bool true) ∧ Below w.heap.size w w' := by
  obtain ⟨a1, c1, rfl, k1, _⟩ := h1.out
  obtain ⟨a2, c2, rfl, k2, _⟩ := h2.out
  exact eqNds a1 a2 c1 c2 l w hT k1 k2
theorem markNdW (b t : Nat) (v : Value) (l : List Nd) (w : World) (hT : l.length ≤ 1048576) (H : Hid (NdsW b t w v l)) :
    Calls Try.prog 17 #[v, .int .i64 1] w fun e w' => e = .returned (.int .i64 (1 + 5 * (l.length : Int))) ∧ NdsW b t w' v (ndMk1 l) ∧ Span b t w w' :=
  (markNdsG 1 (by omega) (by omega) b t v l hT w H.out.1).mono fun e w' hh => by
    obtain ⟨rfl, h1, h2⟩ := hh
    obtain ⟨a, c, rfl, hc⟩ := H.out.2
    refine ⟨rfl, ⟨h1, a, c, by rw [ndMk1_length], by rw [ndMk1_length]; exact hc⟩, Span.of_turn h2 fun k o hh => ?_⟩
    have := SlIn.in H.out.1 (k := k) (o := o)
    rw [ndcells_length] at this
    exact this hh
theorem heldNdW (v : Value) (l : List Nd) (w : World) (hT : l.length ≤ 1048576) (H : Hid (NdsV w v (ndMk1 l))) :
    Calls Try.prog 22 #[v, .int .i64 1] w fun e w' => e = .returned (.int .i64 (1 + 5 * (l.length : Int))) ∧ Below w.heap.size w w' := by
  obtain ⟨a, c, rfl, k, _⟩ := H.out
  rw [ndMk1_length]
  exact (heldNdsF 1 (by omega) (by omega) a c l hT w k).mono fun e w' hh => ⟨hh.1, by rw [hh.2]; exact Below.refl _ _⟩
end Go.Proofs.Ytdnghdepiiimmaa
