/-
  Lists of numbers as values with memory: what the laws' own functions do on them, in the form that records with memory have. By the verifier.
-/
import Derived.Test.YtdnghdepiiimmaaM3IntV
import Derived.Test.YtdnghdepiiimmaaIntEq
import Derived.Test.YtdnghdepiiimmaaIntG
namespace Go.Proofs.Ytdnghdepiiimmaa
open Go.RowKit

def intMk1 (l : List Int) : List Int := mks 1 l l.length
theorem intMk1_length (l : List Int) : (intMk1 l).length = l.length := mks_length 1 l l.length (Nat.le_refl _)
theorem eqIntW (v1 v2 : Value) (l : List Int) (w : World) (hT : l.length ≤ 1048576) (h1 : Hid (IntsV w v1 l)) (h2 : Hid (IntsV w v2 l)) :
    Calls Try.prog 16 #[v1, v2] w fun e w' => e = .returned (.bool true) ∧ Below w.heap.size w w' := by
  obtain ⟨a1, c1, rfl, k1, _⟩ := h1.out
  obtain ⟨a2, c2, rfl, k2, _⟩ := h2.out
  exact eqIntsN a1 a2 c1 c2 l w hT k1 k2
theorem markIntW (b t : Nat) (v : Value) (l : List Int) (w : World) (hT : l.length ≤ 1048576) (H : Hid (IntsW b t w v l)) :
    Calls Try.prog 18 #[v, .int .i64 1] w fun e w' => e = .returned (.int .i64 (1 + (l.length : Int))) ∧ IntsW b t w' v (intMk1 l) ∧ Span b t w w' :=
  (markIntsG 1 (by omega) (by omega) b t v l hT w H.out.1).mono fun e w' hh => by
    obtain ⟨rfl, h1, h2⟩ := hh
    obtain ⟨a, c, rfl, hc⟩ := H.out.2
    refine ⟨rfl, ⟨h1, a, c, by rw [intMk1_length], by rw [intMk1_length]; exact hc⟩, Span.of_turn h2 fun k o hh => ?_⟩
    have := SlIn.in H.out.1 (k := k) (o := o)
    rw [List.length_map] at this
    exact this hh
theorem heldIntW (v : Value) (l : List Int) (w : World) (hT : l.length ≤ 1048576) (H : Hid (IntsV w v (intMk1 l))) :
    Calls Try.prog 19 #[v, .int .i64 1] w fun e w' => e = .returned (.int .i64 (1 + (l.length : Int))) ∧ Below w.heap.size w w' := by
  obtain ⟨a, c, rfl, k, _⟩ := H.out
  rw [intMk1_length]
  exact (heldIntsF 1 (by omega) (by omega) a c l hT w k).mono fun e w' hh => ⟨hh.1, by rw [hh.2]; exact Below.refl _ _⟩
end Go.Proofs.Ytdnghdepiiimmaa
