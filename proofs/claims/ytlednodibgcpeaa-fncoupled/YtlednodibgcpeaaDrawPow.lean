/-
  A power of two that bounds a draw. By the verifier.
-/
import Derived.Test.YtlednodibgcpeaaDraw
namespace Go.Proofs.Ytlednodibgcpeaa
open Go.RowKit

/-- Two to a small power, as the walk has it. -/
theorem pow_sm {x : Int} (h0 : 0 ≤ x) (h1 : x < 20) : 0 < wrap64 (2 ^ (1 + x).toNat) := by
  obtain ⟨n, rfl⟩ := Int.eq_ofNat_of_zero_le h0
  have hn : n < 20 := by omega
  have : ∀ n : Fin 20, 0 < wrap64 (2 ^ (1 + (n.val : Int)).toNat) := by decide +kernel
  exact this ⟨n, hn⟩
end Go.Proofs.Ytlednodibgcpeaa
