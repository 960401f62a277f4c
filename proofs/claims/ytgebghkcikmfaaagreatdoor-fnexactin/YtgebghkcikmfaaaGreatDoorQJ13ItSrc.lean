/-
  A list of items as the source of an append. By the verifier.
-/
import Derived.Test.YtgebghkcikmfaaaGreatDoorQJ0NumUp
namespace Go.Proofs.YtgebghkcikmfaaaGreatDoor
open Go.RowKit

theorem ItsAt.src {w : World} {b off : Nat} {L : List It} (h : ItsAt w (some ⟨b, off, none⟩) L) : ∀ j v, (itcells L)[j]? = some v → w.cell? ((⟨b, off, none⟩ : Addr).add j) = some v := by
  intro j u hj
  have hj' : j < L.length * 3 := by
    have := (List.getElem?_eq_some_iff.1 hj).1
    rwa [itcells_length] at this
  obtain ⟨k, i, rfl, hi⟩ : ∃ k i, j = k * 3 + i ∧ i < 3 := ⟨j / 3, j % 3, by omega, Nat.mod_lt _ (by omega)⟩
  have hk : k < L.length := by omega
  obtain ⟨b', off', e, _, c0, c1, c2⟩ := h k hk
  cases e
  obtain ⟨e0, e1, e2⟩ := itcells_get L k hk
  rw [show (⟨b, off, none⟩ : Addr).add (k * 3 + i) = ⟨b, off + k * 3 + i, none⟩ by by_cases h0 : k * 3 + i = 0 <;> simp [Addr.add, h0, Nat.add_assoc]; omega]
  match i, hi with
  | 0, _ => rw [Nat.add_zero] at hj; rw [e0] at hj; rw [Nat.add_zero, c0]; exact hj
  | 1, _ => rw [e1] at hj; rw [c1]; exact hj
  | 2, _ => rw [e2] at hj; rw [c2]; exact hj
end Go.Proofs.YtgebghkcikmfaaaGreatDoor
