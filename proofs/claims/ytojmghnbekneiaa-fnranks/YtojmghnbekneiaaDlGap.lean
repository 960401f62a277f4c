/-
  Where a host stands from the turn on. By the verifier.
-/
import Derived.Test.YtojmghnbekneiaaDlFn
namespace Go.Proofs.Ytojmghnbekneiaa
open Go.RowKit

/-- How far it is, step by step. -/
theorem Dl.gap_is {d : Dl} (hk : d.ok = true) {h : Nat} (hh : h < d.hosts.length) : d.gap h < d.hosts.length ∧ ∀ k, k ≤ d.gap h → ((d.turn.toNat + k) % d.hosts.length = h ↔ k = d.gap h) := by
  have h1 := Dl.ok_iff.1 hk
  have hn : 0 < d.hosts.length := by omega
  have ht : d.turn.toNat < d.hosts.length := by omega
  have hl : d.gap h < d.hosts.length := Nat.mod_lt _ hn
  refine ⟨hl, fun k hk => ?_⟩
  have e : (d.turn.toNat + d.gap h) % d.hosts.length = h := by
    unfold Dl.gap
    rw [Nat.add_mod_mod, show d.turn.toNat + (h + d.hosts.length - d.turn.toNat) = h + d.hosts.length by omega, Nat.add_mod_right, Nat.mod_eq_of_lt hh]
  constructor
  · intro e2
    have e3 : (d.turn.toNat + k) % d.hosts.length = (d.turn.toNat + d.gap h) % d.hosts.length := by rw [e, e2]
    generalize d.gap h = g at hk hl e3
    generalize d.turn.toNat = t at e3 ht
    generalize d.hosts.length = n at hl e3 ht
    by_cases a1 : t + k < n
    · rw [Nat.mod_eq_of_lt a1] at e3
      by_cases a2 : t + g < n
      · rw [Nat.mod_eq_of_lt a2] at e3; omega
      · rw [Nat.mod_eq_sub_mod (by omega), Nat.mod_eq_of_lt (by omega)] at e3; omega
    · rw [Nat.mod_eq_sub_mod (by omega), Nat.mod_eq_of_lt (by omega), Nat.mod_eq_sub_mod (by omega : n ≤ t + g), Nat.mod_eq_of_lt (by omega)] at e3; omega
  · rintro rfl; exact e
theorem cnt_le (p : Nat → Bool) (s n k : Nat) : cnt p s n k ≤ k := by
  induction k with
  | zero => exact Nat.le_refl _
  | succ k ih => unfold cnt; split <;> omega
end Go.Proofs.Ytojmghnbekneiaa
