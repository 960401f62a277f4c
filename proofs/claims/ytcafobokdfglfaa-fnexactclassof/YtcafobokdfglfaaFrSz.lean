/-
  The walk of the laws' size of a frame, from whatever is left. By the verifier.
-/
import Derived.Test.YtcafobokdfglfaaFrTo
namespace Go.Proofs.Ytcafobokdfglfaa
open Go.RowKit

set_option maxHeartbeats 1600000 in
theorem szFramesL (f : Fr) (a : Option Addr) (cap : Nat) (L : Int) (l0 : 0 ≤ L) (l1 : L ≤ 1048576) (w : World) (hl : (f.tags.length : Int) ≤ 9223372036854775807) (hB : (f.body.size : Int) ≤ 9223372036854775807) :
    Calls Try.prog 14 #[f.val a cap, .int .i64 L] w fun e w' => ∃ n : Int, e = .returned (.int .i64 n) ∧ (0 ≤ n → f.tags.length ≤ 1048576 ∧ f.body.size ≤ 1048576) ∧ Below w.heap.size w w' := by
  obtain ⟨tt, frm, tags, src, dst, proto, sport, dport, mark, sum, body⟩ := f
  simp only [Fr.val] at hl hB ⊢
  generalize tags.length = len at hl ⊢
  go_enter Try.func14, Try.ntmps14
  go_wp2_with fail
  refine (szInts a cap len L _ hl l0 l1).mono ?_
  rintro e w2 ⟨rfl, rfl⟩
  by_cases h : L - len < 0
  · rw [if_pos h]
    go_wp2
    go_ret
    exact ⟨_, rfl, fun h => by omega, bel_alloc (Below.refl _ _) (Nat.le_refl _) _⟩
  · rw [if_neg h]
    by_cases h2 : L - len - body.size < 0
    · go_wp2
      go_ret
      exact ⟨_, rfl, fun h => by omega, bel_alloc (Below.refl _ _) (Nat.le_refl _) _⟩
    · go_wp2
      go_ret
      exact ⟨_, rfl, fun h => by omega, bel_alloc (Below.refl _ _) (Nat.le_refl _) _⟩
end Go.Proofs.Ytcafobokdfglfaa
