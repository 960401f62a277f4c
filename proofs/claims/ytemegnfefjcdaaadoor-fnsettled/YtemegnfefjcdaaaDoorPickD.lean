/-
  The laws' choice of a number below n: one number for one code, whatever the world. By the verifier.
-/
import Derived.Test.YtemegnfefjcdaaaDoorDraw
namespace Go.Proofs.YtemegnfefjcdaaaDoor
open Go.RowKit

/-- The number kept while the code is read. -/
def pickQ (f : Nat → Int) (s q0 : Int) : Nat → Int
  | 0 => q0
  | k + 1 => (pickQ f s q0 k * 191 + f k + s) % 1000003
set_option maxHeartbeats 800000 in
theorem lawPickD {W : World} {a : Option Addr} {len cap : Nat} (hc : Hid (Code W a len)) (s n : Int) (s0 : 0 ≤ s) (s1 : s ≤ 1000) (n0 : 0 < n) (n1 : n ≤ 4611686018427387904) :
    ∃ x : Int, (0 ≤ x ∧ x < n) ∧ ∀ (w : World), Hid (Below W.heap.size W w) → Calls Tryd.prog 19 #[.slice a len cap, .int .i64 s, .int .i64 n] w fun e w' => e = .returned (.int .i64 x) ∧ w' = w := by
  have l4 := hc.out.1
  have nz : ¬ n = 0 := by omega
  have Z : ∀ k : Nat, ∃ z : Int, k < len → ∃ b off, a = some ⟨b, off, none⟩ ∧ b < W.heap.size ∧ W.cell? ⟨b, off + k, none⟩ = some (.int .u8 z) ∧ 0 ≤ z ∧ z ≤ 255 := fun k => by
    by_cases hk : k < len
    · obtain ⟨b, off, z, h⟩ := hc.out.2 k hk
      exact ⟨z, fun _ => ⟨b, off, h⟩⟩
    · exact ⟨0, fun h => absurd h hk⟩
  obtain ⟨f, hf⟩ := Classical.axiomOfChoice Z
  have hf : Hid _ := hf
  clear Z
  refine ⟨pickQ f s ((len : Int) + 7919 * s) len % n, ⟨Int.emod_nonneg _ nz, Int.emod_lt_of_pos _ n0⟩, fun w bel => ?_⟩
  have HQ : Hid (∀ k, 0 ≤ pickQ f s ((len : Int) + 7919 * s) k ∧ pickQ f s ((len : Int) + 7919 * s) k ≤ 10000003) := fun k => by
    cases k with
    | zero => unfold pickQ; omega
    | succ k => unfold pickQ; omega
  have H0 : pickQ f s ((len : Int) + 7919 * s) 0 = (len : Int) + 7919 * s := rfl
  have HS : Hid (∀ k, pickQ f s ((len : Int) + 7919 * s) (k + 1) = (pickQ f s ((len : Int) + 7919 * s) k * 191 + f k + s) % 1000003) := fun _ => rfl
  generalize pickQ f s ((len : Int) + 7919 * s) = Q at HQ H0 HS ⊢
  have q0 : IntKind.i64.wrap (7919 * s) = 7919 * s := by rw [IntKind.wrap_i64]; omega
  have q00 : IntKind.i64.wrap ((len : Int) + 7919 * s) = (len : Int) + 7919 * s := by rw [IntKind.wrap_i64]; omega
  have H0' : Hid (Q 0 = _) := H0
  clear H0
  go_enter Tryd.func19, Tryd.ntmps19
  go_wp2
  go_loop [7, 8] (fun h i => ∃ (q : Int) (k : Nat), k ≤ len ∧ i = .int .i64 k ∧ h = .int .i64 q ∧ 0 ≤ q ∧ q ≤ 10000003 ∧ q = Q k) (fun _ i => len - (intOf i).toNat)
  case atStart => exact ⟨_, 0, Nat.zero_le _, rfl, rfl, by omega, by omega, H0'.out.symm⟩
  case round =>
    obtain ⟨q, k, hk, rfl, rfl, q0, q1, hq⟩ := hrel
    have Hq : Hid (q = Q k) := hq
    clear hq
    by_cases hlt : k < len
    · obtain ⟨b, off, rfl, hb, hz, z0, z1⟩ := hf.out k hlt
      have hn := HS.out k
      rw [← Hq.out] at hn
      have Hn : Hid (Q (k + 1) = _) := hn
      clear hn
      generalize f k = z at hz z0 z1 Hn
      have hz' : w.cell? ⟨b, off + k, none⟩ = some (.int .u8 z) := (bel.out.cell (p := ⟨b, off + k, none⟩) hb).trans hz
      clear hz
      go_wp2
      go_round
      case rel => exact ⟨_, k + 1, by omega, by go_num, rfl, by omega, by omega, Hn.out.symm⟩
      case measure => simp [intOf]; omega
    · have e : k = len := by omega
      subst e
      go_wp2
      go_ret
      exact ⟨by rw [Hq.out]; rfl, rfl⟩
end Go.Proofs.YtemegnfefjcdaaaDoor
