/-
  The laws' choice of a number below n, at whatever place. By the verifier.
-/
import Derived.Test.YtllmkolchgmjoaaDraw
namespace Go.Proofs.Ytllmkolchgmjoaa
open Go.RowKit

set_option maxHeartbeats 800000 in
theorem lawPickS {W : World} {a : Option Addr} {len cap : Nat} (hc : Hid (Code W a len)) (s n : Int) (s0 : 0 ≤ s) (s1 : s ≤ 1000) (n0 : 0 < n) (n1 : n ≤ 1000000) (w : World) (bel : Hid (Below W.heap.size W w)) :
    Calls Try.prog 16 #[.slice a len cap, .int .i64 s, .int .i64 n] w fun e w' => (∃ x : Int, e = .returned (.int .i64 x) ∧ 0 ≤ x ∧ x < n) ∧ w' = w := by
  have l4 := hc.out.1
  have nz : ¬ n = 0 := by omega
  have q0 : IntKind.i64.wrap (7919 * s) = 7919 * s := by rw [IntKind.wrap_i64]; omega
  have q00 : IntKind.i64.wrap ((len : Int) + 7919 * s) = (len : Int) + 7919 * s := by rw [IntKind.wrap_i64]; omega
  go_enter Try.func16, Try.ntmps16
  go_wp2
  go_loop [7, 8] (fun h i => ∃ (q : Int) (k : Nat), k ≤ len ∧ i = .int .i64 k ∧ h = .int .i64 q ∧ 0 ≤ q ∧ q ≤ 10000003) (fun _ i => len - (intOf i).toNat)
  case atStart => exact ⟨_, 0, Nat.zero_le _, rfl, rfl, by omega, by omega⟩
  case round =>
    obtain ⟨q, k, hk, rfl, rfl, q0, q1⟩ := hrel
    by_cases hlt : k < len
    · obtain ⟨b, off, z, rfl, hb, hz, z0, z1⟩ := hc.out.2 k hlt
      have hz' : w.cell? ⟨b, off + k, none⟩ = some (.int .u8 z) := (bel.out.cell (p := ⟨b, off + k, none⟩) hb).trans hz
      clear hz
      go_wp2
      go_round
      case rel => exact ⟨_, k + 1, by omega, by go_num, rfl, by omega, by omega⟩
      case measure => simp [intOf]; omega
    · go_wp2
      go_ret
      exact ⟨⟨_, rfl, Int.emod_nonneg _ nz, Int.emod_lt_of_pos _ n0⟩, rfl⟩
end Go.Proofs.Ytllmkolchgmjoaa
