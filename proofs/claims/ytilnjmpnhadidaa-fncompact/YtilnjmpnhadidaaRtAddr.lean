/-
  The law's own choice of addresses. By the verifier.
-/
import Derived.Test.YtilnjmpnhadidaaM1
namespace Go.Proofs.Ytilnjmpnhadidaa
open Go.RowKit

set_option maxHeartbeats 800000 in
theorem lawPickAny {W : World} {a : Option Addr} {len cap : Nat} (hc : Hid (Code W a len)) (s n : Int) (n0 : 0 < n) (w : World) (bel : Hid (Below W.heap.size W w)) :
    Calls Try.prog 44 #[.slice a len cap, .int .i64 s, .int .i64 n] w fun e w' => (∃ x : Int, e = .returned (.int .i64 x)) ∧ w' = w := by
  have l4 := hc.out.1
  have nz : ¬ n = 0 := by omega
  go_enter Try.func44, Try.ntmps44
  go_wp2
  go_loop [7, 8] (fun h i => ∃ (q : Int) (k : Nat), k ≤ len ∧ i = .int .i64 k ∧ h = .int .i64 q) (fun _ i => len - (intOf i).toNat)
  case atStart => exact ⟨_, 0, Nat.zero_le _, rfl, rfl⟩
  case round =>
    obtain ⟨q, k, hk, rfl, rfl⟩ := hrel
    by_cases hlt : k < len
    · obtain ⟨b, off, z, rfl, hb, hz, z0, z1⟩ := hc.out.2 k hlt
      have hz' : w.cell? ⟨b, off + k, none⟩ = some (.int .u8 z) := (bel.out.cell (p := ⟨b, off + k, none⟩) hb).trans hz
      clear hz
      go_wp2
      go_round
      case rel => exact ⟨_, k + 1, by omega, by go_num, rfl⟩
      case measure => simp [intOf]; omega
    · go_wp2
      go_ret
      exact ⟨⟨_, rfl⟩, rfl⟩

set_option maxHeartbeats 800000 in
theorem lawAddr {W : World} {a : Option Addr} {len cap : Nat} (hc : Hid (Code W a len)) (s : Int) (w : World) (bel : Hid (Below W.heap.size W w)) :
    Calls Try.prog 20 #[.slice a len cap, .int .i64 s] w fun e w' => (∃ x : Int, e = .returned (.int .i64 x)) ∧ w' = w := by
  go_enter Try.func20, Try.ntmps20
  go_wp2_with fail
  refine (lawPickAny hc _ 64 (by omega) _ bel).mono ?_
  rintro e w1 ⟨⟨x, rfl⟩, hw⟩
  have hw := hw.symm
  subst hw
  go_wp2_with fail
  refine (lawPickAny hc _ 65536 (by omega) _ bel).mono ?_
  rintro e w2 ⟨⟨y, rfl⟩, hw⟩
  have hw := hw.symm
  subst hw
  go_wp2
  go_ret
  exact ⟨⟨_, rfl⟩, rfl⟩
end Go.Proofs.Ytilnjmpnhadidaa
