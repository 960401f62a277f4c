/-
  The walk of the model's fit by bits. By the verifier.
-/
import Derived.Test.YtlffnpjnmimnlaaMRt
namespace Go.Proofs.Ytlffnpjnmimnlaa
open Go.RowKit

theorem specFit {net bits addr : Int} (hb : inB 0 32 bits = true) (a0 : 0 ≤ addr) (a1 : addr ≤ 4294967295) (w : World) :
    Calls Try.prog 69 #[.int .i64 net, .int .i64 bits, .int .i64 addr] w fun e w' => e = .returned (.bool (fitB net bits addr)) ∧ w' = w := by
  unfold fitB
  obtain ⟨s, hs, rfl⟩ := bits_of hb
  rw [pow_of hs]
  clear hb
  have e32 : 32 - (32 - s) = s := by omega
  have hq : addr / 2 ^ s * 2 ^ s ≤ addr := Int.ediv_mul_le _ (by have := pow_pos' s; omega)
  have hq0 : 0 ≤ addr / 2 ^ s := Int.ediv_nonneg a0 (Int.le_of_lt (pow_pos' s))
  have hq2 : 0 ≤ addr / 2 ^ s * 2 ^ s := Int.mul_nonneg hq0 (Int.le_of_lt (pow_pos' s))
  have hw : wrap64 (addr / 2 ^ (32 - (32 - s)) * 2 ^ (32 - (32 - s))) = addr / 2 ^ s * 2 ^ s := by
    rw [e32]
    exact wrap_small hq2 (by omega)
  generalize addr / 2 ^ s * 2 ^ s = q at hw ⊢
  clear hq hq0 hq2 e32
  go_enter Try.func69, Try.ntmps69
  go_wp2
  go_ret
  exact ⟨rfl, rfl⟩
end Go.Proofs.Ytlffnpjnmimnlaa
