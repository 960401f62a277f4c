/-
  The numbers that were put into a list of records (Node), looked for again. By the verifier, by program.
-/
import Derived.Test.YtdnghdepiiimmaaNdMarkF
namespace Go.Proofs.Ytdnghdepiiimmaa
open Go.RowKit

set_option maxHeartbeats 3200000 in
set_option maxRecDepth 100000 in
theorem heldNdsF (s : Int) (s0 : 0 ≤ s) (s1 : s ≤ 1099511627776) (a : Option Addr) (cap : Nat) (T : List Nd) (hT : T.length ≤ 1048576) (w : World) (H : Hid (NdsAt w a (ndMksF s T T.length))) :
    Calls Try.prog 22 #[.slice a T.length cap, .int .i64 s] w fun e w' => e = .returned (.int .i64 (s + 5 * (T.length : Int))) ∧ w' = w := by
  have Hc : Hid (∀ j, j < T.length → ∃ b off, a = some ⟨b, off, none⟩ ∧ ∀ kv : Int, kv = s + 5 * (j : Int) → w.cell? ⟨b, off + j * 5, none⟩ = some (.int .i64 (kv)) ∧ w.cell? ⟨b, off + j * 5 + 1, none⟩ = some (.int .i64 (kv + 1)) ∧ w.cell? ⟨b, off + j * 5 + 2, none⟩ = some (.int .i64 (kv + 2)) ∧ w.cell? ⟨b, off + j * 5 + 3, none⟩ = some (.int .i64 (kv + 3)) ∧ w.cell? ⟨b, off + j * 5 + 4, none⟩ = some (.int .i64 (kv + 4))) := by
    show ∀ j, j < T.length → _
    intro j hj
    obtain ⟨b, off, e, _, c0, c1, c2, c3, c4⟩ := H.out j (by rw [ndMksF_length s T _ (Nat.le_refl _)]; exact hj)
    rw [ndMksF_end s T j hj] at c0 c1 c2 c3 c4
    refine ⟨b, off, e, fun kv hkv => ?_⟩
    subst hkv
    exact ⟨c0, c1, c2, c3, c4⟩
  generalize T.length = len at hT Hc ⊢
  clear H
  go_enter Try.func22, Try.ntmps22
  go_wp2
  go_loop [1, 5] (fun kk i => ∃ (j : Nat) (kv : Int), j ≤ len ∧ i = .int .i64 j ∧ kk = .int .i64 kv ∧ kv = s + 5 * (j : Int)) (fun _ i => len - (intOf i).toNat)
  case atStart => exact ⟨0, s, Nat.zero_le _, rfl, rfl, by simp⟩
  case round =>
    obtain ⟨j, kv, hj, rfl, rfl, hkv⟩ := hrel
    have Hkv : Hid (kv = s + 5 * (j : Int)) := hkv
    have k0 : 0 ≤ kv := by omega
    have k1 : kv ≤ 1099516870656 := by omega
    by_cases hlt : j < len
    · obtain ⟨b, off, ha, hc⟩ := Hc.out j hlt
      obtain ⟨c0, c1, c2, c3, c4⟩ := hc kv hkv
      subst ha
      clear hkv hc
      go_wp2
      go_round
      case rel => exact ⟨j + 1, kv + 5, by omega, by go_num, by go_num, by rw [Hkv.out]; push_cast; omega⟩
      case measure => simp [intOf]; omega
    · obtain rfl : j = len := by omega
      clear hkv
      go_wp2
      go_ret
      exact ⟨by rw [← Hkv.out]; rfl, rfl⟩
end Go.Proofs.Ytdnghdepiiimmaa
