/-
  The walk of the model's l2Number. By the verifier.
-/
import Derived.Test.YtddjflaceokoaaaDoorRdMath
namespace Go.Proofs.YtddjflaceokoaaaDoor
open Go.RowKit

theorem numAt_succ (text : ByteArray) (p j : Nat) (h : p + j < text.size) : numAt text p (j + 1) = numAt text p j * 256 + ((text[p + j]'h).toNat : Int) := by
  unfold numAt
  have hl : text.data.toList.length = text.size := by rw [Array.length_toList]; rfl
  have hj : j < (text.data.toList.drop p).length := by rw [List.length_drop]; omega
  rw [List.take_succ_eq_append_getElem hj, numOf_append]
  simp [List.getElem_drop]
  rfl
theorem numAt_one (text : ByteArray) (p : Nat) (h : p < text.size) : numAt text p 1 = ((text[p]'h).toNat : Int) := by
  have := numAt_succ text p 0 h
  simpa [numAt, numOf] using this
theorem numAt_lt (text : ByteArray) (p j : Nat) (hj : j ≤ 3) : 0 ≤ numAt text p j ∧ numAt text p j < 16777216 := by
  refine ⟨numOf_nonneg _, ?_⟩
  have h := numOf_lt ((text.data.toList.drop p).take j)
  have hl : ((text.data.toList.drop p).take j).length ≤ 3 := by rw [List.length_take]; omega
  have : (256 : Int) ^ ((text.data.toList.drop p).take j).length ≤ 256 ^ 3 := by
    match ((text.data.toList.drop p).take j).length, hl with
    | 0, _ => decide
    | 1, _ => decide
    | 2, _ => decide
    | 3, _ => decide
  unfold numAt
  omega

set_option maxHeartbeats 1600000 in
theorem specNumber (text : ByteArray) (p k : Nat) (hk : k ≤ 4) (h : p + k ≤ text.size) (hsz : text.size ≤ 1048576) (w : World) :
    Calls Tryd.prog 29 #[.string text, .int .i64 p, .int .i64 k] w fun e w' => e = .returned (.int .i64 (numAt text p k)) ∧ w' = w := by
  go_enter Tryd.func29, Tryd.ntmps29
  go_wp2
  go_loop [7, 8] (fun n i => ∃ j : Nat, j ≤ k ∧ i = .int .i64 ((p : Int) + j) ∧ n = .int .i64 (numAt text p j)) (fun _ i => p + k - (intOf i).toNat)
  case atStart => exact ⟨0, Nat.zero_le _, by simp, rfl⟩
  case round =>
    obtain ⟨j, hj, rfl, rfl⟩ := hrel
    by_cases hlt : j < k
    · have hin : p + j < text.size := by omega
      have hs : Hid (numAt text p (j + 1) = numAt text p j * 256 + ((text[p + j]'hin).toNat : Int)) := numAt_succ text p j hin
      obtain ⟨n0, n1⟩ := numAt_lt text p j (by omega)
      have hx := (text[p + j]'hin).toNat_lt
      have hor := or_byte (numAt text p j) ((text[p + j]'hin).toNat : Int) n0 (by omega) (by omega) (by omega)
      generalize numAt text p j = n at hs n0 n1 hor ⊢
      have hin' : (p : Int) + j < text.size := by omega
      go_wp2
      go_round
      case rel => exact ⟨j + 1, by omega, by go_num, by rw [hs.out]⟩
      case measure => simp [intOf]; omega
    · obtain rfl : j = k := by omega
      go_wp2
      go_ret
      exact ⟨rfl, rfl⟩
end Go.Proofs.YtddjflaceokoaaaDoor
