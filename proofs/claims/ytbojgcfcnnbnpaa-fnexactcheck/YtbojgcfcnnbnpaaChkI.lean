/-
  Chapter 17: the program's Check. By the verifier.
-/
import Derived.Test.YtbojgcfcnnbnpaaChkFn
import Derived.RegionTactic
import Derived.Lib.ConvBytes
import Derived.Lib.SmallJoins
namespace Go.Proofs.Ytbojgcfcnnbnpaa
open Go.RowKit

set_option maxHeartbeats 1600000 in
theorem implCheck (s : ByteArray) (hsz : s.size ≤ 1048576) (w : World) :
    Calls Try.prog 5 #[.string s] w fun e w' => e = .returned (.int .i64 (chk s.data.toList)) ∧ Below w.heap.size w w' := by
  have hcv := fun wx => Lib.run_convert_string_bytes (P := Try.prog) wx 9 24 5 s Try.underlying9 Try.underlying24 Try.underlying5
  have hbw : Hid (Below w.heap.size w (Lib.bytesWorld w 5 s)) := Joins.below_bytesWorld w.heap.size w 5 s (Nat.le_refl _)
  have hcell : Hid (∀ j, j < s.size → (Lib.bytesWorld w 5 s).cell? ⟨w.heap.size, j, none⟩ = some (.int .u8 (s.data.toList.getD j 0).toNat)) := fun j hj => Lib.bytesWorld_cell w 5 s j hj
  go_enter Try.func5, Try.ntmps5
  go_wp2
  generalize Lib.bytesWorld w 5 s = w2 at hbw hcell ⊢
  generalize grownCap w s.size 0 5 = cp
  have Hl : Hid (s.data.toList.length = s.size) := by
    show s.data.toList.length = s.size
    rw [Array.length_toList]; rfl
  go_loop [3, 9] (fun n i => ∃ j : Nat, j ≤ s.size ∧ i = .int .i64 j ∧ n = .int .i64 (chk (s.data.toList.take j))) (fun _ i => s.size - (intOf i).toNat)
  case atStart => exact ⟨0, Nat.zero_le _, rfl, rfl⟩
  case round =>
    obtain ⟨j, hj, rfl, rfl⟩ := hrel
    by_cases hlt : j < s.size
    · have c1 := hcell.out j hlt
      have hnext : Hid (chk (s.data.toList.take (j + 1)) = (59 * chk (s.data.toList.take j) + ((s.data.toList.getD j 0).toNat : Int)) % 999983) := chk_take _ j (by rw [Hl.out]; exact hlt)
      obtain ⟨n0, n1⟩ := chk_in (s.data.toList.take j)
      have hx := (s.data.toList.getD j 0).toNat_lt
      generalize (s.data.toList.getD j 0).toNat = x at c1 hnext hx
      generalize chk (s.data.toList.take j) = n at hnext n0 n1 ⊢
      have ht := tmod_pos (n * 59 + (x : Int)) 999983 (by omega)
      go_wp2
      go_round
      case rel => exact ⟨j + 1, by omega, by go_num, by rw [hnext.out, Int.mul_comm 59 n, ← ht]⟩
      case measure => simp [intOf]; omega
    · go_wp2
      go_ret
      have hjs : s.data.toList.take j = s.data.toList := List.take_of_length_le (by rw [Hl.out]; omega)
      rw [hjs]
      exact ⟨rfl, hbw.out⟩
end Go.Proofs.Ytbojgcfcnnbnpaa
