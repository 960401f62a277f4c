/-
  Chapter 17: the check of a text as plain data; the model's Check. By the verifier.
-/
import Derived.Test.YtbojgcfcnnbnpaaRows
import Derived.WalkKit
import Derived.WalkLawsBesides
import Derived.RowKit3
import Derived.Below
namespace Go.Proofs.Ytbojgcfcnnbnpaa
open Go.RowKit

/-- The check of bytes. -/
def chk (l : List UInt8) : Int := l.foldl (fun h b => (59 * h + (b.toNat : Int)) % 999983) 15
theorem chk_in (l : List UInt8) : 0 ≤ chk l ∧ chk l < 999983 := by
  unfold chk
  suffices h : ∀ (l : List UInt8) (s : Int), 0 ≤ s → s < 999983 → 0 ≤ l.foldl (fun h b => (59 * h + (b.toNat : Int)) % 999983) s ∧ l.foldl (fun h b => (59 * h + (b.toNat : Int)) % 999983) s < 999983 from h l 15 (by decide) (by decide)
  intro l
  induction l with
  | nil => intro s a b; exact ⟨a, b⟩
  | cons x l ih => intro s a b; rw [List.foldl_cons]; exact ih _ (by omega) (by omega)
theorem chk_take (l : List UInt8) (j : Nat) (hj : j < l.length) : chk (l.take (j + 1)) = (59 * chk (l.take j) + ((l.getD j 0).toNat : Int)) % 999983 := by
  unfold chk
  rw [List.take_succ_eq_append_getElem hj, List.foldl_append]; simp [List.getElem?_eq_getElem hj]
theorem tmod_pos (a b : Int) (h : 0 ≤ a) : a.tmod b = a % b := Int.tmod_eq_emod_of_nonneg h

set_option maxHeartbeats 1600000 in
theorem specCheck (text : ByteArray) (hsz : text.size ≤ 1048576) (w : World) :
    Calls Try.prog 4 #[.string text] w fun e w' => e = .returned (.int .i64 (chk text.data.toList)) ∧ w' = w := by
  have Hl : Hid (text.data.toList.length = text.size) := by
    show text.data.toList.length = text.size
    rw [Array.length_toList]; rfl
  go_enter Try.func4, Try.ntmps4
  go_wp2
  go_loop [3, 4] (fun n i => ∃ j : Nat, j ≤ text.size ∧ i = .int .i64 j ∧ n = .int .i64 (chk (text.data.toList.take j))) (fun _ i => text.size - (intOf i).toNat)
  case atStart => exact ⟨0, Nat.zero_le _, rfl, rfl⟩
  case round =>
    obtain ⟨j, hj, rfl, rfl⟩ := hrel
    by_cases hlt : j < text.size
    · have hin' : (j : Int) < text.size := by omega
      have hnext : Hid (chk (text.data.toList.take (j + 1)) = (59 * chk (text.data.toList.take j) + ((text[j]'hlt).toNat : Int)) % 999983) := by
        show chk (text.data.toList.take (j + 1)) = _
        rw [chk_take _ j (by rw [Hl.out]; exact hlt)]
        have : text.data.toList.getD j 0 = text[j]'hlt := by
          rw [List.getD_eq_getElem?_getD, List.getElem?_eq_getElem (by rw [Hl.out]; exact hlt)]
          simp only [Option.getD_some, Array.getElem_toList]
          rfl
        rw [this]
      obtain ⟨n0, n1⟩ := chk_in (text.data.toList.take j)
      have hx := (text[j]'hlt).toNat_lt
      generalize chk (text.data.toList.take j) = n at hnext n0 n1 ⊢
      have ht := tmod_pos (59 * n + ((text[j]'hlt).toNat : Int)) 999983 (by omega)
      go_wp2
      go_round
      case rel => exact ⟨j + 1, by omega, by go_num, by rw [hnext.out, ← ht]⟩
      case measure => simp [intOf]; omega
    · go_wp2
      go_ret
      have hjs : text.data.toList.take j = text.data.toList := List.take_of_length_le (by rw [Hl.out]; omega)
      rw [hjs]
      exact ⟨rfl, rfl⟩
end Go.Proofs.Ytbojgcfcnnbnpaa
