/-
  The sum of a text as plain data; the walks of the model's l3Fold and Sum16. By the verifier.
-/
import Derived.Test.YtddjflaceokoaaaDoorRows
import Derived.WalkKit
import Derived.WalkSpells
import Derived.WalkLawsBesides
import Derived.RowKit3
import Derived.Below
namespace Go.Proofs.YtddjflaceokoaaaDoor
open Go.RowKit

/-- Two sums in one. -/
def fold16 (a b : Int) : Int := if 65535 < a + b then a + b - 65535 else a + b
theorem fold16_in {a b : Int} (a0 : 0 ≤ a) (a1 : a ≤ 65535) (b0 : 0 ≤ b) (b1 : b ≤ 65535) : 0 ≤ fold16 a b ∧ fold16 a b ≤ 65535 := by
  unfold fold16
  split <;> omega
/-- The byte at p; 0 behind the end. -/
def byteAt (text : ByteArray) (p : Nat) : Int := if h : p < text.size then ((text[p]'h).toNat : Int) else 0
theorem byteAt_in (text : ByteArray) (p : Nat) : 0 ≤ byteAt text p ∧ byteAt text p ≤ 255 := by
  unfold byteAt
  split
  · rename_i h
    have := (text[p]'h).toNat_lt
    omega
  · omega
/-- The pairs ahead of j, folded. -/
def sumTo (text : ByteArray) : Nat → Int
  | 0 => 0
  | j + 1 => fold16 (sumTo text j) (byteAt text (2 * j) * 256 + byteAt text (2 * j + 1))
theorem sumTo_in (text : ByteArray) (j : Nat) : 0 ≤ sumTo text j ∧ sumTo text j ≤ 65535 := by
  induction j with
  | zero => exact ⟨Int.le_refl _, by show (0 : Int) ≤ 65535; decide⟩
  | succ j ih =>
    have a := byteAt_in text (2 * j)
    have b := byteAt_in text (2 * j + 1)
    exact fold16_in ih.1 ih.2 (by omega) (by omega)
/-- The sum of a text. -/
def sum16 (text : ByteArray) : Int := 65535 - sumTo text ((text.size + 1) / 2)
theorem sum16_in (text : ByteArray) : 0 ≤ sum16 text ∧ sum16 text ≤ 65535 := by
  have := sumTo_in text ((text.size + 1) / 2)
  unfold sum16
  omega

theorem specFold16 (a b : Int) (a0 : 0 ≤ a) (a1 : a ≤ 65535) (b0 : 0 ≤ b) (b1 : b ≤ 65535) (w : World) :
    Calls Tryd.prog 62 #[.int .i64 a, .int .i64 b] w fun e w' => e = .returned (.int .i64 (fold16 a b)) ∧ w' = w := by
  unfold fold16
  by_cases h : 65535 < a + b
  · rw [if_pos h]
    go_enter Tryd.func62, Tryd.ntmps62
    go_wp2
    go_ret
    exact ⟨rfl, rfl⟩
  · rw [if_neg h]
    go_enter Tryd.func62, Tryd.ntmps62
    go_wp2
    go_ret
    exact ⟨rfl, rfl⟩

set_option maxHeartbeats 1600000 in
theorem specSum16 (text : ByteArray) (hsz : text.size ≤ 1048576) (w : World) :
    Calls Tryd.prog 54 #[.string text] w fun e w' => e = .returned (.int .i64 (sum16 text)) ∧ w' = w := by
  go_enter Tryd.func54, Tryd.ntmps54
  go_wp2
  go_loop [3, 4] (fun n i => ∃ j : Nat, j ≤ (text.size + 1) / 2 ∧ i = .int .i64 (2 * (j : Int)) ∧ n = .int .i64 (sumTo text j)) (fun _ i => text.size + 1 - (intOf i).toNat)
  case atStart => exact ⟨0, Nat.zero_le _, by simp, rfl⟩
  case round =>
    obtain ⟨j, hj, rfl, rfl⟩ := hrel
    obtain ⟨n0, n1⟩ := sumTo_in text j
    by_cases hlt : 2 * j < text.size
    · have hin' : 2 * (j : Int) < text.size := by omega
      have hs : Hid (sumTo text (j + 1) = fold16 (sumTo text j) (byteAt text (2 * j) * 256 + byteAt text (2 * j + 1))) := rfl
      have e0 : byteAt text (2 * j) = ((text[2 * j]'hlt).toNat : Int) := by unfold byteAt; rw [dif_pos hlt]
      have hx := (text[2 * j]'hlt).toNat_lt
      by_cases hl1 : 2 * j + 1 < text.size
      · have hin1 : 2 * (j : Int) + 1 < text.size := by omega
        have e1 : byteAt text (2 * j + 1) = ((text[2 * j + 1]'hl1).toNat : Int) := by unfold byteAt; rw [dif_pos hl1]
        have hy := (text[2 * j + 1]'hl1).toNat_lt
        rw [e0, e1] at hs
        generalize sumTo text j = n at hs n0 n1 ⊢
        go_wp2_with fail
        refine (specFold16 _ _ n0 n1 (by omega) (by omega) _).mono ?_
        rintro e w' ⟨rfl, rfl⟩
        go_wp2
        go_round
        case rel => exact ⟨j + 1, by omega, by go_num, by rw [hs.out]⟩
        case measure => simp [intOf]; omega
      · have hin1 : ¬ 2 * (j : Int) + 1 < text.size := by omega
        have e1 : byteAt text (2 * j + 1) = 0 := by unfold byteAt; rw [dif_neg hl1]
        rw [e0, e1, Int.add_zero] at hs
        generalize sumTo text j = n at hs n0 n1 ⊢
        go_wp2_with fail
        refine (specFold16 _ _ n0 n1 (by omega) (by omega) _).mono ?_
        rintro e w' ⟨rfl, rfl⟩
        go_wp2
        go_round
        case rel => exact ⟨j + 1, by omega, by go_num, by rw [hs.out]⟩
        case measure => simp [intOf]; omega
    · have he : j = (text.size + 1) / 2 := by omega
      have hs : Hid (sum16 text = 65535 - sumTo text j) := by subst he; rfl
      generalize sumTo text j = n at hs n0 n1 ⊢
      go_wp2
      go_ret
      exact ⟨by rw [hs.out]; rfl, rfl⟩
end Go.Proofs.YtddjflaceokoaaaDoor
