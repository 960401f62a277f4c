/-
  The model's way to tell a right net. By the verifier.
-/
import Derived.Test.YtcafobokdfglfaaNums
import Derived.Test.YtcafobokdfglfaaRtPlain
namespace Go.Proofs.Ytcafobokdfglfaa
open Go.RowKit

theorem wrap_small {m : Int} (h0 : 0 ≤ m) (h1 : m ≤ 9223372036854775807) : wrap64 m = m := by unfold wrap64; omega
theorem ret_bool {a b : Bool} (h : a = b) : Ending.returned (.bool a) = .returned (.bool b) := by rw [h]
theorem specNet (net bits : Int) (w : World) :
    Calls Try.prog 57 #[.int .i64 net, .int .i64 bits] w fun e w' => e = .returned (.bool (netB net bits)) ∧ w' = w := by
  have Hn : Hid (netB net bits = _) := rfl
  cases hb : inB 0 32 bits
  · have hb' : netB net bits = false := by rw [netB, hb]; rfl
    rw [hb']
    clear Hn hb'
    have C := specIn bits 0 32 w
    rw [hb] at C
    clear hb
    go_enter Try.func57, Try.ntmps57
    go_wp2_with (go_at_call 56; refine C.mono ?_; rintro e w' ⟨rfl, rfl⟩)
    go_ret
    exact ⟨rfl, rfl⟩
  cases hn : inB 0 4294967295 net
  · have hb' : netB net bits = false := by rw [netB, hb, hn]; rfl
    rw [hb']
    clear Hn hb'
    have C := specIn bits 0 32 w
    have D := specAddr net w
    rw [hb] at C
    rw [hn] at D
    clear hb hn
    go_enter Try.func57, Try.ntmps57
    go_wp2_with (first | (go_at_call 56; refine C.mono ?_; rintro e w' ⟨rfl, rfl⟩) | (go_at_call 61; refine D.mono ?_; rintro e w' ⟨rfl, rfl⟩))
    go_ret
    exact ⟨rfl, rfl⟩
  have hnb : netB net bits = decide (net % 2 ^ (32 - bits).toNat = 0) := by rw [netB, hb, hn]; rfl
  have C := specIn bits 0 32 w
  have D := specAddr net w
  rw [hb] at C
  rw [hn] at D
  clear Hn
  obtain ⟨s, hs, rfl⟩ := bits_of hb
  rw [pow_of hs] at hnb
  rw [hnb]
  have hn' := inB_true.1 hn
  clear hb hn hnb
  have hw : wrap64 (2 ^ (32 - (32 - s))) = 2 ^ s := by
    rw [show 32 - (32 - s) = s by omega]
    have := pow_le32 hs
    have := pow_pos' s
    unfold wrap64; omega
  have hm := pow_pos' s
  have hm1 := pow_le32 hs
  generalize (2 : Int) ^ s = m at hw hm hm1 ⊢
  have hm0 : ¬ m = 0 := by omega
  have ht : net.tmod m = net % m := Int.tmod_eq_emod_of_nonneg hn'.1
  go_enter Try.func57, Try.ntmps57
  go_wp2_with (first | (go_at_call 56; refine C.mono ?_; rintro e w' ⟨rfl, rfl⟩) | (go_at_call 61; refine D.mono ?_; rintro e w' ⟨rfl, rfl⟩))
  go_ret
  exact ⟨rfl, rfl⟩
end Go.Proofs.Ytcafobokdfglfaa
