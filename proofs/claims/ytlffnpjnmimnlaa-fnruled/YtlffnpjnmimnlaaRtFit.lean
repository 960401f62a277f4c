/-
  The walks of Fits and of what it asks, the program's and the model's. By the verifier.
-/
import Derived.Test.YtlffnpjnmimnlaaNums
import Derived.Test.YtlffnpjnmimnlaaMRt
namespace Go.Proofs.Ytlffnpjnmimnlaa
open Go.RowKit

theorem implIn {net bits addr : Int} (hb : inB 0 32 bits = true) (n0 : 0 ≤ net) (n1 : net ≤ 4294967295) (hn : net % 2 ^ (32 - bits).toNat = 0) (a0 : 0 ≤ addr) (a1 : addr ≤ 4294967295) (w : World) :
    Calls Try.prog 77 #[.int .i64 net, .int .i64 bits, .int .i64 addr] w fun e w' => e = .returned (.bool (fitB net bits addr)) ∧ w' = w := by
  unfold fitB
  obtain ⟨s, hs, rfl⟩ := bits_of hb
  rw [pow_of hs] at hn ⊢
  clear hb
  have e32 : 32 - (32 - s) = s := by omega
  have hx : Hid (bits .xor .i64 net addr / 2 ^ (32 - (32 - s)) = 0 ↔ addr / 2 ^ s * 2 ^ s = net) := by
    show (bits .xor .i64 net addr / 2 ^ (32 - (32 - s)) = 0 ↔ addr / 2 ^ s * 2 ^ s = net)
    rw [e32, xor_shift n0 n1 a0 a1, fit_two hn]
  clear hn e32
  go_enter Try.func77, Try.ntmps77
  go_wp2
  go_ret
  exact ⟨ret_bool (by rw [Bool.eq_iff_iff, beq_iff_eq, decide_eq_true_iff]; exact hx.out), rfl⟩

theorem implUpTo1 (most n : Int) (w : World) (B : Nat) (hB : B = w.heap.size) :
    Calls Try.prog 61 #[.int .i64 most, .slice (some ⟨B, 0, none⟩) 1 1] (w.alloc (.cells #[.int .i64 n] 2)) fun e w' => e = .returned (.bool (inB 0 most n)) ∧ w' = w.alloc (.cells #[.int .i64 n] 2) := by
  have h := implUpTo most (some ⟨B, 0, none⟩) 1 [n] (w.alloc (.cells #[.int .i64 n] 2)) (by simp) (show Hid _ from ints_new w 2 [n] #[.int .i64 n] B hB rfl)
  simpa using h

set_option maxHeartbeats 1000000 in
theorem implNet (net bits : Int) (w : World) :
    Calls Try.prog 78 #[.int .i64 net, .int .i64 bits] w fun e w' => e = .returned (.bool (netB net bits)) ∧ Below w.heap.size w w' := by
  have C' := implUpTo1 32 bits w w.heap.size rfl
  have D' := implUpTo1 4294967295 net (w.alloc (.cells #[.int .i64 bits] 2)) (w.heap.size + 1) (by simp)
  cases hb : inB 0 32 bits
  · have hb' : netB net bits = false := by rw [netB, hb]; rfl
    rw [hb']
    rw [hb] at C'
    clear D' hb hb'
    go_enter Try.func78, Try.ntmps78
    go_wp2_with (go_at_call 61; refine C'.mono ?_; rintro e w' ⟨rfl, rfl⟩)
    go_ret
    exact ⟨rfl, (Below.refl _ _).alloc (Nat.le_refl _) _⟩
  rw [hb] at C'
  cases hn : inB 0 4294967295 net
  · have hb' : netB net bits = false := by rw [netB, hb, hn]; rfl
    rw [hb']
    rw [hn] at D'
    clear hb hn hb'
    go_enter Try.func78, Try.ntmps78
    go_wp2_with fail
    refine C'.mono ?_
    rintro e w' ⟨rfl, rfl⟩
    go_wp2_with fail
    refine D'.mono ?_
    rintro e w' ⟨rfl, rfl⟩
    go_wp2
    go_ret
    exact ⟨rfl, bel_alloc ((Below.refl _ _).alloc (Nat.le_refl _) _) (Nat.le_refl _) _⟩
  rw [hn] at D'
  have hnb : netB net bits = decide (net % 2 ^ (32 - bits).toNat = 0) := by rw [netB, hb, hn]; rfl
  obtain ⟨s, hs, rfl⟩ := bits_of hb
  rw [pow_of hs] at hnb
  rw [hnb]
  have hn' := inB_true.1 hn
  have ha := and_mask hs hn'.1 hn'.2
  have hw : wrap64 (2 ^ (32 - (32 - s))) = 2 ^ s := by
    rw [show 32 - (32 - s) = s by omega]
    have := pow_le32 hs
    have := pow_pos' s
    unfold wrap64; omega
  have hm := pow_pos' s
  have hm1 := pow_le32 hs
  clear hb hn hnb
  generalize (2 : Int) ^ s = m at hw hm hm1 ha ⊢
  go_enter Try.func78, Try.ntmps78
  go_wp2_with fail
  refine C'.mono ?_
  rintro e w' ⟨rfl, rfl⟩
  go_wp2_with fail
  refine D'.mono ?_
  rintro e w' ⟨rfl, rfl⟩
  go_wp2

  go_ret
  exact ⟨rfl, bel_alloc ((Below.refl _ _).alloc (Nat.le_refl _) _) (Nat.le_refl _) _⟩
end Go.Proofs.Ytlffnpjnmimnlaa
