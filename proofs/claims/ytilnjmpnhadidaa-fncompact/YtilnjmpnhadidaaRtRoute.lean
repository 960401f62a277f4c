/-
  The walks of a right route and of Fits, the program's and the model's. By the verifier.
-/
import Derived.Test.YtilnjmpnhadidaaRtFit
namespace Go.Proofs.Ytilnjmpnhadidaa
open Go.RowKit

theorem cell_of_below {w w' : World} {n : Nat} (h : Below n w w') {p : Addr} (hp : p.block < n) {v : Value} (c : w.cell? p = some v) : w'.cell? p = some v := by
  rw [h.cell hp]; exact c

theorem specRoute (r : Rt) (w : World) :
    Calls Try.prog 46 #[r.val] w fun e w' => e = .returned (.bool r.ok) ∧ w' = w.alloc (.cells #[.int .i64 r.net, .int .i64 r.bits, .int .i64 r.hop] 53) := by
  unfold Rt.ok Rt.val
  obtain ⟨net, bits, hop⟩ := r
  simp only []
  have C := fun w => specNet net bits w
  have D := fun w => specIn hop 0 99 w
  cases hn : netB net bits
  · rw [hn] at C
    clear D hn
    go_enter Try.func46, Try.ntmps46
    go_wp2_with (go_at_call 78; refine (C _).mono ?_; rintro e w' ⟨rfl, rfl⟩)
    go_ret
    exact ⟨rfl, rfl⟩
  · rw [hn] at C
    clear hn
    generalize inB 0 99 hop = b at D ⊢
    go_enter Try.func46, Try.ntmps46
    go_wp2_with (first | (go_at_call 78; refine (C _).mono ?_; rintro e w' ⟨rfl, rfl⟩) | (go_at_call 79; refine (D _).mono ?_; rintro e w' ⟨rfl, rfl⟩))
    go_ret
    exact ⟨rfl, rfl⟩

theorem implRoute (r : Rt) (w : World) :
    Calls Try.prog 47 #[r.val] w fun e w' => e = .returned (.bool r.ok) ∧ Below w.heap.size w w' := by
  unfold Rt.ok Rt.val
  obtain ⟨net, bits, hop⟩ := r
  simp only []
  have C := fun w => implNet net bits w
  cases hn : netB net bits
  · rw [hn] at C
    clear hn
    go_enter Try.func47, Try.ntmps47
    go_wp2_with fail
    refine (C _).mono ?_
    rintro e w1 ⟨rfl, b1⟩
    have B : Hid (Below w.heap.size w w1) := ((Below.refl _ w).alloc (Nat.le_refl _) _).trans (b1.mono (by simp))
    clear b1 C
    go_wp2
    go_ret
    exact ⟨rfl, B.out⟩
  · rw [hn] at C
    clear hn
    have D := fun (w : World) => implUpTo1 99 hop w w.heap.size rfl
    generalize inB 0 99 hop = b at D ⊢
    go_enter Try.func47, Try.ntmps47
    go_wp2_with fail
    refine (C _).mono ?_
    rintro e w1 ⟨rfl, b1⟩
    have B : Hid (Below w.heap.size w w1) := ((Below.refl _ w).alloc (Nat.le_refl _) _).trans (b1.mono (by simp))
    have c2 : w1.cell? ⟨w.heap.size, 2, none⟩ = some (.int .i64 hop) := cell_of_below b1 (by simp) (by simp)
    clear b1 C
    go_wp2_with fail
    refine (D _).mono ?_
    rintro e w' ⟨rfl, rfl⟩
    go_wp2
    go_ret
    exact ⟨rfl, B.out.alloc B.out.size _⟩

theorem ok_parts {r : Rt} (h : r.ok = true) : inB 0 32 r.bits = true ∧ (0 ≤ r.net ∧ r.net ≤ 4294967295) ∧ r.net % 2 ^ (32 - r.bits).toNat = 0 ∧ (0 ≤ r.hop ∧ r.hop ≤ 99) := by
  unfold Rt.ok netB at h
  simp only [Bool.and_eq_true, decide_eq_true_eq, inB_true] at h
  obtain ⟨⟨h1, h2, h3⟩, h4⟩ := h
  exact ⟨by rw [inB_true]; exact h1, h2, h3, h4⟩
end Go.Proofs.Ytilnjmpnhadidaa
