/-
  The walk of the model's count of a wheel; WheelOk over any value that holds one. By the verifier.
-/
import Derived.Test.YtkocbfikcjgigaaGreatWhSpec
namespace Go.Proofs.YtkocbfikcjgigaaGreat
open Go.RowKit

theorem specWheelOkV (r : Wh) (v : Value) (w : World) (hB : r.big ≤ 1048576) (h : Hid (WhAt w v r)) :
    Calls Tryz.prog 16 #[v] w fun e w' => e = .returned (.bool r.ok) ∧ Below w.heap.size w w' := by
  obtain ⟨a, c, rfl, k⟩ := h.out
  exact specWheelOk r a c w hB k

set_option maxHeartbeats 1600000 in
set_option maxRecDepth 100000 in
theorem specWhCnt (r : Wh) (a : Option Addr) (c : Nat) (w : World) (hB : r.big ≤ 1048576) (h : Hid (DzAt w a r.slots)) :
    Calls Tryz.prog 50 #[r.val a c] w fun e w' => e = .returned (.int .i64 (dzSum r.slots r.slots.length)) ∧ Below w.heap.size w w' := by
  obtain ⟨hT, hS, -⟩ := Wh.small hB
  obtain ⟨f, ls⟩ := r
  simp only [Wh.val] at h hT hS ⊢
  clear hB
  obtain ⟨len, hlen⟩ : ∃ n, ls.length = n := ⟨_, rfl⟩
  rw [hlen] at hT hS ⊢
  have Hlen : Hid (ls.length = len) := hlen
  clear hlen
  obtain ⟨W, hW⟩ : ∃ W, W = w.alloc (.cells #[.int .i64 f, .slice a len c] 29) := ⟨_, rfl⟩
  have X : Hid (DzAt W a ls ∧ Below w.heap.size w W ∧ Boxed W w.heap.size #[.int .i64 f, .slice a len c] 29) := by
    rw [hW]
    exact ⟨h.out.alloc _, (Below.refl _ _).alloc (Nat.le_refl _) _, Boxed.new _ _ _⟩
  have HW : Hid (W = _) := hW
  clear hW h
  go_enter Tryz.func50, Tryz.ntmps50
  go_wp2
  rw [← HW.out]
  have c1 : W.cell? ⟨w.heap.size, 1, none⟩ = some (.slice a len c) := X.out.2.2.cell 1 rfl
  go_loop [3, 4] (fun s i => ∃ (k : Nat) (q : Int), k ≤ len ∧ i = .int .i64 k ∧ s = .int .i64 q ∧ 0 ≤ q ∧ q ≤ 1048576 ∧ Hid (q = dzSum ls k)) (fun _ i => len - (intOf i).toNat)
  case atStart => exact ⟨0, 0, Nat.zero_le _, rfl, rfl, by omega, by omega, by show (0 : Int) = (dzSum ls 0 : Nat); rw [dzSum_zero]; rfl⟩
  case round =>
    obtain ⟨k, q, hk, rfl, rfl, q0, q1, Hq⟩ := hrel
    by_cases hlt : k < len
    · have hkl : k < ls.length := by rw [Hlen.out]; exact hlt
      obtain ⟨b, off, ak, ck, ha, hb, hc, -, -⟩ := X.out.1 k hkl
      subst ha
      have hs := dzSum_succ hkl
      have hm := dzSum_mono (ls := ls) (i := k + 1) (j := len) (by omega) (by rw [Hlen.out]; exact Nat.le_refl _)
      have q2 : q + ((dzAt ls k).length : Int) ≤ 1048576 := by have := Hq.out; omega
      have Hs : Hid (dzSum ls (k + 1) = dzSum ls k + (dzAt ls k).length) := hs
      generalize (dzAt ls k).length = n at hc q2 Hs
      clear hs hm
      go_wp2
      go_round
      case rel =>
        refine ⟨k + 1, q + n, by omega, by go_num, by go_num, by omega, by omega, ?_⟩
        show q + n = ((dzSum ls (k + 1) : Nat) : Int)
        rw [Hs.out, Hq.out]
        push_cast
        rfl
      case measure => simp [intOf]; omega
    · obtain rfl : k = len := by omega
      go_wp2
      go_ret
      exact ⟨ret_num Hq.out, X.out.2.1⟩
end Go.Proofs.YtkocbfikcjgigaaGreat
