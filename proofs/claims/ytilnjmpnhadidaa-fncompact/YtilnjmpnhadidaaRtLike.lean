/-
  The law's own comparison of lists of routes, where both hold the same, and its addresses. By the verifier.
-/
import Derived.Test.YtilnjmpnhadidaaM1
import Derived.Test.YtilnjmpnhadidaaQuiet
import Derived.BigQuiet
namespace Go.Proofs.Ytilnjmpnhadidaa
open Go.RowKit

set_option maxHeartbeats 1600000 in
theorem likeRt (a1 a2 : Option Addr) (cap1 cap2 : Nat) (l : List Rt) (w : World) (hT : l.length ≤ 1048576) (h1 : Hid (RtsAt w a1 l)) (h2 : Hid (RtsAt w a2 l)) :
    Calls Try.prog 15 #[.slice a1 l.length cap1, .slice a2 l.length cap2] w fun e w' => e = .returned (.bool true) ∧ Below w.heap.size w w' := by
  obtain ⟨len, hlen⟩ : ∃ n, l.length = n := ⟨_, rfl⟩
  rw [hlen] at hT ⊢
  have Hlen : Hid (l.length = len) := hlen
  clear hlen
  go_enter Try.func15, Try.ntmps15
  go_wp2
  go_loopw [5] (fun i wr => ∃ k : Nat, k ≤ len ∧ i = .int .i64 k ∧ Hid (Below w.heap.size w wr)) (fun i _ => len - (intOf i).toNat)
  case atStart => exact ⟨0, Nat.zero_le _, rfl, Below.refl _ _⟩
  case round =>
    obtain ⟨k, hk, rfl, hb⟩ := hrel
    by_cases hlt : k < len
    · have R1 : Hid (RtsAt wr a1 l) := h1.out.below hb.out
      have R2 : Hid (RtsAt wr a2 l) := h2.out.below hb.out
      obtain ⟨b1, o1, ha1, -⟩ := R1.out k (by rw [Hlen.out]; exact hlt)
      obtain ⟨b2, o2, ha2, -⟩ := R2.out k (by rw [Hlen.out]; exact hlt)
      subst ha1; subst ha2
      have f0 := fun p : BelW wr.heap.size wr => (cells_at (R1.out.below p.h) (k := k) (by rw [Hlen.out]; exact hlt)).1
      have f1 := fun p : BelW wr.heap.size wr => (cells_at (R1.out.below p.h) (k := k) (by rw [Hlen.out]; exact hlt)).2.1
      have f2 := fun p : BelW wr.heap.size wr => (cells_at (R1.out.below p.h) (k := k) (by rw [Hlen.out]; exact hlt)).2.2
      have g0 := fun p : BelW wr.heap.size wr => (cells_at (R2.out.below p.h) (k := k) (by rw [Hlen.out]; exact hlt)).1
      have g1 := fun p : BelW wr.heap.size wr => (cells_at (R2.out.below p.h) (k := k) (by rw [Hlen.out]; exact hlt)).2.1
      have g2 := fun p : BelW wr.heap.size wr => (cells_at (R2.out.below p.h) (k := k) (by rw [Hlen.out]; exact hlt)).2.2
      generalize rtAt l k = r at f0 f1 f2 g0 g1 g2
      have hlt' : (k : Int) < (len : Int) := by omega
      haveI : Nonempty (BelW wr.heap.size wr) := ⟨⟨wr, Below.refl _ _⟩⟩
      go_wp2
      refine region_below wr.heap.size (by kernel_rfl) (by kernel_rfl) ?_
      repeat (go_big_quiet_step (fail))
      refine wpQuiet_nil ?_
      intro wq hx
      have hq := BelW.out hx
      have B : Hid (Below w.heap.size w wq) := hb.out.trans (hq.mono hb.out.size)
      clear hx hq f0 f1 f2 g0 g1 g2
      go_wp2
      go_roundw
      case rel => exact ⟨k + 1, by omega, by go_num, B⟩
      case measure => simp [intOf]; omega
    · obtain rfl : k = len := by omega
      go_wp2
      go_ret
      exact ⟨rfl, hb.out⟩

end Go.Proofs.Ytilnjmpnhadidaa
