/-
  The walks of the laws' comparisons of routes, where both hold the same. By the verifier.
-/
import Derived.Test.YtilnjmpnhadidaaRtTo
import Derived.Test.YtilnjmpnhadidaaQuiet
namespace Go.Proofs.Ytilnjmpnhadidaa
open Go.RowKit

theorem eqRoutes (r : Rt) (w : World) :
    Calls Try.prog 50 #[r.val, r.val] w fun e w' => e = .returned (.bool true) ∧ Below w.heap.size w w' := by
  unfold Rt.val
  obtain ⟨net, bits, hop⟩ := r
  simp only []
  go_enter Try.func50, Try.ntmps50
  go_wp2
  go_ret
  exact ⟨rfl, bel_alloc ((Below.refl _ _).alloc (Nat.le_refl _) _) (Nat.le_refl _) _⟩

set_option maxHeartbeats 1600000 in
theorem eqLists (a1 a2 : Option Addr) (cap1 cap2 : Nat) (l : List Rt) (w : World) (hT : l.length ≤ 1048576) (h1 : Hid (RtsAt w a1 l)) (h2 : Hid (RtsAt w a2 l)) :
    Calls Try.prog 26 #[.slice a1 l.length cap1, .slice a2 l.length cap2] w fun e w' => e = .returned (.bool true) ∧ Below w.heap.size w w' := by
  obtain ⟨len, hlen⟩ : ∃ n, l.length = n := ⟨_, rfl⟩
  rw [hlen] at hT ⊢
  have Hlen : Hid (l.length = len) := hlen
  clear hlen
  go_enter Try.func26, Try.ntmps26
  go_wp2
  go_loopw [5] (fun i wr => ∃ k : Nat, k ≤ len ∧ i = .int .i64 k ∧ Hid (Below w.heap.size w wr)) (fun i _ => len - (intOf i).toNat)
  case atStart => exact ⟨0, Nat.zero_le _, rfl, Below.refl _ _⟩
  case round =>
    obtain ⟨k, hk, rfl, hb⟩ := hrel
    by_cases hlt : k < len
    · have R1 : Hid (RtsAt wr a1 l) := h1.out.below hb.out
      have R2 : Hid (RtsAt wr a2 l) := h2.out.below hb.out
      obtain ⟨b1, o1, ha1, -⟩ := R1.out k (by rw [Hlen.out]; exact hlt)
      obtain ⟨b2, o2, ha2, -⟩ := R2.out k (by rw [Hlen.out]; exact hlt)
      subst ha1; subst ha2
      have F1 := fun p : BelW wr.heap.size wr => cells_at (R1.out.below p.h) (by rw [Hlen.out]; exact hlt)
      have F2 := fun p : BelW wr.heap.size wr => cells_at (R2.out.below p.h) (by rw [Hlen.out]; exact hlt)
      have E := fun w => eqRoutes (rtAt l k) w
      unfold Rt.val at E
      generalize rtAt l k = r at F1 F2 E
      have f10 := fun p => (F1 p).1
      have f11 := fun p => (F1 p).2.1
      have f12 := fun p => (F1 p).2.2
      have f20 := fun p => (F2 p).1
      have f21 := fun p => (F2 p).2.1
      have f22 := fun p => (F2 p).2.2
      clear F1 F2
      have hlt' : (k : Int) < (len : Int) := by omega
      go_wp2
      haveI : Nonempty (BelW wr.heap.size wr) := ⟨⟨wr, Below.refl _ _⟩⟩
      refine region_below wr.heap.size (by kernel_rfl) (by kernel_rfl) ?_
      repeat (quiet_step ((go_at_call 50; refine quiet_below (Nat.le_refl _) (E _))))
      refine wpQuiet_nil ?_
      intro wq hx
      have hq := BelW.out hx
      have B : Hid (Below w.heap.size w wq) := hb.out.trans (hq.mono hb.out.size)
      clear hx hq f10 f11 f12 f20 f21 f22
      go_wp2
      go_roundw
      case rel => exact ⟨k + 1, by omega, by go_num, B⟩
      case measure => simp [intOf]; omega
    · go_wp2
      go_ret
      exact ⟨rfl, hb.out⟩
end Go.Proofs.Ytilnjmpnhadidaa
