/-
  The walks of the laws' comparisons of lists and frames, where both hold the same. By the verifier.
-/
import Derived.Test.YtcafobokdfglfaaFrOk
import Derived.Test.YtcafobokdfglfaaBox
import Derived.RegionTactic
namespace Go.Proofs.Ytcafobokdfglfaa
open Go.RowKit

theorem bel_drew {B : Nat} {w w' : World} (h : Below B w w') : Below B w w'.drew := h.drew

set_option maxHeartbeats 1600000 in
theorem eqInts (a1 a2 : Option Addr) (cap1 cap2 : Nat) (zs : List Int) (w : World) (hT : zs.length ≤ 1048576) (h1 : Hid (IntsAt w a1 zs)) (h2 : Hid (IntsAt w a2 zs)) :
    Calls Try.prog 24 #[.slice a1 zs.length cap1, .slice a2 zs.length cap2] w fun e w' => e = .returned (.bool true) ∧ Below w.heap.size w w' := by
  obtain ⟨len, hlen⟩ : ∃ n, zs.length = n := ⟨_, rfl⟩
  rw [hlen] at hT ⊢
  have Hlen : Hid (zs.length = len) := hlen
  clear hlen
  go_enter Try.func24, Try.ntmps24
  go_wp2
  go_loopw [5] (fun i wr => ∃ k : Nat, k ≤ len ∧ i = .int .i64 k ∧ Hid (Below w.heap.size w wr)) (fun i _ => len - (intOf i).toNat)
  case atStart => exact ⟨0, Nat.zero_le _, rfl, Below.refl _ _⟩
  case round =>
    obtain ⟨k, hk, rfl, hb⟩ := hrel
    by_cases hlt : k < len
    · obtain ⟨b1, o1, ha1, hb1, c1⟩ := (h1.out.below hb.out) k (by rw [Hlen.out]; exact hlt)
      obtain ⟨b2, o2, ha2, hb2, c2⟩ := (h2.out.below hb.out) k (by rw [Hlen.out]; exact hlt)
      subst ha1; subst ha2
      generalize zs[k]?.getD 0 = z at c1 c2
      have hlt' : (k : Int) < (len : Int) := by omega
      go_wp2
      go_region
      go_wp2
      go_roundw
      case rel => exact ⟨k + 1, by omega, by go_num, hb.out.drew⟩
      case measure => simp [intOf]; omega
    · go_wp2
      go_ret
      exact ⟨rfl, hb.out⟩

set_option maxHeartbeats 3200000 in
set_option maxRecDepth 100000 in
theorem eqFrames (f : Fr) (a1 a2 : Option Addr) (cap1 cap2 : Nat) (w : World) (hT : f.tags.length ≤ 1048576) (h1 : Hid (IntsAt w a1 f.tags)) (h2 : Hid (IntsAt w a2 f.tags)) :
    Calls Try.prog 19 #[f.val a1 cap1, f.val a2 cap2] w fun e w' => e = .returned (.bool true) ∧ Below w.heap.size w w' := by
  obtain ⟨to, frm, tags, src, dst, proto, sport, dport, mark, sum, body⟩ := f
  have F := fun w1 (g1 : Hid (IntsAt w1 a1 tags)) (g2 : Hid (IntsAt w1 a2 tags)) => eqInts a1 a2 cap1 cap2 tags w1 hT g1 g2
  simp only [Fr.val] at hT h1 h2 ⊢
  obtain ⟨len, hlen⟩ : ∃ n, tags.length = n := ⟨_, rfl⟩
  rw [hlen] at hT ⊢
  simp only [hlen] at F
  have F' : Hid _ := F
  clear hlen F
  go_enter Try.func19, Try.ntmps19
  go_wp2_with fail
  refine (F'.out _ ((h1.out.alloc _).alloc _) ((h2.out.alloc _).alloc _)).mono ?_
  rintro e w2 ⟨rfl, b2⟩
  have x1 := ((Boxed.new w #[.int .i64 to, .int .i64 frm, .slice a1 len cap1, .int .i64 src, .int .i64 dst, .int .i64 proto, .int .i64 sport, .int .i64 dport, .int .i64 mark, .int .i64 sum, .string body] 38).below (by omega) ((Below.refl (w.heap.size + 1) (w.alloc (.cells #[.int .i64 to, .int .i64 frm, .slice a1 len cap1, .int .i64 src, .int .i64 dst, .int .i64 proto, .int .i64 sport, .int .i64 dport, .int .i64 mark, .int .i64 sum, .string body] 38))).alloc (by simp) (.cells #[.int .i64 to, .int .i64 frm, .slice a2 len cap2, .int .i64 src, .int .i64 dst, .int .i64 proto, .int .i64 sport, .int .i64 dport, .int .i64 mark, .int .i64 sum, .string body] 38))).below (by simp; omega) b2
  have e2 := Boxed.new (w.alloc (.cells #[.int .i64 to, .int .i64 frm, .slice a1 len cap1, .int .i64 src, .int .i64 dst, .int .i64 proto, .int .i64 sport, .int .i64 dport, .int .i64 mark, .int .i64 sum, .string body] 38)) #[.int .i64 to, .int .i64 frm, .slice a2 len cap2, .int .i64 src, .int .i64 dst, .int .i64 proto, .int .i64 sport, .int .i64 dport, .int .i64 mark, .int .i64 sum, .string body] 38
  have x2 := e2.below (by simp) b2
  rw [show (w.alloc (.cells #[.int .i64 to, .int .i64 frm, .slice a1 len cap1, .int .i64 src, .int .i64 dst, .int .i64 proto, .int .i64 sport, .int .i64 dport, .int .i64 mark, .int .i64 sum, .string body] 38)).heap.size = w.heap.size + 1 by simp] at x2
  have H2 : Hid (Below w.heap.size w w2) := (bel_alloc (bel_alloc (Below.refl _ w) (Nat.le_refl _) _) (Nat.le_refl _) _).trans (b2.mono (by simp; omega))
  clear b2 e2
  have c3 := x1.cell 3 rfl
  have d3 := x2.cell 3 rfl
  have c4 := x1.cell 4 rfl
  have d4 := x2.cell 4 rfl
  have c5 := x1.cell 5 rfl
  have d5 := x2.cell 5 rfl
  have c6 := x1.cell 6 rfl
  have d6 := x2.cell 6 rfl
  have c7 := x1.cell 7 rfl
  have d7 := x2.cell 7 rfl
  have c8 := x1.cell 8 rfl
  have d8 := x2.cell 8 rfl
  have c9 := x1.cell 9 rfl
  have d9 := x2.cell 9 rfl
  have c10 := x1.cell 10 rfl
  have d10 := x2.cell 10 rfl
  have X : Hid (Boxed w2 w.heap.size _ _ ∧ Boxed w2 (w.heap.size + 1) _ _) := ⟨x1, x2⟩
  clear x1 x2
  go_wp2
  go_ret
  exact ⟨rfl, H2.out⟩
end Go.Proofs.Ytcafobokdfglfaa
