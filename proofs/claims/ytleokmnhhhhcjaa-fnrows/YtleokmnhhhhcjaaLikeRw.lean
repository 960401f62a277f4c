/-
  The walks of the laws' comparisons of lists of items and of rows that are alike. By the verifier.
-/
import Derived.Test.YtleokmnhhhhcjaaM3RwFn
import Derived.Test.YtleokmnhhhhcjaaM1NumIn
import Derived.Test.YtleokmnhhhhcjaaQuiet
import Derived.Test.YtleokmnhhhhcjaaM0IzPlain
import Derived.BigQuiet
import Derived.WalkKit
import Derived.WalkSpells
import Derived.WalkLawsBesides
import Derived.RegionTactic
namespace Go.Proofs.Ytleokmnhhhhcjaa
open Go.RowKit

set_option maxHeartbeats 3200000 in
set_option maxRecDepth 100000 in
theorem likeIts (a1 a2 : Option Addr) (cap1 cap2 : Nat) (l : List It) (w : World) (hT : l.length ≤ 1048576) (h1 : Hid (ItsAt w a1 l)) (h2 : Hid (ItsAt w a2 l)) :
    Calls Try.prog 18 #[.slice a1 l.length cap1, .slice a2 l.length cap2] w fun e w' => e = .returned (.bool true) ∧ Below w.heap.size w w' := by
  obtain ⟨len, hlen⟩ : ∃ n, l.length = n := ⟨_, rfl⟩
  rw [hlen] at hT ⊢
  have Hlen : Hid (l.length = len) := hlen
  clear hlen
  go_enter Try.func18, Try.ntmps18
  go_wp2
  go_loopw [5] (fun i wr => ∃ k : Nat, k ≤ len ∧ i = .int .i64 k ∧ Hid (Below w.heap.size w wr)) (fun i _ => len - (intOf i).toNat)
  case atStart => exact ⟨0, Nat.zero_le _, rfl, Below.refl _ _⟩
  case round =>
    obtain ⟨k, hk, rfl, Hb⟩ := hrel
    by_cases hlt : k < len
    · have hkl : k < l.length := by rw [Hlen.out]; exact hlt
      have R1 := (h1.out.below Hb.out).drew
      have R2 := (h2.out.below Hb.out).drew
      obtain ⟨b1, o1, ha1, -⟩ := R1 k hkl
      obtain ⟨b2, o2, ha2, -⟩ := R2 k hkl
      subst ha1
      subst ha2
      obtain ⟨c0, c1, c2⟩ := R1.cells hkl
      obtain ⟨d0, d1, d2⟩ := R2.cells hkl
      clear R1 R2
      generalize itAt l k = x at c0 c1 c2 d0 d1 d2
      obtain ⟨x0, x1, x2⟩ := x
      simp only [] at c0 c1 c2 d0 d1 d2
      have hlt' : (k : Int) < (len : Int) := by omega
      have B2 : Hid (Below w.heap.size w wr.drew) := Hb.out.drew
      go_wp2
      go_region
      all_goals
        go_wp2
        go_roundw
        case rel => exact ⟨k + 1, by omega, by go_num, B2⟩
        case measure => simp [intOf]; omega
    · obtain rfl : k = len := by omega
      go_wp2
      go_ret
      exact ⟨rfl, Hb.out⟩

set_option maxHeartbeats 3200000 in
set_option maxRecDepth 100000 in
theorem likeRws (v1 v2 : Value) (r : Rw) (w : World) (hB : r.big ≤ 1048576) (h1 : Hid (RwAt w v1 r)) (h2 : Hid (RwAt w v2 r)) :
    Calls Try.prog 10 #[v1, v2] w fun e w' => e = .returned (.bool true) ∧ Below w.heap.size w w' := by
  obtain ⟨a1, c1, rfl, k1⟩ := h1.out
  obtain ⟨a2, c2, rfl, k2⟩ := h2.out
  obtain ⟨hT, -, hin⟩ := Rw.small hB
  have Hin : Hid (∀ k, k < r.lists.length → (izAt r.lists k).length ≤ 1048576) := hin
  obtain ⟨f, ls⟩ := r
  simp only [Rw.val] at k1 k2 hT Hin ⊢
  obtain ⟨len, hlen⟩ : ∃ n, ls.length = n := ⟨_, rfl⟩
  rw [hlen] at hT Hin ⊢
  have Hlen : Hid (ls.length = len) := hlen
  obtain ⟨W, hW⟩ : ∃ W, W = (w.alloc (.cells #[.int .i64 f, .slice a1 len c1] 26)).alloc (.cells #[.int .i64 f, .slice a2 len c2] 26) := ⟨_, rfl⟩
  have X : Hid (IzAt W a1 ls ∧ IzAt W a2 ls ∧ Boxed W w.heap.size #[.int .i64 f, .slice a1 len c1] 26 ∧ Boxed W (w.heap.size + 1) #[.int .i64 f, .slice a2 len c2] 26 ∧ Below w.heap.size w W) := by
    rw [hW]
    refine ⟨(k1.alloc _).alloc _, (k2.alloc _).alloc _, (Boxed.new w _ _).more _, ?_, ((Below.refl _ _).alloc (Nat.le_refl _) _).alloc (by simp) _⟩
    have := Boxed.new (w.alloc (.cells #[.int .i64 f, .slice a1 len c1] 26)) #[.int .i64 f, .slice a2 len c2] 26
    simpa using this
  have HW : Hid (W = _) := hW
  clear hW h1 h2 k1 k2 hB hlen hin
  go_enter Try.func10, Try.ntmps10
  go_wp2
  rw [← HW.out]
  go_loopw [5] (fun i wr => ∃ k : Nat, k ≤ len ∧ i = .int .i64 k ∧ Hid (Below W.heap.size W wr)) (fun i _ => len - (intOf i).toNat)
  case atStart => exact ⟨0, Nat.zero_le _, rfl, Below.refl _ _⟩
  case round =>
    obtain ⟨k, hk, rfl, Hb⟩ := hrel
    have e1 : wr.cell? ⟨w.heap.size, 1, none⟩ = some (.slice a1 len c1) := (X.out.2.2.1.below X.out.2.2.1.under Hb.out).cell 1 rfl
    by_cases hlt : k < len
    · have hkl : k < ls.length := by rw [Hlen.out]; exact hlt
      have Go : Hid (∀ wq, Below wr.heap.size wr wq → IzAt wq a1 ls ∧ IzAt wq a2 ls ∧ Boxed wq w.heap.size #[.int .i64 f, .slice a1 len c1] 26 ∧ Boxed wq (w.heap.size + 1) #[.int .i64 f, .slice a2 len c2] 26 ∧ Below W.heap.size W wq) := fun wq q => by
        have hb := Hb.out.trans (q.mono Hb.out.size)
        exact ⟨X.out.1.below hb, X.out.2.1.below hb, X.out.2.2.1.below X.out.2.2.1.under hb, X.out.2.2.2.1.below X.out.2.2.2.1.under hb, hb⟩
      obtain ⟨b1, o1, i1, m1, ha1, hb1, hc1, hr1, -⟩ := X.out.1.below Hb.out k hkl
      obtain ⟨b2, o2, i2, m2, ha2, hb2, hc2, hr2, -⟩ := X.out.2.1.below Hb.out k hkl
      subst ha1
      subst ha2
      have C := fun wq g1 g2 => likeIts i1 i2 m1 m2 (izAt ls k) wq (Hin.out k hlt) g1 g2
      have Hr : Hid (ItsAt wr i1 (izAt ls k) ∧ ItsAt wr i2 (izAt ls k) ∧ wr.cell? ⟨b1, o1 + k, none⟩ = some (.slice i1 (izAt ls k).length m1) ∧ wr.cell? ⟨b2, o2 + k, none⟩ = some (.slice i2 (izAt ls k).length m2) ∧ b1 < wr.heap.size ∧ b2 < wr.heap.size) := ⟨hr1, hr2, hc1, hc2, hb1, hb2⟩
      generalize izAt ls k = l at C Hr
      obtain ⟨m, hm⟩ : ∃ m, l.length = m := ⟨_, rfl⟩
      rw [hm] at C Hr
      clear hc1 hc2 hr1 hr2 hm
      have C' : Hid _ := C
      clear C
      have hlt' : (k : Int) < (len : Int) := by omega
      haveI : Nonempty (BelW wr.heap.size wr) := ⟨⟨wr, Below.refl _ _⟩⟩
      have f1 : ∀ p : BelW wr.heap.size wr, p.w'.cell? ⟨w.heap.size, 1, none⟩ = some (.slice (some ⟨b1, o1, none⟩) len c1) := fun p => (Go.out _ p.h).2.2.1.cell 1 rfl
      have f2 : ∀ p : BelW wr.heap.size wr, p.w'.cell? ⟨w.heap.size + 1, 1, none⟩ = some (.slice (some ⟨b2, o2, none⟩) len c2) := fun p => (Go.out _ p.h).2.2.2.1.cell 1 rfl
      have f3 : ∀ p : BelW wr.heap.size wr, p.w'.cell? ⟨b1, o1 + k, none⟩ = some (.slice i1 m m1) := fun p => by rw [p.h.cell (p := ⟨b1, o1 + k, none⟩) Hr.out.2.2.2.2.1]; exact Hr.out.2.2.1
      have f4 : ∀ p : BelW wr.heap.size wr, p.w'.cell? ⟨b2, o2 + k, none⟩ = some (.slice i2 m m2) := fun p => by rw [p.h.cell (p := ⟨b2, o2 + k, none⟩) Hr.out.2.2.2.2.2]; exact Hr.out.2.2.2.1
      have At : Hid (∀ p : BelW wr.heap.size wr, ItsAt p.w' i1 l ∧ ItsAt p.w' i2 l) := fun p => ⟨Hr.out.1.below p.h, Hr.out.2.1.below p.h⟩
      go_wp2_with fail
      refine region_below wr.heap.size (by kernel_rfl) (by kernel_rfl) ?_
      repeat (go_big_quiet_step ((go_at_call 18; refine quiet_below (Nat.le_refl _) (C'.out _ (At.out _).1 (At.out _).2))))
      refine wpQuiet_nil ?_
      intro wq hx
      have GQ : Hid (Below W.heap.size W wq) := (Go.out _ (BelW.out hx)).2.2.2.2
      clear hx f1 f2 f3 f4 e1
      go_wp2
      go_roundw
      case rel => exact ⟨k + 1, by omega, by go_num, GQ⟩
      case measure => simp [intOf]; omega
    · obtain rfl : k = len := by omega
      go_wp2
      go_ret
      exact ⟨rfl, X.out.2.2.2.2.trans (Hb.out.mono X.out.2.2.2.2.size)⟩
end Go.Proofs.Ytleokmnhhhhcjaa
