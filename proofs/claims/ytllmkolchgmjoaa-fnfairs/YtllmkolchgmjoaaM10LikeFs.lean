import Derived.Test.YtllmkolchgmjoaaM0IntLie
import Derived.Test.YtllmkolchgmjoaaM2FsSpec
import Derived.WalkKit
import Derived.WalkSpells
import Derived.WalkLawsBesides
import Derived.RegionTactic
import Derived.Test.YtllmkolchgmjoaaM1FsFn
import Derived.Test.YtllmkolchgmjoaaQuiet
import Derived.Test.YtllmkolchgmjoaaBoxed
import Derived.BigQuiet
/-
  The walk of the laws' comparison of lists of numbers that are alike. By the verifier.
-/
namespace Go.Proofs.Ytllmkolchgmjoaa
open Go.RowKit

set_option maxHeartbeats 1600000 in
theorem likeInts (a1 a2 : Option Addr) (cap1 cap2 : Nat) (zs : List Int) (w : World) (hT : zs.length ≤ 1048576) (h1 : Hid (IntsAt w a1 zs)) (h2 : Hid (IntsAt w a2 zs)) :
    Calls Try.prog 24 #[.slice a1 zs.length cap1, .slice a2 zs.length cap2] w fun e w' => e = .returned (.bool true) ∧ Below w.heap.size w w' := by
  obtain ⟨len, hlen⟩ : ∃ n, zs.length = n := ⟨_, rfl⟩
  rw [hlen] at hT ⊢
  have Hlen : Hid (zs.length = len) := hlen
  clear hlen
  go_enter Try.func24, Try.ntmps24
  go_wp2
  go_loopw [5] (fun i wr => ∃ k : Nat, k ≤ len ∧ i = .int .i64 k ∧ Hid (Below w.heap.size w wr)) (fun i _ => len - (intOf i).toNat)
  case atStart => exact ⟨0, Nat.zero_le _, rfl, Below.refl _ _⟩
  case round =>
    obtain ⟨k, hk, rfl, hbl⟩ := hrel
    by_cases hlt : k < len
    · obtain ⟨b, off, ha, hb, c1⟩ := h1.out k (by rw [Hlen.out]; exact hlt)
      obtain ⟨b2, off2, ha2, hb2, c2⟩ := h2.out k (by rw [Hlen.out]; exact hlt)
      subst ha ha2
      generalize zs[k]?.getD 0 = z at c1 c2
      have d1 : wr.cell? ⟨b, off + k, none⟩ = some (.int .i64 z) := (hbl.out.cell (p := ⟨b, off + k, none⟩) hb).trans c1
      have d2 : wr.cell? ⟨b2, off2 + k, none⟩ = some (.int .i64 z) := (hbl.out.cell (p := ⟨b2, off2 + k, none⟩) hb2).trans c2
      clear c1 c2
      go_wp2
      go_region
      all_goals
        have hb' : Hid (Below w.heap.size w wr.drew) := hbl.out.drew
        go_wp2
        go_roundw
        case rel => exact ⟨k + 1, by omega, by go_num, hb'⟩
        case measure => simp [intOf]; omega
    · go_wp2
      go_ret
      exact ⟨rfl, hbl.out⟩
end Go.Proofs.Ytllmkolchgmjoaa

/-
  The walk of the laws' comparison of flows that are alike. By the verifier.
-/
namespace Go.Proofs.Ytllmkolchgmjoaa
open Go.RowKit

set_option maxHeartbeats 3200000 in
set_option maxRecDepth 100000 in
theorem likeFss (v1 v2 : Value) (r : Fs) (w : World) (hB : r.big ≤ 1048576) (h1 : Hid (FsAt w v1 r)) (h2 : Hid (FsAt w v2 r)) :
    Calls Try.prog 11 #[v1, v2] w fun e w' => e = .returned (.bool true) ∧ Below w.heap.size w w' := by
  obtain ⟨a1, c1, rfl, k1⟩ := h1.out
  obtain ⟨a2, c2, rfl, k2⟩ := h2.out
  obtain ⟨hT, -, hin⟩ := Fs.small hB
  have Hin : Hid (∀ k, k < r.flows.length → (fwAt r.flows k).sizes.length ≤ 1048576) := hin
  obtain ⟨f, ls⟩ := r
  simp only [Fs.val] at k1 k2 hT Hin ⊢
  obtain ⟨len, hlen⟩ : ∃ n, ls.length = n := ⟨_, rfl⟩
  rw [hlen] at hT Hin ⊢
  have Hlen : Hid (ls.length = len) := hlen
  obtain ⟨W, hW⟩ : ∃ W, W = (w.alloc (.cells #[.int .i64 f, .slice a1 len c1] 26)).alloc (.cells #[.int .i64 f, .slice a2 len c2] 26) := ⟨_, rfl⟩
  have X : Hid (FwsAt W a1 ls ∧ FwsAt W a2 ls ∧ Boxed W w.heap.size #[.int .i64 f, .slice a1 len c1] 26 ∧ Boxed W (w.heap.size + 1) #[.int .i64 f, .slice a2 len c2] 26 ∧ Below w.heap.size w W) := by
    rw [hW]
    refine ⟨(k1.alloc _).alloc _, (k2.alloc _).alloc _, (Boxed.new w _ _).more _, ?_, ((Below.refl _ _).alloc (Nat.le_refl _) _).alloc (by simp) _⟩
    have := Boxed.new (w.alloc (.cells #[.int .i64 f, .slice a1 len c1] 26)) #[.int .i64 f, .slice a2 len c2] 26
    simpa using this
  have HW : Hid (W = _) := hW
  clear hW h1 h2 k1 k2 hB hlen hin
  go_enter Try.func11, Try.ntmps11
  go_wp2
  rw [← HW.out]
  go_loopw [5] (fun i wr => ∃ k : Nat, k ≤ len ∧ i = .int .i64 k ∧ Hid (Below W.heap.size W wr)) (fun i _ => len - (intOf i).toNat)
  case atStart => exact ⟨0, Nat.zero_le _, rfl, Below.refl _ _⟩
  case round =>
    obtain ⟨k, hk, rfl, Hb⟩ := hrel
    have e1 : wr.cell? ⟨w.heap.size, 1, none⟩ = some (.slice a1 len c1) := (X.out.2.2.1.below X.out.2.2.1.under Hb.out).cell 1 rfl
    by_cases hlt : k < len
    · have hkl : k < ls.length := by rw [Hlen.out]; exact hlt
      have Go : Hid (∀ wq, Below wr.heap.size wr wq → FwsAt wq a1 ls ∧ FwsAt wq a2 ls ∧ Boxed wq w.heap.size #[.int .i64 f, .slice a1 len c1] 26 ∧ Boxed wq (w.heap.size + 1) #[.int .i64 f, .slice a2 len c2] 26 ∧ Below W.heap.size W wq) := fun wq q => by
        have hb := Hb.out.trans (q.mono Hb.out.size)
        exact ⟨X.out.1.below hb, X.out.2.1.below hb, X.out.2.2.1.below X.out.2.2.1.under hb, X.out.2.2.2.1.below X.out.2.2.2.1.under hb, hb⟩
      obtain ⟨b1, o1, i1, m1, ha1, hb1, ⟨hz1, hy1, hc1⟩, hr1, -⟩ := X.out.1.below Hb.out k hkl
      obtain ⟨b2, o2, i2, m2, ha2, hb2, ⟨hz2, hy2, hc2⟩, hr2, -⟩ := X.out.2.1.below Hb.out k hkl
      subst ha1
      subst ha2
      have C := fun wq g1 g2 => likeInts i1 i2 m1 m2 (fwAt ls k).sizes wq (Hin.out k hlt) g1 g2
      have Hr : Hid (IntsAt wr i1 (fwAt ls k).sizes ∧ IntsAt wr i2 (fwAt ls k).sizes ∧ (wr.cell? ⟨b1, o1 + k * 3, none⟩ = some (.int .i64 (fwAt ls k).weight) ∧ wr.cell? ⟨b1, o1 + k * 3 + 1, none⟩ = some (.int .i64 (fwAt ls k).finish) ∧ wr.cell? ⟨b1, o1 + k * 3 + 2, none⟩ = some (.slice i1 (fwAt ls k).sizes.length m1)) ∧ (wr.cell? ⟨b2, o2 + k * 3, none⟩ = some (.int .i64 (fwAt ls k).weight) ∧ wr.cell? ⟨b2, o2 + k * 3 + 1, none⟩ = some (.int .i64 (fwAt ls k).finish) ∧ wr.cell? ⟨b2, o2 + k * 3 + 2, none⟩ = some (.slice i2 (fwAt ls k).sizes.length m2)) ∧ b1 < wr.heap.size ∧ b2 < wr.heap.size) := ⟨hr1, hr2, ⟨hz1, hy1, hc1⟩, ⟨hz2, hy2, hc2⟩, hb1, hb2⟩
      clear hz1 hy1 hc1 hz2 hy2 hc2 hr1 hr2
      generalize fwAt ls k = h0 at C Hr
      obtain ⟨tt, uu, l⟩ := h0
      simp only [] at C Hr
      obtain ⟨m, hm⟩ : ∃ m, l.length = m := ⟨_, rfl⟩
      rw [hm] at C Hr
      clear hm
      have C' : Hid _ := C
      clear C
      have hlt' : (k : Int) < (len : Int) := by omega
      haveI : Nonempty (BelW wr.heap.size wr) := ⟨⟨wr, Below.refl _ _⟩⟩
      have f1 : ∀ p : BelW wr.heap.size wr, p.w'.cell? ⟨w.heap.size, 1, none⟩ = some (.slice (some ⟨b1, o1, none⟩) len c1) := fun p => (Go.out _ p.h).2.2.1.cell 1 rfl
      have f2 : ∀ p : BelW wr.heap.size wr, p.w'.cell? ⟨w.heap.size + 1, 1, none⟩ = some (.slice (some ⟨b2, o2, none⟩) len c2) := fun p => (Go.out _ p.h).2.2.2.1.cell 1 rfl
      have f3 : ∀ p : BelW wr.heap.size wr, p.w'.cell? ⟨b1, o1 + k * 3, none⟩ = some (.int .i64 tt) := fun p => by rw [p.h.cell (p := ⟨b1, o1 + k * 3, none⟩) Hr.out.2.2.2.2.1]; exact Hr.out.2.2.1.1
      have f4 : ∀ p : BelW wr.heap.size wr, p.w'.cell? ⟨b2, o2 + k * 3, none⟩ = some (.int .i64 tt) := fun p => by rw [p.h.cell (p := ⟨b2, o2 + k * 3, none⟩) Hr.out.2.2.2.2.2]; exact Hr.out.2.2.2.1.1
      have f5 : ∀ p : BelW wr.heap.size wr, p.w'.cell? ⟨b1, o1 + k * 3 + 2, none⟩ = some (.slice i1 m m1) := fun p => by rw [p.h.cell (p := ⟨b1, o1 + k * 3 + 2, none⟩) Hr.out.2.2.2.2.1]; exact Hr.out.2.2.1.2.2
      have f6 : ∀ p : BelW wr.heap.size wr, p.w'.cell? ⟨b2, o2 + k * 3 + 2, none⟩ = some (.slice i2 m m2) := fun p => by rw [p.h.cell (p := ⟨b2, o2 + k * 3 + 2, none⟩) Hr.out.2.2.2.2.2]; exact Hr.out.2.2.2.1.2.2
      have f7 : ∀ p : BelW wr.heap.size wr, p.w'.cell? ⟨b1, o1 + k * 3 + 1, none⟩ = some (.int .i64 uu) := fun p => by rw [p.h.cell (p := ⟨b1, o1 + k * 3 + 1, none⟩) Hr.out.2.2.2.2.1]; exact Hr.out.2.2.1.2.1
      have f8 : ∀ p : BelW wr.heap.size wr, p.w'.cell? ⟨b2, o2 + k * 3 + 1, none⟩ = some (.int .i64 uu) := fun p => by rw [p.h.cell (p := ⟨b2, o2 + k * 3 + 1, none⟩) Hr.out.2.2.2.2.2]; exact Hr.out.2.2.2.1.2.1
      have At : Hid (∀ p : BelW wr.heap.size wr, IntsAt p.w' i1 l ∧ IntsAt p.w' i2 l) := fun p => ⟨Hr.out.1.below p.h, Hr.out.2.1.below p.h⟩
      go_wp2_with fail
      refine region_below wr.heap.size (by kernel_rfl) (by kernel_rfl) ?_
      repeat (go_big_quiet_step ((go_at_call 24; refine quiet_below (Nat.le_refl _) (C'.out _ (At.out _).1 (At.out _).2))))
      refine wpQuiet_nil ?_
      intro wq hx
      have GQ : Hid (Below W.heap.size W wq) := (Go.out _ (BelW.out hx)).2.2.2.2
      clear hx f1 f2 f3 f4 f5 f6 f7 f8 e1
      go_wp2
      go_roundw
      case rel => exact ⟨k + 1, by omega, by go_num, GQ⟩
      case measure => simp [intOf]; omega
    · obtain rfl : k = len := by omega
      go_wp2
      go_ret
      exact ⟨rfl, X.out.2.2.2.2.trans (Hb.out.mono X.out.2.2.2.2.size)⟩
end Go.Proofs.Ytllmkolchgmjoaa
