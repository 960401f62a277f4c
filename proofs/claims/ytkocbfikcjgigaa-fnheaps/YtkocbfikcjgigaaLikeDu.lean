/-
  The walks of the laws' comparisons of lists of dues and of wheels that are alike. By the verifier.
-/
import Derived.Test.YtkocbfikcjgigaaDuFn
import Derived.Test.YtkocbfikcjgigaaM0NumIn
import Derived.Test.YtkocbfikcjgigaaQuiet
import Derived.Test.YtkocbfikcjgigaaBoxed
import Derived.BigQuiet
import Derived.WalkKit
import Derived.WalkSpells
import Derived.WalkLawsBesides
import Derived.RegionTactic
namespace Go.Proofs.Ytkocbfikcjgigaa
open Go.RowKit

set_option maxHeartbeats 3200000 in
set_option maxRecDepth 100000 in
theorem likeDus (a1 a2 : Option Addr) (cap1 cap2 : Nat) (l : List Du) (w : World) (hT : l.length ≤ 1048576) (h1 : Hid (DusAt w a1 l)) (h2 : Hid (DusAt w a2 l)) :
    Calls Try.prog 10 #[.slice a1 l.length cap1, .slice a2 l.length cap2] w fun e w' => e = .returned (.bool true) ∧ Below w.heap.size w w' := by
  obtain ⟨len, hlen⟩ : ∃ n, l.length = n := ⟨_, rfl⟩
  rw [hlen] at hT ⊢
  have Hlen : Hid (l.length = len) := hlen
  clear hlen
  go_enter Try.func10, Try.ntmps10
  go_wp2
  go_loopw [5] (fun i wr => ∃ k : Nat, k ≤ len ∧ i = .int .i64 k ∧ Hid (Below w.heap.size w wr)) (fun i _ => len - (intOf i).toNat)
  case atStart => exact ⟨0, Nat.zero_le _, rfl, Below.refl _ _⟩
  case round =>
    obtain ⟨k, hk, rfl, Hb⟩ := hrel
    by_cases hlt : k < len
    · have hkl : k < l.length := by rw [Hlen.out]; exact hlt
      have R1 := (h1.out.below Hb.out).drew
      have R2 := (h2.out.below Hb.out).drew
      obtain ⟨b1, o1, ha1, -⟩ := R1 k hkl
      obtain ⟨b2, o2, ha2, -⟩ := R2 k hkl
      subst ha1
      subst ha2
      obtain ⟨c0, c1⟩ := R1.cells hkl
      obtain ⟨d0, d1⟩ := R2.cells hkl
      clear R1 R2
      generalize duAt l k = x at c0 c1 d0 d1
      obtain ⟨x0, x1⟩ := x
      simp only [] at c0 c1 d0 d1
      have hlt' : (k : Int) < (len : Int) := by omega
      have B2 : Hid (Below w.heap.size w wr.drew) := Hb.out.drew
      go_wp2
      go_region
      all_goals
        go_wp2
        go_roundw
        case rel => exact ⟨k + 1, by omega, by go_num, B2⟩
        case measure => simp [intOf]; omega
    · obtain rfl : k = len := by omega
      go_wp2
      go_ret
      exact ⟨rfl, Hb.out⟩

end Go.Proofs.Ytkocbfikcjgigaa
