/-
  The walk of the program's test of an item. By the verifier.
-/
import Derived.Test.YtdcekimldgjliaaRwFn
import Derived.Test.YtdcekimldgjliaaOneN
namespace Go.Proofs.Ytdcekimldgjliaa
open Go.RowKit

set_option maxHeartbeats 3200000 in
theorem implItem (i : It) (w : World) :
    Calls Try.prog 40 #[i.val] w fun e w' => e = .returned (.bool i.ok) ∧ Below w.heap.size w w' := by
  have Hok : Hid (i.ok = (inB 1 1000000 i.id && (inB 1 100000 i.size && inB 0 1099511627776 i.tm))) := rfl
  obtain ⟨k, x, m⟩ := i
  generalize It.ok _ = ok at Hok ⊢
  simp only [It.val] at Hok ⊢
  have A1 := fun B w h => implFromOne 1000000 k B w h
  have A2 := fun B w h => implFromOne 100000 x B w h
  have A3 := fun B w h => implUpTo1 1099511627776 m w B h
  generalize inB 1 1000000 k = b1 at A1 Hok
  generalize inB 1 100000 x = b2 at A2 Hok
  generalize inB 0 1099511627776 m = b3 at A3 Hok
  have A1' : Hid _ := A1
  have A2' : Hid _ := A2
  have A3' : Hid _ := A3
  clear A1 A2 A3
  go_enter Try.func40, Try.ntmps40
  go_wp2_with fail
  refine (A1'.out _ _ (by simp)).mono ?_
  rintro e w' ⟨rfl, rfl⟩
  cases b1
  · go_wp2
    go_ret
    exact ⟨ret_bool (by rw [Hok.out]; rfl), ((Below.refl _ _).alloc (Nat.le_refl _) _).alloc (by simp) _⟩
  go_wp2_with fail
  refine (A2'.out _ _ (by simp)).mono ?_
  rintro e w' ⟨rfl, rfl⟩
  cases b2
  · go_wp2
    go_ret
    exact ⟨ret_bool (by rw [Hok.out]; rfl), (((Below.refl _ _).alloc (Nat.le_refl _) _).alloc (by simp) _).alloc (by simp; omega) _⟩
  go_wp2_with fail
  refine (A3'.out _ _ (by simp)).mono ?_
  rintro e w' ⟨rfl, rfl⟩
  go_wp2
  go_ret
  exact ⟨ret_bool (by rw [Hok.out]; rfl), ((((Below.refl _ _).alloc (Nat.le_refl _) _).alloc (by simp) _).alloc (by simp; omega) _).alloc (by simp; omega) _⟩
end Go.Proofs.Ytdcekimldgjliaa
