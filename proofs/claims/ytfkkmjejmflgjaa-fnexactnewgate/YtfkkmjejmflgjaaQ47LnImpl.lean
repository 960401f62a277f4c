/-
  The walks of the program's chapter 7: LineOk, OnLine, OffLine. By the verifier.
-/
import Derived.Test.YtfkkmjejmflgjaaQ0SrPlain
import Derived.Test.YtfkkmjejmflgjaaQ3RtNet
import Derived.Test.YtfkkmjejmflgjaaQ2SsV
import Derived.Test.YtfkkmjejmflgjaaQ11Quiet
import Derived.Handy
namespace Go.Proofs.Ytfkkmjejmflgjaa
open Go.RowKit

theorem lnKind (k : Int) : inB 1 3 k = (decide (1 ≤ k) && inB 0 3 k) := by
  rw [Bool.eq_iff_iff]
  simp [inB]
  omega

set_option maxHeartbeats 1600000 in
theorem implLineOk (l : Ln) (w : World) :
    Calls Try.prog 19 #[l.val] w fun e w' => e = .returned (.bool l.ok) ∧ Below w.heap.size w w' := by
  have Hok : Hid (l.ok = ((decide (1 ≤ l.kind) && inB 0 3 l.kind) && (inB 0 100 l.extra && inB 0 2000 l.least))) := by
    show l.ok = _
    rw [← lnKind]; rfl
  obtain ⟨k, x, m⟩ := l
  generalize Ln.ok _ = ok at Hok ⊢
  simp only [Ln.val] at Hok ⊢
  have A1 := fun w B h => implUpTo1 3 k w B h
  have A2 := fun w B h => implUpTo1 100 x w B h
  have A3 := fun w B h => implUpTo1 2000 m w B h
  generalize inB 0 3 k = b1 at A1 Hok
  generalize inB 0 100 x = b2 at A2 Hok
  generalize inB 0 2000 m = b3 at A3 Hok
  have A1' : Hid _ := A1
  have A2' : Hid _ := A2
  have A3' : Hid _ := A3
  clear A1 A2 A3
  by_cases h1 : 1 ≤ k
  · have hd : decide (1 ≤ k) = true := by simp [h1]
    rw [hd] at Hok
    clear hd
    go_enter Try.func19, Try.ntmps19
    go_wp2_with fail
    refine (A1'.out _ _ (by simp)).mono ?_
    rintro e w' ⟨rfl, rfl⟩
    cases b1
    · go_wp2
      go_ret
      exact ⟨ret_bool (by rw [Hok.out]; rfl), by repeat (first | exact Below.refl _ _ | refine Below.alloc ?_ (by simp <;> omega) _)⟩
    go_wp2_with fail
    refine (A2'.out _ _ (by simp)).mono ?_
    rintro e w' ⟨rfl, rfl⟩
    cases b2
    · go_wp2
      go_ret
      exact ⟨ret_bool (by rw [Hok.out]; rfl), by repeat (first | exact Below.refl _ _ | refine Below.alloc ?_ (by simp <;> omega) _)⟩
    go_wp2_with fail
    refine (A3'.out _ _ (by simp)).mono ?_
    rintro e w' ⟨rfl, rfl⟩
    go_wp2
    go_ret
    exact ⟨ret_bool (by rw [Hok.out]; rfl), by repeat (first | exact Below.refl _ _ | refine Below.alloc ?_ (by simp <;> omega) _)⟩
  · have hd : decide (1 ≤ k) = false := by simp; omega
    rw [hd] at Hok
    clear hd
    go_enter Try.func19, Try.ntmps19
    go_wp2
    go_ret
    exact ⟨ret_bool (by rw [Hok.out]; rfl), by repeat (first | exact Below.refl _ _ | refine Below.alloc ?_ (by simp <;> omega) _)⟩

end Go.Proofs.Ytfkkmjejmflgjaa
