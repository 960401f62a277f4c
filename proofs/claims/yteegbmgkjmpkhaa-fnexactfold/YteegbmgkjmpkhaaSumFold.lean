/-
  The walks of Fold, the program's and the model's. By the verifier.
-/
import Derived.Test.YteegbmgkjmpkhaaSumPairs
import Derived.Test.YteegbmgkjmpkhaaFrOk
import Derived.Test.YteegbmgkjmpkhaaBase
namespace Go.Proofs.Yteegbmgkjmpkhaa
open Go.RowKit

/-- Fold, whatever it is asked of. -/
def foldOr (a b : Int) : Int := if inB 0 65535 a && inB 0 65535 b then fold16 a b else -1
theorem specFold (a b : Int) (w : World) :
    Calls Try.prog 15 #[.int .i64 a, .int .i64 b] w fun e w' => e = .returned (.int .i64 (foldOr a b)) ∧ w' = w := by
  cases ha : inB 0 65535 a
  · have hf : Hid (foldOr a b = -1) := by show _ = _; unfold foldOr; rw [ha]; rfl
    go_enter Try.func15, Try.ntmps15
    go_wp2_with (go_at_call 36; refine (specWord _ _).mono ?_; rintro e w' ⟨rfl, rfl⟩)
    go_ret
    exact ⟨by rw [hf.out]; rfl, rfl⟩
  · cases hb : inB 0 65535 b
    · have hf : Hid (foldOr a b = -1) := by show _ = _; unfold foldOr; rw [ha, hb]; rfl
      go_enter Try.func15, Try.ntmps15
      go_wp2_with (go_at_call 36; refine (specWord _ _).mono ?_; rintro e w' ⟨rfl, rfl⟩)
      go_ret
      exact ⟨by rw [hf.out]; rfl, rfl⟩
    · have hf : Hid (foldOr a b = fold16 a b) := by show _ = _; unfold foldOr; rw [ha, hb]; rfl
      obtain ⟨a0, a1⟩ := inB_true.1 ha
      obtain ⟨b0, b1⟩ := inB_true.1 hb
      go_enter Try.func15, Try.ntmps15
      go_wp2_with (first | (go_at_call 36; refine (specWord _ _).mono ?_; rintro e w' ⟨rfl, rfl⟩) | (go_at_call 35; refine (specFold16 _ _ a0 a1 b0 b1 _).mono ?_; rintro e w' ⟨rfl, rfl⟩))
      go_ret
      exact ⟨by rw [hf.out]; rfl, rfl⟩

theorem implFold (a b : Int) (w : World) :
    Calls Try.prog 13 #[.int .i64 a, .int .i64 b] w fun e w' => e = .returned (.int .i64 (foldOr a b)) ∧ New w w' := by
  have he : Hid ([a, b].all (inB 0 65535) = (inB 0 65535 a && inB 0 65535 b)) := by show _ = _; simp
  cases hab : (inB 0 65535 a && inB 0 65535 b)
  · have hf : Hid (foldOr a b = -1) := by show _ = _; unfold foldOr; rw [hab]; rfl
    rw [hab] at he
    go_enter Try.func13, Try.ntmps13
    go_wp2_with fail
    refine (implUpTo 65535 _ 2 [a, b] _ (by simp) (ints_new _ _ _ _ _ (by simp) rfl)).mono ?_
    rintro e w' ⟨rfl, rfl⟩
    rw [he.out]
    go_wp2
    go_ret
    exact ⟨by rw [hf.out]; rfl, (New.refl _).alloc _ _⟩
  · have hf : Hid (foldOr a b = fold16 a b) := by show _ = _; unfold foldOr; rw [hab]; rfl
    rw [hab] at he
    rw [Bool.and_eq_true, inB_true, inB_true] at hab
    obtain ⟨⟨a0, a1⟩, b0, b1⟩ := hab
    go_enter Try.func13, Try.ntmps13
    go_wp2_with fail
    refine (implUpTo 65535 _ 2 [a, b] _ (by simp) (ints_new _ _ _ _ _ (by simp) rfl)).mono ?_
    rintro e w' ⟨rfl, rfl⟩
    rw [he.out]
    go_wp2_with (go_at_call 32; refine (implFolded _ _ a0 a1 b0 b1 _).mono ?_; rintro e w' ⟨rfl, rfl⟩)
    go_ret
    exact ⟨by rw [hf.out]; rfl, (New.refl _).alloc _ _⟩
end Go.Proofs.Yteegbmgkjmpkhaa
