/-
  The walks of Renewed, the program's and the model's. By the verifier.
-/
import Derived.Test.YtppgidcebhfjkaaSumPairs
import Derived.Test.YtppgidcebhfjkaaFrOk
import Derived.Test.YtppgidcebhfjkaaBase
namespace Go.Proofs.Ytppgidcebhfjkaa
open Go.RowKit

/-- Renewed, whatever it is asked of. -/
def renewedOr (s o n : Int) : Int := if inB 0 65535 s && inB 0 65535 o && inB 0 65535 n then 65535 - fold16 (fold16 (65535 - s) (65535 - o)) n else -1

theorem specRenewed (s o n : Int) (w : World) :
    Calls Try.prog 12 #[.int .i64 s, .int .i64 o, .int .i64 n] w fun e w' => e = .returned (.int .i64 (renewedOr s o n)) ∧ w' = w := by
  have key : ∀ b, (inB 0 65535 s && inB 0 65535 o && inB 0 65535 n) = b → renewedOr s o n = if b then 65535 - fold16 (fold16 (65535 - s) (65535 - o)) n else -1 := fun b h => by unfold renewedOr; rw [h]
  cases hs : inB 0 65535 s
  · have hf : Hid (renewedOr s o n = -1) := key false (by rw [hs]; rfl)
    clear key
    go_enter Try.func12, Try.ntmps12
    go_wp2_with (go_at_call 32; refine (specWord _ _).mono ?_; rintro e w' ⟨rfl, rfl⟩)
    go_ret
    exact ⟨by rw [hf.out]; rfl, rfl⟩
  cases ho : inB 0 65535 o
  · have hf : Hid (renewedOr s o n = -1) := key false (by rw [hs, ho]; rfl)
    clear key
    go_enter Try.func12, Try.ntmps12
    go_wp2_with (go_at_call 32; refine (specWord _ _).mono ?_; rintro e w' ⟨rfl, rfl⟩)
    go_ret
    exact ⟨by rw [hf.out]; rfl, rfl⟩
  cases hn : inB 0 65535 n
  · have hf : Hid (renewedOr s o n = -1) := key false (by rw [hs, ho, hn]; rfl)
    clear key
    go_enter Try.func12, Try.ntmps12
    go_wp2_with (go_at_call 32; refine (specWord _ _).mono ?_; rintro e w' ⟨rfl, rfl⟩)
    go_ret
    exact ⟨by rw [hf.out]; rfl, rfl⟩
  have hf : Hid (renewedOr s o n = 65535 - fold16 (fold16 (65535 - s) (65535 - o)) n) := key true (by rw [hs, ho, hn]; rfl)
  clear key
  obtain ⟨s0, s1⟩ := inB_true.1 hs
  obtain ⟨o0, o1⟩ := inB_true.1 ho
  obtain ⟨n0, n1⟩ := inB_true.1 hn
  obtain ⟨r0, r1⟩ := fold16_in (a := 65535 - s) (b := 65535 - o) (by omega) (by omega) (by omega) (by omega)
  obtain ⟨q0, q1⟩ := fold16_in r0 r1 n0 n1
  go_enter Try.func12, Try.ntmps12
  go_wp2_with (go_at_call 32; refine (specWord _ _).mono ?_; rintro e w' ⟨rfl, rfl⟩)
  refine (specFold16 (65535 - s) (65535 - o) (by omega) (by omega) (by omega) (by omega) _).mono ?_
  rintro e w' ⟨rfl, rfl⟩
  generalize fold16 (65535 - s) (65535 - o) = r at hf r0 r1 q0 q1 ⊢
  go_wp2_with fail
  refine (specFold16 r n r0 r1 n0 n1 _).mono ?_
  rintro e w' ⟨rfl, rfl⟩
  generalize fold16 r n = q at hf q0 q1 ⊢
  go_wp2
  go_ret
  exact ⟨by rw [hf.out]; rfl, rfl⟩

theorem implRenewed (s o n : Int) (w : World) :
    Calls Try.prog 6 #[.int .i64 s, .int .i64 o, .int .i64 n] w fun e w' => e = .returned (.int .i64 (renewedOr s o n)) ∧ New w w' := by
  have he : Hid ([s, o, n].all (inB 0 65535) = (inB 0 65535 s && inB 0 65535 o && inB 0 65535 n)) := by show _ = _; simp [Bool.and_assoc]
  cases hab : (inB 0 65535 s && inB 0 65535 o && inB 0 65535 n)
  · have hf : Hid (renewedOr s o n = -1) := by show _ = _; unfold renewedOr; rw [hab]; rfl
    rw [hab] at he
    go_enter Try.func6, Try.ntmps6
    go_wp2_with fail
    refine (implUpTo 65535 _ 3 [s, o, n] _ (by simp) (ints_new _ _ _ _ _ (by simp) rfl)).mono ?_
    rintro e w' ⟨rfl, rfl⟩
    rw [he.out]
    go_wp2
    go_ret
    exact ⟨by rw [hf.out]; rfl, (New.refl _).alloc _ _⟩
  · have hf : Hid (renewedOr s o n = 65535 - fold16 (fold16 (65535 - s) (65535 - o)) n) := by show _ = _; unfold renewedOr; rw [hab]; rfl
    rw [hab] at he
    rw [Bool.and_eq_true, Bool.and_eq_true, inB_true, inB_true, inB_true] at hab
    obtain ⟨⟨⟨s0, s1⟩, o0, o1⟩, n0, n1⟩ := hab
    obtain ⟨r0, r1⟩ := fold16_in (a := 65535 - s) (b := 65535 - o) (by omega) (by omega) (by omega) (by omega)
    obtain ⟨q0, q1⟩ := fold16_in r0 r1 n0 n1
    go_enter Try.func6, Try.ntmps6
    go_wp2_with fail
    refine (implUpTo 65535 _ 3 [s, o, n] _ (by simp) (ints_new _ _ _ _ _ (by simp) rfl)).mono ?_
    rintro e w' ⟨rfl, rfl⟩
    rw [he.out]
    go_wp2_with fail
    refine (implFolded (65535 - s) (65535 - o) (by omega) (by omega) (by omega) (by omega) _).mono ?_
    rintro e w' ⟨rfl, rfl⟩
    generalize fold16 (65535 - s) (65535 - o) = r at hf r0 r1 q0 q1 ⊢
    go_wp2_with fail
    refine (implFolded r n r0 r1 n0 n1 _).mono ?_
    rintro e w' ⟨rfl, rfl⟩
    generalize fold16 r n = q at hf q0 q1 ⊢
    go_wp2
    go_ret
    exact ⟨by rw [hf.out]; rfl, (New.refl _).alloc _ _⟩
end Go.Proofs.Ytppgidcebhfjkaa
