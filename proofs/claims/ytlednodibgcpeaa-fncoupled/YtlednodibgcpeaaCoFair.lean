/-
  The walk of the program's Fair. By the verifier.
-/
import Derived.Test.YtlednodibgcpeaaCoImpl
namespace Go.Proofs.Ytlednodibgcpeaa
open Go.RowKit

theorem fr_wraps {p f : Int} (h : coB p f = true) : cpO p f = cpV p f ∧ sqO (cpO p f) = cpV p f * cpV p f / 1048576 ∧ IntKind.i64.wrap (f * f) = f * f ∧ ¬ f * f = 0 ∧
    Int.tdiv (cpV p f * cpV p f / 1048576) (f * f) = frO p f ∧ IntKind.i64.wrap (frO p f) = frO p f := by
  have h1 := coB_iff.1 h
  have hc := cpV_in h
  have h2 := mul_in (show 0 ≤ f by omega) h1.2.2 (show 0 ≤ f by omega) h1.2.2
  have h2' : 0 < f * f := Int.mul_pos (by omega) (by omega)
  have e : cpO p f = cpV p f := by unfold cpO; rw [if_pos h]
  have l := fr_le h
  have h3 := sq_le h1.1.1 h1.1.2
  have hs : sqO p = p * p / 1048576 := by unfold sqO; rw [if_pos (by rw [inB_true]; exact h1.1)]
  refine ⟨e, ?_, ?_, by omega, ?_, ?_⟩
  · rw [e]; unfold sqO; rw [if_pos (by rw [inB_true]; omega)]
  · rw [IntKind.wrap_i64]; omega
  · rw [Int.tdiv_eq_ediv_of_nonneg (Int.ediv_nonneg (Int.mul_nonneg hc.1 hc.1) (by omega))]; unfold frO; rw [if_pos h]
  · rw [IntKind.wrap_i64]; omega

set_option maxHeartbeats 1600000 in
theorem implFair (p f : Int) (w : World) :
    Calls Try.prog 14 #[.int .i64 p, .int .i64 f] w fun e w' => e = .returned (.int .i64 (frO p f)) ∧ Below w.heap.size w w' := by
  have A1 := fun w => implCoupleOk p f w
  have A2 := fun w => implCoupled p f w
  have A3 := fun w => implSquared (cpO p f) w
  have Hv : Hid (coB p f = false → frO p f = -1) := fun h => by unfold frO; rw [h]; rfl
  have HW : Hid (coB p f = true → IntKind.i64.wrap (f * f) = f * f ∧ ¬ f * f = 0 ∧ Int.tdiv (sqO (cpO p f)) (f * f) = frO p f ∧ IntKind.i64.wrap (frO p f) = frO p f) := fun h => by
    obtain ⟨h1, h2, h3, h4, h5, h6⟩ := fr_wraps h
    rw [h2]
    exact ⟨h3, h4, h5, h6⟩
  generalize sqO (cpO p f) = s at A3 HW
  generalize cpO p f = c at A2 A3
  generalize frO p f = F at Hv HW ⊢
  generalize coB p f = b at A1 Hv HW
  have A1' : Hid _ := A1
  have A2' : Hid _ := A2
  have A3' : Hid _ := A3
  clear A1 A2 A3
  go_enter Try.func14, Try.ntmps14
  go_wp2_with fail
  refine (A1'.out _).mono ?_
  rintro e w1 ⟨rfl, q1⟩
  have Q1 : Hid _ := q1
  clear q1
  cases b
  · go_wp2
    go_ret
    exact ⟨ret_num (by rw [Hv.out (by first | exact trivial | exact rfl)]), Q1.out⟩
  obtain ⟨k1, k2, k3, k4⟩ := HW.out (by first | exact trivial | exact rfl)
  obtain ⟨g, hg⟩ : ∃ g, f * f = g := ⟨_, rfl⟩
  have k1' : IntKind.i64.wrap (f * f) = g := by rw [k1, hg]
  rw [hg] at k2 k3
  clear hg k1 HW Hv
  go_wp2_with fail
  refine (A2'.out _).mono ?_
  rintro e w2 ⟨rfl, q2⟩
  have Q2 : Hid (Below w.heap.size w w2) := Q1.out.trans (q2.mono Q1.out.size)
  clear q2 Q1
  go_wp2_with fail
  refine (A3'.out _).mono ?_
  rintro e w3 ⟨rfl, q3⟩
  have Q3 : Hid (Below w.heap.size w w3) := Q2.out.trans (q3.mono Q2.out.size)
  clear q3 Q2
  go_wp2
  go_ret
  exact ⟨ret_num (by rfl), Q3.out⟩

set_option maxHeartbeats 1600000 in
theorem implSqAlone (p f : Int) (w : World) :
    Calls Try.prog 33 #[.int .i64 p, .int .i64 f] w fun e w' => e = .returned (.int .i64 (sqO p)) ∧ Below w.heap.size w w' := by
  have A1 := fun w => implSquared p w
  generalize sqO p = s at A1 ⊢
  have A1' : Hid _ := A1
  clear A1
  go_enter Try.func33, Try.ntmps33
  go_wp2_with fail
  refine (A1'.out _).mono ?_
  rintro e w1 ⟨rfl, q1⟩
  have Q1 : Hid _ := q1
  clear q1
  go_wp2
  go_ret
  exact ⟨rfl, Q1.out⟩
end Go.Proofs.Ytlednodibgcpeaa
