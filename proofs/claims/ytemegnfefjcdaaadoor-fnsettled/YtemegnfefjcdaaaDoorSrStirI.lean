/-
  The walk of the program's Stirred, the table of divisors given. By the verifier.
-/
import Derived.Test.YtemegnfefjcdaaaDoorSrAdd
import Derived.BigQuiet
import Derived.Deep.DeepCutAuto
namespace Go.Proofs.YtemegnfefjcdaaaDoor
open Go.RowKit

set_option maxHeartbeats 3200000 in
set_option maxRecDepth 100000 in
theorem implStirred (p : Sr) (d : Int) (w : World) (hD : Dv w) :
    Calls Tryd.prog 9 #[p.val, .int .i64 d] w fun e w' => e = .returned (p.stirred d).val ∧ Below w.heap.size w w' := by
  have A1 := fun w => implSteerOk p w
  have A2 := fun B w h => implUpTo1 100000 d w B h
  have A3 : p.ok = true → inB 0 100000 d = true → ∀ w, Dv w → _ := fun h1 h2 w hD => implAdded p d w hD h1 h2
  have Hv : Hid (p.stirred d = if p.ok = true then (if inB 0 100000 d = true then p.stir d else p) else ⟨0, 0, 0⟩) := rfl
  have HR : Hid (p.raw d = max 0 (min 1048576 (p.prob + Int.tdiv (p.add d) (byOf p.prob)))) := rfl
  have HS : Hid (p.stir d = ⟨p.target, d, if d = 0 ∧ p.old = 0 then p.raw d - p.raw d / 64 else p.raw d⟩) := rfl
  have HW : Hid (p.ok = true → inB 0 100000 d = true → IntKind.i64.wrap (p.prob + Int.tdiv (p.add d) (byOf p.prob)) = p.prob + Int.tdiv (p.add d) (byOf p.prob)) := fun h1 h2 => (Sr.wraps h1 h2).2.2.2.2.2.2
  have hr := p.raw_in d
  generalize p.stirred d = F at Hv ⊢
  generalize p.stir d = R at HS Hv
  generalize p.raw d = r at hr HR HS
  generalize Int.tdiv (p.add d) (byOf p.prob) = Q at A3 HR HW
  generalize p.ok = ok at A1 A3 Hv HW
  generalize inB 0 100000 d = t1 at A2 A3 Hv HW
  obtain ⟨v0, v1, v2⟩ := p
  simp only [Sr.val] at A1 A3 HR HS HW ⊢
  have A1' : Hid _ := A1
  have A2' : Hid _ := A2
  have A3' : Hid _ := A3
  clear A1 A2 A3
  have HD : Hid (Dv w) := hD
  clear hD
  have X : Hid (Boxed ((w.alloc (.cells #[.int .i64 v0, .int .i64 v1, .int .i64 v2] 25)).alloc (.cells #[.int .i64 0, .int .i64 0, .int .i64 0] 25)) w.heap.size #[.int .i64 v0, .int .i64 v1, .int .i64 v2] 25 ∧ Boxed ((w.alloc (.cells #[.int .i64 v0, .int .i64 v1, .int .i64 v2] 25)).alloc (.cells #[.int .i64 0, .int .i64 0, .int .i64 0] 25)) (w.heap.size + 1) #[.int .i64 0, .int .i64 0, .int .i64 0] 25 ∧ Below w.heap.size w ((w.alloc (.cells #[.int .i64 v0, .int .i64 v1, .int .i64 v2] 25)).alloc (.cells #[.int .i64 0, .int .i64 0, .int .i64 0] 25))) := by
    refine ⟨(Boxed.new w _ _).more _, ?_, ((Below.refl _ _).alloc (Nat.le_refl _) _).alloc (by simp) _⟩
    have := Boxed.new (w.alloc (.cells #[.int .i64 v0, .int .i64 v1, .int .i64 v2] 25)) #[.int .i64 0, .int .i64 0, .int .i64 0] 25
    simpa using this
  go_enter Tryd.func9, Tryd.ntmps9
  go_wp2_with (refine wpList_load_row rfl 25 (.tmp 2) rfl w.heap.size rfl _ _ _ _ X.out.1 Tryd.underlying25 rfl (by kernel_rfl) ?_)
  refine (A1'.out _).mono ?_
  rintro e w1 ⟨rfl, q⟩
  have X1 : Hid (Boxed w1 w.heap.size #[.int .i64 v0, .int .i64 v1, .int .i64 v2] 25 ∧ Boxed w1 (w.heap.size + 1) #[.int .i64 0, .int .i64 0, .int .i64 0] 25 ∧ Below w.heap.size w w1) := ⟨X.out.1.below X.out.1.under q, X.out.2.1.below X.out.2.1.under q, X.out.2.2.trans (q.mono X.out.2.2.size)⟩
  clear q X
  cases ok
  · have e1 : F = ⟨0, 0, 0⟩ := by rw [Hv.out]; rfl
    subst e1
    clear hr
    go_wp2_with (refine wpList_store_row rfl 25 (.tmp 4) (.tmp 9) rfl (w.heap.size + 1) #[.int .i64 0, .int .i64 0, .int .i64 0] rfl rfl _ _ X1.out.2.1 (by kernel_rfl) rfl (srOnes _ _ _) ?_)
    exact bodyPost_ret (results_cell_row Tryd.results9 _ _ (w.heap.size + 1) _ _ _ _ rfl (setRow_heap _ (w.heap.size + 1) _ _ _ _ X1.out.2.1) Tryd.underlying25 rfl (by kernel_rfl)) rfl ⟨rfl, below_setRow X1.out.2.2 (by omega) _⟩
  have H1 : Hid _ := hr
  clear hr
  go_wp2_with fail
  refine (A2'.out _ _ (by simp)).mono ?_
  rintro e w' ⟨rfl, hw⟩
  rw [hw]
  have X2 : Hid (Boxed (w1.alloc (.cells #[.int .i64 d] 2)) w.heap.size #[.int .i64 v0, .int .i64 v1, .int .i64 v2] 25 ∧ Boxed (w1.alloc (.cells #[.int .i64 d] 2)) (w.heap.size + 1) #[.int .i64 0, .int .i64 0, .int .i64 0] 25 ∧ Below w.heap.size w (w1.alloc (.cells #[.int .i64 d] 2))) := ⟨X1.out.1.more _, X1.out.2.1.more _, X1.out.2.2.alloc X1.out.2.2.size _⟩
  generalize w1.alloc (.cells #[.int .i64 d] 2) = w2 at X2 ⊢
  clear X1 hw A1' A2'
  cases t1
  · have e1 : F = ⟨v0, v1, v2⟩ := by rw [Hv.out]; rfl
    subst e1
    go_wp2_with (first | (refine wpList_load_row rfl 25 (.tmp 2) rfl w.heap.size rfl _ _ _ _ X2.out.1 Tryd.underlying25 rfl (by kernel_rfl) ?_) | (refine wpList_store_row rfl 25 (.tmp 4) (.tmp 14) rfl (w.heap.size + 1) _ rfl rfl _ _ X2.out.2.1 (by kernel_rfl) rfl (srOnes _ _ _) ?_))
    exact bodyPost_ret (results_cell_row Tryd.results9 _ _ (w.heap.size + 1) _ _ _ _ rfl (setRow_heap _ (w.heap.size + 1) _ _ _ _ X2.out.2.1) Tryd.underlying25 rfl (by kernel_rfl)) rfl ⟨rfl, below_setRow X2.out.2.2 (by omega) _⟩
  have e1 : F = R := by rw [Hv.out]; rfl
  subst e1
  have A4 := A3'.out (by first | exact trivial | exact rfl) (by first | exact trivial | exact rfl)
  have kw := HW.out (by first | exact trivial | exact rfl) (by first | exact trivial | exact rfl)
  obtain ⟨S, hS⟩ : ∃ S, v2 + Q = S := ⟨_, rfl⟩
  have k9 : IntKind.i64.wrap (v2 + Q) = S := by rw [kw, hS]
  rw [hS] at HR
  clear kw hS HW A3' Hv
  have A4' : Hid _ := A4
  clear A4
  have HDp : Hid (∀ p : BelW w2.heap.size w2, Dv p.w') := fun p => HD.out.on (X2.out.2.2.trans (p.h.mono X2.out.2.2.size))
  have c0 : ∀ p : BelW w2.heap.size w2, p.w'.cell? ⟨w.heap.size, 0, none⟩ = some (.int .i64 v0) := fun p => (X2.out.1.below X2.out.1.under p.h).cell 0 rfl
  have c1 : ∀ p : BelW w2.heap.size w2, p.w'.cell? ⟨w.heap.size, 1, none⟩ = some (.int .i64 v1) := fun p => (X2.out.1.below X2.out.1.under p.h).cell 1 rfl
  have c2 : ∀ p : BelW w2.heap.size w2, p.w'.cell? ⟨w.heap.size, 2, none⟩ = some (.int .i64 v2) := fun p => (X2.out.1.below X2.out.1.under p.h).cell 2 rfl
  haveI : Nonempty (BelW w2.heap.size w2) := ⟨⟨w2, Below.refl _ _⟩⟩
  go_upto_region 5 with fail
  refine region_below w2.heap.size (by kernel_rfl) (by kernel_rfl) ?_
  repeat (go_big_quiet_step ((go_at_call 26; refine quiet_below (Nat.le_refl _) (A4'.out _ (HDp.out _)))))
  refine wpQuiet_nil ?_
  intro w3 hx
  have q := BelW.out hx
  have X3 : Hid (Boxed w3 w.heap.size #[.int .i64 v0, .int .i64 v1, .int .i64 v2] 25 ∧ Boxed w3 (w.heap.size + 1) #[.int .i64 0, .int .i64 0, .int .i64 0] 25 ∧ Below w.heap.size w w3) := ⟨X2.out.1.below X2.out.1.under q, X2.out.2.1.below X2.out.2.1.under q, X2.out.2.2.trans (q.mono X2.out.2.2.size)⟩
  have hE : (if 1048576 < (if S < 0 then 0 else S) then 1048576 else (if S < 0 then 0 else S)) = r := by
    rw [HR.out]
    split <;> split <;> omega
  rw [hE]
  clear hE HR hx q c0 c1 c2 X2 A4' HDp k9 HD
  generalize (if S < 0 then 0 else S) = m
  have hr := H1.out
  have k10 : IntKind.i64.wrap (r / 64) = r / 64 := by rw [IntKind.wrap_i64]; omega
  have k11 : IntKind.i64.wrap (r - r / 64) = r - r / 64 := by rw [IntKind.wrap_i64]; omega
  have kd : Int.tdiv r 64 = r / 64 := Int.tdiv_eq_ediv_of_nonneg hr.1
  clear hr H1
  have c0 : w3.cell? ⟨w.heap.size, 0, none⟩ = some (.int .i64 v0) := X3.out.1.cell 0 rfl
  have c1 : w3.cell? ⟨w.heap.size, 1, none⟩ = some (.int .i64 v1) := X3.out.1.cell 1 rfl
  by_cases hd0 : d = 0
  · subst hd0
    by_cases ho : v1 = 0
    · subst ho
      obtain rfl : F = ⟨v0, 0, r - r / 64⟩ := by rw [HS.out]; simp
      go_wp2_with (refine wpList_store_row rfl 25 (.tmp 4) (.tmp 38) rfl (w.heap.size + 1) #[.int .i64 v0, .int .i64 0, .int .i64 (r - r / 64)] rfl rfl _ _ X3.out.2.1 (by kernel_rfl) rfl (srOnes _ _ _) ?_)
      exact bodyPost_ret (results_cell_row Tryd.results9 _ _ (w.heap.size + 1) _ _ _ _ rfl (setRow_heap _ (w.heap.size + 1) _ _ _ _ X3.out.2.1) Tryd.underlying25 rfl (by kernel_rfl)) rfl ⟨rfl, below_setRow X3.out.2.2 (by omega) _⟩
    · obtain rfl : F = ⟨v0, 0, r⟩ := by rw [HS.out]; simp [ho]
      go_wp2_with (refine wpList_store_row rfl 25 (.tmp 4) (.tmp 38) rfl (w.heap.size + 1) #[.int .i64 v0, .int .i64 0, .int .i64 r] rfl rfl _ _ X3.out.2.1 (by kernel_rfl) rfl (srOnes _ _ _) ?_)
      exact bodyPost_ret (results_cell_row Tryd.results9 _ _ (w.heap.size + 1) _ _ _ _ rfl (setRow_heap _ (w.heap.size + 1) _ _ _ _ X3.out.2.1) Tryd.underlying25 rfl (by kernel_rfl)) rfl ⟨rfl, below_setRow X3.out.2.2 (by omega) _⟩
  · obtain rfl : F = ⟨v0, d, r⟩ := by rw [HS.out]; simp [hd0]
    go_wp2_with (refine wpList_store_row rfl 25 (.tmp 4) (.tmp 38) rfl (w.heap.size + 1) #[.int .i64 v0, .int .i64 d, .int .i64 r] rfl rfl _ _ X3.out.2.1 (by kernel_rfl) rfl (srOnes _ _ _) ?_)
    exact bodyPost_ret (results_cell_row Tryd.results9 _ _ (w.heap.size + 1) _ _ _ _ rfl (setRow_heap _ (w.heap.size + 1) _ _ _ _ X3.out.2.1) Tryd.underlying25 rfl (by kernel_rfl)) rfl ⟨rfl, below_setRow X3.out.2.2 (by omega) _⟩
end Go.Proofs.YtemegnfefjcdaaaDoor
