/-
  The walks of the program's Early and Leaky. By the verifier, by program.
-/
import Derived.Test.YtkdofeanpcbihaaPeWay
namespace Go.Proofs.Ytkdofeanpcbihaa
open Go.RowKit

set_option maxHeartbeats 3200000 in
set_option maxRecDepth 100000 in
theorem implEarly (p : Pe) (now : Int) (w : World) :
    Calls Try.prog 7 #[p.val, .int .i64 now] w fun e w' => e = .returned (.tuple #[(p.early now).val, .bool (p.earlyB now)]) ∧ Below w.heap.size w w' := by
  have A1 := fun w => implThroughN p now w
  generalize p.earlyB now = sb at *
  generalize p.early now = R at *
  obtain ⟨v0, v1, v2, v3, v4⟩ := p
  obtain ⟨r0, r1, r2, r3, r4⟩ := R
  simp only [Pe.val] at *
  have A1' : Hid _ := A1
  clear A1
  have X : Hid (Boxed ((w.alloc (.cells #[.int .i64 v0, .int .i64 v1, .int .i64 v2, .int .i64 v3, .int .i64 v4] 25)).alloc (.cells #[.int .i64 0, .int .i64 0, .int .i64 0, .int .i64 0, .int .i64 0] 25)) w.heap.size #[.int .i64 v0, .int .i64 v1, .int .i64 v2, .int .i64 v3, .int .i64 v4] 25 ∧ Boxed ((w.alloc (.cells #[.int .i64 v0, .int .i64 v1, .int .i64 v2, .int .i64 v3, .int .i64 v4] 25)).alloc (.cells #[.int .i64 0, .int .i64 0, .int .i64 0, .int .i64 0, .int .i64 0] 25)) (w.heap.size + 1) #[.int .i64 0, .int .i64 0, .int .i64 0, .int .i64 0, .int .i64 0] 25 ∧ Below w.heap.size w ((w.alloc (.cells #[.int .i64 v0, .int .i64 v1, .int .i64 v2, .int .i64 v3, .int .i64 v4] 25)).alloc (.cells #[.int .i64 0, .int .i64 0, .int .i64 0, .int .i64 0, .int .i64 0] 25))) := by
    refine ⟨(Boxed.new w _ _).more _, ?_, ((Below.refl _ _).alloc (Nat.le_refl _) _).alloc (by simp) _⟩
    have := Boxed.new (w.alloc (.cells #[.int .i64 v0, .int .i64 v1, .int .i64 v2, .int .i64 v3, .int .i64 v4] 25)) #[.int .i64 0, .int .i64 0, .int .i64 0, .int .i64 0, .int .i64 0] 25
    simpa using this
  go_enter Try.func7, Try.ntmps7
  go_wp2_with (refine wpList_load_row rfl 25 (.tmp 2) rfl w.heap.size rfl _ _ _ _ X.out.1 Try.underlying25 rfl (by kernel_rfl) ?_)
  refine (A1'.out _).mono ?_
  rintro e w2 ⟨rfl, q⟩
  have X2 : Hid (Boxed w2 (w.heap.size + 1) #[.int .i64 0, .int .i64 0, .int .i64 0, .int .i64 0, .int .i64 0] 25 ∧ Below w.heap.size w w2) := ⟨X.out.2.1.below X.out.2.1.under q, X.out.2.2.trans (q.mono X.out.2.2.size)⟩
  clear q X
  go_wp2_with (refine wpList_store_row rfl 25 (.tmp 4) (.tmp 11) rfl (w.heap.size + 1) #[.int .i64 r0, .int .i64 r1, .int .i64 r2, .int .i64 r3, .int .i64 r4] rfl rfl _ _ X2.out.1 (by kernel_rfl) rfl (peOnes _ _ _ _ _) ?_)
  exact bodyPost_ret (results_row_tmp Try.results7 _ _ (w.heap.size + 1) _ #[.int .i64 r0, .int .i64 r1, .int .i64 r2, .int .i64 r3, .int .i64 r4] _ _ (.bool sb) rfl rfl (setRow_heap _ (w.heap.size + 1) _ _ _ _ X2.out.1) Try.underlying25 rfl (by kernel_rfl)) rfl ⟨rfl, below_setRow X2.out.2 (by omega) _⟩

set_option maxHeartbeats 3200000 in
set_option maxRecDepth 100000 in
theorem implLeaky (p : Pe) (now : Int) (w : World) :
    Calls Try.prog 9 #[p.val, .int .i64 now] w fun e w' => e = .returned (.tuple #[(p.leaky now).val, .bool (p.leakyB now)]) ∧ Below w.heap.size w w' := by
  have A1 := fun h w => implThroughF p now h w
  have HN : Hid (now < p.last → p.leakyB now = false ∧ p.leaky now = p) := fun h => by
    have e : p.leakyB now = false := by
      unfold Pe.leakyB
      rw [decide_eq_false (show ¬ p.last ≤ now by omega), Bool.false_and, Bool.and_false, Bool.and_false]
    refine ⟨e, ?_⟩
    unfold Pe.leaky
    rw [e]
    rfl
  generalize p.leakyB now = sb at *
  generalize p.leaky now = R at *
  obtain ⟨v0, v1, v2, v3, v4⟩ := p
  obtain ⟨r0, r1, r2, r3, r4⟩ := R
  simp only [Pe.val] at *
  have A1' : Hid _ := A1
  clear A1
  have X : Hid (Boxed ((w.alloc (.cells #[.int .i64 v0, .int .i64 v1, .int .i64 v2, .int .i64 v3, .int .i64 v4] 25)).alloc (.cells #[.int .i64 0, .int .i64 0, .int .i64 0, .int .i64 0, .int .i64 0] 25)) w.heap.size #[.int .i64 v0, .int .i64 v1, .int .i64 v2, .int .i64 v3, .int .i64 v4] 25 ∧ Boxed ((w.alloc (.cells #[.int .i64 v0, .int .i64 v1, .int .i64 v2, .int .i64 v3, .int .i64 v4] 25)).alloc (.cells #[.int .i64 0, .int .i64 0, .int .i64 0, .int .i64 0, .int .i64 0] 25)) (w.heap.size + 1) #[.int .i64 0, .int .i64 0, .int .i64 0, .int .i64 0, .int .i64 0] 25 ∧ Below w.heap.size w ((w.alloc (.cells #[.int .i64 v0, .int .i64 v1, .int .i64 v2, .int .i64 v3, .int .i64 v4] 25)).alloc (.cells #[.int .i64 0, .int .i64 0, .int .i64 0, .int .i64 0, .int .i64 0] 25))) := by
    refine ⟨(Boxed.new w _ _).more _, ?_, ((Below.refl _ _).alloc (Nat.le_refl _) _).alloc (by simp) _⟩
    have := Boxed.new (w.alloc (.cells #[.int .i64 v0, .int .i64 v1, .int .i64 v2, .int .i64 v3, .int .i64 v4] 25)) #[.int .i64 0, .int .i64 0, .int .i64 0, .int .i64 0, .int .i64 0] 25
    simpa using this
  by_cases h : now < v4
  · obtain ⟨e1, e2⟩ := HN.out h
    subst e1
    cases e2
    go_enter Try.func9, Try.ntmps9
    go_wp2_with (first | (refine wpList_load_row rfl 25 (.tmp 2) rfl w.heap.size rfl _ _ _ _ X.out.1 Try.underlying25 rfl (by kernel_rfl) ?_) | (refine wpList_store_row rfl 25 (.tmp 4) (.tmp 10) rfl (w.heap.size + 1) _ rfl rfl _ _ X.out.2.1 (by kernel_rfl) rfl (peOnes _ _ _ _ _) ?_))
    exact bodyPost_ret (results_row_tmp Try.results9 _ _ (w.heap.size + 1) _ #[.int .i64 v0, .int .i64 v1, .int .i64 v2, .int .i64 v3, .int .i64 v4] _ _ (.bool false) rfl rfl (setRow_heap _ (w.heap.size + 1) _ _ _ _ X.out.2.1) Try.underlying25 rfl (by kernel_rfl)) rfl ⟨rfl, below_setRow X.out.2.2 (by omega) _⟩
  clear HN
  go_enter Try.func9, Try.ntmps9
  go_wp2_with (refine wpList_load_row rfl 25 (.tmp 2) rfl w.heap.size rfl _ _ _ _ X.out.1 Try.underlying25 rfl (by kernel_rfl) ?_)
  refine (A1'.out (by omega) _).mono ?_
  rintro e w2 ⟨rfl, q⟩
  have X2 : Hid (Boxed w2 (w.heap.size + 1) #[.int .i64 0, .int .i64 0, .int .i64 0, .int .i64 0, .int .i64 0] 25 ∧ Below w.heap.size w w2) := ⟨X.out.2.1.below X.out.2.1.under q, X.out.2.2.trans (q.mono X.out.2.2.size)⟩
  clear q X
  go_wp2_with (refine wpList_store_row rfl 25 (.tmp 4) (.tmp 16) rfl (w.heap.size + 1) #[.int .i64 r0, .int .i64 r1, .int .i64 r2, .int .i64 r3, .int .i64 r4] rfl rfl _ _ X2.out.1 (by kernel_rfl) rfl (peOnes _ _ _ _ _) ?_)
  exact bodyPost_ret (results_row_tmp Try.results9 _ _ (w.heap.size + 1) _ #[.int .i64 r0, .int .i64 r1, .int .i64 r2, .int .i64 r3, .int .i64 r4] _ _ (.bool sb) rfl rfl (setRow_heap _ (w.heap.size + 1) _ _ _ _ X2.out.1) Try.underlying25 rfl (by kernel_rfl)) rfl ⟨rfl, below_setRow X2.out.2 (by omega) _⟩

end Go.Proofs.Ytkdofeanpcbihaa
