/-
  The walks of the program's purses: Spent and When. By the verifier.
-/
import Derived.Test.YtkdofeanpcbihaaPzImpl
namespace Go.Proofs.Ytkdofeanpcbihaa
open Go.RowKit

theorem Pz.spentB_is (p : Pz) (now n : Int) : p.spentB now n = (p.ok && ((decide (p.tm ≤ now) && inB 0 1099511627776 now) && inB 0 (p.filled now).level n)) := by
  unfold Pz.spentB Pz.filled
  cases h : p.ok
  · rfl
  rw [Pz.at_of h]
  simp only [if_true, Bool.true_and]
  cases h2 : p.at' now
  · rfl
  simp only [if_true, Bool.true_and]
  unfold Pz.may
  rw [Bool.eq_iff_iff]
  simp only [Bool.and_eq_true, inB_true, decide_eq_true_eq]
theorem Pz.spent_of (p : Pz) (now n : Int) : p.spent now n = if p.spentB now n = true then ⟨(p.filled now).rate, (p.filled now).burst, (p.filled now).level - n, (p.filled now).tm⟩ else p.filled now := by
  unfold Pz.spentB Pz.filled Pz.spent
  cases h : p.ok
  · rfl
  cases h2 : p.at' now
  · rfl
  cases h3 : p.may now n
  · rfl
  rfl
theorem Pz.spent_wrap (p : Pz) (now n : Int) (h : p.spentB now n = true) : IntKind.i64.wrap ((p.filled now).level - n) = (p.filled now).level - n := by
  rw [p.spentB_is] at h
  simp only [Bool.and_eq_true, inB_true] at h
  have h1 := Pz.ok_iff.1 h.1
  have h2 : (p.filled now).level ≤ p.burst := by
    unfold Pz.filled Pz.fill
    rw [if_pos h.1]
    split
    · exact Int.min_le_left _ _
    · omega
  rw [IntKind.wrap_i64]
  omega

set_option maxHeartbeats 3200000 in
set_option maxRecDepth 100000 in
theorem implSpent (p : Pz) (now n : Int) (w : World) :
    Calls Try.prog 16 #[p.val, .int .i64 now, .int .i64 n] w fun e w' => e = .returned (.tuple #[(p.spent now n).val, .bool (p.spentB now n)]) ∧ Below w.heap.size w w' := by
  have A1 := fun w => implFilled p now w
  have A2 := fun w => implPurseOk p w
  have A3 := fun w => implTimeFrom p.tm now w
  have A4 := fun B w h => implUpTo1 (p.filled now).level n w B h
  have HB : Hid (p.spentB now n = (p.ok && ((decide (p.tm ≤ now) && inB 0 1099511627776 now) && inB 0 (p.filled now).level n))) := p.spentB_is now n
  have HS : Hid (p.spent now n = if p.spentB now n = true then ⟨(p.filled now).rate, (p.filled now).burst, (p.filled now).level - n, (p.filled now).tm⟩ else p.filled now) := p.spent_of now n
  have HW : Hid (p.spentB now n = true → IntKind.i64.wrap ((p.filled now).level - n) = (p.filled now).level - n) := p.spent_wrap now n
  generalize p.spentB now n = sb at HB HS HW ⊢
  generalize p.spent now n = R at HS ⊢
  generalize (decide (p.tm ≤ now) && inB 0 1099511627776 now) = tf at A3 HB
  generalize inB 0 (p.filled now).level n = up at A4 HB
  generalize p.filled now = F at A1 A4 HS HW
  generalize p.ok = ok at A2 HB
  obtain ⟨v0, v1, v2, v3⟩ := p
  obtain ⟨f0, f1, f2, f3⟩ := F
  simp only [Pz.val] at A1 A2 A3 A4 HS HW ⊢
  have A1' : Hid _ := A1
  have A2' : Hid _ := A2
  have A3' : Hid _ := A3
  have A4' : Hid _ := A4
  clear A1 A2 A3 A4
  have X : Hid (Boxed ((w.alloc (.cells #[.int .i64 v0, .int .i64 v1, .int .i64 v2, .int .i64 v3] 32)).alloc (.cells #[.int .i64 0, .int .i64 0, .int .i64 0, .int .i64 0] 32)) w.heap.size #[.int .i64 v0, .int .i64 v1, .int .i64 v2, .int .i64 v3] 32 ∧ Boxed ((w.alloc (.cells #[.int .i64 v0, .int .i64 v1, .int .i64 v2, .int .i64 v3] 32)).alloc (.cells #[.int .i64 0, .int .i64 0, .int .i64 0, .int .i64 0] 32)) (w.heap.size + 1) #[.int .i64 0, .int .i64 0, .int .i64 0, .int .i64 0] 32 ∧ Below w.heap.size w ((w.alloc (.cells #[.int .i64 v0, .int .i64 v1, .int .i64 v2, .int .i64 v3] 32)).alloc (.cells #[.int .i64 0, .int .i64 0, .int .i64 0, .int .i64 0] 32))) := by
    refine ⟨(Boxed.new w _ _).more _, ?_, ((Below.refl _ _).alloc (Nat.le_refl _) _).alloc (by simp) _⟩
    have := Boxed.new (w.alloc (.cells #[.int .i64 v0, .int .i64 v1, .int .i64 v2, .int .i64 v3] 32)) #[.int .i64 0, .int .i64 0, .int .i64 0, .int .i64 0] 32
    simpa using this
  go_enter Try.func16, Try.ntmps16
  go_wp2_with (refine wpList_load_row rfl 32 (.tmp 3) rfl w.heap.size rfl _ _ _ _ X.out.1 Try.underlying32 rfl (by kernel_rfl) ?_)
  refine (A1'.out _).mono ?_
  rintro e w1 ⟨rfl, q⟩
  have X1 : Hid (Boxed w1 w.heap.size #[.int .i64 v0, .int .i64 v1, .int .i64 v2, .int .i64 v3] 32 ∧ Boxed w1 (w.heap.size + 1) #[.int .i64 0, .int .i64 0, .int .i64 0, .int .i64 0] 32 ∧ Below w.heap.size w w1) := ⟨X.out.1.below X.out.1.under q, X.out.2.1.below X.out.2.1.under q, X.out.2.2.trans (q.mono X.out.2.2.size)⟩
  clear q X
  have N2 : Hid (Boxed (w1.alloc (.cells #[.int .i64 0, .int .i64 0, .int .i64 0, .int .i64 0] 32)) w1.heap.size #[.int .i64 0, .int .i64 0, .int .i64 0, .int .i64 0] 32) := Boxed.new _ _ _
  have X2 : Hid (Boxed ((w1.alloc (.cells #[.int .i64 0, .int .i64 0, .int .i64 0, .int .i64 0] 32)).setRow w1.heap.size #[.int .i64 f0, .int .i64 f1, .int .i64 f2, .int .i64 f3]) w.heap.size #[.int .i64 v0, .int .i64 v1, .int .i64 v2, .int .i64 v3] 32 ∧ Boxed ((w1.alloc (.cells #[.int .i64 0, .int .i64 0, .int .i64 0, .int .i64 0] 32)).setRow w1.heap.size #[.int .i64 f0, .int .i64 f1, .int .i64 f2, .int .i64 f3]) (w.heap.size + 1) #[.int .i64 0, .int .i64 0, .int .i64 0, .int .i64 0] 32 ∧ Below w.heap.size w ((w1.alloc (.cells #[.int .i64 0, .int .i64 0, .int .i64 0, .int .i64 0] 32)).setRow w1.heap.size #[.int .i64 f0, .int .i64 f1, .int .i64 f2, .int .i64 f3]) ∧ Boxed ((w1.alloc (.cells #[.int .i64 0, .int .i64 0, .int .i64 0, .int .i64 0] 32)).setRow w1.heap.size #[.int .i64 f0, .int .i64 f1, .int .i64 f2, .int .i64 f3]) w1.heap.size #[.int .i64 f0, .int .i64 f1, .int .i64 f2, .int .i64 f3] 32 ∧ w.heap.size + 1 < w1.heap.size) := by
    have h1 := X1.out.1.under
    have h2 := X1.out.2.2.size
    have h3 := X1.out.2.1.under
    exact ⟨(setRow_other _ _ _ _ (by omega)).trans (X1.out.1.more _), (setRow_other _ _ _ _ (by omega)).trans (X1.out.2.1.more _), below_setRow (X1.out.2.2.alloc h2 _) h2 _, setRow_heap _ _ _ _ _ _ N2.out, h3⟩
  go_wp2_with (first | (refine wpList_load_row rfl 32 (.tmp 3) rfl w.heap.size rfl _ _ _ _ X2.out.1 Try.underlying32 rfl (by kernel_rfl) ?_) | (refine wpList_store_row rfl 32 (.tmp 8) (.tmp 11) rfl w1.heap.size #[.int .i64 f0, .int .i64 f1, .int .i64 f2, .int .i64 f3] rfl rfl _ _ N2.out (by kernel_rfl) rfl (pzOnes _ _ _ _) ?_))
  clear X1 N2
  generalize ((w1.alloc (.cells #[.int .i64 0, .int .i64 0, .int .i64 0, .int .i64 0] 32)).setRow w1.heap.size #[.int .i64 f0, .int .i64 f1, .int .i64 f2, .int .i64 f3]) = w2 at X2 ⊢
  generalize w1.heap.size = g at X2 ⊢
  refine (A2'.out _).mono ?_
  rintro e w3 ⟨rfl, q⟩
  have X3 : Hid (Boxed w3 w.heap.size #[.int .i64 v0, .int .i64 v1, .int .i64 v2, .int .i64 v3] 32 ∧ Boxed w3 (w.heap.size + 1) #[.int .i64 0, .int .i64 0, .int .i64 0, .int .i64 0] 32 ∧ Below w.heap.size w w3 ∧ Boxed w3 g #[.int .i64 f0, .int .i64 f1, .int .i64 f2, .int .i64 f3] 32 ∧ w.heap.size + 1 < g) := ⟨X2.out.1.below X2.out.1.under q, X2.out.2.1.below X2.out.2.1.under q, X2.out.2.2.1.trans (q.mono X2.out.2.2.1.size), X2.out.2.2.2.1.below X2.out.2.2.2.1.under q, X2.out.2.2.2.2⟩
  clear q X2
  cases ok
  · have e1 : sb = false := by rw [HB.out]; rfl
    subst e1
    have e2 : R = ⟨f0, f1, f2, f3⟩ := by rw [HS.out]; rfl
    subst e2
    go_wp2_with (first | (refine wpList_load_row rfl 32 (.tmp 8) rfl g rfl _ _ _ _ X3.out.2.2.2.1 Try.underlying32 rfl (by kernel_rfl) ?_) | (refine wpList_store_row rfl 32 (.tmp 6) (.tmp 30) rfl (w.heap.size + 1) _ rfl rfl _ _ X3.out.2.1 (by kernel_rfl) rfl (pzOnes _ _ _ _) ?_))
    exact bodyPost_ret (results_row_tmp Try.results16 _ _ (w.heap.size + 1) _ #[.int .i64 f0, .int .i64 f1, .int .i64 f2, .int .i64 f3] _ _ (.bool false) rfl rfl (setRow_heap _ (w.heap.size + 1) _ _ _ _ X3.out.2.1) Try.underlying32 rfl (by kernel_rfl)) rfl ⟨rfl, below_setRow X3.out.2.2.1 (by omega) _⟩
  have c3 : w3.cell? ⟨w.heap.size, 3, none⟩ = some (.int .i64 v3) := X3.out.1.cell 3 rfl
  go_wp2_with fail
  refine (A3'.out _).mono ?_
  rintro e w4 ⟨rfl, q⟩
  have X4 : Hid (Boxed w4 (w.heap.size + 1) #[.int .i64 0, .int .i64 0, .int .i64 0, .int .i64 0] 32 ∧ Below w.heap.size w w4 ∧ Boxed w4 g #[.int .i64 f0, .int .i64 f1, .int .i64 f2, .int .i64 f3] 32 ∧ w.heap.size + 1 < g) := ⟨X3.out.2.1.below X3.out.2.1.under q, X3.out.2.2.1.trans (q.mono X3.out.2.2.1.size), X3.out.2.2.2.1.below X3.out.2.2.2.1.under q, X3.out.2.2.2.2⟩
  clear q X3 c3
  cases tf
  · have e1 : sb = false := by rw [HB.out]; rfl
    subst e1
    have e2 : R = ⟨f0, f1, f2, f3⟩ := by rw [HS.out]; rfl
    subst e2
    go_wp2_with (first | (refine wpList_load_row rfl 32 (.tmp 8) rfl g rfl _ _ _ _ X4.out.2.2.1 Try.underlying32 rfl (by kernel_rfl) ?_) | (refine wpList_store_row rfl 32 (.tmp 6) (.tmp 30) rfl (w.heap.size + 1) _ rfl rfl _ _ X4.out.1 (by kernel_rfl) rfl (pzOnes _ _ _ _) ?_))
    exact bodyPost_ret (results_row_tmp Try.results16 _ _ (w.heap.size + 1) _ #[.int .i64 f0, .int .i64 f1, .int .i64 f2, .int .i64 f3] _ _ (.bool false) rfl rfl (setRow_heap _ (w.heap.size + 1) _ _ _ _ X4.out.1) Try.underlying32 rfl (by kernel_rfl)) rfl ⟨rfl, below_setRow X4.out.2.1 (by omega) _⟩
  have c2 : w4.cell? ⟨g, 2, none⟩ = some (.int .i64 f2) := X4.out.2.2.1.cell 2 rfl
  go_wp2_with fail
  refine (A4'.out _ _ (by simp)).mono ?_
  rintro e w5 ⟨rfl, rfl⟩
  have hb := X4.out.2.1
  have X5 : Hid (Boxed (w4.alloc (.cells #[.int .i64 n] 2)) (w.heap.size + 1) #[.int .i64 0, .int .i64 0, .int .i64 0, .int .i64 0] 32 ∧ Below w.heap.size w (w4.alloc (.cells #[.int .i64 n] 2)) ∧ Boxed (w4.alloc (.cells #[.int .i64 n] 2)) g #[.int .i64 f0, .int .i64 f1, .int .i64 f2, .int .i64 f3] 32 ∧ w.heap.size + 1 < g) := ⟨X4.out.1.more _, X4.out.2.1.alloc hb.size _, X4.out.2.2.1.more _, X4.out.2.2.2⟩
  clear hb c2 X4
  generalize w4.alloc (.cells #[.int .i64 n] 2) = w6 at X5 ⊢
  cases up
  · have e1 : sb = false := by rw [HB.out]; rfl
    subst e1
    have e2 : R = ⟨f0, f1, f2, f3⟩ := by rw [HS.out]; rfl
    subst e2
    go_wp2_with (first | (refine wpList_load_row rfl 32 (.tmp 8) rfl g rfl _ _ _ _ X5.out.2.2.1 Try.underlying32 rfl (by kernel_rfl) ?_) | (refine wpList_store_row rfl 32 (.tmp 6) (.tmp 30) rfl (w.heap.size + 1) _ rfl rfl _ _ X5.out.1 (by kernel_rfl) rfl (pzOnes _ _ _ _) ?_))
    exact bodyPost_ret (results_row_tmp Try.results16 _ _ (w.heap.size + 1) _ #[.int .i64 f0, .int .i64 f1, .int .i64 f2, .int .i64 f3] _ _ (.bool false) rfl rfl (setRow_heap _ (w.heap.size + 1) _ _ _ _ X5.out.1) Try.underlying32 rfl (by kernel_rfl)) rfl ⟨rfl, below_setRow X5.out.2.1 (by omega) _⟩
  have e1 : sb = true := by rw [HB.out]; rfl
  subst e1
  have e2 : R = ⟨f0, f1, f2 - n, f3⟩ := by rw [HS.out]; rfl
  subst e2
  have k1 := HW.out (by first | exact trivial | exact rfl)
  have c2 : w6.cell? ⟨g, 2, none⟩ = some (.int .i64 f2) := X5.out.2.2.1.cell 2 rfl
  have z2 := X5.out.2.2.1.ice 2
  have hl : g < w6.heap.size := X5.out.2.2.1.under
  have X6 : Hid (Boxed (w6.setCell ⟨g, 2, none⟩ (.int .i64 (f2 - n))) (w.heap.size + 1) #[.int .i64 0, .int .i64 0, .int .i64 0, .int .i64 0] 32 ∧ Below w.heap.size w (w6.setCell ⟨g, 2, none⟩ (.int .i64 (f2 - n))) ∧ Boxed (w6.setCell ⟨g, 2, none⟩ (.int .i64 (f2 - n))) g #[.int .i64 f0, .int .i64 f1, .int .i64 (f2 - n), .int .i64 f3] 32) := by
    have h1 := X5.out.2.2.2
    exact ⟨X5.out.1.far (by omega) 2 _, X5.out.2.1.setCell (by show w.heap.size ≤ g; omega) _, X5.out.2.2.1.put 2 _⟩
  go_upto_region 5 with fail
  generalize w6.setCell ⟨g, 2, none⟩ (.int .i64 (f2 - n)) = w7 at X6 ⊢
  clear X5 c2 z2 hl k1
  go_wp2_with (first | (refine wpList_load_row rfl 32 (.tmp 8) rfl g rfl _ _ _ _ X6.out.2.2 Try.underlying32 rfl (by kernel_rfl) ?_) | (refine wpList_store_row rfl 32 (.tmp 6) (.tmp 36) rfl (w.heap.size + 1) _ rfl rfl _ _ X6.out.1 (by kernel_rfl) rfl (pzOnes _ _ _ _) ?_))
  exact bodyPost_ret (results_row_tmp Try.results16 _ _ (w.heap.size + 1) _ #[.int .i64 f0, .int .i64 f1, .int .i64 (f2 - n), .int .i64 f3] _ _ (.bool true) rfl rfl (setRow_heap _ (w.heap.size + 1) _ _ _ _ X6.out.1) Try.underlying32 rfl (by kernel_rfl)) rfl ⟨rfl, below_setRow X6.out.2.1 (by omega) _⟩
end Go.Proofs.Ytkdofeanpcbihaa
