/-
  The walks of the model's steers: the stir. By the verifier, by program.
-/
import Derived.Test.YtemegnfefjcdaaaDoorSrSpecK
import Derived.Test.YtemegnfefjcdaaaDoorSrPlain
import Derived.Test.YtemegnfefjcdaaaDoorNumIn
import Derived.Test.YtemegnfefjcdaaaDoorNumMin
import Derived.Test.YtemegnfefjcdaaaDoorNumMax
import Derived.Test.YtemegnfefjcdaaaDoorBoxed
import Derived.Test.YtemegnfefjcdaaaDoorStepRow
import Derived.Test.YtemegnfefjcdaaaDoorQuiet
import Derived.BigQuiet
import Derived.Deep.DeepCutAuto
import Derived.Laws.ResultCell
import Derived.Laws.CopyOwn
import Derived.WalkKit
import Derived.WalkSpells
import Derived.WalkLawsBesides
import Derived.RegionTactic
namespace Go.Proofs.YtemegnfefjcdaaaDoor
open Go.RowKit

set_option maxHeartbeats 3200000 in
set_option maxRecDepth 100000 in
theorem specStir (p : Sr) (d : Int) (w : World) (hok : p.ok = true) (hd : inB 0 100000 d = true) :
    Calls Tryd.prog 30 #[p.val, .int .i64 d] w fun e w' => e = .returned (p.stir d).val ∧ Below w.heap.size w w' := by
  obtain ⟨k1, k2, k3, k4, k5, k6, k7⟩ := Sr.wraps hok hd
  have hr := p.raw_in d
  have HR : Hid (p.raw d = max 0 (min 1048576 (p.prob + Int.tdiv (p.add d) (byOf p.prob)))) := rfl
  have HS : Hid (p.stir d = ⟨p.target, d, if d = 0 ∧ p.old = 0 then p.raw d - p.raw d / 64 else p.raw d⟩) := rfl
  have HB : Hid (byOf p.prob = if p.prob < 1048 then 2048 else if p.prob < 10485 then 512 else if p.prob < 104857 then 128 else if p.prob < 262144 then 32 else 1) := rfl
  have b0 := (byOf_in p.prob).1
  generalize p.stir d = R at HS ⊢
  generalize p.raw d = r at hr HR HS
  generalize p.add d = X at k5 k6 k7 HR
  generalize byOf p.prob = B at k6 k7 HR HB b0
  obtain ⟨Q, hQ⟩ : ∃ Q, Int.tdiv X B = Q := ⟨_, rfl⟩
  have k8 : IntKind.i64.wrap (Int.tdiv X B) = Q := by rw [k6, hQ]
  rw [hQ] at k7 HR
  clear k6 hQ
  obtain ⟨v0, v1, v2⟩ := p
  simp only [Sr.val] at k1 k2 k3 k4 k5 k7 k8 HR HS HB ⊢
  clear hok hd
  obtain ⟨S, hS⟩ : ∃ S, v2 + Q = S := ⟨_, rfl⟩
  have k9 : IntKind.i64.wrap (v2 + Q) = S := by rw [k7, hS]
  rw [hS] at HR
  clear k7 hS
  have A1 : ∀ w : World, Calls Tryd.prog 35 #[.int .i64 1048576, .int .i64 S] w fun e w' => e = .returned (.int .i64 (min 1048576 S)) ∧ Below w.heap.size w w' := fun w => (specMin 1048576 S w).mono fun _ _ h => ⟨h.1, by rw [h.2]; exact Below.refl _ _⟩
  generalize min 1048576 S = m at A1 HR
  have A2 : ∀ w : World, Calls Tryd.prog 34 #[.int .i64 0, .int .i64 m] w fun e w' => e = .returned (.int .i64 (max 0 m)) ∧ Below w.heap.size w w' := fun w => (specMx 0 m w).mono fun _ _ h => ⟨h.1, by rw [h.2]; exact Below.refl _ _⟩
  rw [← HR.out] at A2
  clear HR
  have A1' : Hid _ := A1
  have A2' : Hid _ := A2
  clear A1 A2
  have k10 : IntKind.i64.wrap (r / 64) = r / 64 := by rw [IntKind.wrap_i64]; omega
  have k11 : IntKind.i64.wrap (r - r / 64) = r - r / 64 := by rw [IntKind.wrap_i64]; omega
  have kd : Int.tdiv r 64 = r / 64 := Int.tdiv_eq_ediv_of_nonneg hr.1
  have bz : ¬ B = 0 := by omega
  clear hr b0
  obtain ⟨W, hW⟩ : ∃ W, ((w.alloc (.cells #[.int .i64 v0, .int .i64 v1, .int .i64 v2] 25)).alloc (.cells #[.int .i64 0, .int .i64 0, .int .i64 0] 25)) = W := ⟨_, rfl⟩
  have X0 : Hid (Boxed W w.heap.size #[.int .i64 v0, .int .i64 v1, .int .i64 v2] 25 ∧ Boxed W (w.heap.size + 1) #[.int .i64 0, .int .i64 0, .int .i64 0] 25 ∧ Below w.heap.size w W) := by
    rw [← hW]
    refine ⟨(Boxed.new w _ _).more _, ?_, ((Below.refl _ _).alloc (Nat.le_refl _) _).alloc (by simp) _⟩
    have := Boxed.new (w.alloc (.cells #[.int .i64 v0, .int .i64 v1, .int .i64 v2] 25)) #[.int .i64 0, .int .i64 0, .int .i64 0] 25
    simpa using this
  have HW : Hid _ := hW
  clear hW
  have main : ∀ B' : Int, B = B' → (B' = 2048 ∧ v2 < 1048 ∨ B' = 512 ∧ ¬ v2 < 1048 ∧ v2 < 10485 ∨ B' = 128 ∧ ¬ v2 < 1048 ∧ ¬ v2 < 10485 ∧ v2 < 104857 ∨ B' = 32 ∧ ¬ v2 < 1048 ∧ ¬ v2 < 10485 ∧ ¬ v2 < 104857 ∧ v2 < 262144 ∨ B' = 1 ∧ ¬ v2 < 1048 ∧ ¬ v2 < 10485 ∧ ¬ v2 < 104857 ∧ ¬ v2 < 262144) := by
    intro B' e
    have h := HB.out
    rw [e] at h
    rw [h]
    split
    · omega
    split
    · omega
    split
    · omega
    split <;> omega
  have mb := main B rfl
  clear main HB
  rcases mb with ⟨rfl, h1⟩ | ⟨rfl, h1, h2⟩ | ⟨rfl, h1, h2, h3⟩ | ⟨rfl, h1, h2, h3, h4⟩ | ⟨rfl, h1, h2, h3, h4⟩
  all_goals (
    try rw [Int.tdiv_one] at k8
    go_enter Tryd.func30, Tryd.ntmps30
    go_upto_region 10 with fail
    rw [HW.out]
    clear HW
    have c0 : ∀ p : BelW W.heap.size W, p.w'.cell? ⟨w.heap.size, 0, none⟩ = some (.int .i64 v0) := fun p => (X0.out.1.below X0.out.1.under p.h).cell 0 rfl
    have c1 : ∀ p : BelW W.heap.size W, p.w'.cell? ⟨w.heap.size, 1, none⟩ = some (.int .i64 v1) := fun p => (X0.out.1.below X0.out.1.under p.h).cell 1 rfl
    have c2 : ∀ p : BelW W.heap.size W, p.w'.cell? ⟨w.heap.size, 2, none⟩ = some (.int .i64 v2) := fun p => (X0.out.1.below X0.out.1.under p.h).cell 2 rfl
    haveI : Nonempty (BelW W.heap.size W) := ⟨⟨W, Below.refl _ _⟩⟩
    refine region_below W.heap.size (by kernel_rfl) (by kernel_rfl) ?_
    repeat (go_big_quiet_step ((first | (go_at_call 35; refine quiet_below (Nat.le_refl _) (A1'.out _)) | (go_at_call 34; refine quiet_below (Nat.le_refl _) (A2'.out _)))))
    refine wpQuiet_nil ?_
    intro w1 hx
    have q := BelW.out hx
    have X1 : Hid (Boxed w1 w.heap.size #[.int .i64 v0, .int .i64 v1, .int .i64 v2] 25 ∧ Boxed w1 (w.heap.size + 1) #[.int .i64 0, .int .i64 0, .int .i64 0] 25 ∧ Below w.heap.size w w1) := ⟨X0.out.1.below X0.out.1.under q, X0.out.2.1.below X0.out.2.1.under q, X0.out.2.2.trans (q.mono X0.out.2.2.size)⟩
    clear hx q c0 c1 c2 X0 A1' A2' k1 k2 k3 k4 k5 k8 k9
    have c1 : w1.cell? ⟨w.heap.size, 1, none⟩ = some (.int .i64 v1) := X1.out.1.cell 1 rfl
    have c2 : w1.cell? ⟨w.heap.size, 2, none⟩ = some (.int .i64 v2) := X1.out.1.cell 2 rfl
    have z1 := X1.out.1.ice 1
    have z2 := X1.out.1.ice 2
    have hl : w.heap.size < w1.heap.size := X1.out.1.under
    by_cases hc : d = 0 ∧ v1 = 0
    · have e1 : R = ⟨v0, d, r - r / 64⟩ := by rw [HS.out, if_pos hc]
      obtain ⟨hc1, hc2⟩ := hc
      subst e1
      have X2 : Hid (Boxed ((w1.setCell ⟨w.heap.size, 2, none⟩ (.int .i64 (r - r / 64))).setCell ⟨w.heap.size, 1, none⟩ (.int .i64 d)) w.heap.size #[.int .i64 v0, .int .i64 d, .int .i64 (r - r / 64)] 25 ∧ Boxed ((w1.setCell ⟨w.heap.size, 2, none⟩ (.int .i64 (r - r / 64))).setCell ⟨w.heap.size, 1, none⟩ (.int .i64 d)) (w.heap.size + 1) #[.int .i64 0, .int .i64 0, .int .i64 0] 25 ∧ Below w.heap.size w ((w1.setCell ⟨w.heap.size, 2, none⟩ (.int .i64 (r - r / 64))).setCell ⟨w.heap.size, 1, none⟩ (.int .i64 d))) := ⟨(X1.out.1.put 2 _).put 1 _, (X1.out.2.1.far (by omega) 2 _).far (by omega) 1 _, (X1.out.2.2.setCell (Nat.le_refl _) _).setCell (Nat.le_refl _) _⟩
      subst hc1 hc2
      clear HS
      go_upto_region 15 with fail
      generalize (w1.setCell ⟨w.heap.size, 2, none⟩ (.int .i64 (r - r / 64))).setCell ⟨w.heap.size, 1, none⟩ (.int .i64 0) = w2 at X2 ⊢
      clear X1 c1 c2 z1 z2 hl
      go_wp2_with (first | (refine wpList_load_row rfl 25 (.tmp 2) rfl w.heap.size rfl _ _ _ _ X2.out.1 Tryd.underlying25 rfl (by kernel_rfl) ?_) | (refine wpList_store_row rfl 25 (.tmp 4) (.tmp 56) rfl (w.heap.size + 1) _ rfl rfl _ _ X2.out.2.1 (by kernel_rfl) rfl (srOnes _ _ _) ?_))
      exact bodyPost_ret (results_cell_row Tryd.results30 _ _ (w.heap.size + 1) _ _ _ _ rfl (setRow_heap _ (w.heap.size + 1) _ _ _ _ X2.out.2.1) Tryd.underlying25 rfl (by kernel_rfl)) rfl ⟨rfl, below_setRow X2.out.2.2 (by omega) _⟩
    · have e1 : R = ⟨v0, d, r⟩ := by rw [HS.out, if_neg hc]
      subst e1
      have X2 : Hid (Boxed ((w1.setCell ⟨w.heap.size, 2, none⟩ (.int .i64 r)).setCell ⟨w.heap.size, 1, none⟩ (.int .i64 d)) w.heap.size #[.int .i64 v0, .int .i64 d, .int .i64 r] 25 ∧ Boxed ((w1.setCell ⟨w.heap.size, 2, none⟩ (.int .i64 r)).setCell ⟨w.heap.size, 1, none⟩ (.int .i64 d)) (w.heap.size + 1) #[.int .i64 0, .int .i64 0, .int .i64 0] 25 ∧ Below w.heap.size w ((w1.setCell ⟨w.heap.size, 2, none⟩ (.int .i64 r)).setCell ⟨w.heap.size, 1, none⟩ (.int .i64 d))) := ⟨(X1.out.1.put 2 _).put 1 _, (X1.out.2.1.far (by omega) 2 _).far (by omega) 1 _, (X1.out.2.2.setCell (Nat.le_refl _) _).setCell (Nat.le_refl _) _⟩
      clear HS
      by_cases hd0 : d = 0
      · have ho : ¬ v1 = 0 := fun e => hc ⟨hd0, e⟩
        clear hc
        subst hd0
        go_upto_region 15 with fail
        generalize (w1.setCell ⟨w.heap.size, 2, none⟩ (.int .i64 r)).setCell ⟨w.heap.size, 1, none⟩ (.int .i64 0) = w2 at X2 ⊢
        clear X1 c1 c2 z1 z2 hl
        go_wp2_with (first | (refine wpList_load_row rfl 25 (.tmp 2) rfl w.heap.size rfl _ _ _ _ X2.out.1 Tryd.underlying25 rfl (by kernel_rfl) ?_) | (refine wpList_store_row rfl 25 (.tmp 4) (.tmp 56) rfl (w.heap.size + 1) _ rfl rfl _ _ X2.out.2.1 (by kernel_rfl) rfl (srOnes _ _ _) ?_))
        exact bodyPost_ret (results_cell_row Tryd.results30 _ _ (w.heap.size + 1) _ _ _ _ rfl (setRow_heap _ (w.heap.size + 1) _ _ _ _ X2.out.2.1) Tryd.underlying25 rfl (by kernel_rfl)) rfl ⟨rfl, below_setRow X2.out.2.2 (by omega) _⟩
      · clear hc
        go_upto_region 15 with fail
        generalize (w1.setCell ⟨w.heap.size, 2, none⟩ (.int .i64 r)).setCell ⟨w.heap.size, 1, none⟩ (.int .i64 d) = w2 at X2 ⊢
        clear X1 c1 c2 z1 z2 hl
        go_wp2_with (first | (refine wpList_load_row rfl 25 (.tmp 2) rfl w.heap.size rfl _ _ _ _ X2.out.1 Tryd.underlying25 rfl (by kernel_rfl) ?_) | (refine wpList_store_row rfl 25 (.tmp 4) (.tmp 56) rfl (w.heap.size + 1) _ rfl rfl _ _ X2.out.2.1 (by kernel_rfl) rfl (srOnes _ _ _) ?_))
        exact bodyPost_ret (results_cell_row Tryd.results30 _ _ (w.heap.size + 1) _ _ _ _ rfl (setRow_heap _ (w.heap.size + 1) _ _ _ _ X2.out.2.1) Tryd.underlying25 rfl (by kernel_rfl)) rfl ⟨rfl, below_setRow X2.out.2.2 (by omega) _⟩)

end Go.Proofs.YtemegnfefjcdaaaDoor
