/-
  The walks of the model's purses. By the verifier.
-/
import Derived.Test.YtkdofeanpcbihaaPzPlain
import Derived.Test.YtkdofeanpcbihaaNumIn
import Derived.Test.YtkdofeanpcbihaaBoxed
import Derived.Test.YtkdofeanpcbihaaStepRow
import Derived.Laws.ResultCell
import Derived.Laws.CopyOwn
import Derived.WalkKit
import Derived.WalkSpells
import Derived.WalkLawsBesides
import Derived.RegionTactic
namespace Go.Proofs.Ytkdofeanpcbihaa
open Go.RowKit

theorem specTm (t : Int) (w : World) :
    Calls Try.prog 29 #[.int .i64 t] w fun e w' => e = .returned (.bool (inB 0 1099511627776 t)) ∧ w' = w := by
  go_enter Try.func29, Try.ntmps29
  go_wp2_with (go_at_call 39; refine (specIn _ _ _ _).mono ?_; rintro e w' ⟨rfl, rfl⟩)
  go_ret
  exact ⟨rfl, rfl⟩
theorem specMin (a b : Int) (w : World) :
    Calls Try.prog 46 #[.int .i64 a, .int .i64 b] w fun e w' => e = .returned (.int .i64 (min a b)) ∧ w' = w := by
  by_cases h : a < b
  · go_enter Try.func46, Try.ntmps46
    go_wp2
    go_ret
    exact ⟨ret_num (by omega), rfl⟩
  · go_enter Try.func46, Try.ntmps46
    go_wp2
    go_ret
    exact ⟨ret_num (by omega), rfl⟩

set_option maxHeartbeats 1600000 in
theorem specPurseOk (p : Pz) (w : World) :
    Calls Try.prog 23 #[p.val] w fun e w' => e = .returned (.bool p.ok) ∧ w' = w.alloc (.cells p.cells.toArray 32) := by
  have Hok : Hid (p.ok = (inB 0 1000 p.rate && (inB 1 100000 p.burst && (inB 0 p.burst p.level && inB 0 1099511627776 p.tm)))) := rfl
  obtain ⟨v0, v1, v2, v3⟩ := p
  generalize Pz.ok _ = ok at Hok ⊢
  simp only [Pz.val, Pz.cells] at Hok ⊢
  have A1 := fun w => specIn v0 0 1000 w
  have A2 := fun w => specIn v1 1 100000 w
  have A3 := fun w => specIn v2 0 v1 w
  have A4 := fun w => specTm v3 w
  generalize inB 0 1000 v0 = b1 at A1 Hok
  generalize inB 1 100000 v1 = b2 at A2 Hok
  generalize inB 0 v1 v2 = b3 at A3 Hok
  generalize inB 0 1099511627776 v3 = b4 at A4 Hok
  have A1' : Hid _ := A1
  have A2' : Hid _ := A2
  have A3' : Hid _ := A3
  have A4' : Hid _ := A4
  clear A1 A2 A3 A4
  go_enter Try.func23, Try.ntmps23
  go_wp2_with fail
  refine (A1'.out _).mono ?_
  rintro e w' ⟨rfl, rfl⟩
  cases b1
  · go_wp2
    go_ret
    exact ⟨ret_bool (by rw [Hok.out]; rfl), rfl⟩
  go_wp2_with fail
  refine (A2'.out _).mono ?_
  rintro e w' ⟨rfl, rfl⟩
  cases b2
  · go_wp2
    go_ret
    exact ⟨ret_bool (by rw [Hok.out]; rfl), rfl⟩
  go_wp2_with fail
  refine (A3'.out _).mono ?_
  rintro e w' ⟨rfl, rfl⟩
  cases b3
  · go_wp2
    go_ret
    exact ⟨ret_bool (by rw [Hok.out]; rfl), rfl⟩
  go_wp2_with fail
  refine (A4'.out _).mono ?_
  rintro e w' ⟨rfl, rfl⟩
  go_wp2
  go_ret
  exact ⟨ret_bool (by rw [Hok.out]; rfl), rfl⟩
theorem specPurseOkB (p : Pz) (w : World) :
    Calls Try.prog 23 #[p.val] w fun e w' => e = .returned (.bool p.ok) ∧ Below w.heap.size w w' :=
  (specPurseOk p w).mono fun _ _ h => ⟨h.1, by rw [h.2]; exact (Below.refl _ _).alloc (Nat.le_refl _) _⟩

set_option maxHeartbeats 3200000 in
set_option maxRecDepth 100000 in
theorem specFillL (p : Pz) (now : Int) (w : World) (hok : p.ok = true) (hat : p.at' now = true) :
    Calls Try.prog 40 #[p.val, .int .i64 now] w fun e w' => e = .returned (p.fill now).val ∧ Below w.heap.size w w' := by
  have h := Pz.ok_iff.1 hok
  unfold Pz.at' at hat
  rw [inB_true] at hat
  have hm := mul_small (a := p.rate) (b := now - p.tm) h.1.1 h.1.2 (by omega) (by omega)
  obtain ⟨v0, v1, v2, v3⟩ := p
  simp only [Pz.val, Pz.fill] at h hat hm ⊢
  have k1 : IntKind.i64.wrap (now - v3) = now - v3 := by rw [IntKind.wrap_i64]; omega
  have k2 : IntKind.i64.wrap (v0 * (now - v3)) = v0 * (now - v3) := by rw [IntKind.wrap_i64]; omega
  have k3 : IntKind.i64.wrap (v2 + v0 * (now - v3)) = v2 + v0 * (now - v3) := by rw [IntKind.wrap_i64]; omega
  have A := fun w => specMin v1 (v2 + v0 * (now - v3)) w
  generalize min v1 (v2 + v0 * (now - v3)) = z at A ⊢
  have A' : Hid _ := A
  clear A h hat hm hok
  have H : Hid (Below w.heap.size w ((w.alloc (.cells #[.int .i64 v0, .int .i64 v1, .int .i64 z, .int .i64 now] 32)).alloc (.cells #[.int .i64 v0, .int .i64 v1, .int .i64 z, .int .i64 now] 32))) := ((Below.refl _ w).alloc (Nat.le_refl _) _).alloc (by simp) _
  go_enter Try.func40, Try.ntmps40
  go_wp2_with fail
  refine (A'.out _).mono ?_
  rintro e w' ⟨rfl, rfl⟩
  go_wp2
  exact bodyPost_ret (v := .agg #[.int .i64 v0, .int .i64 v1, .int .i64 z, .int .i64 now]) (by simp [results, Try.results40, go_sem]) rfl ⟨rfl, H.out⟩

set_option maxHeartbeats 3200000 in
set_option maxRecDepth 100000 in
theorem specFilled (p : Pz) (now : Int) (w : World) :
    Calls Try.prog 20 #[p.val, .int .i64 now] w fun e w' => e = .returned (p.filled now).val ∧ Below w.heap.size w w' := by
  have A1 := fun w => specPurseOkB p w
  have A2 := fun w => specIn now p.tm 1099511627776 w
  have A3 := fun w h1 h2 => specFillL p now w h1 h2
  have Hv : Hid (p.filled now = if p.ok = true then (if p.at' now = true then p.fill now else p) else ⟨0, 0, 0, 0⟩) := rfl
  have e0 : inB p.tm 1099511627776 now = p.at' now := rfl
  rw [e0] at A2
  generalize p.filled now = F at Hv ⊢
  generalize p.fill now = G at A3 Hv
  generalize p.ok = ok at A1 A3 Hv
  generalize p.at' now = tt at A2 A3 Hv
  obtain ⟨v0, v1, v2, v3⟩ := p
  obtain ⟨g0, g1, g2, g3⟩ := G
  simp only [Pz.val] at A1 A2 A3 ⊢
  have A1' : Hid _ := A1
  have A2' : Hid _ := A2
  have A3' : Hid _ := A3
  clear A1 A2 A3 e0
  have X : Hid (Boxed ((w.alloc (.cells #[.int .i64 v0, .int .i64 v1, .int .i64 v2, .int .i64 v3] 32)).alloc (.cells #[.int .i64 0, .int .i64 0, .int .i64 0, .int .i64 0] 32)) w.heap.size #[.int .i64 v0, .int .i64 v1, .int .i64 v2, .int .i64 v3] 32 ∧ Boxed ((w.alloc (.cells #[.int .i64 v0, .int .i64 v1, .int .i64 v2, .int .i64 v3] 32)).alloc (.cells #[.int .i64 0, .int .i64 0, .int .i64 0, .int .i64 0] 32)) (w.heap.size + 1) #[.int .i64 0, .int .i64 0, .int .i64 0, .int .i64 0] 32 ∧ Below w.heap.size w ((w.alloc (.cells #[.int .i64 v0, .int .i64 v1, .int .i64 v2, .int .i64 v3] 32)).alloc (.cells #[.int .i64 0, .int .i64 0, .int .i64 0, .int .i64 0] 32))) := by
    refine ⟨(Boxed.new w _ _).more _, ?_, ((Below.refl _ _).alloc (Nat.le_refl _) _).alloc (by simp) _⟩
    have := Boxed.new (w.alloc (.cells #[.int .i64 v0, .int .i64 v1, .int .i64 v2, .int .i64 v3] 32)) #[.int .i64 0, .int .i64 0, .int .i64 0, .int .i64 0] 32
    simpa using this
  go_enter Try.func20, Try.ntmps20
  go_wp2_with fail
  refine (A1'.out _).mono ?_
  rintro e w1 ⟨rfl, q⟩
  have X1 : Hid (Boxed w1 w.heap.size #[.int .i64 v0, .int .i64 v1, .int .i64 v2, .int .i64 v3] 32 ∧ Boxed w1 (w.heap.size + 1) #[.int .i64 0, .int .i64 0, .int .i64 0, .int .i64 0] 32 ∧ Below w.heap.size w w1) := ⟨X.out.1.below X.out.1.under q, X.out.2.1.below X.out.2.1.under q, X.out.2.2.trans (q.mono X.out.2.2.size)⟩
  clear q X
  cases ok
  · have e1 : F = ⟨0, 0, 0, 0⟩ := by rw [Hv.out]; rfl
    subst e1
    go_wp2_with (refine wpList_store_row rfl 32 (.tmp 4) (.tmp 8) rfl (w.heap.size + 1) #[.int .i64 0, .int .i64 0, .int .i64 0, .int .i64 0] rfl rfl _ _ X1.out.2.1 (by kernel_rfl) rfl (pzOnes _ _ _ _) ?_)
    exact bodyPost_ret (results_cell_row Try.results20 _ _ (w.heap.size + 1) _ _ _ _ rfl (setRow_heap _ (w.heap.size + 1) _ _ _ _ X1.out.2.1) Try.underlying32 rfl (by kernel_rfl)) rfl ⟨rfl, below_setRow X1.out.2.2 (by omega) _⟩
  have c3 : w1.cell? ⟨w.heap.size, 3, none⟩ = some (.int .i64 v3) := X1.out.1.cell 3 rfl
  go_wp2_with fail
  refine (A2'.out _).mono ?_
  rintro e w2 ⟨rfl, hw⟩
  have hw := hw.symm
  subst hw
  clear c3
  cases tt
  · have e1 : F = ⟨v0, v1, v2, v3⟩ := by rw [Hv.out]; rfl
    subst e1
    go_wp2_with (first | (refine wpList_load_row rfl 32 (.tmp 2) rfl w.heap.size rfl _ _ _ _ X1.out.1 Try.underlying32 rfl (by kernel_rfl) ?_) | (refine wpList_store_row rfl 32 (.tmp 4) (.tmp 14) rfl (w.heap.size + 1) _ rfl rfl _ _ X1.out.2.1 (by kernel_rfl) rfl (pzOnes _ _ _ _) ?_))
    exact bodyPost_ret (results_cell_row Try.results20 _ _ (w.heap.size + 1) _ _ _ _ rfl (setRow_heap _ (w.heap.size + 1) _ _ _ _ X1.out.2.1) Try.underlying32 rfl (by kernel_rfl)) rfl ⟨rfl, below_setRow X1.out.2.2 (by omega) _⟩
  have e1 : F = ⟨g0, g1, g2, g3⟩ := by rw [Hv.out]; rfl
  subst e1
  have c0 : w1.cell? ⟨w.heap.size, 0, none⟩ = some (.int .i64 v0) := X1.out.1.cell 0 rfl
  have c1 : w1.cell? ⟨w.heap.size, 1, none⟩ = some (.int .i64 v1) := X1.out.1.cell 1 rfl
  have c2 : w1.cell? ⟨w.heap.size, 2, none⟩ = some (.int .i64 v2) := X1.out.1.cell 2 rfl
  have c3 : w1.cell? ⟨w.heap.size, 3, none⟩ = some (.int .i64 v3) := X1.out.1.cell 3 rfl
  go_wp2_with fail
  refine (A3'.out _ (by first | exact trivial | exact rfl) (by first | exact trivial | exact rfl)).mono ?_
  rintro e w2 ⟨rfl, q⟩
  have X2 : Hid (Boxed w2 (w.heap.size + 1) #[.int .i64 0, .int .i64 0, .int .i64 0, .int .i64 0] 32 ∧ Below w.heap.size w w2) := ⟨X1.out.2.1.below X1.out.2.1.under q, X1.out.2.2.trans (q.mono X1.out.2.2.size)⟩
  clear q X1 c0 c1 c2 c3
  go_wp2_with (refine wpList_store_row rfl 32 (.tmp 4) (.tmp 17) rfl (w.heap.size + 1) #[.int .i64 g0, .int .i64 g1, .int .i64 g2, .int .i64 g3] rfl rfl _ _ X2.out.1 (by kernel_rfl) rfl (pzOnes _ _ _ _) ?_)
  exact bodyPost_ret (results_cell_row Try.results20 _ _ (w.heap.size + 1) _ _ _ _ rfl (setRow_heap _ (w.heap.size + 1) _ _ _ _ X2.out.1) Try.underlying32 rfl (by kernel_rfl)) rfl ⟨rfl, below_setRow X2.out.2 (by omega) _⟩

set_option maxHeartbeats 3200000 in
set_option maxRecDepth 100000 in
theorem specWhenL (p : Pz) (n : Int) (w : World) (hok : p.ok = true) (h0 : 0 ≤ n) (h63 : n ≤ 9223372036854775807) :
    Calls Try.prog 41 #[p.val, .int .i64 n] w fun e w' => e = .returned (.int .i64 (p.whenL n)) ∧ Below w.heap.size w w' := by
  have h := Pz.ok_iff.1 hok
  unfold Pz.whenL
  obtain ⟨v0, v1, v2, v3⟩ := p
  simp only [Pz.val] at h ⊢
  have H : Hid (Below w.heap.size w (w.alloc (.cells #[.int .i64 v0, .int .i64 v1, .int .i64 v2, .int .i64 v3] 32))) := (Below.refl _ w).alloc (Nat.le_refl _) _
  by_cases h1 : n ≤ v2
  · rw [if_pos h1]
    go_enter Try.func41, Try.ntmps41
    go_wp2
    go_ret
    exact ⟨rfl, H.out⟩
  rw [if_neg h1]
  by_cases h2 : v0 = 0
  · rw [if_pos (.inl h2)]
    subst h2
    go_enter Try.func41, Try.ntmps41
    go_wp2
    go_ret
    exact ⟨rfl, H.out⟩
  by_cases h3 : v1 < n
  · rw [if_pos (.inr h3)]
    go_enter Try.func41, Try.ntmps41
    go_wp2
    go_ret
    exact ⟨rfl, H.out⟩
  rw [if_neg (by omega)]
  have hd0 : 0 ≤ (n - v2 + v0 - 1) / v0 := Int.ediv_nonneg (by omega) (by omega)
  have hd1 : (n - v2 + v0 - 1) / v0 ≤ n - v2 + v0 - 1 := Int.ediv_le_self _ (by omega)
  have k1 : IntKind.i64.wrap (n - v2) = n - v2 := by rw [IntKind.wrap_i64]; omega
  have k2 : IntKind.i64.wrap (n - v2 + v0) = n - v2 + v0 := by rw [IntKind.wrap_i64]; omega
  have k3 : IntKind.i64.wrap (n - v2 + v0 - 1) = n - v2 + v0 - 1 := by rw [IntKind.wrap_i64]; omega
  have kd : Int.tdiv (n - v2 + v0 - 1) v0 = (n - v2 + v0 - 1) / v0 := Int.tdiv_eq_ediv_of_nonneg (by omega)
  have k4 : IntKind.i64.wrap ((n - v2 + v0 - 1) / v0) = (n - v2 + v0 - 1) / v0 := by rw [IntKind.wrap_i64]; omega
  have k5 : IntKind.i64.wrap (v3 + (n - v2 + v0 - 1) / v0) = v3 + (n - v2 + v0 - 1) / v0 := by rw [IntKind.wrap_i64]; omega
  have H2 : Hid (Below w.heap.size w (w.alloc (.cells #[.int .i64 v0, .int .i64 v1, .int .i64 v2, .int .i64 v3] 32)).drew) := H.out.drew
  by_cases h4 : 1099511627776 < v3 + (n - v2 + v0 - 1) / v0
  · rw [if_pos h4]
    go_enter Try.func41, Try.ntmps41
    go_wp2
    go_region
    all_goals (
      go_wp2
      go_ret
      exact ⟨rfl, H2.out⟩)
  · rw [if_neg h4]
    go_enter Try.func41, Try.ntmps41
    go_wp2
    go_region
    all_goals (
      go_wp2
      go_ret
      exact ⟨rfl, H2.out⟩)

set_option maxHeartbeats 1600000 in
theorem specWhen (p : Pz) (n : Int) (w : World) (h63 : n ≤ 9223372036854775807) :
    Calls Try.prog 21 #[p.val, .int .i64 n] w fun e w' => e = .returned (.int .i64 (p.when n)) ∧ Below w.heap.size w w' := by
  have A1 := fun w => specPurseOkB p w
  have A2 := fun w h1 h2 => specWhenL p n w h1 h2 h63
  have Hv : Hid (p.when n = if p.ok = true ∧ 0 ≤ n then p.whenL n else -1) := rfl
  generalize p.when n = F at Hv ⊢
  generalize p.whenL n = G at A2 Hv
  generalize p.ok = ok at A1 A2 Hv
  obtain ⟨v0, v1, v2, v3⟩ := p
  simp only [Pz.val] at A1 A2 ⊢
  have A1' : Hid _ := A1
  have A2' : Hid _ := A2
  clear A1 A2
  have X : Hid (Boxed (w.alloc (.cells #[.int .i64 v0, .int .i64 v1, .int .i64 v2, .int .i64 v3] 32)) w.heap.size #[.int .i64 v0, .int .i64 v1, .int .i64 v2, .int .i64 v3] 32 ∧ Below w.heap.size w (w.alloc (.cells #[.int .i64 v0, .int .i64 v1, .int .i64 v2, .int .i64 v3] 32))) := ⟨Boxed.new _ _ _, (Below.refl _ _).alloc (Nat.le_refl _) _⟩
  go_enter Try.func21, Try.ntmps21
  go_wp2_with fail
  refine (A1'.out _).mono ?_
  rintro e w1 ⟨rfl, q⟩
  have X1 : Hid (Boxed w1 w.heap.size #[.int .i64 v0, .int .i64 v1, .int .i64 v2, .int .i64 v3] 32 ∧ Below w.heap.size w w1) := ⟨X.out.1.below X.out.1.under q, X.out.2.trans (q.mono X.out.2.size)⟩
  clear q X
  cases ok
  · go_wp2
    go_ret
    exact ⟨ret_num (by rw [Hv.out]; simp), X1.out.2⟩
  by_cases h0 : n < 0
  · go_wp2
    go_ret
    exact ⟨ret_num (by rw [Hv.out, if_neg (by omega)]), X1.out.2⟩
  have c0 : w1.cell? ⟨w.heap.size, 0, none⟩ = some (.int .i64 v0) := X1.out.1.cell 0 rfl
  have c1 : w1.cell? ⟨w.heap.size, 1, none⟩ = some (.int .i64 v1) := X1.out.1.cell 1 rfl
  have c2 : w1.cell? ⟨w.heap.size, 2, none⟩ = some (.int .i64 v2) := X1.out.1.cell 2 rfl
  have c3 : w1.cell? ⟨w.heap.size, 3, none⟩ = some (.int .i64 v3) := X1.out.1.cell 3 rfl
  go_wp2_with fail
  refine (A2'.out _ (by first | exact trivial | exact rfl) (by omega)).mono ?_
  rintro e w2 ⟨rfl, q⟩
  have X2 : Hid (Below w.heap.size w w2) := X1.out.2.trans (q.mono X1.out.2.size)
  clear q X1 c0 c1 c2 c3
  go_wp2
  go_ret
  exact ⟨ret_num (by rw [Hv.out, if_pos ⟨by first | exact trivial | exact rfl, by omega⟩]), X2.out⟩
set_option maxHeartbeats 6400000 in
set_option maxRecDepth 100000 in
theorem specSpent (p : Pz) (now n : Int) (w : World) (n0 : -9223372036854775808 ≤ n) :
    Calls Try.prog 19 #[p.val, .int .i64 now, .int .i64 n] w fun e w' => e = .returned (.tuple #[(p.spent now n).val, .bool (p.spentB now n)]) ∧ Below w.heap.size w w' := by
  have A1 := fun w => specPurseOkB p w
  have A2 := fun w => specIn now p.tm 1099511627776 w
  have A3 := fun w h1 h2 => specFillL p now w h1 h2
  have Hv : Hid (p.spent now n = if p.ok = true then (if p.at' now = true then (if (decide (0 ≤ n) && decide (n ≤ (p.fill now).level)) = true then ⟨(p.fill now).rate, (p.fill now).burst, (p.fill now).level - n, (p.fill now).tm⟩ else p.fill now) else p) else ⟨0, 0, 0, 0⟩) := rfl
  have Hb : Hid (p.spentB now n = (p.ok && (p.at' now && (decide (0 ≤ n) && decide (n ≤ (p.fill now).level))))) := rfl
  have Hl : p.ok = true → p.at' now = true → 0 ≤ (p.fill now).level ∧ (p.fill now).level ≤ 100000 := fun h1 h2 => by
    have h := Pz.ok_iff.1 h1
    unfold Pz.at' at h2
    rw [inB_true] at h2
    have hm := mul_small (a := p.rate) (b := now - p.tm) h.1.1 h.1.2 (by omega) (by omega)
    unfold Pz.fill
    simp only
    omega
  have e0 : inB p.tm 1099511627776 now = p.at' now := rfl
  rw [e0] at A2
  generalize p.spent now n = F at Hv ⊢
  generalize p.spentB now n = fb at Hb ⊢
  generalize p.fill now = G at A3 Hv Hb Hl
  generalize p.ok = ok at A1 A3 Hv Hb Hl
  generalize p.at' now = tt at A2 A3 Hv Hb Hl
  obtain ⟨v0, v1, v2, v3⟩ := p
  obtain ⟨g0, g1, g2, g3⟩ := G
  simp only [Pz.val] at A1 A2 A3 Hv Hb Hl ⊢
  have A1' : Hid _ := A1
  have A2' : Hid _ := A2
  have A3' : Hid _ := A3
  have HL : Hid _ := Hl
  clear A1 A2 A3 e0 Hl
  have X : Hid (Boxed ((w.alloc (.cells #[.int .i64 v0, .int .i64 v1, .int .i64 v2, .int .i64 v3] 32)).alloc (.cells #[.int .i64 0, .int .i64 0, .int .i64 0, .int .i64 0] 32)) w.heap.size #[.int .i64 v0, .int .i64 v1, .int .i64 v2, .int .i64 v3] 32 ∧ Boxed ((w.alloc (.cells #[.int .i64 v0, .int .i64 v1, .int .i64 v2, .int .i64 v3] 32)).alloc (.cells #[.int .i64 0, .int .i64 0, .int .i64 0, .int .i64 0] 32)) (w.heap.size + 1) #[.int .i64 0, .int .i64 0, .int .i64 0, .int .i64 0] 32 ∧ Below w.heap.size w ((w.alloc (.cells #[.int .i64 v0, .int .i64 v1, .int .i64 v2, .int .i64 v3] 32)).alloc (.cells #[.int .i64 0, .int .i64 0, .int .i64 0, .int .i64 0] 32))) := by
    refine ⟨(Boxed.new w _ _).more _, ?_, ((Below.refl _ _).alloc (Nat.le_refl _) _).alloc (by simp) _⟩
    have := Boxed.new (w.alloc (.cells #[.int .i64 v0, .int .i64 v1, .int .i64 v2, .int .i64 v3] 32)) #[.int .i64 0, .int .i64 0, .int .i64 0, .int .i64 0] 32
    simpa using this
  go_enter Try.func19, Try.ntmps19
  go_wp2_with fail
  refine (A1'.out _).mono ?_
  rintro e w1 ⟨rfl, q⟩
  have X1 : Hid (Boxed w1 w.heap.size #[.int .i64 v0, .int .i64 v1, .int .i64 v2, .int .i64 v3] 32 ∧ Boxed w1 (w.heap.size + 1) #[.int .i64 0, .int .i64 0, .int .i64 0, .int .i64 0] 32 ∧ Below w.heap.size w w1) := ⟨X.out.1.below X.out.1.under q, X.out.2.1.below X.out.2.1.under q, X.out.2.2.trans (q.mono X.out.2.2.size)⟩
  clear q X
  cases ok
  · have e1 : F = ⟨0, 0, 0, 0⟩ := by rw [Hv.out]; rfl
    have e2 : fb = false := by rw [Hb.out]; rfl
    subst e1
    subst e2
    go_wp2_with (refine wpList_store_row rfl 32 (.tmp 6) (.tmp 12) rfl (w.heap.size + 1) #[.int .i64 0, .int .i64 0, .int .i64 0, .int .i64 0] rfl rfl _ _ X1.out.2.1 (by kernel_rfl) rfl (pzOnes _ _ _ _) ?_)
    exact bodyPost_ret (results_row_tmp Try.results19 _ _ (w.heap.size + 1) _ #[.int .i64 0, .int .i64 0, .int .i64 0, .int .i64 0] _ _ (.bool false) rfl rfl (setRow_heap _ (w.heap.size + 1) _ _ _ _ X1.out.2.1) Try.underlying32 rfl (by kernel_rfl)) rfl ⟨rfl, below_setRow X1.out.2.2 (by omega) _⟩
  have c3 : w1.cell? ⟨w.heap.size, 3, none⟩ = some (.int .i64 v3) := X1.out.1.cell 3 rfl
  go_wp2_with fail
  refine (A2'.out _).mono ?_
  rintro e w2 ⟨rfl, hw⟩
  have hw := hw.symm
  subst hw
  clear c3
  cases tt
  · have e1 : F = ⟨v0, v1, v2, v3⟩ := by rw [Hv.out]; rfl
    have e2 : fb = false := by rw [Hb.out]; rfl
    subst e1
    subst e2
    go_wp2_with (first | (refine wpList_load_row rfl 32 (.tmp 3) rfl w.heap.size rfl _ _ _ _ X1.out.1 Try.underlying32 rfl (by kernel_rfl) ?_) | (refine wpList_store_row rfl 32 (.tmp 6) (.tmp 18) rfl (w.heap.size + 1) _ rfl rfl _ _ X1.out.2.1 (by kernel_rfl) rfl (pzOnes _ _ _ _) ?_))
    exact bodyPost_ret (results_row_tmp Try.results19 _ _ (w.heap.size + 1) _ #[.int .i64 v0, .int .i64 v1, .int .i64 v2, .int .i64 v3] _ _ (.bool false) rfl rfl (setRow_heap _ (w.heap.size + 1) _ _ _ _ X1.out.2.1) Try.underlying32 rfl (by kernel_rfl)) rfl ⟨rfl, below_setRow X1.out.2.2 (by omega) _⟩
  obtain ⟨l0, l1⟩ := HL.out (by first | exact trivial | exact rfl) (by first | exact trivial | exact rfl)
  have c0 : w1.cell? ⟨w.heap.size, 0, none⟩ = some (.int .i64 v0) := X1.out.1.cell 0 rfl
  have c1 : w1.cell? ⟨w.heap.size, 1, none⟩ = some (.int .i64 v1) := X1.out.1.cell 1 rfl
  have c2 : w1.cell? ⟨w.heap.size, 2, none⟩ = some (.int .i64 v2) := X1.out.1.cell 2 rfl
  have c3 : w1.cell? ⟨w.heap.size, 3, none⟩ = some (.int .i64 v3) := X1.out.1.cell 3 rfl
  go_wp2_with fail
  refine (A3'.out _ (by first | exact trivial | exact rfl) (by first | exact trivial | exact rfl)).mono ?_
  rintro e w2 ⟨rfl, q⟩
  go_upto_region 6 with fail
  have X2 : Hid (Boxed (w2.alloc (.cells #[.int .i64 g0, .int .i64 g1, .int .i64 g2, .int .i64 g3] 32)) w2.heap.size #[.int .i64 g0, .int .i64 g1, .int .i64 g2, .int .i64 g3] 32 ∧ Boxed (w2.alloc (.cells #[.int .i64 g0, .int .i64 g1, .int .i64 g2, .int .i64 g3] 32)) (w.heap.size + 1) #[.int .i64 0, .int .i64 0, .int .i64 0, .int .i64 0] 32 ∧ Below w.heap.size w (w2.alloc (.cells #[.int .i64 g0, .int .i64 g1, .int .i64 g2, .int .i64 g3] 32)) ∧ w.heap.size + 1 < w2.heap.size) := by
    have q2 := X1.out.2.2.trans (q.mono X1.out.2.2.size)
    exact ⟨Boxed.new _ _ _, (X1.out.2.1.below X1.out.2.1.under q).more _, q2.alloc q2.size _, Nat.lt_of_lt_of_le X1.out.2.1.under q.size⟩
  generalize w2.alloc (.cells #[.int .i64 g0, .int .i64 g1, .int .i64 g2, .int .i64 g3] 32) = w3 at X2 ⊢
  generalize w2.heap.size = B at X2 ⊢
  clear q X1 c0 c1 c2 c3
  have d2 : w3.cell? ⟨B, 2, none⟩ = some (.int .i64 g2) := X2.out.1.cell 2 rfl
  by_cases h0 : n < 0
  · have e1 : F = ⟨g0, g1, g2, g3⟩ := by rw [Hv.out, decide_eq_false (show ¬ 0 ≤ n by omega)]; rfl
    have e2 : fb = false := by rw [Hb.out, decide_eq_false (show ¬ 0 ≤ n by omega)]; rfl
    subst e1
    subst e2
    go_wp2_with (first | (refine wpList_load_row rfl 32 (.tmp 8) rfl B rfl _ _ _ _ X2.out.1 Try.underlying32 rfl (by kernel_rfl) ?_) | (refine wpList_store_row rfl 32 (.tmp 6) (.tmp 30) rfl (w.heap.size + 1) _ rfl rfl _ _ X2.out.2.1 (by kernel_rfl) rfl (pzOnes _ _ _ _) ?_))
    exact bodyPost_ret (results_row_tmp Try.results19 _ _ (w.heap.size + 1) _ #[.int .i64 g0, .int .i64 g1, .int .i64 g2, .int .i64 g3] _ _ (.bool false) rfl rfl (setRow_heap _ (w.heap.size + 1) _ _ _ _ X2.out.2.1) Try.underlying32 rfl (by kernel_rfl)) rfl ⟨rfl, below_setRow X2.out.2.2.1 (by omega) _⟩
  by_cases h1 : g2 < n
  · have e1 : F = ⟨g0, g1, g2, g3⟩ := by rw [Hv.out, decide_eq_false (show ¬ n ≤ g2 by omega), Bool.and_false]; rfl
    have e2 : fb = false := by rw [Hb.out, decide_eq_false (show ¬ n ≤ g2 by omega), Bool.and_false]; rfl
    subst e1
    subst e2
    go_wp2_with (first | (refine wpList_load_row rfl 32 (.tmp 8) rfl B rfl _ _ _ _ X2.out.1 Try.underlying32 rfl (by kernel_rfl) ?_) | (refine wpList_store_row rfl 32 (.tmp 6) (.tmp 30) rfl (w.heap.size + 1) _ rfl rfl _ _ X2.out.2.1 (by kernel_rfl) rfl (pzOnes _ _ _ _) ?_))
    exact bodyPost_ret (results_row_tmp Try.results19 _ _ (w.heap.size + 1) _ #[.int .i64 g0, .int .i64 g1, .int .i64 g2, .int .i64 g3] _ _ (.bool false) rfl rfl (setRow_heap _ (w.heap.size + 1) _ _ _ _ X2.out.2.1) Try.underlying32 rfl (by kernel_rfl)) rfl ⟨rfl, below_setRow X2.out.2.2.1 (by omega) _⟩
  have e1 : F = ⟨g0, g1, g2 - n, g3⟩ := by rw [Hv.out, decide_eq_true (show 0 ≤ n by omega), decide_eq_true (show n ≤ g2 by omega)]; rfl
  have e2 : fb = true := by rw [Hb.out, decide_eq_true (show 0 ≤ n by omega), decide_eq_true (show n ≤ g2 by omega)]; rfl
  subst e1
  subst e2
  have z2 := X2.out.1.ice 2
  have hBs : B < w3.heap.size := X2.out.1.under
  go_upto_region 9 with fail
  have X3 : Hid (Boxed (w3.setCell ⟨B, 2, none⟩ (.int .i64 (g2 - n))) B #[.int .i64 g0, .int .i64 g1, .int .i64 (g2 - n), .int .i64 g3] 32 ∧ Boxed (w3.setCell ⟨B, 2, none⟩ (.int .i64 (g2 - n))) (w.heap.size + 1) #[.int .i64 0, .int .i64 0, .int .i64 0, .int .i64 0] 32 ∧ Below w.heap.size w (w3.setCell ⟨B, 2, none⟩ (.int .i64 (g2 - n)))) := ⟨X2.out.1.put 2 _, X2.out.2.1.far (by have := X2.out.2.2.2; omega) 2 _, X2.out.2.2.1.setCell (by have := X2.out.2.2.2; show w.heap.size ≤ B; omega) _⟩
  generalize w3.setCell ⟨B, 2, none⟩ (.int .i64 (g2 - n)) = w4 at X3 ⊢
  clear X2 d2 z2 hBs
  go_wp2_with (first | (refine wpList_load_row rfl 32 (.tmp 8) rfl B rfl _ _ _ _ X3.out.1 Try.underlying32 rfl (by kernel_rfl) ?_) | (refine wpList_store_row rfl 32 (.tmp 6) (.tmp 36) rfl (w.heap.size + 1) _ rfl rfl _ _ X3.out.2.1 (by kernel_rfl) rfl (pzOnes _ _ _ _) ?_))
  exact bodyPost_ret (results_row_tmp Try.results19 _ _ (w.heap.size + 1) _ #[.int .i64 g0, .int .i64 g1, .int .i64 (g2 - n), .int .i64 g3] _ _ (.bool true) rfl rfl (setRow_heap _ (w.heap.size + 1) _ _ _ _ X3.out.2.1) Try.underlying32 rfl (by kernel_rfl)) rfl ⟨rfl, below_setRow X3.out.2.2 (by omega) _⟩
end Go.Proofs.Ytkdofeanpcbihaa
