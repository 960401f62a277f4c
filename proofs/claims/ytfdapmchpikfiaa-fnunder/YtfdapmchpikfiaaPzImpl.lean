/-
  The walks of the program's purses: PurseOk, Filled, Spent, When. By the verifier.
-/
import Derived.Test.YtfdapmchpikfiaaM0PzPlain
import Derived.Test.YtfdapmchpikfiaaM6PlaceI
import Derived.Test.YtfdapmchpikfiaaM1DrawCur
import Derived.Test.YtfdapmchpikfiaaStepRow
import Derived.Laws.ResultCell
import Derived.Laws.CopyOwn
import Derived.WalkKit
import Derived.WalkSpells
import Derived.WalkLawsBesides
import Derived.RegionTactic
namespace Go.Proofs.Ytfdapmchpikfiaa
open Go.RowKit

theorem implTime (t : Int) (w : World) :
    Calls Try.prog 58 #[.int .i64 t] w fun e w' => e = .returned (.bool (inB 0 1099511627776 t)) ∧ w' = w.alloc (.cells #[.int .i64 t] 2) := by
  have A1 := fun B w h => implUpTo1 1099511627776 t w B h
  generalize inB 0 1099511627776 t = b1 at A1 ⊢
  have A1' : Hid _ := A1
  clear A1
  go_enter Try.func58, Try.ntmps58
  go_wp2_with fail
  refine (A1'.out _ _ (by simp)).mono ?_
  rintro e w' ⟨rfl, rfl⟩
  go_wp2
  go_ret
  exact ⟨rfl, rfl⟩
theorem implTimeB (t : Int) (w : World) :
    Calls Try.prog 58 #[.int .i64 t] w fun e w' => e = .returned (.bool (inB 0 1099511627776 t)) ∧ Below w.heap.size w w' :=
  (implTime t w).mono fun _ _ h => ⟨h.1, by rw [h.2]; exact (Below.refl _ _).alloc (Nat.le_refl _) _⟩

theorem implTimeFrom (lo t : Int) (w : World) :
    Calls Try.prog 52 #[.int .i64 lo, .int .i64 t] w fun e w' => e = .returned (.bool (decide (lo ≤ t) && inB 0 1099511627776 t)) ∧ Below w.heap.size w w' := by
  have A1 := fun w => implTimeB t w
  generalize inB 0 1099511627776 t = b1 at A1 ⊢
  have A1' : Hid _ := A1
  clear A1
  by_cases h : lo ≤ t
  · rw [decide_eq_true h]
    go_enter Try.func52, Try.ntmps52
    go_wp2_with fail
    refine (A1'.out _).mono ?_
    rintro e w' ⟨rfl, q⟩
    have q' : Hid _ := q
    clear q
    go_wp2
    go_ret
    exact ⟨rfl, q'.out⟩
  · rw [decide_eq_false h]
    go_enter Try.func52, Try.ntmps52
    go_wp2
    go_ret
    exact ⟨rfl, Below.refl _ _⟩

set_option maxHeartbeats 1600000 in
theorem implPurseOk (p : Pz) (w : World) :
    Calls Try.prog 45 #[p.val] w fun e w' => e = .returned (.bool p.ok) ∧ Below w.heap.size w w' := by
  have Hok : Hid (p.ok = (inB 0 1000 p.rate && (inB 1 100000 p.burst && (inB 0 p.burst p.level && inB 0 1099511627776 p.tm)))) := rfl
  obtain ⟨v0, v1, v2, v3⟩ := p
  generalize Pz.ok _ = ok at Hok ⊢
  simp only [Pz.val] at Hok ⊢
  have A1 := fun B w h => implUpTo1 1000 v0 w B h
  have A2 := fun B w h => implFromOne 100000 v1 B w h
  have A3 := fun B w h => implUpTo1 v1 v2 w B h
  have A4 := fun w => implTime v3 w
  generalize inB 0 1000 v0 = b1 at A1 Hok
  generalize inB 1 100000 v1 = b2 at A2 Hok
  generalize inB 0 v1 v2 = b3 at A3 Hok
  generalize inB 0 1099511627776 v3 = b4 at A4 Hok
  have A1' : Hid _ := A1
  have A2' : Hid _ := A2
  have A3' : Hid _ := A3
  have A4' : Hid _ := A4
  clear A1 A2 A3 A4
  go_enter Try.func45, Try.ntmps45
  go_wp2_with fail
  refine (A1'.out _ _ (by simp)).mono ?_
  rintro e w' ⟨rfl, rfl⟩
  cases b1
  · go_wp2
    go_ret
    exact ⟨ret_bool (by rw [Hok.out]; rfl), by repeat (first | exact Below.refl _ _ | refine Below.alloc ?_ (by simp <;> omega) _)⟩
  go_wp2_with fail
  refine (A2'.out _ _ (by simp)).mono ?_
  rintro e w' ⟨rfl, rfl⟩
  cases b2
  · go_wp2
    go_ret
    exact ⟨ret_bool (by rw [Hok.out]; rfl), by repeat (first | exact Below.refl _ _ | refine Below.alloc ?_ (by simp <;> omega) _)⟩
  go_wp2_with fail
  refine (A3'.out _ _ (by simp)).mono ?_
  rintro e w' ⟨rfl, rfl⟩
  cases b3
  · go_wp2
    go_ret
    exact ⟨ret_bool (by rw [Hok.out]; rfl), by repeat (first | exact Below.refl _ _ | refine Below.alloc ?_ (by simp <;> omega) _)⟩
  go_wp2_with fail
  refine (A4'.out _).mono ?_
  rintro e w' ⟨rfl, rfl⟩
  go_wp2
  go_ret
  exact ⟨ret_bool (by rw [Hok.out]; rfl), by repeat (first | exact Below.refl _ _ | refine Below.alloc ?_ (by simp <;> omega) _)⟩

theorem Pz.at_of {p : Pz} {now : Int} (h : p.ok = true) : (decide (p.tm ≤ now) && inB 0 1099511627776 now) = p.at' now := by
  have h' := Pz.ok_iff.1 h
  unfold Pz.at'
  rw [Bool.eq_iff_iff]
  simp only [Bool.and_eq_true, inB_true, decide_eq_true_eq]
  omega

set_option maxHeartbeats 3200000 in
set_option maxRecDepth 100000 in
theorem implFilled (p : Pz) (now : Int) (w : World) :
    Calls Try.prog 26 #[p.val, .int .i64 now] w fun e w' => e = .returned (p.filled now).val ∧ Below w.heap.size w w' := by
  have A1 := fun w => implPurseOk p w
  have A2 := fun w => implTimeFrom p.tm now w
  have Hv : Hid (p.filled now = if p.ok = true then (if p.at' now = true then p.fill now else p) else ⟨0, 0, 0, 0⟩) := rfl
  have HA : Hid (p.ok = true → (decide (p.tm ≤ now) && inB 0 1099511627776 now) = p.at' now) := Pz.at_of
  have HR : Hid (p.ok = true → p.at' now = true → IntKind.i64.wrap (now - p.tm) = now - p.tm ∧ IntKind.i64.wrap (p.rate * (now - p.tm)) = p.rate * (now - p.tm) ∧ IntKind.i64.wrap (p.level + p.rate * (now - p.tm)) = p.level + p.rate * (now - p.tm)) := fun h1 h2 => by
    have h := Pz.ok_iff.1 h1
    unfold Pz.at' at h2
    rw [inB_true] at h2
    have hm := mul_small (a := p.rate) (b := now - p.tm) h.1.1 h.1.2 (by omega) (by omega)
    rw [IntKind.wrap_i64, IntKind.wrap_i64, IntKind.wrap_i64]
    omega
  have HF : Hid (p.fill now = ⟨p.rate, p.burst, min p.burst (p.level + p.rate * (now - p.tm)), now⟩) := rfl
  generalize p.filled now = F at Hv ⊢
  generalize p.fill now = G at HF Hv
  generalize (decide (p.tm ≤ now) && inB 0 1099511627776 now) = tf at A2 HA
  generalize p.ok = ok at A1 Hv HA HR
  generalize p.at' now = tt at HA Hv HR
  obtain ⟨v0, v1, v2, v3⟩ := p
  simp only [Pz.val] at A1 A2 HF HR ⊢
  have A1' : Hid _ := A1
  have A2' : Hid _ := A2
  clear A1 A2
  have X : Hid (Boxed ((w.alloc (.cells #[.int .i64 v0, .int .i64 v1, .int .i64 v2, .int .i64 v3] 38)).alloc (.cells #[.int .i64 0, .int .i64 0, .int .i64 0, .int .i64 0] 38)) w.heap.size #[.int .i64 v0, .int .i64 v1, .int .i64 v2, .int .i64 v3] 38 ∧ Boxed ((w.alloc (.cells #[.int .i64 v0, .int .i64 v1, .int .i64 v2, .int .i64 v3] 38)).alloc (.cells #[.int .i64 0, .int .i64 0, .int .i64 0, .int .i64 0] 38)) (w.heap.size + 1) #[.int .i64 0, .int .i64 0, .int .i64 0, .int .i64 0] 38 ∧ Below w.heap.size w ((w.alloc (.cells #[.int .i64 v0, .int .i64 v1, .int .i64 v2, .int .i64 v3] 38)).alloc (.cells #[.int .i64 0, .int .i64 0, .int .i64 0, .int .i64 0] 38))) := by
    refine ⟨(Boxed.new w _ _).more _, ?_, ((Below.refl _ _).alloc (Nat.le_refl _) _).alloc (by simp) _⟩
    have := Boxed.new (w.alloc (.cells #[.int .i64 v0, .int .i64 v1, .int .i64 v2, .int .i64 v3] 38)) #[.int .i64 0, .int .i64 0, .int .i64 0, .int .i64 0] 38
    simpa using this
  go_enter Try.func26, Try.ntmps26
  go_wp2_with (refine wpList_load_row rfl 38 (.tmp 2) rfl w.heap.size rfl _ _ _ _ X.out.1 Try.underlying38 rfl (by kernel_rfl) ?_)
  refine (A1'.out _).mono ?_
  rintro e w1 ⟨rfl, q⟩
  have X1 : Hid (Boxed w1 w.heap.size #[.int .i64 v0, .int .i64 v1, .int .i64 v2, .int .i64 v3] 38 ∧ Boxed w1 (w.heap.size + 1) #[.int .i64 0, .int .i64 0, .int .i64 0, .int .i64 0] 38 ∧ Below w.heap.size w w1) := ⟨X.out.1.below X.out.1.under q, X.out.2.1.below X.out.2.1.under q, X.out.2.2.trans (q.mono X.out.2.2.size)⟩
  clear q X
  cases ok
  · have e1 : F = ⟨0, 0, 0, 0⟩ := by rw [Hv.out]; rfl
    subst e1
    go_wp2_with (refine wpList_store_row rfl 38 (.tmp 4) (.tmp 8) rfl (w.heap.size + 1) #[.int .i64 0, .int .i64 0, .int .i64 0, .int .i64 0] rfl rfl _ _ X1.out.2.1 (by kernel_rfl) rfl (pzOnes _ _ _ _) ?_)
    exact bodyPost_ret (results_cell_row Try.results26 _ _ (w.heap.size + 1) _ _ _ _ rfl (setRow_heap _ (w.heap.size + 1) _ _ _ _ X1.out.2.1) Try.underlying38 rfl (by kernel_rfl)) rfl ⟨rfl, below_setRow X1.out.2.2 (by omega) _⟩
  have hta : tf = tt := HA.out (by first | exact trivial | exact rfl)
  subst hta
  have c3 : w1.cell? ⟨w.heap.size, 3, none⟩ = some (.int .i64 v3) := X1.out.1.cell 3 rfl
  go_wp2_with fail
  refine (A2'.out _).mono ?_
  rintro e w2 ⟨rfl, q⟩
  have X2 : Hid (Boxed w2 w.heap.size #[.int .i64 v0, .int .i64 v1, .int .i64 v2, .int .i64 v3] 38 ∧ Boxed w2 (w.heap.size + 1) #[.int .i64 0, .int .i64 0, .int .i64 0, .int .i64 0] 38 ∧ Below w.heap.size w w2) := ⟨X1.out.1.below X1.out.1.under q, X1.out.2.1.below X1.out.2.1.under q, X1.out.2.2.trans (q.mono X1.out.2.2.size)⟩
  clear q X1 c3
  cases tf
  · have e1 : F = ⟨v0, v1, v2, v3⟩ := by rw [Hv.out]; rfl
    subst e1
    go_wp2_with (first | (refine wpList_load_row rfl 38 (.tmp 2) rfl w.heap.size rfl _ _ _ _ X2.out.1 Try.underlying38 rfl (by kernel_rfl) ?_) | (refine wpList_store_row rfl 38 (.tmp 4) (.tmp 14) rfl (w.heap.size + 1) _ rfl rfl _ _ X2.out.2.1 (by kernel_rfl) rfl (pzOnes _ _ _ _) ?_))
    exact bodyPost_ret (results_cell_row Try.results26 _ _ (w.heap.size + 1) _ _ _ _ rfl (setRow_heap _ (w.heap.size + 1) _ _ _ _ X2.out.2.1) Try.underlying38 rfl (by kernel_rfl)) rfl ⟨rfl, below_setRow X2.out.2.2 (by omega) _⟩
  have e1 : F = G := by rw [Hv.out]; rfl
  subst e1
  obtain ⟨k1, k2, k3⟩ := HR.out (by first | exact trivial | exact rfl) (by first | exact trivial | exact rfl)
  have c0 : w2.cell? ⟨w.heap.size, 0, none⟩ = some (.int .i64 v0) := X2.out.1.cell 0 rfl
  have c1 : w2.cell? ⟨w.heap.size, 1, none⟩ = some (.int .i64 v1) := X2.out.1.cell 1 rfl
  have c2 : w2.cell? ⟨w.heap.size, 2, none⟩ = some (.int .i64 v2) := X2.out.1.cell 2 rfl
  have c3 : w2.cell? ⟨w.heap.size, 3, none⟩ = some (.int .i64 v3) := X2.out.1.cell 3 rfl
  have z2 := X2.out.1.ice 2
  have z3 := X2.out.1.ice 3
  have hl : w.heap.size < w2.heap.size := X2.out.1.under
  obtain ⟨z, hz⟩ : ∃ z, (if v1 < v2 + v0 * (now - v3) then v1 else v2 + v0 * (now - v3)) = z := ⟨_, rfl⟩
  have hz2 : min v1 (v2 + v0 * (now - v3)) = z := by
    rw [← hz]
    split <;> omega
  rw [hz2] at HF
  have e2 := HF.out
  subst e2
  have HZ : Hid _ := hz
  have X4 : Hid (Boxed ((w2.setCell ⟨w.heap.size, 2, none⟩ (.int .i64 z)).setCell ⟨w.heap.size, 3, none⟩ (.int .i64 now)) w.heap.size #[.int .i64 v0, .int .i64 v1, .int .i64 z, .int .i64 now] 38 ∧ Boxed ((w2.setCell ⟨w.heap.size, 2, none⟩ (.int .i64 z)).setCell ⟨w.heap.size, 3, none⟩ (.int .i64 now)) (w.heap.size + 1) #[.int .i64 0, .int .i64 0, .int .i64 0, .int .i64 0] 38 ∧ Below w.heap.size w ((w2.setCell ⟨w.heap.size, 2, none⟩ (.int .i64 z)).setCell ⟨w.heap.size, 3, none⟩ (.int .i64 now))) := ⟨(X2.out.1.put 2 _).put 3 _, (X2.out.2.1.far (by omega) 2 _).far (by omega) 3 _, (X2.out.2.2.setCell (Nat.le_refl _) _).setCell (Nat.le_refl _) _⟩
  clear hz hz2 HF
  go_upto_region 7 with fail
  rw [HZ.out]
  generalize (w2.setCell ⟨w.heap.size, 2, none⟩ (.int .i64 z)).setCell ⟨w.heap.size, 3, none⟩ (.int .i64 now) = w4 at X4 ⊢
  clear X2 c0 c1 c2 c3 z2 z3 hl k1 k2 k3 HZ
  go_wp2_with (first | (refine wpList_load_row rfl 38 (.tmp 2) rfl w.heap.size rfl _ _ _ _ X4.out.1 Try.underlying38 rfl (by kernel_rfl) ?_) | (refine wpList_store_row rfl 38 (.tmp 4) (.tmp 31) rfl (w.heap.size + 1) _ rfl rfl _ _ X4.out.2.1 (by kernel_rfl) rfl (pzOnes _ _ _ _) ?_))
  exact bodyPost_ret (results_cell_row Try.results26 _ _ (w.heap.size + 1) _ _ _ _ rfl (setRow_heap _ (w.heap.size + 1) _ _ _ _ X4.out.2.1) Try.underlying38 rfl (by kernel_rfl)) rfl ⟨rfl, below_setRow X4.out.2.2 (by omega) _⟩
end Go.Proofs.Ytfdapmchpikfiaa
