/-
  The walk of the program's foremost rule, and what it comes to. By the verifier, by program.
-/
import Derived.Test.YtdifegaokdoleaaRuMin
namespace Go.Proofs.Ytdifegaokdoleaa
open Go.RowKit

/-- The foremost one; where there is none, all nought. -/
def frontV (l : List Ru) : Ru := if l.length = 0 then ⟨0, 0, 0, 0, 0, 0, 0, 0, 0, 0⟩ else frontK l l.length

set_option maxHeartbeats 3200000 in
set_option maxRecDepth 100000 in
theorem implFore (a : Option Addr) (cap : Nat) (l : List Ru) (w : World) (hT : l.length ≤ 40) (h : Hid (RusAt w a l)) :
    Calls Try.prog 38 #[.slice a l.length cap] w fun e w' => e = .returned (frontV l).val ∧ Below w.heap.size w w' := by
  unfold frontV
  by_cases h0 : l.length = 0
  · rw [if_pos h0, h0]
    have hB : Hid (Below w.heap.size w (w.alloc (.cells #[.int .i64 0, .int .i64 0, .int .i64 0, .int .i64 0, .int .i64 0, .int .i64 0, .int .i64 0, .int .i64 0, .int .i64 0, .int .i64 0] 32))) := (Below.refl _ _).alloc (Nat.le_refl _) _
    go_enter Try.func38, Try.ntmps38
    go_wp2
    refine bodyPost_ret (v := .agg #[.int .i64 0, .int .i64 0, .int .i64 0, .int .i64 0, .int .i64 0, .int .i64 0, .int .i64 0, .int .i64 0, .int .i64 0, .int .i64 0]) (by simp [results, Try.results38, go_sem]) rfl ⟨rfl, hB.out⟩
  · rw [if_neg h0]
    have M := fun w h => implMin a cap l w hT (by omega) h
    generalize frontK l l.length = m at M ⊢
    generalize l.length = len at M h0 hT ⊢
    have hne : ((len : Int) == 0) = false := by rw [beq_eq_false_iff_ne]; omega
    have X0 : Hid (Below w.heap.size w (w.alloc (.cells #[.int .i64 0, .int .i64 0, .int .i64 0, .int .i64 0, .int .i64 0, .int .i64 0, .int .i64 0, .int .i64 0, .int .i64 0, .int .i64 0] 32)) ∧ Boxed (w.alloc (.cells #[.int .i64 0, .int .i64 0, .int .i64 0, .int .i64 0, .int .i64 0, .int .i64 0, .int .i64 0, .int .i64 0, .int .i64 0, .int .i64 0] 32)) w.heap.size #[.int .i64 0, .int .i64 0, .int .i64 0, .int .i64 0, .int .i64 0, .int .i64 0, .int .i64 0, .int .i64 0, .int .i64 0, .int .i64 0] 32 ∧ RusAt (w.alloc (.cells #[.int .i64 0, .int .i64 0, .int .i64 0, .int .i64 0, .int .i64 0, .int .i64 0, .int .i64 0, .int .i64 0, .int .i64 0, .int .i64 0] 32)) a l) := ⟨(Below.refl _ _).alloc (Nat.le_refl _) _, Boxed.new _ _ _, h.out.alloc _⟩
    have M' : Hid _ := M
    clear M
    go_enter Try.func38, Try.ntmps38
    go_wp2_with fail
    refine (M'.out _ X0.out.2.2).mono ?_
    unfold Ru.val
    rintro e w1 ⟨rfl, q⟩
    have X1 : Hid (Below w.heap.size w w1 ∧ Boxed w1 w.heap.size #[.int .i64 0, .int .i64 0, .int .i64 0, .int .i64 0, .int .i64 0, .int .i64 0, .int .i64 0, .int .i64 0, .int .i64 0, .int .i64 0] 32) := ⟨X0.out.1.trans (q.mono X0.out.1.size), X0.out.2.1.below X0.out.2.1.under q⟩
    clear q X0
    have e0 : w1.cell? ⟨w.heap.size, 0, none⟩ = some (.int .i64 0) := X1.out.2.cell 0 rfl
    have e1 : w1.cell? ⟨w.heap.size, 1, none⟩ = some (.int .i64 0) := X1.out.2.cell 1 rfl
    have e2 : w1.cell? ⟨w.heap.size, 2, none⟩ = some (.int .i64 0) := X1.out.2.cell 2 rfl
    have e3 : w1.cell? ⟨w.heap.size, 3, none⟩ = some (.int .i64 0) := X1.out.2.cell 3 rfl
    have e4 : w1.cell? ⟨w.heap.size, 4, none⟩ = some (.int .i64 0) := X1.out.2.cell 4 rfl
    have e5 : w1.cell? ⟨w.heap.size, 5, none⟩ = some (.int .i64 0) := X1.out.2.cell 5 rfl
    have e6 : w1.cell? ⟨w.heap.size, 6, none⟩ = some (.int .i64 0) := X1.out.2.cell 6 rfl
    have e7 : w1.cell? ⟨w.heap.size, 7, none⟩ = some (.int .i64 0) := X1.out.2.cell 7 rfl
    have e8 : w1.cell? ⟨w.heap.size, 8, none⟩ = some (.int .i64 0) := X1.out.2.cell 8 rfl
    have e9 : w1.cell? ⟨w.heap.size, 9, none⟩ = some (.int .i64 0) := X1.out.2.cell 9 rfl
    have i0 : w1.frozen? ⟨w.heap.size, 0, none⟩ = false := X1.out.2.ice 0
    have i1 : w1.frozen? ⟨w.heap.size, 1, none⟩ = false := X1.out.2.ice 1
    have i2 : w1.frozen? ⟨w.heap.size, 2, none⟩ = false := X1.out.2.ice 2
    have i3 : w1.frozen? ⟨w.heap.size, 3, none⟩ = false := X1.out.2.ice 3
    have i4 : w1.frozen? ⟨w.heap.size, 4, none⟩ = false := X1.out.2.ice 4
    have i5 : w1.frozen? ⟨w.heap.size, 5, none⟩ = false := X1.out.2.ice 5
    have i6 : w1.frozen? ⟨w.heap.size, 6, none⟩ = false := X1.out.2.ice 6
    have i7 : w1.frozen? ⟨w.heap.size, 7, none⟩ = false := X1.out.2.ice 7
    have i8 : w1.frozen? ⟨w.heap.size, 8, none⟩ = false := X1.out.2.ice 8
    have i9 : w1.frozen? ⟨w.heap.size, 9, none⟩ = false := X1.out.2.ice 9
    have B : Hid (Below w.heap.size w ((((((((((w1.setCell ⟨w.heap.size, 0, none⟩ (.int .i64 m.id)).setCell ⟨w.heap.size, 1, none⟩ (.int .i64 m.prio)).setCell ⟨w.heap.size, 2, none⟩ (.int .i64 m.snet)).setCell ⟨w.heap.size, 3, none⟩ (.int .i64 m.sbits)).setCell ⟨w.heap.size, 4, none⟩ (.int .i64 m.dnet)).setCell ⟨w.heap.size, 5, none⟩ (.int .i64 m.dbits)).setCell ⟨w.heap.size, 6, none⟩ (.int .i64 m.proto)).setCell ⟨w.heap.size, 7, none⟩ (.int .i64 m.low)).setCell ⟨w.heap.size, 8, none⟩ (.int .i64 m.high)).setCell ⟨w.heap.size, 9, none⟩ (.int .i64 m.cls))) := below_sets m X1.out.1 (Nat.le_refl _)
    have BX : Hid (Boxed ((((((((((w1.setCell ⟨w.heap.size, 0, none⟩ (.int .i64 m.id)).setCell ⟨w.heap.size, 1, none⟩ (.int .i64 m.prio)).setCell ⟨w.heap.size, 2, none⟩ (.int .i64 m.snet)).setCell ⟨w.heap.size, 3, none⟩ (.int .i64 m.sbits)).setCell ⟨w.heap.size, 4, none⟩ (.int .i64 m.dnet)).setCell ⟨w.heap.size, 5, none⟩ (.int .i64 m.dbits)).setCell ⟨w.heap.size, 6, none⟩ (.int .i64 m.proto)).setCell ⟨w.heap.size, 7, none⟩ (.int .i64 m.low)).setCell ⟨w.heap.size, 8, none⟩ (.int .i64 m.high)).setCell ⟨w.heap.size, 9, none⟩ (.int .i64 m.cls)) w.heap.size #[.int .i64 m.id, .int .i64 m.prio, .int .i64 m.snet, .int .i64 m.sbits, .int .i64 m.dnet, .int .i64 m.dbits, .int .i64 m.proto, .int .i64 m.low, .int .i64 m.high, .int .i64 m.cls] 32) := boxed_sets ⟨0, 0, 0, 0, 0, 0, 0, 0, 0, 0⟩ m X1.out.2
    go_wp2
    refine bodyPost_ret (results_cell_row Try.results38 _ _ w.heap.size _ _ _ _ rfl BX.out Try.underlying32 rfl (by kernel_rfl)) rfl ⟨rfl, B.out⟩

theorem frontK_more {M : List Ru} (hM : M ≠ []) (r : Ru) : ∀ k, k ≤ M.length → frontK (M ++ [r]) k = frontK M k := by
  have h0 : 0 < M.length := List.length_pos_iff.2 hM
  have hat : ∀ k, k < M.length → ruAt (M ++ [r]) k = ruAt M k := fun k hk => by unfold ruAt; rw [List.getElem?_append_left hk]
  intro k
  induction k with
  | zero => intro _; exact hat 0 h0
  | succ k ih =>
    intro hk
    show (if (ruAt (M ++ [r]) k).ahead (frontK (M ++ [r]) k) = true then ruAt (M ++ [r]) k else frontK (M ++ [r]) k) = if (ruAt M k).ahead (frontK M k) = true then ruAt M k else frontK M k
    rw [ih (by omega), hat k (by omega)]
theorem front_snoc (M : List Ru) (r : Ru) : frontK (M ++ [r]) (M ++ [r]).length = if M = [] then r else if r.ahead (frontK M M.length) = true then r else frontK M M.length := by
  have hr : ruAt (M ++ [r]) M.length = r := by unfold ruAt; simp
  by_cases hM : M = []
  · subst hM
    rw [if_pos rfl]
    show frontK [r] 1 = r
    rw [frontK_one]
    rfl
  · rw [if_neg hM, List.length_append, List.length_singleton]
    show (if (ruAt (M ++ [r]) M.length).ahead (frontK (M ++ [r]) M.length) = true then ruAt (M ++ [r]) M.length else frontK (M ++ [r]) M.length) = _
    rw [hr, frontK_more hM r _ (Nat.le_refl _)]
theorem best_front (l : List Ru) (f : Fr) : ∀ k, k ≤ l.length → (bestK l f k < 0 ∧ (l.take k).filter (fun r => r.hits f) = []) ∨ (0 ≤ bestK l f k ∧ (l.take k).filter (fun r => r.hits f) ≠ [] ∧ ruAt l (bestK l f k).toNat = frontK ((l.take k).filter fun r => r.hits f) ((l.take k).filter fun r => r.hits f).length) := by
  intro k
  induction k with
  | zero => intro _; left; exact ⟨by show (-1 : Int) < 0; omega, rfl⟩
  | succ k ih =>
    intro hk
    have hk' : k < l.length := by omega
    have htk : (l.take (k + 1)).filter (fun r => r.hits f) = if (ruAt l k).hits f = true then (l.take k).filter (fun r => r.hits f) ++ [ruAt l k] else (l.take k).filter (fun r => r.hits f) := by
      rw [List.take_succ_eq_append_getElem hk', List.filter_append, ruAt_lt hk']
      cases h : (l[k]).hits f <;> simp [h]
    rw [htk, bestK_succ]
    unfold bestStep
    cases hh : (ruAt l k).hits f
    · simp only [Bool.false_and, Bool.false_eq_true, if_false]
      exact ih (by omega)
    · simp only [Bool.true_and, if_true]
      rcases ih (by omega) with ⟨hb, hM⟩ | ⟨hb, hM, he⟩
      · right
        rw [decide_eq_true hb]
        simp only [Bool.true_or, if_true]
        refine ⟨by omega, by simp, ?_⟩
        rw [front_snoc, if_pos hM]
        simp
      · right
        rw [decide_eq_false (by omega)]
        simp only [Bool.false_or]
        rw [front_snoc, if_neg hM, ← he]
        by_cases ha : (ruAt l k).ahead (ruAt l (bestK l f k).toNat) = true
        · rw [if_pos ha, if_pos ha]
          exact ⟨by omega, by simp, by simp⟩
        · rw [if_neg ha, if_neg ha]
          exact ⟨hb, by simp, rfl⟩
/-- The foremost one of those that match says. -/
theorem class_front (l : List Ru) (f : Fr) : (frontV (l.filter fun r => r.hits f)).cls = classL l f := by
  have h := best_front l f l.length (Nat.le_refl _)
  rw [List.take_of_length_le (Nat.le_refl _)] at h
  unfold frontV classL
  rcases h with ⟨hb, hM⟩ | ⟨hb, hM, he⟩
  · rw [if_pos hb, hM]
    rfl
  · rw [if_neg (fun e => hM (List.length_eq_zero_iff.1 e)), if_neg (show ¬ bestK l f l.length < 0 by omega), he]
end Go.Proofs.Ytdifegaokdoleaa
