/-
  The walks of the model's paces. By the verifier.
-/
import Derived.Test.YtkdofeanpcbihaaPePlain
import Derived.Test.YtkdofeanpcbihaaNumIn
import Derived.Test.YtkdofeanpcbihaaBoxed
import Derived.Test.YtkdofeanpcbihaaStepRow
import Derived.Test.YtkdofeanpcbihaaQuiet
import Derived.BigQuiet
import Derived.Deep.DeepCutAuto
import Derived.Laws.ResultCell
import Derived.Laws.CopyOwn
import Derived.WalkKit
import Derived.WalkSpells
import Derived.WalkLawsBesides
import Derived.RegionTactic
namespace Go.Proofs.Ytkdofeanpcbihaa
open Go.RowKit

theorem specTp (t : Int) (w : World) :
    Calls Try.prog 29 #[.int .i64 t] w fun e w' => e = .returned (.bool (inB 0 1099511627776 t)) ∧ w' = w := by
  go_enter Try.func29, Try.ntmps29
  go_wp2_with (go_at_call 39; refine (specIn _ _ _ _).mono ?_; rintro e w' ⟨rfl, rfl⟩)
  go_ret
  exact ⟨rfl, rfl⟩
theorem specMx (a b : Int) (w : World) :
    Calls Try.prog 30 #[.int .i64 a, .int .i64 b] w fun e w' => e = .returned (.int .i64 (max a b)) ∧ w' = w := by
  by_cases h : b < a
  · go_enter Try.func30, Try.ntmps30
    go_wp2
    go_ret
    exact ⟨ret_num (by omega), rfl⟩
  · go_enter Try.func30, Try.ntmps30
    go_wp2
    go_ret
    exact ⟨ret_num (by omega), rfl⟩

set_option maxHeartbeats 1600000 in
theorem specPace (p : Pe) (w : World) :
    Calls Try.prog 28 #[p.val] w fun e w' => e = .returned (.bool p.ok) ∧ Below w.heap.size w w' := by
  have Hok : Hid (p.ok = (inB 1 1000 p.gap && (inB 0 10000 p.slack && (inB 0 1099511627776 p.next && (inB 0 1099511627776 p.fill && inB 0 1099511627776 p.last))))) := rfl
  obtain ⟨v0, v1, v2, v3, v4⟩ := p
  generalize Pe.ok _ = ok at Hok ⊢
  simp only [Pe.val] at Hok ⊢
  have A1 := fun w => specIn v0 1 1000 w
  have A2 := fun w => specIn v1 0 10000 w
  have A3 := fun w => specTp v2 w
  have A4 := fun w => specTp v3 w
  have A5 := fun w => specTp v4 w
  generalize inB 1 1000 v0 = b1 at A1 Hok
  generalize inB 0 10000 v1 = b2 at A2 Hok
  generalize inB 0 1099511627776 v2 = b3 at A3 Hok
  generalize inB 0 1099511627776 v3 = b4 at A4 Hok
  generalize inB 0 1099511627776 v4 = b5 at A5 Hok
  have A1' : Hid _ := A1
  have A2' : Hid _ := A2
  have A3' : Hid _ := A3
  have A4' : Hid _ := A4
  have A5' : Hid _ := A5
  clear A1 A2 A3 A4 A5
  have H : Hid (Below w.heap.size w (w.alloc (.cells #[.int .i64 v0, .int .i64 v1, .int .i64 v2, .int .i64 v3, .int .i64 v4] 25))) := (Below.refl _ _).alloc (Nat.le_refl _) _
  go_enter Try.func28, Try.ntmps28
  go_wp2_with fail
  refine (A1'.out _).mono ?_
  rintro e w' ⟨rfl, rfl⟩
  cases b1
  · go_wp2
    go_ret
    exact ⟨ret_bool (by rw [Hok.out]; rfl), H.out⟩
  go_wp2_with fail
  refine (A2'.out _).mono ?_
  rintro e w' ⟨rfl, rfl⟩
  cases b2
  · go_wp2
    go_ret
    exact ⟨ret_bool (by rw [Hok.out]; rfl), H.out⟩
  go_wp2_with fail
  refine (A3'.out _).mono ?_
  rintro e w' ⟨rfl, rfl⟩
  cases b3
  · go_wp2
    go_ret
    exact ⟨ret_bool (by rw [Hok.out]; rfl), H.out⟩
  go_wp2_with fail
  refine (A4'.out _).mono ?_
  rintro e w' ⟨rfl, rfl⟩
  cases b4
  · go_wp2
    go_ret
    exact ⟨ret_bool (by rw [Hok.out]; rfl), H.out⟩
  go_wp2_with fail
  refine (A5'.out _).mono ?_
  rintro e w' ⟨rfl, rfl⟩
  go_wp2
  go_ret
  exact ⟨ret_bool (by rw [Hok.out]; rfl), H.out⟩

set_option maxHeartbeats 6400000 in
set_option maxRecDepth 100000 in
theorem specEarly (p : Pe) (now : Int) (w : World) :
    Calls Try.prog 10 #[p.val, .int .i64 now] w fun e w' => e = .returned (.tuple #[(p.early now).val, .bool (p.earlyB now)]) ∧ Below w.heap.size w w' := by
  have A1 := fun w => specPace p w
  have A2 := fun w => (specTp now w).mono (R' := fun e w' => e = .returned (.bool (inB 0 1099511627776 now)) ∧ Below w.heap.size w w') fun _ _ h => ⟨h.1, by rw [h.2]; exact Below.refl _ _⟩
  have A3 := fun w => (specMx p.next now w).mono (R' := fun e w' => e = .returned (.int .i64 (max p.next now)) ∧ Below w.heap.size w w') fun _ _ h => ⟨h.1, by rw [h.2]; exact Below.refl _ _⟩
  have Hv : Hid (p.early now = if p.earlyB now = true then ⟨p.gap, p.slack, max p.next now + p.gap, p.fill, p.last⟩ else p) := rfl
  have Hb : Hid (p.earlyB now = (p.ok && (inB 0 1099511627776 now && (decide (p.next ≤ now + p.slack) && decide (max p.next now + p.gap ≤ 1099511627776))))) := rfl
  have Hr : p.ok = true → inB 0 1099511627776 now = true → IntKind.i64.wrap (now + p.slack) = now + p.slack ∧ IntKind.i64.wrap (max p.next now + p.gap) = max p.next now + p.gap := fun h1 h2 => by
    have h := Pe.ok_iff.1 h1
    rw [inB_true] at h2
    rw [IntKind.wrap_i64, IntKind.wrap_i64]
    omega
  generalize p.early now = F at Hv ⊢
  generalize p.earlyB now = fb at Hv Hb ⊢
  generalize p.ok = ok at A1 Hb Hr
  generalize inB 0 1099511627776 now = tt at A2 Hb Hr
  obtain ⟨v0, v1, v2, v3, v4⟩ := p
  simp only [Pe.val] at A1 A3 Hv Hb Hr ⊢
  obtain ⟨mx, hmx⟩ : ∃ mx, max v2 now = mx := ⟨_, rfl⟩
  rw [hmx] at A3 Hv Hb Hr
  have A1' : Hid _ := A1
  have A2' : Hid _ := A2
  have A3' : Hid _ := A3
  have HR : Hid _ := Hr
  clear A1 A2 A3 hmx Hr
  obtain ⟨w1, hw1⟩ : ∃ w1, w1 = (w.alloc (.cells #[.int .i64 v0, .int .i64 v1, .int .i64 v2, .int .i64 v3, .int .i64 v4] 25)).alloc (.cells #[.int .i64 0, .int .i64 0, .int .i64 0, .int .i64 0, .int .i64 0] 25) := ⟨_, rfl⟩
  have X1 : Hid (Boxed w1 w.heap.size #[.int .i64 v0, .int .i64 v1, .int .i64 v2, .int .i64 v3, .int .i64 v4] 25 ∧ Boxed w1 (w.heap.size + 1) #[.int .i64 0, .int .i64 0, .int .i64 0, .int .i64 0, .int .i64 0] 25 ∧ Below w.heap.size w w1) := by
    rw [hw1]
    refine ⟨(Boxed.new w _ _).more _, ?_, ((Below.refl _ _).alloc (Nat.le_refl _) _).alloc (by simp) _⟩
    have := Boxed.new (w.alloc (.cells #[.int .i64 v0, .int .i64 v1, .int .i64 v2, .int .i64 v3, .int .i64 v4] 25)) #[.int .i64 0, .int .i64 0, .int .i64 0, .int .i64 0, .int .i64 0] 25
    simpa using this
  have HW : Hid (w1 = _) := hw1
  clear hw1
  go_enter Try.func10, Try.ntmps10
  go_upto_region 1 with fail
  rw [← HW.out]
  go_cut [32] (fun s wc => Hid (s = .bool (!fb) ∧ (fb = true → ok = true ∧ tt = true) ∧ Boxed wc w.heap.size #[.int .i64 v0, .int .i64 v1, .int .i64 v2, .int .i64 v3, .int .i64 v4] 25 ∧ Boxed wc (w.heap.size + 1) #[.int .i64 0, .int .i64 0, .int .i64 0, .int .i64 0, .int .i64 0] 25 ∧ Below w.heap.size w wc))
  case first =>
    have Go : Hid (∀ wq, Below w1.heap.size w1 wq → Boxed wq w.heap.size #[.int .i64 v0, .int .i64 v1, .int .i64 v2, .int .i64 v3, .int .i64 v4] 25 ∧ Boxed wq (w.heap.size + 1) #[.int .i64 0, .int .i64 0, .int .i64 0, .int .i64 0, .int .i64 0] 25 ∧ Below w.heap.size w wq) := fun wq q => ⟨X1.out.1.below X1.out.1.under q, X1.out.2.1.below X1.out.2.1.under q, X1.out.2.2.trans (q.mono X1.out.2.2.size)⟩
    haveI : Nonempty (BelW w1.heap.size w1) := ⟨⟨w1, Below.refl _ _⟩⟩
    have c0 : ∀ q : BelW w1.heap.size w1, q.w'.cell? ⟨w.heap.size, 0, none⟩ = some (.int .i64 v0) := fun q => (Go.out _ q.h).1.cell 0 rfl
    have c1 : ∀ q : BelW w1.heap.size w1, q.w'.cell? ⟨w.heap.size, 1, none⟩ = some (.int .i64 v1) := fun q => (Go.out _ q.h).1.cell 1 rfl
    have c2 : ∀ q : BelW w1.heap.size w1, q.w'.cell? ⟨w.heap.size, 2, none⟩ = some (.int .i64 v2) := fun q => (Go.out _ q.h).1.cell 2 rfl
    have c3 : ∀ q : BelW w1.heap.size w1, q.w'.cell? ⟨w.heap.size, 3, none⟩ = some (.int .i64 v3) := fun q => (Go.out _ q.h).1.cell 3 rfl
    have c4 : ∀ q : BelW w1.heap.size w1, q.w'.cell? ⟨w.heap.size, 4, none⟩ = some (.int .i64 v4) := fun q => (Go.out _ q.h).1.cell 4 rfl
    clear X1
    cases ok
    · have ep : fb = false := by rw [Hb.out]; rfl
      subst ep
      go_wp2_with fail
      refine region_below w1.heap.size (by kernel_rfl) (by kernel_rfl) ?_
      repeat (go_big_quiet_step ((first | (go_at_call 28; refine quiet_below (Nat.le_refl _) (A1'.out _)) | (go_at_call 29; refine quiet_below (Nat.le_refl _) (A2'.out _)) | (go_at_call 30; refine quiet_below (Nat.le_refl _) (A3'.out _)))))
      refine wpQuiet_nil ?_
      intro wq hx
      have GQ : Hid _ := Go.out _ (BelW.out hx)
      clear hx
      go_wp2_with fail
      go_meet
      exact ⟨rfl, (fun h => by cases h), GQ.out⟩
    cases tt
    · have ep : fb = false := by rw [Hb.out]; rfl
      subst ep
      go_wp2_with fail
      refine region_below w1.heap.size (by kernel_rfl) (by kernel_rfl) ?_
      repeat (go_big_quiet_step ((first | (go_at_call 28; refine quiet_below (Nat.le_refl _) (A1'.out _)) | (go_at_call 29; refine quiet_below (Nat.le_refl _) (A2'.out _)) | (go_at_call 30; refine quiet_below (Nat.le_refl _) (A3'.out _)))))
      refine wpQuiet_nil ?_
      intro wq hx
      have GQ : Hid _ := Go.out _ (BelW.out hx)
      clear hx
      go_wp2_with fail
      go_meet
      exact ⟨rfl, (fun h => by cases h), GQ.out⟩
    obtain ⟨k1, k2⟩ := HR.out (by first | exact trivial | exact rfl) (by first | exact trivial | exact rfl)
    by_cases h1 : now + v1 < v2
    · have ep : fb = false := by rw [Hb.out, decide_eq_false (show ¬ v2 ≤ now + v1 by omega)]; rfl
      subst ep
      have h1' : decide (now + v1 < v2) = true := decide_eq_true h1
      go_wp2_with fail
      refine region_below w1.heap.size (by kernel_rfl) (by kernel_rfl) ?_
      repeat (go_big_quiet_step ((first | (go_at_call 28; refine quiet_below (Nat.le_refl _) (A1'.out _)) | (go_at_call 29; refine quiet_below (Nat.le_refl _) (A2'.out _)) | (go_at_call 30; refine quiet_below (Nat.le_refl _) (A3'.out _)))))
      refine wpQuiet_nil ?_
      intro wq hx
      have GQ : Hid _ := Go.out _ (BelW.out hx)
      clear hx
      go_wp2_with fail
      go_meet
      exact ⟨rfl, (fun h => by cases h), GQ.out⟩
    have h1' : decide (now + v1 < v2) = false := decide_eq_false h1
    by_cases h2 : 1099511627776 < mx + v0
    · have ep : fb = false := by rw [Hb.out, decide_eq_false (show ¬ mx + v0 ≤ 1099511627776 by omega), Bool.and_false]; rfl
      subst ep
      have h2' : decide (1099511627776 < mx + v0) = true := decide_eq_true h2
      go_wp2_with fail
      refine region_below w1.heap.size (by kernel_rfl) (by kernel_rfl) ?_
      repeat (go_big_quiet_step ((first | (go_at_call 28; refine quiet_below (Nat.le_refl _) (A1'.out _)) | (go_at_call 29; refine quiet_below (Nat.le_refl _) (A2'.out _)) | (go_at_call 30; refine quiet_below (Nat.le_refl _) (A3'.out _)))))
      refine wpQuiet_nil ?_
      intro wq hx
      have GQ : Hid _ := Go.out _ (BelW.out hx)
      clear hx
      go_wp2_with fail
      go_meet
      exact ⟨rfl, (fun h => by cases h), GQ.out⟩
    have h2' : decide (1099511627776 < mx + v0) = false := decide_eq_false h2
    have ep : fb = true := by rw [Hb.out, decide_eq_true (show v2 ≤ now + v1 by omega), decide_eq_true (show mx + v0 ≤ 1099511627776 by omega)]; rfl
    subst ep
    go_wp2_with fail
    refine region_below w1.heap.size (by kernel_rfl) (by kernel_rfl) ?_
    repeat (go_big_quiet_step ((first | (go_at_call 28; refine quiet_below (Nat.le_refl _) (A1'.out _)) | (go_at_call 29; refine quiet_below (Nat.le_refl _) (A2'.out _)) | (go_at_call 30; refine quiet_below (Nat.le_refl _) (A3'.out _)))))
    refine wpQuiet_nil ?_
    intro wq hx
    have GQ : Hid _ := Go.out _ (BelW.out hx)
    clear hx
    go_wp2_with fail
    go_meet
    exact ⟨rfl, fun _ => ⟨by first | exact trivial | exact rfl, by first | exact trivial | exact rfl⟩, GQ.out⟩
  case rest =>
  obtain ⟨rfl, hot, hP⟩ := hcut.out
  obtain ⟨w2, rfl⟩ : ∃ w2, w2 = wc := ⟨_, rfl⟩
  have X2 : Hid (Boxed w2 w.heap.size #[.int .i64 v0, .int .i64 v1, .int .i64 v2, .int .i64 v3, .int .i64 v4] 25 ∧ Boxed w2 (w.heap.size + 1) #[.int .i64 0, .int .i64 0, .int .i64 0, .int .i64 0, .int .i64 0] 25 ∧ Below w.heap.size w w2) := hP
  clear hcut hP X1
  cases fb
  · have e1 : F = ⟨v0, v1, v2, v3, v4⟩ := by rw [Hv.out]; rfl
    subst e1
    clear hot
    go_wp2_with (first | (refine wpList_load_row rfl 25 (.tmp 2) rfl w.heap.size rfl _ _ _ _ X2.out.1 Try.underlying25 rfl (by kernel_rfl) ?_) | (refine wpList_store_row rfl 25 (.tmp 4) (.tmp 33) rfl (w.heap.size + 1) _ rfl rfl _ _ X2.out.2.1 (by kernel_rfl) rfl (peOnes _ _ _ _ _) ?_))
    exact bodyPost_ret (results_row_tmp Try.results10 _ _ (w.heap.size + 1) _ #[.int .i64 v0, .int .i64 v1, .int .i64 v2, .int .i64 v3, .int .i64 v4] _ _ (.bool false) rfl rfl (setRow_heap _ (w.heap.size + 1) _ _ _ _ X2.out.2.1) Try.underlying25 rfl (by kernel_rfl)) rfl ⟨rfl, below_setRow X2.out.2.2 (by omega) _⟩
  have e1 : F = ⟨v0, v1, mx + v0, v3, v4⟩ := by rw [Hv.out]; rfl
  subst e1
  obtain ⟨o1, o2⟩ := hot rfl
  obtain ⟨k1, k2⟩ := HR.out o1 o2
  have d0 : w2.cell? ⟨w.heap.size, 0, none⟩ = some (.int .i64 v0) := X2.out.1.cell 0 rfl
  have d2 : w2.cell? ⟨w.heap.size, 2, none⟩ = some (.int .i64 v2) := X2.out.1.cell 2 rfl
  have z2 := X2.out.1.ice 2
  have hl : w.heap.size < w2.heap.size := X2.out.1.under
  clear hot o1 o2 HR k1
  go_wp2_with fail
  go_cut [] (fun wz => Hid (Boxed wz w.heap.size #[.int .i64 v0, .int .i64 v1, .int .i64 (mx + v0), .int .i64 v3, .int .i64 v4] 25 ∧ Boxed wz (w.heap.size + 1) #[.int .i64 0, .int .i64 0, .int .i64 0, .int .i64 0, .int .i64 0] 25 ∧ Below w.heap.size w wz))
  case first =>
    go_region_law (refine stepCall rfl 30 rfl #[.int .i64 v2, .int .i64 now] (by kernel_rfl) (A3'.out w2.drew) ?_; rintro e w3 ⟨rfl, q⟩; refine ⟨_, rfl, ?_⟩; have q6 : Below w2.heap.size w2 w3 := (Below.refl _ w2).drew.trans q; have R : Hid (Boxed (w3.setCell ⟨w.heap.size, 2, none⟩ (.int .i64 (mx + v0))) w.heap.size #[.int .i64 v0, .int .i64 v1, .int .i64 (mx + v0), .int .i64 v3, .int .i64 v4] 25 ∧ Boxed (w3.setCell ⟨w.heap.size, 2, none⟩ (.int .i64 (mx + v0))) (w.heap.size + 1) #[.int .i64 0, .int .i64 0, .int .i64 0, .int .i64 0, .int .i64 0] 25 ∧ Below w.heap.size w (w3.setCell ⟨w.heap.size, 2, none⟩ (.int .i64 (mx + v0)))) := ⟨(X2.out.1.below X2.out.1.under q6).put 2 _, (X2.out.2.1.below X2.out.2.1.under q6).far (by omega) 2 _, (X2.out.2.2.trans (q6.mono X2.out.2.2.size)).setCell (Nat.le_refl _) _⟩; have f0 : w3.cell? ⟨w.heap.size, 0, none⟩ = some (.int .i64 v0) := (X2.out.1.below X2.out.1.under q6).cell 0 rfl; have f2 : w3.cell? ⟨w.heap.size, 2, none⟩ = some (.int .i64 v2) := (X2.out.1.below X2.out.1.under q6).cell 2 rfl; have f3 := (X2.out.1.below X2.out.1.under q6).ice 2; have hl3 : w.heap.size < w3.heap.size := (X2.out.1.below X2.out.1.under q6).under; clear q q6)
    all_goals (go_wp2_with fail; go_meet; exact R.out)
  case rest =>
  have X4 : Hid (Boxed wc w.heap.size #[.int .i64 v0, .int .i64 v1, .int .i64 (mx + v0), .int .i64 v3, .int .i64 v4] 25 ∧ Boxed wc (w.heap.size + 1) #[.int .i64 0, .int .i64 0, .int .i64 0, .int .i64 0, .int .i64 0] 25 ∧ Below w.heap.size w wc) := hcut
  clear hcut X2 d0 d2 z2 hl
  go_wp2_with (first | (refine wpList_load_row rfl 25 (.tmp 2) rfl w.heap.size rfl _ _ _ _ X4.out.1 Try.underlying25 rfl (by kernel_rfl) ?_) | (refine wpList_store_row rfl 25 (.tmp 4) (.tmp 42) rfl (w.heap.size + 1) _ rfl rfl _ _ X4.out.2.1 (by kernel_rfl) rfl (peOnes _ _ _ _ _) ?_))
  exact bodyPost_ret (results_row_tmp Try.results10 _ _ (w.heap.size + 1) _ #[.int .i64 v0, .int .i64 v1, .int .i64 (mx + v0), .int .i64 v3, .int .i64 v4] _ _ (.bool true) rfl rfl (setRow_heap _ (w.heap.size + 1) _ _ _ _ X4.out.2.1) Try.underlying25 rfl (by kernel_rfl)) rfl ⟨rfl, below_setRow X4.out.2.2 (by omega) _⟩
set_option maxHeartbeats 6400000 in
set_option maxRecDepth 100000 in
theorem specLeaky (p : Pe) (now : Int) (w : World) :
    Calls Try.prog 11 #[p.val, .int .i64 now] w fun e w' => e = .returned (.tuple #[(p.leaky now).val, .bool (p.leakyB now)]) ∧ Below w.heap.size w w' := by
  have A1 := fun w => specPace p w
  have A2 := fun w => specTp now w
  have A3 := fun w => specMx 0 (p.fill - (now - p.last)) w
  have Hv : Hid (p.leaky now = if p.leakyB now = true then ⟨p.gap, p.slack, p.next, p.left now + p.gap, now⟩ else p) := rfl
  have Hb : Hid (p.leakyB now = (p.ok && (inB 0 1099511627776 now && (decide (p.last ≤ now) && decide (p.left now ≤ p.slack))))) := rfl
  have Hr : p.ok = true → inB 0 1099511627776 now = true → IntKind.i64.wrap (now - p.last) = now - p.last ∧ IntKind.i64.wrap (p.fill - (now - p.last)) = p.fill - (now - p.last) ∧ IntKind.i64.wrap (p.left now + p.gap) = p.left now + p.gap := fun h1 h2 => by
    have h := Pe.ok_iff.1 h1
    rw [inB_true] at h2
    unfold Pe.left
    rw [IntKind.wrap_i64, IntKind.wrap_i64, IntKind.wrap_i64]
    omega
  have e0 : max 0 (p.fill - (now - p.last)) = p.left now := rfl
  rw [e0] at A3
  generalize p.left now = lf at A3 Hv Hb Hr
  generalize p.leaky now = F at Hv ⊢
  generalize p.leakyB now = fb at Hv Hb ⊢
  generalize p.ok = ok at A1 Hb Hr
  generalize inB 0 1099511627776 now = tt at A2 Hb Hr
  obtain ⟨v0, v1, v2, v3, v4⟩ := p
  simp only [Pe.val] at A1 A3 Hv Hb Hr ⊢
  have A1' : Hid _ := A1
  have A2' : Hid _ := A2
  have A3' : Hid _ := A3
  have HR : Hid _ := Hr
  clear A1 A2 A3 Hr e0
  have X : Hid (Boxed ((w.alloc (.cells #[.int .i64 v0, .int .i64 v1, .int .i64 v2, .int .i64 v3, .int .i64 v4] 25)).alloc (.cells #[.int .i64 0, .int .i64 0, .int .i64 0, .int .i64 0, .int .i64 0] 25)) w.heap.size #[.int .i64 v0, .int .i64 v1, .int .i64 v2, .int .i64 v3, .int .i64 v4] 25 ∧ Boxed ((w.alloc (.cells #[.int .i64 v0, .int .i64 v1, .int .i64 v2, .int .i64 v3, .int .i64 v4] 25)).alloc (.cells #[.int .i64 0, .int .i64 0, .int .i64 0, .int .i64 0, .int .i64 0] 25)) (w.heap.size + 1) #[.int .i64 0, .int .i64 0, .int .i64 0, .int .i64 0, .int .i64 0] 25 ∧ Below w.heap.size w ((w.alloc (.cells #[.int .i64 v0, .int .i64 v1, .int .i64 v2, .int .i64 v3, .int .i64 v4] 25)).alloc (.cells #[.int .i64 0, .int .i64 0, .int .i64 0, .int .i64 0, .int .i64 0] 25))) := by
    refine ⟨(Boxed.new w _ _).more _, ?_, ((Below.refl _ _).alloc (Nat.le_refl _) _).alloc (by simp) _⟩
    have := Boxed.new (w.alloc (.cells #[.int .i64 v0, .int .i64 v1, .int .i64 v2, .int .i64 v3, .int .i64 v4] 25)) #[.int .i64 0, .int .i64 0, .int .i64 0, .int .i64 0, .int .i64 0] 25
    simpa using this
  go_enter Try.func11, Try.ntmps11
  go_wp2_with fail
  refine (A1'.out _).mono ?_
  rintro e w1 ⟨rfl, q⟩
  have X1 : Hid (Boxed w1 w.heap.size #[.int .i64 v0, .int .i64 v1, .int .i64 v2, .int .i64 v3, .int .i64 v4] 25 ∧ Boxed w1 (w.heap.size + 1) #[.int .i64 0, .int .i64 0, .int .i64 0, .int .i64 0, .int .i64 0] 25 ∧ Below w.heap.size w w1) := ⟨X.out.1.below X.out.1.under q, X.out.2.1.below X.out.2.1.under q, X.out.2.2.trans (q.mono X.out.2.2.size)⟩
  clear q X
  cases ok
  · have e2 : fb = false := by rw [Hb.out]; rfl
    subst e2
    have e1 : F = ⟨v0, v1, v2, v3, v4⟩ := by rw [Hv.out]; rfl
    subst e1
    go_wp2_with (first | (refine wpList_load_row rfl 25 (.tmp 2) rfl w.heap.size rfl _ _ _ _ X1.out.1 Try.underlying25 rfl (by kernel_rfl) ?_) | (refine wpList_store_row rfl 25 (.tmp 4) (.tmp 21) rfl (w.heap.size + 1) _ rfl rfl _ _ X1.out.2.1 (by kernel_rfl) rfl (peOnes _ _ _ _ _) ?_))
    exact bodyPost_ret (results_row_tmp Try.results11 _ _ (w.heap.size + 1) _ #[.int .i64 v0, .int .i64 v1, .int .i64 v2, .int .i64 v3, .int .i64 v4] _ _ (.bool false) rfl rfl (setRow_heap _ (w.heap.size + 1) _ _ _ _ X1.out.2.1) Try.underlying25 rfl (by kernel_rfl)) rfl ⟨rfl, below_setRow X1.out.2.2 (by omega) _⟩
  go_wp2_with fail
  refine (A2'.out _).mono ?_
  rintro e w2 ⟨rfl, hw⟩
  have hw := hw.symm
  subst hw
  cases tt
  · have e2 : fb = false := by rw [Hb.out]; rfl
    subst e2
    have e1 : F = ⟨v0, v1, v2, v3, v4⟩ := by rw [Hv.out]; rfl
    subst e1
    go_wp2_with (first | (refine wpList_load_row rfl 25 (.tmp 2) rfl w.heap.size rfl _ _ _ _ X1.out.1 Try.underlying25 rfl (by kernel_rfl) ?_) | (refine wpList_store_row rfl 25 (.tmp 4) (.tmp 21) rfl (w.heap.size + 1) _ rfl rfl _ _ X1.out.2.1 (by kernel_rfl) rfl (peOnes _ _ _ _ _) ?_))
    exact bodyPost_ret (results_row_tmp Try.results11 _ _ (w.heap.size + 1) _ #[.int .i64 v0, .int .i64 v1, .int .i64 v2, .int .i64 v3, .int .i64 v4] _ _ (.bool false) rfl rfl (setRow_heap _ (w.heap.size + 1) _ _ _ _ X1.out.2.1) Try.underlying25 rfl (by kernel_rfl)) rfl ⟨rfl, below_setRow X1.out.2.2 (by omega) _⟩
  obtain ⟨k1, k2, k3⟩ := HR.out (by first | exact trivial | exact rfl) (by first | exact trivial | exact rfl)
  have c0 : w1.cell? ⟨w.heap.size, 0, none⟩ = some (.int .i64 v0) := X1.out.1.cell 0 rfl
  have c1 : w1.cell? ⟨w.heap.size, 1, none⟩ = some (.int .i64 v1) := X1.out.1.cell 1 rfl
  have c3 : w1.cell? ⟨w.heap.size, 3, none⟩ = some (.int .i64 v3) := X1.out.1.cell 3 rfl
  have c4 : w1.cell? ⟨w.heap.size, 4, none⟩ = some (.int .i64 v4) := X1.out.1.cell 4 rfl
  by_cases h1 : now < v4
  · have e2 : fb = false := by rw [Hb.out, decide_eq_false (show ¬ v4 ≤ now by omega)]; rfl
    subst e2
    have e1 : F = ⟨v0, v1, v2, v3, v4⟩ := by rw [Hv.out]; rfl
    subst e1
    clear c0 c1 c3
    go_wp2_with (first | (refine wpList_load_row rfl 25 (.tmp 2) rfl w.heap.size rfl _ _ _ _ X1.out.1 Try.underlying25 rfl (by kernel_rfl) ?_) | (refine wpList_store_row rfl 25 (.tmp 4) (.tmp 21) rfl (w.heap.size + 1) _ rfl rfl _ _ X1.out.2.1 (by kernel_rfl) rfl (peOnes _ _ _ _ _) ?_))
    exact bodyPost_ret (results_row_tmp Try.results11 _ _ (w.heap.size + 1) _ #[.int .i64 v0, .int .i64 v1, .int .i64 v2, .int .i64 v3, .int .i64 v4] _ _ (.bool false) rfl rfl (setRow_heap _ (w.heap.size + 1) _ _ _ _ X1.out.2.1) Try.underlying25 rfl (by kernel_rfl)) rfl ⟨rfl, below_setRow X1.out.2.2 (by omega) _⟩
  go_wp2_with fail
  refine (A3'.out _).mono ?_
  rintro e w2 ⟨rfl, hw⟩
  have hw := hw.symm
  subst hw
  by_cases h2 : v1 < lf
  · have e2 : fb = false := by rw [Hb.out, decide_eq_false (show ¬ lf ≤ v1 by omega), Bool.and_false]; rfl
    subst e2
    have e1 : F = ⟨v0, v1, v2, v3, v4⟩ := by rw [Hv.out]; rfl
    subst e1
    clear c0 c3 c4
    go_wp2_with (first | (refine wpList_load_row rfl 25 (.tmp 2) rfl w.heap.size rfl _ _ _ _ X1.out.1 Try.underlying25 rfl (by kernel_rfl) ?_) | (refine wpList_store_row rfl 25 (.tmp 4) (.tmp 34) rfl (w.heap.size + 1) _ rfl rfl _ _ X1.out.2.1 (by kernel_rfl) rfl (peOnes _ _ _ _ _) ?_))
    exact bodyPost_ret (results_row_tmp Try.results11 _ _ (w.heap.size + 1) _ #[.int .i64 v0, .int .i64 v1, .int .i64 v2, .int .i64 v3, .int .i64 v4] _ _ (.bool false) rfl rfl (setRow_heap _ (w.heap.size + 1) _ _ _ _ X1.out.2.1) Try.underlying25 rfl (by kernel_rfl)) rfl ⟨rfl, below_setRow X1.out.2.2 (by omega) _⟩
  have e2 : fb = true := by rw [Hb.out, decide_eq_true (show v4 ≤ now by omega), decide_eq_true (show lf ≤ v1 by omega)]; rfl
  subst e2
  have e1 : F = ⟨v0, v1, v2, lf + v0, now⟩ := by rw [Hv.out]; rfl
  subst e1
  have z3 := X1.out.1.ice 3
  have z4 := X1.out.1.ice 4
  have hl : w.heap.size < w1.heap.size := X1.out.1.under
  go_upto_region 8 with fail
  have X4 : Hid (Boxed ((w1.setCell ⟨w.heap.size, 3, none⟩ (.int .i64 (lf + v0))).setCell ⟨w.heap.size, 4, none⟩ (.int .i64 now)) w.heap.size #[.int .i64 v0, .int .i64 v1, .int .i64 v2, .int .i64 (lf + v0), .int .i64 now] 25 ∧ Boxed ((w1.setCell ⟨w.heap.size, 3, none⟩ (.int .i64 (lf + v0))).setCell ⟨w.heap.size, 4, none⟩ (.int .i64 now)) (w.heap.size + 1) #[.int .i64 0, .int .i64 0, .int .i64 0, .int .i64 0, .int .i64 0] 25 ∧ Below w.heap.size w ((w1.setCell ⟨w.heap.size, 3, none⟩ (.int .i64 (lf + v0))).setCell ⟨w.heap.size, 4, none⟩ (.int .i64 now))) := ⟨(X1.out.1.put 3 _).put 4 _, (X1.out.2.1.far (by omega) 3 _).far (by omega) 4 _, (X1.out.2.2.setCell (Nat.le_refl _) _).setCell (Nat.le_refl _) _⟩
  generalize (w1.setCell ⟨w.heap.size, 3, none⟩ (.int .i64 (lf + v0))).setCell ⟨w.heap.size, 4, none⟩ (.int .i64 now) = w4 at X4 ⊢
  clear X1 c0 c1 c3 c4 z3 z4 hl
  go_wp2_with (first | (refine wpList_load_row rfl 25 (.tmp 2) rfl w.heap.size rfl _ _ _ _ X4.out.1 Try.underlying25 rfl (by kernel_rfl) ?_) | (refine wpList_store_row rfl 25 (.tmp 4) (.tmp 42) rfl (w.heap.size + 1) _ rfl rfl _ _ X4.out.2.1 (by kernel_rfl) rfl (peOnes _ _ _ _ _) ?_))
  exact bodyPost_ret (results_row_tmp Try.results11 _ _ (w.heap.size + 1) _ #[.int .i64 v0, .int .i64 v1, .int .i64 v2, .int .i64 (lf + v0), .int .i64 now] _ _ (.bool true) rfl rfl (setRow_heap _ (w.heap.size + 1) _ _ _ _ X4.out.2.1) Try.underlying25 rfl (by kernel_rfl)) rfl ⟨rfl, below_setRow X4.out.2.2 (by omega) _⟩
end Go.Proofs.Ytkdofeanpcbihaa
