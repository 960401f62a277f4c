/-
  The walks of the program's paces: an assertion, through, Early and Leaky. By the verifier, by program.
-/
import Derived.Test.YtkdofeanpcbihaaPeImpl
namespace Go.Proofs.Ytkdofeanpcbihaa
open Go.RowKit

theorem hasTimed (v : Value) (xT : TypeId) (w : World) : (Instr.typeAssert (.iface 47 v) xT 69 true).run Try.prog w = .ok (.tuple #[.iface 47 v, .bool true]) w := run_typeAssert_hasB Try.underlying69 (by kernel_rfl) v xT w
theorem lacksTimed (v : Value) (xT : TypeId) (w : World) : (Instr.typeAssert (.iface 48 v) xT 69 true).run Try.prog w = .ok (.tuple #[.nilIface, .bool false]) w := run_typeAssert_lacksB Try.underlying69 (by kernel_rfl) (by kernel_rfl) v xT w
theorem m_byNext_owed (v : Value) (w : World) : (Go.method 190 47 v "loop.example/g00316/impl.owed").run Try.prog w = .ok (65, v) w := by kernel_rfl
theorem m_byNext_passed (v : Value) (w : World) : (Go.method 190 47 v "loop.example/g00316/impl.passed").run Try.prog w = .ok (66, v) w := by kernel_rfl
theorem m_byNext_nextTime (v : Value) (w : World) : (Go.method 190 47 v "loop.example/g00316/impl.nextTime").run Try.prog w = .ok (64, v) w := by kernel_rfl
theorem m_byFill_owed (v : Value) (w : World) : (Go.method 190 48 v "loop.example/g00316/impl.owed").run Try.prog w = .ok (67, v) w := by kernel_rfl
theorem m_byFill_passed (v : Value) (w : World) : (Go.method 190 48 v "loop.example/g00316/impl.passed").run Try.prog w = .ok (68, v) w := by kernel_rfl

set_option maxHeartbeats 1600000 in
theorem implKeepsN (p : Pe) (now : Int) (w : World) (k1 : IntKind.i64.wrap (max p.next now + p.gap) = max p.next now + p.gap) :
    Calls Try.prog 44 #[.iface 47 p.val, .int .i64 now] w fun e w' => e = .returned (.bool (inB 0 1099511627776 (max p.next now + p.gap))) ∧ Below w.heap.size w w' := by
  have A1 := fun w => implNextN p now w k1
  have A2 := fun w => implTime (max p.next now + p.gap) w
  generalize inB 0 1099511627776 (max p.next now + p.gap) = b at *
  generalize max p.next now + p.gap = z at *
  obtain ⟨v0, v1, v2, v3, v4⟩ := p
  simp only [Pe.val, Pe.cells] at *
  have A1' : Hid _ := A1
  have A2' : Hid _ := A2
  clear A1 A2 k1
  have hT := hasTimed (.agg #[.int .i64 v0, .int .i64 v1, .int .i64 v2, .int .i64 v3, .int .i64 v4])
  have hm := m_byNext_nextTime (.agg #[.int .i64 v0, .int .i64 v1, .int .i64 v2, .int .i64 v3, .int .i64 v4])
  go_enter Try.func44, Try.ntmps44
  go_wp2_with fail
  refine (A1'.out _).mono ?_
  rintro e w' ⟨rfl, rfl⟩
  go_wp2_with fail
  refine (A2'.out _).mono ?_
  rintro e w' ⟨rfl, rfl⟩
  go_wp2
  go_ret
  exact ⟨rfl, by repeat (first | exact Below.refl _ _ | refine Below.alloc ?_ (by simp <;> omega) _)⟩

set_option maxHeartbeats 1600000 in
theorem implKeepsF (p : Pe) (now : Int) (w : World) :
    Calls Try.prog 44 #[.iface 48 p.val, .int .i64 now] w fun e w' => e = .returned (.bool true) ∧ Below w.heap.size w w' := by
  obtain ⟨v0, v1, v2, v3, v4⟩ := p
  simp only [Pe.val]
  have hT := lacksTimed (.agg #[.int .i64 v0, .int .i64 v1, .int .i64 v2, .int .i64 v3, .int .i64 v4])
  go_enter Try.func44, Try.ntmps44
  go_wp2
  go_ret
  exact ⟨rfl, Below.refl _ _⟩
theorem Pe.early_wraps {p : Pe} {now : Int} (h1 : p.ok = true) (h2 : inB 0 1099511627776 now = true) : IntKind.i64.wrap (p.next - now) = p.next - now ∧ IntKind.i64.wrap (max p.next now + p.gap) = max p.next now + p.gap := by
  have h := Pe.ok_iff.1 h1
  rw [inB_true] at h2
  rw [IntKind.wrap_i64, IntKind.wrap_i64]
  omega
theorem Pe.earlyB_of {p : Pe} {now : Int} (h1 : p.ok = true) (h2 : inB 0 1099511627776 now = true) : p.earlyB now = (!decide (p.slack < max 0 (p.next - now)) && inB 0 1099511627776 (max p.next now + p.gap)) := by
  have h := Pe.ok_iff.1 h1
  unfold Pe.earlyB
  rw [h1, h2, Bool.true_and, Bool.true_and, Bool.eq_iff_iff]
  rw [inB_true] at h2
  simp only [Bool.and_eq_true, inB_true, decide_eq_true_eq, Bool.not_eq_true', decide_eq_false_iff_not]
  omega
theorem Pe.earlyB_no {p : Pe} {now : Int} (h : (p.ok && inB 0 1099511627776 now) = false) : p.earlyB now = false := by
  unfold Pe.earlyB
  rw [← Bool.and_assoc, h]
  rfl

set_option maxHeartbeats 6400000 in
set_option maxRecDepth 100000 in
theorem implThroughN (p : Pe) (now : Int) (w : World) :
    Calls Try.prog 27 #[.iface 47 p.val, p.val, .int .i64 now] w fun e w' => e = .returned (.tuple #[(p.early now).val, .bool (p.earlyB now)]) ∧ Below w.heap.size w w' := by
  have A1 := fun w => implPaceOk p w
  have A2 := fun w => implTimeB now w
  have A3 : p.ok = true → inB 0 1099511627776 now = true → ∀ w, Calls Try.prog 65 #[p.val, .int .i64 now] w fun e w' => e = .returned (.int .i64 (max 0 (p.next - now))) ∧ Below w.heap.size w w' := fun h1 h2 w =>
    (implOwedN p now w (Pe.early_wraps h1 h2).1).mono fun _ _ h => ⟨h.1, by rw [h.2]; exact (Below.refl _ _).alloc (Nat.le_refl _) _⟩
  have A4 : p.ok = true → inB 0 1099511627776 now = true → ∀ w, Calls Try.prog 44 #[.iface 47 p.val, .int .i64 now] w fun e w' => e = .returned (.bool (inB 0 1099511627776 (max p.next now + p.gap))) ∧ Below w.heap.size w w' := fun h1 h2 w => implKeepsN p now w (Pe.early_wraps h1 h2).2
  have A5 : p.ok = true → inB 0 1099511627776 now = true → ∀ w, Calls Try.prog 66 #[p.val, .int .i64 now] w fun e w' => e = .returned (Pe.val ⟨p.gap, p.slack, max p.next now + p.gap, p.fill, p.last⟩) ∧ Below w.heap.size w w' := fun h1 h2 w => implPassN p now w (Pe.early_wraps h1 h2).2
  have HN : Hid ((p.ok && inB 0 1099511627776 now) = false → p.earlyB now = false) := Pe.earlyB_no
  have HB : Hid (p.ok = true → inB 0 1099511627776 now = true → p.earlyB now = (!decide (p.slack < max 0 (p.next - now)) && inB 0 1099511627776 (max p.next now + p.gap))) := fun h1 h2 => Pe.earlyB_of h1 h2
  have HV : Hid (p.early now = if p.earlyB now = true then ⟨p.gap, p.slack, max p.next now + p.gap, p.fill, p.last⟩ else p) := rfl
  have hm1 := m_byNext_owed p.val
  have hm2 := m_byNext_passed p.val
  generalize p.earlyB now = sb at HN HB HV ⊢
  generalize p.early now = R at HV ⊢
  generalize hP : (⟨p.gap, p.slack, max p.next now + p.gap, p.fill, p.last⟩ : Pe) = PP at A5 HV
  clear hP
  generalize p.ok = ok at A1 A3 A4 A5 HN HB
  generalize inB 0 1099511627776 now = tt at A2 A3 A4 A5 HN HB
  generalize inB 0 1099511627776 (max p.next now + p.gap) = kp at A4 HB
  generalize max 0 (p.next - now) = ow at A3 HB
  obtain ⟨v0, v1, v2, v3, v4⟩ := p
  obtain ⟨u0, u1, u2, u3, u4⟩ := PP
  simp only [Pe.val] at A1 A3 A4 A5 HB HV hm1 hm2 ⊢
  have A1' : Hid _ := A1
  have A2' : Hid _ := A2
  have A3' : Hid _ := A3
  have A4' : Hid _ := A4
  have A5' : Hid _ := A5
  clear A1 A2 A3 A4 A5
  obtain ⟨W, hW⟩ : ∃ W, ((w.alloc (.cells #[.int .i64 v0, .int .i64 v1, .int .i64 v2, .int .i64 v3, .int .i64 v4] 25)).alloc (.cells #[.int .i64 0, .int .i64 0, .int .i64 0, .int .i64 0, .int .i64 0] 25)) = W := ⟨_, rfl⟩
  have X : Hid (Boxed W w.heap.size #[.int .i64 v0, .int .i64 v1, .int .i64 v2, .int .i64 v3, .int .i64 v4] 25 ∧ Boxed W (w.heap.size + 1) #[.int .i64 0, .int .i64 0, .int .i64 0, .int .i64 0, .int .i64 0] 25 ∧ Below w.heap.size w W) := by
    rw [← hW]
    refine ⟨(Boxed.new w _ _).more _, ?_, ((Below.refl _ _).alloc (Nat.le_refl _) _).alloc (by simp) _⟩
    have := Boxed.new (w.alloc (.cells #[.int .i64 v0, .int .i64 v1, .int .i64 v2, .int .i64 v3, .int .i64 v4] 25)) #[.int .i64 0, .int .i64 0, .int .i64 0, .int .i64 0, .int .i64 0] 25
    simpa using this
  have HW : Hid _ := hW
  clear hW
  go_enter Try.func27, Try.ntmps27
  go_upto_region 1 with fail
  rw [HW.out]
  clear HW
  cases ok
  · have e1 : sb = false := HN.out rfl
    subst e1
    have e2 : R = ⟨v0, v1, v2, v3, v4⟩ := by rw [HV.out]; rfl
    subst e2
    have c0 : ∀ p : BelW W.heap.size W, p.w'.cell? ⟨w.heap.size, 0, none⟩ = some (.int .i64 v0) := fun p => (X.out.1.below X.out.1.under p.h).cell 0 rfl
    have c1 : ∀ p : BelW W.heap.size W, p.w'.cell? ⟨w.heap.size, 1, none⟩ = some (.int .i64 v1) := fun p => (X.out.1.below X.out.1.under p.h).cell 1 rfl
    have c2 : ∀ p : BelW W.heap.size W, p.w'.cell? ⟨w.heap.size, 2, none⟩ = some (.int .i64 v2) := fun p => (X.out.1.below X.out.1.under p.h).cell 2 rfl
    have c3 : ∀ p : BelW W.heap.size W, p.w'.cell? ⟨w.heap.size, 3, none⟩ = some (.int .i64 v3) := fun p => (X.out.1.below X.out.1.under p.h).cell 3 rfl
    have c4 : ∀ p : BelW W.heap.size W, p.w'.cell? ⟨w.heap.size, 4, none⟩ = some (.int .i64 v4) := fun p => (X.out.1.below X.out.1.under p.h).cell 4 rfl
    haveI : Nonempty (BelW W.heap.size W) := ⟨⟨W, Below.refl _ _⟩⟩
    refine region_below W.heap.size (by kernel_rfl) (by kernel_rfl) ?_
    repeat (go_big_quiet_step ((first | (go_at_call 43; refine quiet_below (Nat.le_refl _) (A1'.out _)) | (go_at_call 38; refine quiet_below (Nat.le_refl _) (A2'.out _)))))
    refine wpQuiet_nil ?_
    intro w1 hx
    have q := BelW.out hx
    have X1 : Hid (Boxed w1 w.heap.size #[.int .i64 v0, .int .i64 v1, .int .i64 v2, .int .i64 v3, .int .i64 v4] 25 ∧ Boxed w1 (w.heap.size + 1) #[.int .i64 0, .int .i64 0, .int .i64 0, .int .i64 0, .int .i64 0] 25 ∧ Below w.heap.size w w1) := ⟨X.out.1.below X.out.1.under q, X.out.2.1.below X.out.2.1.under q, X.out.2.2.trans (q.mono X.out.2.2.size)⟩
    clear hx q c0 c1 c2 c3 c4 X
    go_wp2_with (first | (refine wpList_load_row rfl 25 (.tmp 4) rfl w.heap.size rfl _ _ _ _ X1.out.1 Try.underlying25 rfl (by kernel_rfl) ?_) | (refine wpList_store_row rfl 25 (.tmp 6) (.tmp 30) rfl (w.heap.size + 1) _ rfl rfl _ _ X1.out.2.1 (by kernel_rfl) rfl (peOnes _ _ _ _ _) ?_))
    exact bodyPost_ret (results_row_tmp Try.results27 _ _ (w.heap.size + 1) _ #[.int .i64 v0, .int .i64 v1, .int .i64 v2, .int .i64 v3, .int .i64 v4] _ _ (.bool false) rfl rfl (setRow_heap _ (w.heap.size + 1) _ _ _ _ X1.out.2.1) Try.underlying25 rfl (by kernel_rfl)) rfl ⟨rfl, below_setRow X1.out.2.2 (by omega) _⟩
  cases tt
  · have e1 : sb = false := HN.out rfl
    subst e1
    have e2 : R = ⟨v0, v1, v2, v3, v4⟩ := by rw [HV.out]; rfl
    subst e2
    have c0 : ∀ p : BelW W.heap.size W, p.w'.cell? ⟨w.heap.size, 0, none⟩ = some (.int .i64 v0) := fun p => (X.out.1.below X.out.1.under p.h).cell 0 rfl
    have c1 : ∀ p : BelW W.heap.size W, p.w'.cell? ⟨w.heap.size, 1, none⟩ = some (.int .i64 v1) := fun p => (X.out.1.below X.out.1.under p.h).cell 1 rfl
    have c2 : ∀ p : BelW W.heap.size W, p.w'.cell? ⟨w.heap.size, 2, none⟩ = some (.int .i64 v2) := fun p => (X.out.1.below X.out.1.under p.h).cell 2 rfl
    have c3 : ∀ p : BelW W.heap.size W, p.w'.cell? ⟨w.heap.size, 3, none⟩ = some (.int .i64 v3) := fun p => (X.out.1.below X.out.1.under p.h).cell 3 rfl
    have c4 : ∀ p : BelW W.heap.size W, p.w'.cell? ⟨w.heap.size, 4, none⟩ = some (.int .i64 v4) := fun p => (X.out.1.below X.out.1.under p.h).cell 4 rfl
    haveI : Nonempty (BelW W.heap.size W) := ⟨⟨W, Below.refl _ _⟩⟩
    refine region_below W.heap.size (by kernel_rfl) (by kernel_rfl) ?_
    repeat (go_big_quiet_step ((first | (go_at_call 43; refine quiet_below (Nat.le_refl _) (A1'.out _)) | (go_at_call 38; refine quiet_below (Nat.le_refl _) (A2'.out _)))))
    refine wpQuiet_nil ?_
    intro w1 hx
    have q := BelW.out hx
    have X1 : Hid (Boxed w1 w.heap.size #[.int .i64 v0, .int .i64 v1, .int .i64 v2, .int .i64 v3, .int .i64 v4] 25 ∧ Boxed w1 (w.heap.size + 1) #[.int .i64 0, .int .i64 0, .int .i64 0, .int .i64 0, .int .i64 0] 25 ∧ Below w.heap.size w w1) := ⟨X.out.1.below X.out.1.under q, X.out.2.1.below X.out.2.1.under q, X.out.2.2.trans (q.mono X.out.2.2.size)⟩
    clear hx q c0 c1 c2 c3 c4 X
    go_wp2_with (first | (refine wpList_load_row rfl 25 (.tmp 4) rfl w.heap.size rfl _ _ _ _ X1.out.1 Try.underlying25 rfl (by kernel_rfl) ?_) | (refine wpList_store_row rfl 25 (.tmp 6) (.tmp 30) rfl (w.heap.size + 1) _ rfl rfl _ _ X1.out.2.1 (by kernel_rfl) rfl (peOnes _ _ _ _ _) ?_))
    exact bodyPost_ret (results_row_tmp Try.results27 _ _ (w.heap.size + 1) _ #[.int .i64 v0, .int .i64 v1, .int .i64 v2, .int .i64 v3, .int .i64 v4] _ _ (.bool false) rfl rfl (setRow_heap _ (w.heap.size + 1) _ _ _ _ X1.out.2.1) Try.underlying25 rfl (by kernel_rfl)) rfl ⟨rfl, below_setRow X1.out.2.2 (by omega) _⟩
  have B3 : Hid _ := A3'.out (by first | exact trivial | exact rfl) (by first | exact trivial | exact rfl)
  have B4 : Hid _ := A4'.out (by first | exact trivial | exact rfl) (by first | exact trivial | exact rfl)
  have B5 : Hid _ := A5'.out (by first | exact trivial | exact rfl) (by first | exact trivial | exact rfl)
  have hb := HB.out (by first | exact trivial | exact rfl) (by first | exact trivial | exact rfl)
  have HC : Hid _ := hb
  clear hb HB HN A3' A4' A5'
  by_cases h1 : v1 < ow
  · have e1 : sb = false := by rw [HC.out, decide_eq_true h1]; rfl
    have hd : decide (v1 < ow) = true := decide_eq_true h1
    subst e1
    have e2 : R = ⟨v0, v1, v2, v3, v4⟩ := by rw [HV.out]; rfl
    subst e2
    have c0 : ∀ p : BelW W.heap.size W, p.w'.cell? ⟨w.heap.size, 0, none⟩ = some (.int .i64 v0) := fun p => (X.out.1.below X.out.1.under p.h).cell 0 rfl
    have c1 : ∀ p : BelW W.heap.size W, p.w'.cell? ⟨w.heap.size, 1, none⟩ = some (.int .i64 v1) := fun p => (X.out.1.below X.out.1.under p.h).cell 1 rfl
    have c2 : ∀ p : BelW W.heap.size W, p.w'.cell? ⟨w.heap.size, 2, none⟩ = some (.int .i64 v2) := fun p => (X.out.1.below X.out.1.under p.h).cell 2 rfl
    have c3 : ∀ p : BelW W.heap.size W, p.w'.cell? ⟨w.heap.size, 3, none⟩ = some (.int .i64 v3) := fun p => (X.out.1.below X.out.1.under p.h).cell 3 rfl
    have c4 : ∀ p : BelW W.heap.size W, p.w'.cell? ⟨w.heap.size, 4, none⟩ = some (.int .i64 v4) := fun p => (X.out.1.below X.out.1.under p.h).cell 4 rfl
    haveI : Nonempty (BelW W.heap.size W) := ⟨⟨W, Below.refl _ _⟩⟩
    refine region_below W.heap.size (by kernel_rfl) (by kernel_rfl) ?_
    repeat (go_big_quiet_step ((first | (go_at_call 43; refine quiet_below (Nat.le_refl _) (A1'.out _)) | (go_at_call 38; refine quiet_below (Nat.le_refl _) (A2'.out _)) | (go_at_call 65; refine quiet_below (Nat.le_refl _) (B3.out _)))))
    refine wpQuiet_nil ?_
    intro w1 hx
    have q := BelW.out hx
    have X1 : Hid (Boxed w1 w.heap.size #[.int .i64 v0, .int .i64 v1, .int .i64 v2, .int .i64 v3, .int .i64 v4] 25 ∧ Boxed w1 (w.heap.size + 1) #[.int .i64 0, .int .i64 0, .int .i64 0, .int .i64 0, .int .i64 0] 25 ∧ Below w.heap.size w w1) := ⟨X.out.1.below X.out.1.under q, X.out.2.1.below X.out.2.1.under q, X.out.2.2.trans (q.mono X.out.2.2.size)⟩
    clear hx q c0 c1 c2 c3 c4 X
    clear hd h1
    go_wp2_with (first | (refine wpList_load_row rfl 25 (.tmp 4) rfl w.heap.size rfl _ _ _ _ X1.out.1 Try.underlying25 rfl (by kernel_rfl) ?_) | (refine wpList_store_row rfl 25 (.tmp 6) (.tmp 30) rfl (w.heap.size + 1) _ rfl rfl _ _ X1.out.2.1 (by kernel_rfl) rfl (peOnes _ _ _ _ _) ?_))
    exact bodyPost_ret (results_row_tmp Try.results27 _ _ (w.heap.size + 1) _ #[.int .i64 v0, .int .i64 v1, .int .i64 v2, .int .i64 v3, .int .i64 v4] _ _ (.bool false) rfl rfl (setRow_heap _ (w.heap.size + 1) _ _ _ _ X1.out.2.1) Try.underlying25 rfl (by kernel_rfl)) rfl ⟨rfl, below_setRow X1.out.2.2 (by omega) _⟩
  have hd : decide (v1 < ow) = false := decide_eq_false h1
  cases kp
  · have e1 : sb = false := by rw [HC.out, hd]; rfl
    subst e1
    have e2 : R = ⟨v0, v1, v2, v3, v4⟩ := by rw [HV.out]; rfl
    subst e2
    have c0 : ∀ p : BelW W.heap.size W, p.w'.cell? ⟨w.heap.size, 0, none⟩ = some (.int .i64 v0) := fun p => (X.out.1.below X.out.1.under p.h).cell 0 rfl
    have c1 : ∀ p : BelW W.heap.size W, p.w'.cell? ⟨w.heap.size, 1, none⟩ = some (.int .i64 v1) := fun p => (X.out.1.below X.out.1.under p.h).cell 1 rfl
    have c2 : ∀ p : BelW W.heap.size W, p.w'.cell? ⟨w.heap.size, 2, none⟩ = some (.int .i64 v2) := fun p => (X.out.1.below X.out.1.under p.h).cell 2 rfl
    have c3 : ∀ p : BelW W.heap.size W, p.w'.cell? ⟨w.heap.size, 3, none⟩ = some (.int .i64 v3) := fun p => (X.out.1.below X.out.1.under p.h).cell 3 rfl
    have c4 : ∀ p : BelW W.heap.size W, p.w'.cell? ⟨w.heap.size, 4, none⟩ = some (.int .i64 v4) := fun p => (X.out.1.below X.out.1.under p.h).cell 4 rfl
    haveI : Nonempty (BelW W.heap.size W) := ⟨⟨W, Below.refl _ _⟩⟩
    refine region_below W.heap.size (by kernel_rfl) (by kernel_rfl) ?_
    repeat (go_big_quiet_step ((first | (go_at_call 43; refine quiet_below (Nat.le_refl _) (A1'.out _)) | (go_at_call 38; refine quiet_below (Nat.le_refl _) (A2'.out _)) | (go_at_call 65; refine quiet_below (Nat.le_refl _) (B3.out _)) | (go_at_call 44; refine quiet_below (Nat.le_refl _) (B4.out _)))))
    refine wpQuiet_nil ?_
    intro w1 hx
    have q := BelW.out hx
    have X1 : Hid (Boxed w1 w.heap.size #[.int .i64 v0, .int .i64 v1, .int .i64 v2, .int .i64 v3, .int .i64 v4] 25 ∧ Boxed w1 (w.heap.size + 1) #[.int .i64 0, .int .i64 0, .int .i64 0, .int .i64 0, .int .i64 0] 25 ∧ Below w.heap.size w w1) := ⟨X.out.1.below X.out.1.under q, X.out.2.1.below X.out.2.1.under q, X.out.2.2.trans (q.mono X.out.2.2.size)⟩
    clear hx q c0 c1 c2 c3 c4 X
    clear hd h1
    go_wp2_with (first | (refine wpList_load_row rfl 25 (.tmp 4) rfl w.heap.size rfl _ _ _ _ X1.out.1 Try.underlying25 rfl (by kernel_rfl) ?_) | (refine wpList_store_row rfl 25 (.tmp 6) (.tmp 30) rfl (w.heap.size + 1) _ rfl rfl _ _ X1.out.2.1 (by kernel_rfl) rfl (peOnes _ _ _ _ _) ?_))
    exact bodyPost_ret (results_row_tmp Try.results27 _ _ (w.heap.size + 1) _ #[.int .i64 v0, .int .i64 v1, .int .i64 v2, .int .i64 v3, .int .i64 v4] _ _ (.bool false) rfl rfl (setRow_heap _ (w.heap.size + 1) _ _ _ _ X1.out.2.1) Try.underlying25 rfl (by kernel_rfl)) rfl ⟨rfl, below_setRow X1.out.2.2 (by omega) _⟩
  have e1 : sb = true := by rw [HC.out, hd]; rfl
  subst e1
  have e2 : R = ⟨u0, u1, u2, u3, u4⟩ := by rw [HV.out]; rfl
  subst e2
  have c0 : ∀ p : BelW W.heap.size W, p.w'.cell? ⟨w.heap.size, 0, none⟩ = some (.int .i64 v0) := fun p => (X.out.1.below X.out.1.under p.h).cell 0 rfl
  have c1 : ∀ p : BelW W.heap.size W, p.w'.cell? ⟨w.heap.size, 1, none⟩ = some (.int .i64 v1) := fun p => (X.out.1.below X.out.1.under p.h).cell 1 rfl
  have c2 : ∀ p : BelW W.heap.size W, p.w'.cell? ⟨w.heap.size, 2, none⟩ = some (.int .i64 v2) := fun p => (X.out.1.below X.out.1.under p.h).cell 2 rfl
  have c3 : ∀ p : BelW W.heap.size W, p.w'.cell? ⟨w.heap.size, 3, none⟩ = some (.int .i64 v3) := fun p => (X.out.1.below X.out.1.under p.h).cell 3 rfl
  have c4 : ∀ p : BelW W.heap.size W, p.w'.cell? ⟨w.heap.size, 4, none⟩ = some (.int .i64 v4) := fun p => (X.out.1.below X.out.1.under p.h).cell 4 rfl
  haveI : Nonempty (BelW W.heap.size W) := ⟨⟨W, Below.refl _ _⟩⟩
  refine region_below W.heap.size (by kernel_rfl) (by kernel_rfl) ?_
  repeat (go_big_quiet_step ((first | (go_at_call 43; refine quiet_below (Nat.le_refl _) (A1'.out _)) | (go_at_call 38; refine quiet_below (Nat.le_refl _) (A2'.out _)) | (go_at_call 65; refine quiet_below (Nat.le_refl _) (B3.out _)) | (go_at_call 44; refine quiet_below (Nat.le_refl _) (B4.out _)))))
  refine wpQuiet_nil ?_
  intro w1 hx
  have q := BelW.out hx
  have X1 : Hid (Boxed w1 w.heap.size #[.int .i64 v0, .int .i64 v1, .int .i64 v2, .int .i64 v3, .int .i64 v4] 25 ∧ Boxed w1 (w.heap.size + 1) #[.int .i64 0, .int .i64 0, .int .i64 0, .int .i64 0, .int .i64 0] 25 ∧ Below w.heap.size w w1) := ⟨X.out.1.below X.out.1.under q, X.out.2.1.below X.out.2.1.under q, X.out.2.2.trans (q.mono X.out.2.2.size)⟩
  clear hx q c0 c1 c2 c3 c4 X
  clear hd h1 HC HV
  go_wp2_with fail
  refine (B5.out _).mono ?_
  rintro e w2 ⟨rfl, q⟩
  have X2 : Hid (Boxed w2 (w.heap.size + 1) #[.int .i64 0, .int .i64 0, .int .i64 0, .int .i64 0, .int .i64 0] 25 ∧ Below w.heap.size w w2) := ⟨X1.out.2.1.below X1.out.2.1.under q, X1.out.2.2.trans (q.mono X1.out.2.2.size)⟩
  clear q X1
  go_wp2_with (refine wpList_store_row rfl 25 (.tmp 6) (.tmp 33) rfl (w.heap.size + 1) #[.int .i64 u0, .int .i64 u1, .int .i64 u2, .int .i64 u3, .int .i64 u4] rfl rfl _ _ X2.out.1 (by kernel_rfl) rfl (peOnes _ _ _ _ _) ?_)
  exact bodyPost_ret (results_row_tmp Try.results27 _ _ (w.heap.size + 1) _ #[.int .i64 u0, .int .i64 u1, .int .i64 u2, .int .i64 u3, .int .i64 u4] _ _ (.bool true) rfl rfl (setRow_heap _ (w.heap.size + 1) _ _ _ _ X2.out.1) Try.underlying25 rfl (by kernel_rfl)) rfl ⟨rfl, below_setRow X2.out.2 (by omega) _⟩

theorem Pe.leaky_wraps {p : Pe} {now : Int} (h1 : p.ok = true) (h2 : inB 0 1099511627776 now = true) (h3 : p.last ≤ now) : IntKind.i64.wrap (now - p.last) = now - p.last ∧ IntKind.i64.wrap (p.fill - (now - p.last)) = p.fill - (now - p.last) ∧ IntKind.i64.wrap (p.left now + p.gap) = p.left now + p.gap := by
  have h := Pe.ok_iff.1 h1
  rw [inB_true] at h2
  unfold Pe.left
  rw [IntKind.wrap_i64, IntKind.wrap_i64, IntKind.wrap_i64]
  omega
theorem Pe.leakyB_of {p : Pe} {now : Int} (h1 : p.ok = true) (h2 : inB 0 1099511627776 now = true) (h3 : p.last ≤ now) : p.leakyB now = (!decide (p.slack < p.left now) && true) := by
  unfold Pe.leakyB
  rw [h1, h2, Bool.true_and, Bool.true_and, decide_eq_true h3, Bool.true_and, Bool.and_true, Bool.eq_iff_iff]
  simp only [decide_eq_true_eq, Bool.not_eq_true', decide_eq_false_iff_not]
  omega
theorem Pe.leakyB_no {p : Pe} {now : Int} (h : (p.ok && inB 0 1099511627776 now) = false) : p.leakyB now = false := by
  unfold Pe.leakyB
  rw [← Bool.and_assoc, h]
  rfl

set_option maxHeartbeats 6400000 in
set_option maxRecDepth 100000 in
theorem implThroughF (p : Pe) (now : Int) (hlast : p.last ≤ now) (w : World) :
    Calls Try.prog 27 #[.iface 48 p.val, p.val, .int .i64 now] w fun e w' => e = .returned (.tuple #[(p.leaky now).val, .bool (p.leakyB now)]) ∧ Below w.heap.size w w' := by
  have A1 := fun w => implPaceOk p w
  have A2 := fun w => implTimeB now w
  have A3 : p.ok = true → inB 0 1099511627776 now = true → ∀ w, Calls Try.prog 67 #[p.val, .int .i64 now] w fun e w' => e = .returned (.int .i64 (p.left now)) ∧ Below w.heap.size w w' := fun h1 h2 w =>
    (implOwedF p now w (Pe.leaky_wraps h1 h2 hlast).1 (Pe.leaky_wraps h1 h2 hlast).2.1).mono fun _ _ h => ⟨h.1, by rw [h.2]; exact (Below.refl _ _).alloc (Nat.le_refl _) _⟩
  have A4 : p.ok = true → inB 0 1099511627776 now = true → ∀ w, Calls Try.prog 44 #[.iface 48 p.val, .int .i64 now] w fun e w' => e = .returned (.bool (true)) ∧ Below w.heap.size w w' := fun h1 h2 w => implKeepsF p now w
  have A5 : p.ok = true → inB 0 1099511627776 now = true → ∀ w, Calls Try.prog 68 #[p.val, .int .i64 now] w fun e w' => e = .returned (Pe.val ⟨p.gap, p.slack, p.next, p.left now + p.gap, now⟩) ∧ Below w.heap.size w w' := fun h1 h2 w => implPassF p now w (Pe.leaky_wraps h1 h2 hlast).1 (Pe.leaky_wraps h1 h2 hlast).2.1 (Pe.leaky_wraps h1 h2 hlast).2.2
  have HN : Hid ((p.ok && inB 0 1099511627776 now) = false → p.leakyB now = false) := Pe.leakyB_no
  have HB : Hid (p.ok = true → inB 0 1099511627776 now = true → p.leakyB now = (!decide (p.slack < p.left now) && true)) := fun h1 h2 => Pe.leakyB_of h1 h2 hlast
  have HV : Hid (p.leaky now = if p.leakyB now = true then ⟨p.gap, p.slack, p.next, p.left now + p.gap, now⟩ else p) := rfl
  have hm1 := m_byFill_owed p.val
  have hm2 := m_byFill_passed p.val
  generalize p.leakyB now = sb at HN HB HV ⊢
  generalize p.leaky now = R at HV ⊢
  generalize hP : (⟨p.gap, p.slack, p.next, p.left now + p.gap, now⟩ : Pe) = PP at A5 HV
  clear hP
  generalize p.ok = ok at A1 A3 A4 A5 HN HB
  generalize inB 0 1099511627776 now = tt at A2 A3 A4 A5 HN HB
  generalize p.left now = ow at A3 HB
  obtain ⟨v0, v1, v2, v3, v4⟩ := p
  obtain ⟨u0, u1, u2, u3, u4⟩ := PP
  simp only [Pe.val] at A1 A3 A4 A5 HB HV hm1 hm2 ⊢
  have A1' : Hid _ := A1
  have A2' : Hid _ := A2
  have A3' : Hid _ := A3
  have A4' : Hid _ := A4
  have A5' : Hid _ := A5
  clear A1 A2 A3 A4 A5 hlast
  obtain ⟨W, hW⟩ : ∃ W, ((w.alloc (.cells #[.int .i64 v0, .int .i64 v1, .int .i64 v2, .int .i64 v3, .int .i64 v4] 25)).alloc (.cells #[.int .i64 0, .int .i64 0, .int .i64 0, .int .i64 0, .int .i64 0] 25)) = W := ⟨_, rfl⟩
  have X : Hid (Boxed W w.heap.size #[.int .i64 v0, .int .i64 v1, .int .i64 v2, .int .i64 v3, .int .i64 v4] 25 ∧ Boxed W (w.heap.size + 1) #[.int .i64 0, .int .i64 0, .int .i64 0, .int .i64 0, .int .i64 0] 25 ∧ Below w.heap.size w W) := by
    rw [← hW]
    refine ⟨(Boxed.new w _ _).more _, ?_, ((Below.refl _ _).alloc (Nat.le_refl _) _).alloc (by simp) _⟩
    have := Boxed.new (w.alloc (.cells #[.int .i64 v0, .int .i64 v1, .int .i64 v2, .int .i64 v3, .int .i64 v4] 25)) #[.int .i64 0, .int .i64 0, .int .i64 0, .int .i64 0, .int .i64 0] 25
    simpa using this
  have HW : Hid _ := hW
  clear hW
  go_enter Try.func27, Try.ntmps27
  go_upto_region 1 with fail
  rw [HW.out]
  clear HW
  cases ok
  · have e1 : sb = false := HN.out rfl
    subst e1
    have e2 : R = ⟨v0, v1, v2, v3, v4⟩ := by rw [HV.out]; rfl
    subst e2
    have c0 : ∀ p : BelW W.heap.size W, p.w'.cell? ⟨w.heap.size, 0, none⟩ = some (.int .i64 v0) := fun p => (X.out.1.below X.out.1.under p.h).cell 0 rfl
    have c1 : ∀ p : BelW W.heap.size W, p.w'.cell? ⟨w.heap.size, 1, none⟩ = some (.int .i64 v1) := fun p => (X.out.1.below X.out.1.under p.h).cell 1 rfl
    have c2 : ∀ p : BelW W.heap.size W, p.w'.cell? ⟨w.heap.size, 2, none⟩ = some (.int .i64 v2) := fun p => (X.out.1.below X.out.1.under p.h).cell 2 rfl
    have c3 : ∀ p : BelW W.heap.size W, p.w'.cell? ⟨w.heap.size, 3, none⟩ = some (.int .i64 v3) := fun p => (X.out.1.below X.out.1.under p.h).cell 3 rfl
    have c4 : ∀ p : BelW W.heap.size W, p.w'.cell? ⟨w.heap.size, 4, none⟩ = some (.int .i64 v4) := fun p => (X.out.1.below X.out.1.under p.h).cell 4 rfl
    haveI : Nonempty (BelW W.heap.size W) := ⟨⟨W, Below.refl _ _⟩⟩
    refine region_below W.heap.size (by kernel_rfl) (by kernel_rfl) ?_
    repeat (go_big_quiet_step ((first | (go_at_call 43; refine quiet_below (Nat.le_refl _) (A1'.out _)) | (go_at_call 38; refine quiet_below (Nat.le_refl _) (A2'.out _)))))
    refine wpQuiet_nil ?_
    intro w1 hx
    have q := BelW.out hx
    have X1 : Hid (Boxed w1 w.heap.size #[.int .i64 v0, .int .i64 v1, .int .i64 v2, .int .i64 v3, .int .i64 v4] 25 ∧ Boxed w1 (w.heap.size + 1) #[.int .i64 0, .int .i64 0, .int .i64 0, .int .i64 0, .int .i64 0] 25 ∧ Below w.heap.size w w1) := ⟨X.out.1.below X.out.1.under q, X.out.2.1.below X.out.2.1.under q, X.out.2.2.trans (q.mono X.out.2.2.size)⟩
    clear hx q c0 c1 c2 c3 c4 X
    go_wp2_with (first | (refine wpList_load_row rfl 25 (.tmp 4) rfl w.heap.size rfl _ _ _ _ X1.out.1 Try.underlying25 rfl (by kernel_rfl) ?_) | (refine wpList_store_row rfl 25 (.tmp 6) (.tmp 30) rfl (w.heap.size + 1) _ rfl rfl _ _ X1.out.2.1 (by kernel_rfl) rfl (peOnes _ _ _ _ _) ?_))
    exact bodyPost_ret (results_row_tmp Try.results27 _ _ (w.heap.size + 1) _ #[.int .i64 v0, .int .i64 v1, .int .i64 v2, .int .i64 v3, .int .i64 v4] _ _ (.bool false) rfl rfl (setRow_heap _ (w.heap.size + 1) _ _ _ _ X1.out.2.1) Try.underlying25 rfl (by kernel_rfl)) rfl ⟨rfl, below_setRow X1.out.2.2 (by omega) _⟩
  cases tt
  · have e1 : sb = false := HN.out rfl
    subst e1
    have e2 : R = ⟨v0, v1, v2, v3, v4⟩ := by rw [HV.out]; rfl
    subst e2
    have c0 : ∀ p : BelW W.heap.size W, p.w'.cell? ⟨w.heap.size, 0, none⟩ = some (.int .i64 v0) := fun p => (X.out.1.below X.out.1.under p.h).cell 0 rfl
    have c1 : ∀ p : BelW W.heap.size W, p.w'.cell? ⟨w.heap.size, 1, none⟩ = some (.int .i64 v1) := fun p => (X.out.1.below X.out.1.under p.h).cell 1 rfl
    have c2 : ∀ p : BelW W.heap.size W, p.w'.cell? ⟨w.heap.size, 2, none⟩ = some (.int .i64 v2) := fun p => (X.out.1.below X.out.1.under p.h).cell 2 rfl
    have c3 : ∀ p : BelW W.heap.size W, p.w'.cell? ⟨w.heap.size, 3, none⟩ = some (.int .i64 v3) := fun p => (X.out.1.below X.out.1.under p.h).cell 3 rfl
    have c4 : ∀ p : BelW W.heap.size W, p.w'.cell? ⟨w.heap.size, 4, none⟩ = some (.int .i64 v4) := fun p => (X.out.1.below X.out.1.under p.h).cell 4 rfl
    haveI : Nonempty (BelW W.heap.size W) := ⟨⟨W, Below.refl _ _⟩⟩
    refine region_below W.heap.size (by kernel_rfl) (by kernel_rfl) ?_
    repeat (go_big_quiet_step ((first | (go_at_call 43; refine quiet_below (Nat.le_refl _) (A1'.out _)) | (go_at_call 38; refine quiet_below (Nat.le_refl _) (A2'.out _)))))
    refine wpQuiet_nil ?_
    intro w1 hx
    have q := BelW.out hx
    have X1 : Hid (Boxed w1 w.heap.size #[.int .i64 v0, .int .i64 v1, .int .i64 v2, .int .i64 v3, .int .i64 v4] 25 ∧ Boxed w1 (w.heap.size + 1) #[.int .i64 0, .int .i64 0, .int .i64 0, .int .i64 0, .int .i64 0] 25 ∧ Below w.heap.size w w1) := ⟨X.out.1.below X.out.1.under q, X.out.2.1.below X.out.2.1.under q, X.out.2.2.trans (q.mono X.out.2.2.size)⟩
    clear hx q c0 c1 c2 c3 c4 X
    go_wp2_with (first | (refine wpList_load_row rfl 25 (.tmp 4) rfl w.heap.size rfl _ _ _ _ X1.out.1 Try.underlying25 rfl (by kernel_rfl) ?_) | (refine wpList_store_row rfl 25 (.tmp 6) (.tmp 30) rfl (w.heap.size + 1) _ rfl rfl _ _ X1.out.2.1 (by kernel_rfl) rfl (peOnes _ _ _ _ _) ?_))
    exact bodyPost_ret (results_row_tmp Try.results27 _ _ (w.heap.size + 1) _ #[.int .i64 v0, .int .i64 v1, .int .i64 v2, .int .i64 v3, .int .i64 v4] _ _ (.bool false) rfl rfl (setRow_heap _ (w.heap.size + 1) _ _ _ _ X1.out.2.1) Try.underlying25 rfl (by kernel_rfl)) rfl ⟨rfl, below_setRow X1.out.2.2 (by omega) _⟩
  have B3 : Hid _ := A3'.out (by first | exact trivial | exact rfl) (by first | exact trivial | exact rfl)
  have B4 : Hid _ := A4'.out (by first | exact trivial | exact rfl) (by first | exact trivial | exact rfl)
  have B5 : Hid _ := A5'.out (by first | exact trivial | exact rfl) (by first | exact trivial | exact rfl)
  have hb := HB.out (by first | exact trivial | exact rfl) (by first | exact trivial | exact rfl)
  have HC : Hid _ := hb
  clear hb HB HN A3' A4' A5'
  by_cases h1 : v1 < ow
  · have e1 : sb = false := by rw [HC.out, decide_eq_true h1]; rfl
    have hd : decide (v1 < ow) = true := decide_eq_true h1
    subst e1
    have e2 : R = ⟨v0, v1, v2, v3, v4⟩ := by rw [HV.out]; rfl
    subst e2
    have c0 : ∀ p : BelW W.heap.size W, p.w'.cell? ⟨w.heap.size, 0, none⟩ = some (.int .i64 v0) := fun p => (X.out.1.below X.out.1.under p.h).cell 0 rfl
    have c1 : ∀ p : BelW W.heap.size W, p.w'.cell? ⟨w.heap.size, 1, none⟩ = some (.int .i64 v1) := fun p => (X.out.1.below X.out.1.under p.h).cell 1 rfl
    have c2 : ∀ p : BelW W.heap.size W, p.w'.cell? ⟨w.heap.size, 2, none⟩ = some (.int .i64 v2) := fun p => (X.out.1.below X.out.1.under p.h).cell 2 rfl
    have c3 : ∀ p : BelW W.heap.size W, p.w'.cell? ⟨w.heap.size, 3, none⟩ = some (.int .i64 v3) := fun p => (X.out.1.below X.out.1.under p.h).cell 3 rfl
    have c4 : ∀ p : BelW W.heap.size W, p.w'.cell? ⟨w.heap.size, 4, none⟩ = some (.int .i64 v4) := fun p => (X.out.1.below X.out.1.under p.h).cell 4 rfl
    haveI : Nonempty (BelW W.heap.size W) := ⟨⟨W, Below.refl _ _⟩⟩
    refine region_below W.heap.size (by kernel_rfl) (by kernel_rfl) ?_
    repeat (go_big_quiet_step ((first | (go_at_call 43; refine quiet_below (Nat.le_refl _) (A1'.out _)) | (go_at_call 38; refine quiet_below (Nat.le_refl _) (A2'.out _)) | (go_at_call 67; refine quiet_below (Nat.le_refl _) (B3.out _)))))
    refine wpQuiet_nil ?_
    intro w1 hx
    have q := BelW.out hx
    have X1 : Hid (Boxed w1 w.heap.size #[.int .i64 v0, .int .i64 v1, .int .i64 v2, .int .i64 v3, .int .i64 v4] 25 ∧ Boxed w1 (w.heap.size + 1) #[.int .i64 0, .int .i64 0, .int .i64 0, .int .i64 0, .int .i64 0] 25 ∧ Below w.heap.size w w1) := ⟨X.out.1.below X.out.1.under q, X.out.2.1.below X.out.2.1.under q, X.out.2.2.trans (q.mono X.out.2.2.size)⟩
    clear hx q c0 c1 c2 c3 c4 X
    clear hd h1
    go_wp2_with (first | (refine wpList_load_row rfl 25 (.tmp 4) rfl w.heap.size rfl _ _ _ _ X1.out.1 Try.underlying25 rfl (by kernel_rfl) ?_) | (refine wpList_store_row rfl 25 (.tmp 6) (.tmp 30) rfl (w.heap.size + 1) _ rfl rfl _ _ X1.out.2.1 (by kernel_rfl) rfl (peOnes _ _ _ _ _) ?_))
    exact bodyPost_ret (results_row_tmp Try.results27 _ _ (w.heap.size + 1) _ #[.int .i64 v0, .int .i64 v1, .int .i64 v2, .int .i64 v3, .int .i64 v4] _ _ (.bool false) rfl rfl (setRow_heap _ (w.heap.size + 1) _ _ _ _ X1.out.2.1) Try.underlying25 rfl (by kernel_rfl)) rfl ⟨rfl, below_setRow X1.out.2.2 (by omega) _⟩
  have hd : decide (v1 < ow) = false := decide_eq_false h1
  have e1 : sb = true := by rw [HC.out, hd]; rfl
  subst e1
  have e2 : R = ⟨u0, u1, u2, u3, u4⟩ := by rw [HV.out]; rfl
  subst e2
  have c0 : ∀ p : BelW W.heap.size W, p.w'.cell? ⟨w.heap.size, 0, none⟩ = some (.int .i64 v0) := fun p => (X.out.1.below X.out.1.under p.h).cell 0 rfl
  have c1 : ∀ p : BelW W.heap.size W, p.w'.cell? ⟨w.heap.size, 1, none⟩ = some (.int .i64 v1) := fun p => (X.out.1.below X.out.1.under p.h).cell 1 rfl
  have c2 : ∀ p : BelW W.heap.size W, p.w'.cell? ⟨w.heap.size, 2, none⟩ = some (.int .i64 v2) := fun p => (X.out.1.below X.out.1.under p.h).cell 2 rfl
  have c3 : ∀ p : BelW W.heap.size W, p.w'.cell? ⟨w.heap.size, 3, none⟩ = some (.int .i64 v3) := fun p => (X.out.1.below X.out.1.under p.h).cell 3 rfl
  have c4 : ∀ p : BelW W.heap.size W, p.w'.cell? ⟨w.heap.size, 4, none⟩ = some (.int .i64 v4) := fun p => (X.out.1.below X.out.1.under p.h).cell 4 rfl
  haveI : Nonempty (BelW W.heap.size W) := ⟨⟨W, Below.refl _ _⟩⟩
  refine region_below W.heap.size (by kernel_rfl) (by kernel_rfl) ?_
  repeat (go_big_quiet_step ((first | (go_at_call 43; refine quiet_below (Nat.le_refl _) (A1'.out _)) | (go_at_call 38; refine quiet_below (Nat.le_refl _) (A2'.out _)) | (go_at_call 67; refine quiet_below (Nat.le_refl _) (B3.out _)) | (go_at_call 44; refine quiet_below (Nat.le_refl _) (B4.out _)))))
  refine wpQuiet_nil ?_
  intro w1 hx
  have q := BelW.out hx
  have X1 : Hid (Boxed w1 w.heap.size #[.int .i64 v0, .int .i64 v1, .int .i64 v2, .int .i64 v3, .int .i64 v4] 25 ∧ Boxed w1 (w.heap.size + 1) #[.int .i64 0, .int .i64 0, .int .i64 0, .int .i64 0, .int .i64 0] 25 ∧ Below w.heap.size w w1) := ⟨X.out.1.below X.out.1.under q, X.out.2.1.below X.out.2.1.under q, X.out.2.2.trans (q.mono X.out.2.2.size)⟩
  clear hx q c0 c1 c2 c3 c4 X
  clear hd h1 HC HV
  go_wp2_with fail
  refine (B5.out _).mono ?_
  rintro e w2 ⟨rfl, q⟩
  have X2 : Hid (Boxed w2 (w.heap.size + 1) #[.int .i64 0, .int .i64 0, .int .i64 0, .int .i64 0, .int .i64 0] 25 ∧ Below w.heap.size w w2) := ⟨X1.out.2.1.below X1.out.2.1.under q, X1.out.2.2.trans (q.mono X1.out.2.2.size)⟩
  clear q X1
  go_wp2_with (refine wpList_store_row rfl 25 (.tmp 6) (.tmp 33) rfl (w.heap.size + 1) #[.int .i64 u0, .int .i64 u1, .int .i64 u2, .int .i64 u3, .int .i64 u4] rfl rfl _ _ X2.out.1 (by kernel_rfl) rfl (peOnes _ _ _ _ _) ?_)
  exact bodyPost_ret (results_row_tmp Try.results27 _ _ (w.heap.size + 1) _ #[.int .i64 u0, .int .i64 u1, .int .i64 u2, .int .i64 u3, .int .i64 u4] _ _ (.bool true) rfl rfl (setRow_heap _ (w.heap.size + 1) _ _ _ _ X2.out.1) Try.underlying25 rfl (by kernel_rfl)) rfl ⟨rfl, below_setRow X2.out.2 (by omega) _⟩

end Go.Proofs.Ytkdofeanpcbihaa
