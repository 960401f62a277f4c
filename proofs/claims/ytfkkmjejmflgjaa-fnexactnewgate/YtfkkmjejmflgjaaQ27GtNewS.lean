/-
  The walk of the model's NewGate. By the verifier, by program.
-/
import Derived.Test.YtfkkmjejmflgjaaQ19GtOkS
import Derived.Test.YtfkkmjejmflgjaaQ21GtNewFn
import Derived.Test.YtfkkmjejmflgjaaQ22NdWhere
import Derived.Test.YtfkkmjejmflgjaaQ23SsWhere
import Derived.Test.YtfkkmjejmflgjaaQ24IntEmp
import Derived.Test.YtfkkmjejmflgjaaQ25FwStep
import Derived.Test.YtfkkmjejmflgjaaQ26OpVal
namespace Go.Proofs.Ytfkkmjejmflgjaa
open Go.RowKit

theorem newB_of {l : Ln} {t : List Nd} {ls : List Int} (h : ¬ (1 ≤ ls.length ∧ ls.length ≤ 8)) : newB l t ls = false ∧ newGate l t ls = Gt.zero := by
  have e : newB l t ls = false := by
    cases hb : newB l t ls
    · rfl
    · exact absurd (newB_small hb) h
  exact ⟨e, by unfold newGate; rw [e]; rfl⟩
theorem newG_small {l : Ln} {t : List Nd} {ls : List Int} (hT : t.length ≤ 1048576) (hn : ls.length ≤ 8) : (newG l t ls).routes.length ≤ 1048576 ∧ (newG l t ls).rules.length ≤ 1048576 ∧ (newG l t ls).tree.length ≤ 1048576 ∧ (newG l t ls).leaves.length ≤ 1048576 ∧ (newG l t ls).rows.big ≤ 1048576 ∧ (newG l t ls).steers.length ≤ 1048576 ∧ (newG l t ls).fair.big ≤ 1048576 := by
  have hz : ∀ n, n ≤ 8 → (⟨100, List.replicate n []⟩ : Rw).big ≤ 1048576 := by decide
  have hf : ∀ n, n ≤ 8 → (⟨0, List.replicate n ⟨1, 0, []⟩⟩ : Fs).big ≤ 1048576 := by decide
  exact ⟨by show 0 ≤ 1048576; omega, by show 0 ≤ 1048576; omega, hT, by show ls.length ≤ 1048576; omega, hz _ hn, by show (List.replicate ls.length _).length ≤ 1048576; rw [List.length_replicate]; omega, hf _ hn⟩

set_option maxHeartbeats 12800000 in
set_option maxRecDepth 100000 in
theorem specNewGate (l : Ln) (t : List Nd) (ta : Option Addr) (tc : Nat) (ls : List Int) (la : Option Addr) (lc : Nat) (w : World) (hT : t.length ≤ 1048576) (hL : ls.length ≤ 1048576) (hn0 : ta = none → tc = 0) (hm0 : la = none → lc = 0) (ht : Hid (NdsAt w ta t)) (hl : Hid (IntsAt w la ls)) :
    Calls Try.prog 5 #[l.val, .slice ta t.length tc, .slice la ls.length lc] w fun e w' => (∃ v', e = .returned (.tuple #[v', .bool (newB l t ls)]) ∧ GtLie w.heap.size w'.heap.size w' v' (newGate l t ls)) ∧ Below w.heap.size w w' := by
  obtain ⟨n, hn⟩ : ∃ n, ls.length = n := ⟨_, rfl⟩
  obtain ⟨tn, htn⟩ : ∃ n, t.length = n := ⟨_, rfl⟩
  obtain ⟨kd, ex, le⟩ := l
  simp only [Ln.val]
  obtain ⟨A, hA⟩ : ∃ A, A = w.heap.size := ⟨_, rfl⟩
  obtain ⟨W0, hW⟩ : ∃ W, W = (w.alloc (.cells #[.int .i64 kd, .int .i64 ex, .int .i64 le] 27)).alloc (.cells #[.int .i64 0, .int .i64 0, .int .i64 0, .slice none 0 0, .slice none 0 0, .slice none 0 0, .slice none 0 0, .int .i64 0, .slice none 0 0, .slice none 0 0, .int .i64 0, .slice none 0 0, .int .i64 0, .int .i64 0] 39) := ⟨_, rfl⟩
  have X0 : Hid (Boxed W0 A #[.int .i64 kd, .int .i64 ex, .int .i64 le] 27 ∧ Boxed W0 (A + 1) #[.int .i64 0, .int .i64 0, .int .i64 0, .slice none 0 0, .slice none 0 0, .slice none 0 0, .slice none 0 0, .int .i64 0, .slice none 0 0, .slice none 0 0, .int .i64 0, .slice none 0 0, .int .i64 0, .int .i64 0] 39 ∧ Below w.heap.size w W0) := by
    rw [hW, hA]
    refine ⟨(Boxed.new w _ _).more _, ?_, ((Below.refl _ _).alloc (Nat.le_refl _) _).alloc (by simp) _⟩
    have := Boxed.new (w.alloc (.cells #[.int .i64 kd, .int .i64 ex, .int .i64 le] 27)) #[.int .i64 0, .int .i64 0, .int .i64 0, .slice none 0 0, .slice none 0 0, .slice none 0 0, .slice none 0 0, .int .i64 0, .slice none 0 0, .slice none 0 0, .int .i64 0, .slice none 0 0, .int .i64 0, .int .i64 0] 39
    simpa using this
  have HW : Hid (W0 = _) := hW
  have HA : Hid (A = w.heap.size) := hA
  have Hn : Hid (ls.length = n) := hn
  have Htn : Hid (t.length = tn) := htn
  have Hno : Hid (¬ (1 ≤ n ∧ n ≤ 8) → newB ⟨kd, ex, le⟩ t ls = false ∧ newGate ⟨kd, ex, le⟩ t ls = Gt.zero) := fun h => newB_of (by rw [Hn.out]; exact h)
  have Hyes : Hid (newB ⟨kd, ex, le⟩ t ls = (newI ⟨kd, ex, le⟩ t ls n).ok ∧ newGate ⟨kd, ex, le⟩ t ls = if (newI ⟨kd, ex, le⟩ t ls n).ok = true then newI ⟨kd, ex, le⟩ t ls n else Gt.zero) := by
    rw [← hn]
    exact ⟨rfl, rfl⟩
  have A1 : Hid (n ≤ 8 → ∀ x W, GtV W x (newI ⟨kd, ex, le⟩ t ls n) → Calls Try.prog 17 #[(newI ⟨kd, ex, le⟩ t ls n).val x] W fun e w' => e = .returned (.bool (newI ⟨kd, ex, le⟩ t ls n).ok) ∧ Below W.heap.size W w') := fun h x W hG => by
    refine specGateOkZ _ x W ?_ hG
    rw [← hn]
    exact newG_small hT (by rw [hn]; exact h)
  generalize newB ⟨kd, ex, le⟩ t ls = fl at Hno Hyes ⊢
  generalize newGate ⟨kd, ex, le⟩ t ls = ga at Hno Hyes ⊢
  rw [hn, htn]
  rw [htn] at hT
  rw [hn] at hL
  clear hn htn hW hA
  go_enter Try.func5, Try.ntmps5
  go_upto_region 1 with fail
  rw [← HW.out, ← HA.out]
  clear HW
  by_cases hin : ¬ (1 ≤ n ∧ n ≤ 8)
  · obtain ⟨e1, e2⟩ := Hno.out hin
    subst e1
    have E2 : Hid (ga = Gt.zero) := e2
    clear e2 Hyes A1 Hno
    have G1 : Hid (∀ i : Nat, True) := fun _ => trivial
    by_cases hlo : n < 1
    · have hlo' : (n : Int) < 1 := by omega
      clear hin
      go_wp2_with (refine wpList_store_row rfl 39 (.tmp 6) (.tmp 19) rfl (A + 1) #[.int .i64 0, .int .i64 0, .int .i64 0, .slice none 0 0, .slice none 0 0, .slice none 0 0, .slice none 0 0, .int .i64 0, .slice none 0 0, .slice none 0 0, .int .i64 0, .slice none 0 0, .int .i64 0, .int .i64 0] rfl rfl _ _ X0.out.2.1 (by kernel_rfl) rfl (by simp [Value.oneCell']) ?_)
      refine bodyPost_ret (results_row_tmp Try.results5 _ _ (A + 1) _ #[.int .i64 0, .int .i64 0, .int .i64 0, .slice none 0 0, .slice none 0 0, .slice none 0 0, .slice none 0 0, .int .i64 0, .slice none 0 0, .slice none 0 0, .int .i64 0, .slice none 0 0, .int .i64 0, .int .i64 0] _ _ (.bool false) rfl rfl (setRow_heap W0 (A + 1) _ _ _ _ X0.out.2.1) Try.underlying39 rfl (by kernel_rfl)) rfl ⟨⟨_, rfl, ?_⟩, below_setRow X0.out.2.2 (by rw [HA.out]; omega) _⟩
      rw [E2.out]
      exact (GtLie.zero _ _)
    · have hlo' : ¬ (n : Int) < 1 := by omega
      have hhi : (8 : Int) < (n : Int) := by omega
      clear hin
      go_wp2_with (refine wpList_store_row rfl 39 (.tmp 6) (.tmp 19) rfl (A + 1) #[.int .i64 0, .int .i64 0, .int .i64 0, .slice none 0 0, .slice none 0 0, .slice none 0 0, .slice none 0 0, .int .i64 0, .slice none 0 0, .slice none 0 0, .int .i64 0, .slice none 0 0, .int .i64 0, .int .i64 0] rfl rfl _ _ X0.out.2.1 (by kernel_rfl) rfl (by simp [Value.oneCell']) ?_)
      refine bodyPost_ret (results_row_tmp Try.results5 _ _ (A + 1) _ #[.int .i64 0, .int .i64 0, .int .i64 0, .slice none 0 0, .slice none 0 0, .slice none 0 0, .slice none 0 0, .int .i64 0, .slice none 0 0, .slice none 0 0, .int .i64 0, .slice none 0 0, .int .i64 0, .int .i64 0] _ _ (.bool false) rfl rfl (setRow_heap W0 (A + 1) _ _ _ _ X0.out.2.1) Try.underlying39 rfl (by kernel_rfl)) rfl ⟨⟨_, rfl, ?_⟩, below_setRow X0.out.2.2 (by rw [HA.out]; omega) _⟩
      rw [E2.out]
      exact (GtLie.zero _ _)
  have hin' : 1 ≤ n ∧ n ≤ 8 := Classical.byContradiction hin
  obtain ⟨hn1, hn8⟩ := hin'
  have hlo' : ¬ (n : Int) < 1 := by omega
  have hhi : ¬ (8 : Int) < (n : Int) := by omega
  clear hin Hno
  have R0 : Hid (∀ y, Below W0.heap.size W0 y → Boxed y A #[.int .i64 kd, .int .i64 ex, .int .i64 le] 27 ∧ Boxed y (A + 1) #[.int .i64 0, .int .i64 0, .int .i64 0, .slice none 0 0, .slice none 0 0, .slice none 0 0, .slice none 0 0, .int .i64 0, .slice none 0 0, .slice none 0 0, .int .i64 0, .slice none 0 0, .int .i64 0, .int .i64 0] 39 ∧ Below w.heap.size w y ∧ NdsAt y ta t ∧ IntsAt y la ls ∧ A + 2 ≤ y.heap.size) := fun y q => ⟨X0.out.1.below X0.out.1.under q, X0.out.2.1.below X0.out.2.1.under q, X0.out.2.2.trans (q.mono X0.out.2.2.size), ht.out.below (X0.out.2.2.trans (q.mono X0.out.2.2.size)), hl.out.below (X0.out.2.2.trans (q.mono X0.out.2.2.size)), by have := X0.out.2.1.under; have := q.size; omega⟩
  go_upto_region 4 with fail
  refine region_lists (G := Nat) (by kernel_rfl) (by kernel_rfl) (by kernel_rfl) (fun i => if i = 0 then 10 else if i = 1 then 3 else if i = 2 then 3 else if i = 3 then 10 else if i = 4 then 6 else if i = 5 then 6 else if i = 6 then 10 else if i = 7 then 8 else if i = 8 then 9 else if i = 9 then 10 else if i = 10 then 12 else 99) (fun (L : Nat → Bool) (y : Nat) (x : World) => (L 12 = false → Below W0.heap.size W0 x ∧ (L 11 = true → Boxed x y #[.int .i64 0, .int .i64 0, .int .i64 0, .slice none 0 0, .slice none 0 0, .slice none 0 0, .slice none 0 0, .int .i64 0, .slice none 0 0, .slice none 0 0, .int .i64 0, .slice none 0 0, .int .i64 0, .int .i64 0] 39 ∧ A + 2 ≤ y)) ∧ (L 12 = true → ∃ x', NwP w A y (newI ⟨kd, ex, le⟩ t ls 0) 0 x' (List.replicate n (.slice none 0 0)) [] x)) (fun i (y : Nat) x (y' : Nat) x' => (i ≠ 11 → y' = y) ∧ (i ≠ 12 → Below x.heap.size x x')) (fun i y x u => ([fun _ _ u => u = .agg #[.int .i64 kd, .int .i64 ex, .int .i64 le], fun _ x u => ∃ m, u = .slice (some ⟨m, 0, none⟩) 0 0 ∧ NdRow (A + 2) x (u) [], fun _ _ u => u = .slice ta tn tc, fun _ x u => ∃ a c, u = .slice a tn c ∧ NdRow (A + 2) x (u) t, fun _ x u => ∃ m, u = .slice (some ⟨m, 0, none⟩) 0 0 ∧ IRow (A + 2) x (u) [], fun _ _ u => u = .slice la n lc, fun _ x u => ∃ a c, u = .slice a n c ∧ IRow (A + 2) x (u) ls, fun _ _ u => u = .int .i64 n, fun _ x u => ∃ a c, u = .slice a n c ∧ IzG (A + 2) (.slice a n c) (List.replicate n (.slice none 0 0)) (List.replicate n []) x, fun _ x u => ∃ a c, u = .agg #[.int .i64 100, .slice a n c] ∧ IzG (A + 2) (.slice a n c) (List.replicate n (.slice none 0 0)) (List.replicate n []) x, fun _ x u => ∃ x', u = (newI ⟨kd, ex, le⟩ t ls 0).val x' ∧ GtO (A + 2) x x' (List.replicate n (.slice none 0 0)) [] (newI ⟨kd, ex, le⟩ t ls 0), fun y _ u => u = .pointer (some ⟨y, 0, none⟩), fun _ _ _ => True] : List (Nat → World → Value → Prop)).getD i (fun _ _ _ => True) y x u) ?hR 0 ?h0 ?step ?last
  case hR =>
    intro i j y y' x x' u hi hj hne hu h1 h2 hp hr
    have hi' : i < 13 := hi
    have hj' : j < 13 := hj
    have hcases : j = 0 ∨ j = 1 ∨ j = 2 ∨ j = 3 ∨ j = 4 ∨ j = 5 ∨ j = 6 ∨ j = 7 ∨ j = 8 ∨ j = 9 ∨ j = 10 ∨ j = 11 ∨ j = 12 := by omega
    rcases hcases with rfl | rfl | rfl | rfl | rfl | rfl | rfl | rfl | rfl | rfl | rfl | rfl | rfl
    · exact hp
    · have hi12 : i ≠ 12 := by
        rintro rfl
        first | exact absurd hu (by decide) | exact absurd h2 (by decide +kernel)
      have q := hr.2 hi12
      obtain ⟨m, e, h⟩ := hp
      exact ⟨m, e, by rw [e] at h ⊢; exact h.carry fun k _ hl => q.block k hl⟩
    · exact hp
    · have hi12 : i ≠ 12 := by
        rintro rfl
        first | exact absurd hu (by decide) | exact absurd h2 (by decide +kernel)
      have q := hr.2 hi12
      obtain ⟨a, c, e, h⟩ := hp
      exact ⟨a, c, e, by rw [e] at h ⊢; exact h.carry fun k _ hl => q.block k hl⟩
    · have hi12 : i ≠ 12 := by
        rintro rfl
        first | exact absurd hu (by decide) | exact absurd h2 (by decide +kernel)
      have q := hr.2 hi12
      obtain ⟨m, e, h⟩ := hp
      exact ⟨m, e, by rw [e] at h ⊢; exact irow_carry h fun k _ hl => q.block k hl⟩
    · exact hp
    · have hi12 : i ≠ 12 := by
        rintro rfl
        first | exact absurd hu (by decide) | exact absurd h2 (by decide +kernel)
      have q := hr.2 hi12
      obtain ⟨a, c, e, h⟩ := hp
      exact ⟨a, c, e, by rw [e] at h ⊢; exact irow_carry h fun k _ hl => q.block k hl⟩
    · exact hp
    · have hi12 : i ≠ 12 := by
        rintro rfl
        first | exact absurd hu (by decide) | exact absurd h2 (by decide +kernel)
      have q := hr.2 hi12
      obtain ⟨a, c, e, h⟩ := hp
      exact ⟨a, c, e, h.below q⟩
    · have hi12 : i ≠ 12 := by
        rintro rfl
        first | exact absurd hu (by decide) | exact absurd h2 (by decide +kernel)
      have q := hr.2 hi12
      obtain ⟨a, c, e, h⟩ := hp
      exact ⟨a, c, e, h.below q⟩
    · have hi12 : i ≠ 12 := by
        rintro rfl
        exact absurd rfl hu
      obtain ⟨x', e, h⟩ := hp
      exact ⟨x', e, h.below (hr.2 hi12)⟩
    · rw [hr.1 (fun e => hne e)]
      exact hp
    · exact hp
  case h0 => exact ⟨fun _ => ⟨(Below.refl _ _).drew, fun h => by simp at h⟩, fun h => by simp at h⟩
  case step =>
    intro i o hi ho L a' y x hLi hwt hre hkp hI hp
    have s1 : a'.tmps[1]?.getD undef = .slice ta tn tc := by have h2 : a'.tmps.getD 1 undef = .slice ta tn tc := hkp.slot 1 (by kernel_rfl); simpa using h2
    have s2 : a'.tmps[2]?.getD undef = .slice la n lc := by have h2 : a'.tmps.getD 2 undef = .slice la n lc := hkp.slot 2 (by kernel_rfl); simpa using h2
    have s3 : a'.tmps[3]?.getD undef = .pointer (some ⟨A, 0, none⟩) := by have h2 : a'.tmps.getD 3 undef = .pointer (some ⟨A, 0, none⟩) := hkp.slot 3 (by kernel_rfl); simpa using h2
    have s8 : a'.tmps[8]?.getD undef = .int .i64 n := by have h2 : a'.tmps.getD 8 undef = .int .i64 n := hkp.slot 8 (by kernel_rfl); simpa using h2
    have hi' : i < 13 := hi
    have hcases : i = 0 ∨ i = 1 ∨ i = 2 ∨ i = 3 ∨ i = 4 ∨ i = 5 ∨ i = 6 ∨ i = 7 ∨ i = 8 ∨ i = 9 ∨ i = 10 ∨ i = 11 ∨ i = 12 := by omega
    rcases hcases with rfl | rfl | rfl | rfl | rfl | rfl | rfl | rfl | rfl | rfl | rfl | rfl | rfl
    · cases ho
      have n12 : L 12 = false := hre 12 (by decide +kernel)
      obtain ⟨hB, hBx⟩ := hI.1 n12
      obtain ⟨b1, b2, b3, b4, b5, b6⟩ := R0.out x hB
      exact ⟨wanted_none rfl, wp_load_row 27 (.tmp 3) rfl A (by simpa [Act.eval] using s3) _ _ _ _ b1 Try.underlying27 rfl (by kernel_rfl) ⟨_, y, rfl, ⟨fun _ => rfl, fun _ => Below.refl _ _⟩, ⟨fun h => hI.1 (by simpa using h), fun h => hI.2 (by simpa using h)⟩, fun u hu => hu (fun h => by cases h)⟩⟩
    · cases ho
      have n12 : L 12 = false := hre 12 (by decide +kernel)
      obtain ⟨hB, hBx⟩ := hI.1 n12
      obtain ⟨b1, b2, b3, b4, b5, b6⟩ := R0.out x hB
      have q : Below x.heap.size x (x.alloc (.cells #[] 60)) := (Below.refl _ _).alloc (Nat.le_refl _) _
      refine ⟨wanted_none rfl, op_valY (v := .slice (some ⟨x.heap.size, 0, none⟩) 0 0) (w' := x.alloc (.cells #[] 60)) (by simp [go_sem]) ?_⟩
      exact ⟨_, y, rfl, ⟨fun _ => rfl, fun _ => q⟩, ⟨fun _ => ⟨hB.trans (q.mono hB.size), fun h => ⟨(hBx (by simpa using h)).1.below (hBx (by simpa using h)).1.under q, (hBx (by simpa using h)).2⟩⟩, fun h => absurd (show L 12 = true by simpa using h) (by rw [n12]; decide)⟩, fun u hu => ⟨x.heap.size, hu (fun h => by cases h), by rw [hu (fun h => by cases h)]; exact nd_built x (A + 2) b6⟩⟩
    · cases ho
      refine ⟨wanted_none rfl, Oper.wp_mono (K := fun a'' w'' => a'' = a'.put (some 22) (.slice ta tn tc) ∧ w'' = x) ?_ ?_⟩
      · rintro _ _ ⟨rfl, rfl⟩
        exact ⟨_, y, rfl, ⟨fun _ => rfl, fun _ => Below.refl _ _⟩, ⟨fun h => hI.1 (by simpa using h), fun h => hI.2 (by simpa using h)⟩, fun u hu => hu (fun h => by cases h)⟩
      · unfold Oper.wp
        simp [go_sem, s1]
    · cases ho
      have n12 : L 12 = false := hre 12 (by decide +kernel)
      obtain ⟨hB, hBx⟩ := hI.1 n12
      obtain ⟨b1, b2, b3, b4, b5, b6⟩ := R0.out x hB
      obtain ⟨m, e1, r1⟩ := hp 1 (of_decide_eq_true (by kernel_rfl)) (.inl rfl)
      have e1 : a'.tmps.getD 21 undef = .slice (some ⟨m, 0, none⟩) 0 0 := e1
      rw [show valAt _ a' 1 = a'.tmps.getD 21 undef from rfl, e1] at r1
      have e2 : a'.tmps.getD 22 undef = .slice ta tn tc := hp 2 (of_decide_eq_true (by kernel_rfl)) (.inl rfl)
      refine ⟨wanted_none rfl, nd_op_empty (.tmp 21) (.tmp 22) rfl (A + 2) m ta tn tc t Htn.out (by simpa [Act.eval] using e1) (by simpa [Act.eval] using e2) r1 b4 hn0 (by rw [Htn.out]; exact hT) b6 ?_⟩
      intro v' x' r2 q
      have hv : ∃ a c, v' = .slice a tn c := by
        obtain ⟨a, c, e⟩ := r2.shape
        exact ⟨a, c, by rw [e, Htn.out]⟩
      obtain ⟨a, c, e⟩ := hv
      subst e
      exact ⟨_, y, rfl, ⟨fun _ => rfl, fun _ => q⟩, ⟨fun _ => ⟨hB.trans (q.mono hB.size), fun h => ⟨(hBx (by simpa using h)).1.below (hBx (by simpa using h)).1.under q, (hBx (by simpa using h)).2⟩⟩, fun h => absurd (show L 12 = true by simpa using h) (by rw [n12]; decide)⟩, fun u hu => ⟨a, c, hu (fun h => by cases h), by rw [hu (fun h => by cases h)]; exact r2⟩⟩
    · cases ho
      have n12 : L 12 = false := hre 12 (by decide +kernel)
      obtain ⟨hB, hBx⟩ := hI.1 n12
      obtain ⟨b1, b2, b3, b4, b5, b6⟩ := R0.out x hB
      have q : Below x.heap.size x (x.alloc (.cells #[] 2)) := (Below.refl _ _).alloc (Nat.le_refl _) _
      refine ⟨wanted_none rfl, op_valY (v := .slice (some ⟨x.heap.size, 0, none⟩) 0 0) (w' := x.alloc (.cells #[] 2)) (by simp [go_sem]) ?_⟩
      exact ⟨_, y, rfl, ⟨fun _ => rfl, fun _ => q⟩, ⟨fun _ => ⟨hB.trans (q.mono hB.size), fun h => ⟨(hBx (by simpa using h)).1.below (hBx (by simpa using h)).1.under q, (hBx (by simpa using h)).2⟩⟩, fun h => absurd (show L 12 = true by simpa using h) (by rw [n12]; decide)⟩, fun u hu => ⟨x.heap.size, hu (fun h => by cases h), by rw [hu (fun h => by cases h)]; exact irow_built x (A + 2) b6⟩⟩
    · cases ho
      refine ⟨wanted_none rfl, Oper.wp_mono (K := fun a'' w'' => a'' = a'.put (some 25) (.slice la n lc) ∧ w'' = x) ?_ ?_⟩
      · rintro _ _ ⟨rfl, rfl⟩
        exact ⟨_, y, rfl, ⟨fun _ => rfl, fun _ => Below.refl _ _⟩, ⟨fun h => hI.1 (by simpa using h), fun h => hI.2 (by simpa using h)⟩, fun u hu => hu (fun h => by cases h)⟩
      · unfold Oper.wp
        simp [go_sem, s2]
    · cases ho
      have n12 : L 12 = false := hre 12 (by decide +kernel)
      obtain ⟨hB, hBx⟩ := hI.1 n12
      obtain ⟨b1, b2, b3, b4, b5, b6⟩ := R0.out x hB
      obtain ⟨m, e1, r1⟩ := hp 4 (of_decide_eq_true (by kernel_rfl)) (.inl rfl)
      have e1 : a'.tmps.getD 24 undef = .slice (some ⟨m, 0, none⟩) 0 0 := e1
      rw [show valAt _ a' 4 = a'.tmps.getD 24 undef from rfl, e1] at r1
      have e2 : a'.tmps.getD 25 undef = .slice la n lc := hp 5 (of_decide_eq_true (by kernel_rfl)) (.inl rfl)
      refine ⟨wanted_none rfl, int_op_empty (.tmp 24) (.tmp 25) rfl (A + 2) m la n lc ls Hn.out (by simpa [Act.eval] using e1) (by simpa [Act.eval] using e2) r1 b5 hm0 (by rw [Hn.out]; exact hL) b6 ?_⟩
      intro v' x' r2 q
      have hv : ∃ a c, v' = .slice a n c := by
        obtain ⟨a, c, e⟩ := r2.shape
        exact ⟨a, c, by rw [e, Hn.out]⟩
      obtain ⟨a, c, e⟩ := hv
      subst e
      exact ⟨_, y, rfl, ⟨fun _ => rfl, fun _ => q⟩, ⟨fun _ => ⟨hB.trans (q.mono hB.size), fun h => ⟨(hBx (by simpa using h)).1.below (hBx (by simpa using h)).1.under q, (hBx (by simpa using h)).2⟩⟩, fun h => absurd (show L 12 = true by simpa using h) (by rw [n12]; decide)⟩, fun u hu => ⟨a, c, hu (fun h => by cases h), by rw [hu (fun h => by cases h)]; exact r2⟩⟩
    · cases ho
      refine ⟨wanted_none rfl, Oper.wp_mono (K := fun a'' w'' => a'' = a'.put (some 27) (.int .i64 n) ∧ w'' = x) ?_ ?_⟩
      · rintro _ _ ⟨rfl, rfl⟩
        exact ⟨_, y, rfl, ⟨fun _ => rfl, fun _ => Below.refl _ _⟩, ⟨fun h => hI.1 (by simpa using h), fun h => hI.2 (by simpa using h)⟩, fun u hu => hu (fun h => by cases h)⟩
      · unfold Oper.wp
        simp [go_sem, s8]
    · cases ho
      have n12 : L 12 = false := hre 12 (by decide +kernel)
      obtain ⟨hB, hBx⟩ := hI.1 n12
      obtain ⟨b1, b2, b3, b4, b5, b6⟩ := R0.out x hB
      have q7 : a'.tmps[27]?.getD undef = .int .i64 n := by have h2 : a'.tmps.getD 27 undef = .int .i64 n := hp 7 (of_decide_eq_true (by kernel_rfl)) (.inl rfl); simpa using h2
      have q : Below x.heap.size x (x.alloc (.cells (madeCells #[.slice none 0 0] (n * 1)) 88)) := (Below.refl _ _).alloc (Nat.le_refl _) _
      refine ⟨wanted_none rfl, op_valY (v := .slice (some ⟨x.heap.size, 0, none⟩) n n) (w' := x.alloc (.cells (madeCells #[.slice none 0 0] (n * 1)) 88)) (by simp [execOp, Act.eval, q7, izMake n (by omega) x]) ?_⟩
      exact ⟨_, y, rfl, ⟨fun _ => rfl, fun _ => q⟩, ⟨fun _ => ⟨hB.trans (q.mono hB.size), fun h => ⟨(hBx (by simpa using h)).1.below (hBx (by simpa using h)).1.under q, (hBx (by simpa using h)).2⟩⟩, fun h => absurd (show L 12 = true by simpa using h) (by rw [n12]; decide)⟩, fun u hu => ⟨_, _, hu (fun h => by cases h), izMadeG x (A + 2) n (by omega) b6⟩⟩
    · cases ho
      have n12 : L 12 = false := hre 12 (by decide +kernel)
      obtain ⟨hB, hBx⟩ := hI.1 n12
      obtain ⟨b1, b2, b3, b4, b5, b6⟩ := R0.out x hB
      obtain ⟨a, c, e1, r1⟩ := hp 8 (of_decide_eq_true (by kernel_rfl)) (.inl rfl)
      have e1 : a'.tmps[28]?.getD undef = .slice a n c := by have h2 : a'.tmps.getD 28 undef = .slice a n c := e1; simpa using h2
      refine ⟨wanted_none rfl, op_valY (v := .agg #[.int .i64 100, .slice a n c]) (w' := x) (by simp [go_sem, e1]) ?_⟩
      exact ⟨_, y, rfl, ⟨fun _ => rfl, fun _ => Below.refl _ _⟩, ⟨fun h => hI.1 (by simpa using h), fun h => hI.2 (by simpa using h)⟩, fun u hu => ⟨a, c, hu (fun h => by cases h), r1⟩⟩
    · cases ho
      have n12 : L 12 = false := hre 12 (by decide +kernel)
      obtain ⟨hB, hBx⟩ := hI.1 n12
      obtain ⟨b1, b2, b3, b4, b5, b6⟩ := R0.out x hB
      have q0 : a'.tmps[20]?.getD undef = .agg #[.int .i64 kd, .int .i64 ex, .int .i64 le] := by have h2 : a'.tmps.getD 20 undef = .agg #[.int .i64 kd, .int .i64 ex, .int .i64 le] := hp 0 (of_decide_eq_true (by kernel_rfl)) (.inl rfl); simpa using h2
      obtain ⟨a3, c3, e3, r3⟩ := hp 3 (of_decide_eq_true (by kernel_rfl)) (.inl rfl)
      have e3 : a'.tmps.getD 23 undef = .slice a3 tn c3 := e3
      rw [show valAt _ a' 3 = a'.tmps.getD 23 undef from rfl, e3] at r3
      have q3 : a'.tmps[23]?.getD undef = .slice a3 tn c3 := by simpa using e3
      obtain ⟨a4, c4, e4, r4⟩ := hp 6 (of_decide_eq_true (by kernel_rfl)) (.inl rfl)
      have e4 : a'.tmps.getD 26 undef = .slice a4 n c4 := e4
      rw [show valAt _ a' 6 = a'.tmps.getD 26 undef from rfl, e4] at r4
      have q4 : a'.tmps[26]?.getD undef = .slice a4 n c4 := by simpa using e4
      obtain ⟨a5, c5, e5, r5⟩ := hp 9 (of_decide_eq_true (by kernel_rfl)) (.inl rfl)
      have e5 : a'.tmps.getD 29 undef = .agg #[.int .i64 100, .slice a5 n c5] := e5
      have q5 : a'.tmps[29]?.getD undef = .agg #[.int .i64 100, .slice a5 n c5] := by simpa using e5
      have hval : (newI ⟨kd, ex, le⟩ t ls 0).val ⟨none, 0, none, 0, a3, c3, a4, c4, a5, c5, none, 0, none, 0⟩ = .agg #[.int .i64 kd, .int .i64 ex, .int .i64 le, .slice none 0 0, .slice none 0 0, .slice a3 tn c3, .slice a4 n c4, .int .i64 100, .slice a5 n c5, .slice none 0 0, .int .i64 0, .slice none 0 0, .int .i64 1, .int .i64 1] := by
        unfold Gt.val Gt.cells newI
        simp only [List.length_replicate, Htn.out, Hn.out, List.length_nil]
      have ho : GtO (A + 2) x ⟨none, 0, none, 0, a3, c3, a4, c4, a5, c5, none, 0, none, 0⟩ (List.replicate n (.slice none 0 0)) [] (newI ⟨kd, ex, le⟩ t ls 0) := by
        refine ⟨World.ownsRow_nil _ _ _ _, World.ownsRow_nil _ _ _ _, ?_, ?_, ?_, World.ownsRow_nil _ _ _ _, FwG.nil _ _, fun i k hi => by simp [newI] at hi⟩
        · show NdRow (A + 2) x (.slice a3 t.length c3) t
          rw [Htn.out]
          exact r3
        · show IRow (A + 2) x (.slice a4 ls.length c4) ls
          rw [Hn.out]
          exact r4
        · show IzG (A + 2) (.slice a5 (List.replicate ls.length _).length c5) _ (List.replicate ls.length []) x
          rw [List.length_replicate, Hn.out]
          exact r5
      refine ⟨wanted_none rfl, op_valY (v := (newI ⟨kd, ex, le⟩ t ls 0).val ⟨none, 0, none, 0, a3, c3, a4, c4, a5, c5, none, 0, none, 0⟩) (w' := x) (by rw [hval]; simp [go_sem, q0, q3, q4, q5]) ?_⟩
      exact ⟨_, y, rfl, ⟨fun _ => rfl, fun _ => Below.refl _ _⟩, ⟨fun h => hI.1 (by simpa using h), fun h => hI.2 (by simpa using h)⟩, fun u hu => ⟨_, hu (fun h => by cases h), ho⟩⟩
    · cases ho
      have n12 : L 12 = false := hre 12 (by decide +kernel)
      obtain ⟨hB, hBx⟩ := hI.1 n12
      obtain ⟨b1, b2, b3, b4, b5, b6⟩ := R0.out x hB
      have q : Below x.heap.size x (x.alloc (.cells #[.int .i64 0, .int .i64 0, .int .i64 0, .slice none 0 0, .slice none 0 0, .slice none 0 0, .slice none 0 0, .int .i64 0, .slice none 0 0, .slice none 0 0, .int .i64 0, .slice none 0 0, .int .i64 0, .int .i64 0] 39)) := (Below.refl _ _).alloc (Nat.le_refl _) _
      refine ⟨wanted_none rfl, op_allocZ (z := .agg #[.int .i64 0, .int .i64 0, .int .i64 0, .slice none 0 0, .slice none 0 0, .slice none 0 0, .slice none 0 0, .int .i64 0, .slice none 0 0, .slice none 0 0, .int .i64 0, .slice none 0 0, .int .i64 0, .int .i64 0]) rfl (by kernel_rfl) ?_⟩
      exact ⟨_, x.heap.size, rfl, ⟨fun h => absurd rfl h, fun _ => q⟩, ⟨fun _ => ⟨hB.trans (q.mono hB.size), fun _ => ⟨Boxed.new _ _ _, b6⟩⟩, fun h => absurd (show L 12 = true by simpa using h) (by rw [n12]; decide)⟩, fun u hu => hu (fun h => by cases h)⟩
    · cases ho
      obtain ⟨hB, hBx⟩ := hI.1 hLi
      obtain ⟨b1, b2, b3, b4, b5, b6⟩ := R0.out x hB
      have l11 : L 11 = true := hwt 11 (of_decide_eq_true (by kernel_rfl))
      obtain ⟨bx, hy⟩ := hBx l11
      obtain ⟨x', e1, o1⟩ := hp 10 (of_decide_eq_true (by kernel_rfl)) (.inl rfl)
      have e1 : a'.tmps.getD 30 undef = .agg ((newI ⟨kd, ex, le⟩ t ls 0).cells x') := e1
      have e2 : a'.tmps.getD 9 undef = .pointer (some ⟨y, 0, none⟩) := hp 11 (of_decide_eq_true (by kernel_rfl)) (.inr (by decide))
      refine ⟨wanted_none rfl, wp_store_row 39 (.tmp 9) (.tmp 30) rfl y _ (by simpa [Act.eval] using e2) (by simpa [Act.eval] using e1) _ _ bx (by rw [Gt.cells_size]; kernel_rfl) (by rw [Gt.cells_size]; rfl) (Gt.cells_one _ _) ?_⟩
      refine ⟨undef, y, rfl, ⟨fun _ => rfl, fun h => absurd rfl h⟩, ⟨fun h => by simp at h, fun _ => ⟨x', ⟨setRow_heap _ _ _ _ _ _ bx, o1.boxedC bx fun k hk _ => setRow_other _ _ _ _ hk⟩, fun i hi => by omega, below_setRow b3 (by rw [← HA.out]; omega) _, ?_, HA.out.symm, hy⟩⟩, fun _ _ => trivial⟩
      exact (show _ = _ from setRow_other _ _ _ _ (by omega)).trans b2
  case last =>
  intro L a' y x hall hkp hI hp
  have e9 : a'.tmps.getD 9 undef = .pointer (some ⟨y, 0, none⟩) := hp 11 (by decide) (by decide)
  obtain ⟨x', z⟩ := hI.2 (hall 12 (by decide))
  have Q0 : Hid (NwP w A y (newI ⟨kd, ex, le⟩ t ls 0) 0 x' (List.replicate n (.slice none 0 0)) [] x) := z
  have ha := hkp.pick [true, true, true, true, true, true, true, true, true, false, true, true, true, true, true, true, true, true, true, true, false, false, false, false, false, false, false, false, false, false, false, true, true, true, true, true, true, true, true, true, true, true, true, true, true, true, true, true, true, true, true, true, true, true, true] (by kernel_rfl)
  simp only [pickS] at ha
  clear hp hkp hI hall z R0 X0
  have E9 : Hid (a'.tmps.getD 9 undef = .pointer (some ⟨y, 0, none⟩)) := e9
  clear e9
  generalize a'.tmps.getD 9 undef = y9 at ha E9
  generalize a'.tmps.getD 20 undef = y20 at ha
  generalize a'.tmps.getD 21 undef = y21 at ha
  generalize a'.tmps.getD 22 undef = y22 at ha
  generalize a'.tmps.getD 23 undef = y23 at ha
  generalize a'.tmps.getD 24 undef = y24 at ha
  generalize a'.tmps.getD 25 undef = y25 at ha
  generalize a'.tmps.getD 26 undef = y26 at ha
  generalize a'.tmps.getD 27 undef = y27 at ha
  generalize a'.tmps.getD 28 undef = y28 at ha
  generalize a'.tmps.getD 29 undef = y29 at ha
  generalize a'.tmps.getD 30 undef = y30 at ha
  have e9 : y9 = .pointer (some ⟨y, 0, none⟩) := E9.out
  subst e9
  clear E9
  rw [ha]
  clear ha
  go_wp2
  obtain ⟨B, hBe⟩ : ∃ B, y = B := ⟨_, rfl⟩
  subst hBe
  go_loopw [10] (fun i wr => ∃ k : Nat, k ≤ n ∧ i = .int .i64 k ∧ Hid (∃ x2 rs2, NwP w A y (newI ⟨kd, ex, le⟩ t ls k) k x2 (List.replicate n (.slice none 0 0)) rs2 wr)) (fun i _ => n - (intOf i).toNat)
  case atStart => exact ⟨0, Nat.zero_le _, rfl, _, _, Q0.out⟩
  case round =>
    obtain ⟨k, hk, rfl, HE⟩ := hrel
    obtain ⟨x2, rs2, H1⟩ : ∃ x2 rs2, Hid (NwP w A y (newI ⟨kd, ex, le⟩ t ls k) k x2 (List.replicate n (.slice none 0 0)) rs2 wr) := HE.out
    clear HE Q0
    by_cases hlt : k < n
    · have hlt' : (k : Int) < (n : Int) := by omega
      have c9 : wr.cell? ⟨y, 9, none⟩ = some (.slice x2.a6 k x2.c6) := by
        have := H1.out.g.box.cell 9 (show _ = some (Value.slice x2.a6 (List.replicate k (⟨20, 0, 0⟩ : Sr)).length x2.c6) from rfl)
        rw [List.length_replicate] at this
        exact this
      obtain ⟨w1, hw1⟩ : ∃ w1, w1 = wr.alloc (.cells #[.int .i64 20, .int .i64 0, .int .i64 0] 53) := ⟨_, rfl⟩
      have Y : Hid (SrRow (A + 2) w1 (.slice x2.a6 k x2.c6) (List.replicate k ⟨20, 0, 0⟩) ∧ Boxed w1 wr.heap.size #[.int .i64 20, .int .i64 0, .int .i64 0] 53 ∧ A + 2 ≤ w1.heap.size ∧ Below wr.heap.size wr w1) := by
        have q : Below wr.heap.size wr w1 := by rw [hw1]; exact (Below.refl _ _).alloc (Nat.le_refl _) _
        refine ⟨?_, by rw [hw1]; exact Boxed.new _ _ _, by have := H1.out.off; have := H1.out.g.box.under; have := q.size; omega, q⟩
        have := (H1.out.g.own.below q).steers
        have e2 : (newI ⟨kd, ex, le⟩ t ls k).steers.length = k := List.length_replicate
        rw [e2] at this
        exact this
      have hkk : (List.replicate k (⟨20, 0, 0⟩ : Sr)).length ≤ 1048576 := by rw [List.length_replicate]; omega
      have HW1 : Hid (w1 = _) := hw1
      have St : Hid (∀ v w4, SrRow (A + 2) w4 v (List.replicate k ⟨20, 0, 0⟩ ++ [⟨20, 0, 0⟩]) → Below (A + 2) w1 w4 → (∀ k', (Value.slice x2.a6 k x2.c6).ownBlock ≠ some k' → k' < w1.heap.size → w4.heap[k']? = w1.heap[k']?) → (∃ a c, v = .slice a (k + 1) c ∧ NwP w A y (newJ ⟨kd, ex, le⟩ t ls k) k { x2 with a6 := a, c6 := c } (List.replicate n (.slice none 0 0)) rs2 (w4.setCell ⟨y, 9, none⟩ (.slice a (k + 1) c))) ∧ w4.cell? ⟨y, 9, none⟩ = some (.slice x2.a6 k x2.c6) ∧ w4.frozen? ⟨y, 9, none⟩ = false) := fun v w4 q1 q2 q3 => by
        have hB : (Value.slice x2.a6 k x2.c6).ownBlock ≠ some y := gate_offC (H1.out.g.below Y.out.2.2.2).box Y.out.1 (by decide)
        have bx : Boxed w4 y _ 39 := (q3 y hB (H1.out.g.below Y.out.2.2.2).box.under).trans (H1.out.g.below Y.out.2.2.2).box
        refine ⟨H1.out.steer Y.out.2.2.2 q1 q2 q3, ?_, bx.ice 9⟩
        have := bx.cell 9 (show _ = some (Value.slice x2.a6 (List.replicate k (⟨20, 0, 0⟩ : Sr)).length x2.c6) from rfl)
        rw [List.length_replicate] at this
        exact this
      clear hw1
      go_upto_region 9 with (first | (rw [← HW1.out]; refine sr_list_where rfl (.tmp 37) (.tmp 39) rfl (A + 2) (.slice x2.a6 k x2.c6) (List.replicate k ⟨20, 0, 0⟩) ⟨20, 0, 0⟩ rfl Y.out.1 rfl Y.out.2.1 hkk Y.out.2.2.1 ?_; intro v' w4 q1 q2 q3 _; obtain ⟨⟨sa, sc, ev, R⟩, x4, x5⟩ := St.out v' w4 q1 q2 q3; subst ev; have R3 : Hid _ := R; clear R q1 q2 q3))
      clear Y HW1 St c9 x4 x5 hkk
      generalize w4.setCell ⟨y, 9, none⟩ (.slice sa (k + 1) sc) = w5 at R3 ⊢
      generalize ({ x2 with a6 := sa, c6 := sc } : Ga) = x3 at R3
      have c11 : w5.cell? ⟨y, 11, none⟩ = some (.slice x3.a7 k x3.c7) := by
        have := R3.out.g.box.cell 11 (show _ = some (Value.slice x3.a7 (List.replicate k (⟨1, 0, []⟩ : Fw)).length x3.c7) from rfl)
        rw [List.length_replicate] at this
        exact this
      obtain ⟨w6, hw6⟩ : ∃ w6, w6 = w5.alloc (.cells #[.int .i64 1, .int .i64 0, .slice none 0 0] 55) := ⟨_, rfl⟩
      have Y : Hid (w6.ownsRow (A + 2) 55 3 (.slice x3.a7 k x3.c7) k (fwcells rs2) ∧ Boxed w6 w5.heap.size (Fwr.cells ⟨1, 0, .slice none 0 0⟩).toArray 55 ∧ A + 2 ≤ w6.heap.size ∧ Below w5.heap.size w5 w6) := by
        have q : Below w5.heap.size w5 w6 := by rw [hw6]; exact (Below.refl _ _).alloc (Nat.le_refl _) _
        refine ⟨?_, by rw [hw6]; exact Boxed.new _ _ _, by have := R3.out.off; have := R3.out.g.box.under; have := q.size; omega, q⟩
        have := (R3.out.g.own.below q).fair.outer
        have e2 : (newJ ⟨kd, ex, le⟩ t ls k).fair.flows.length = k := List.length_replicate
        rw [e2] at this
        exact this
      have HW6 : Hid (w6 = _) := hw6
      have St : Hid (∀ v w4, w4.ownsRow (A + 2) 55 3 v (k + 1) (fwcells (rs2 ++ [⟨1, 0, .slice none 0 0⟩])) → Below (A + 2) w6 w4 → (∀ k', (Value.slice x3.a7 k x3.c7).ownBlock ≠ some k' → k' < w6.heap.size → w4.heap[k']? = w6.heap[k']?) → (∃ a c rs', v = .slice a (k + 1) c ∧ NwP w A y (newI ⟨kd, ex, le⟩ t ls (k + 1)) (k + 1) { x3 with a7 := a, c7 := c } (List.replicate n (.slice none 0 0)) rs' (w4.setCell ⟨y, 11, none⟩ (.slice a (k + 1) c))) ∧ w4.cell? ⟨y, 11, none⟩ = some (.slice x3.a7 k x3.c7) ∧ w4.frozen? ⟨y, 11, none⟩ = false) := fun v w4 q1 q2 q3 => by
        have hB : (Value.slice x3.a7 k x3.c7).ownBlock ≠ some y := gate_offC (R3.out.g.below Y.out.2.2.2).box Y.out.1 (by decide)
        have bx : Boxed w4 y _ 39 := (q3 y hB (R3.out.g.below Y.out.2.2.2).box.under).trans (R3.out.g.below Y.out.2.2.2).box
        refine ⟨R3.out.flow Y.out.2.2.2 q1 q2 q3, ?_, bx.ice 11⟩
        have := bx.cell 11 (show _ = some (Value.slice x3.a7 (List.replicate k (⟨1, 0, []⟩ : Fw)).length x3.c7) from rfl)
        rw [List.length_replicate] at this
        exact this
      clear hw6
      go_wp2_with (first | (rw [← HW6.out]; refine fw_row_one rfl (.tmp 44) (.tmp 46) rfl (A + 2) (.slice x3.a7 k x3.c7) k rs2 ⟨1, 0, .slice none 0 0⟩ rfl rfl Y.out.1 rfl Y.out.2.1 (by omega) Y.out.2.2.1 ?_; intro v' w7 q1 q2 q3; obtain ⟨⟨sa2, sc2, rs3, ev, R⟩, x4, x5⟩ := St.out v' w7 q1 q2 q3; subst ev; have R4 : Hid _ := R; clear R q1 q2 q3))
      go_roundw
      case rel => exact ⟨k + 1, by omega, by go_num, _, _, R4.out⟩
      case measure => simp [intOf]; omega
    · obtain rfl : k = n := by omega
      have Hok := A1.out hn8 x2
      have hv := H1.out.g.own.at
      unfold Gt.val at Hok
      obtain ⟨cs, hcs⟩ : ∃ cs, (newI ⟨kd, ex, le⟩ t ls k).cells x2 = cs := ⟨_, rfl⟩
      have H2 : Hid (cs.size = 14 ∧ cs.all (·.oneCell') = true) := by
        rw [← hcs]
        exact ⟨Gt.cells_size _ _, Gt.cells_one _ _⟩
      have Hcs : Hid ((newI ⟨kd, ex, le⟩ t ls k).cells x2 = cs) := hcs
      have HB : Hid (Boxed wr y cs 39) := by rw [← hcs]; exact H1.out.g.box
      rw [hcs] at Hok
      have Hok' : Hid (∀ W, GtV W x2 (newI ⟨kd, ex, le⟩ t ls k) → _) := Hok
      clear Hok hcs A1
      go_wp2_with (refine wpList_load_row rfl 39 (.tmp 9) rfl y rfl _ _ _ _ HB.out Try.underlying39 rfl (by rw [H2.out.1]; kernel_rfl) ?_)
      refine (Hok'.out _ hv).mono ?_
      rintro e w8 ⟨rfl, q⟩
      have P8 : Hid (GtO (A + 2) w8 x2 (List.replicate k (.slice none 0 0)) rs2 (newI ⟨kd, ex, le⟩ t ls k) ∧ Boxed w8 (A + 1) #[.int .i64 0, .int .i64 0, .int .i64 0, .slice none 0 0, .slice none 0 0, .slice none 0 0, .slice none 0 0, .int .i64 0, .slice none 0 0, .slice none 0 0, .int .i64 0, .slice none 0 0, .int .i64 0, .int .i64 0] 39 ∧ Boxed w8 y cs 39 ∧ Below w.heap.size w w8 ∧ A + 2 ≤ w8.heap.size) := ⟨H1.out.g.own.below q, H1.out.res.below H1.out.res.under q, HB.out.below HB.out.under q, H1.out.bel.trans (q.mono H1.out.bel.size), by have := H1.out.off; have := HB.out.under; have := q.size; omega⟩
      clear q hv HB H1 Hok'
      obtain ⟨e1, e2⟩ := Hyes.out
      generalize hgi : newI ⟨kd, ex, le⟩ t ls k = gi at e1 e2 P8 Hcs ⊢
      clear hgi
      generalize gi.ok = ok at e1 e2 ⊢
      subst e1
      have E2 : Hid _ := e2
      clear e2 Hyes
      cases fl
      · go_wp2_with (refine wpList_store_row rfl 39 (.tmp 6) (.tmp 53) rfl (A + 1) #[.int .i64 0, .int .i64 0, .int .i64 0, .slice none 0 0, .slice none 0 0, .slice none 0 0, .slice none 0 0, .int .i64 0, .slice none 0 0, .slice none 0 0, .int .i64 0, .slice none 0 0, .int .i64 0, .int .i64 0] rfl rfl _ _ P8.out.2.1 (by kernel_rfl) rfl (by simp [Value.oneCell']) ?_)
        refine bodyPost_ret (results_row_tmp Try.results5 _ _ (A + 1) _ #[.int .i64 0, .int .i64 0, .int .i64 0, .slice none 0 0, .slice none 0 0, .slice none 0 0, .slice none 0 0, .int .i64 0, .slice none 0 0, .slice none 0 0, .int .i64 0, .slice none 0 0, .int .i64 0, .int .i64 0] _ _ (.bool false) rfl rfl (setRow_heap w8 (A + 1) _ _ _ _ P8.out.2.1) Try.underlying39 rfl (by kernel_rfl)) rfl ⟨⟨_, rfl, ?_⟩, below_setRow P8.out.2.2.2.1 (by rw [← HA.out]; omega) _⟩
        rw [E2.out]
        exact (GtLie.zero _ _)
      · go_wp2_with (first | (refine wpList_load_row rfl 39 (.tmp 9) rfl y rfl _ _ _ _ P8.out.2.2.1 Try.underlying39 rfl (by rw [H2.out.1]; kernel_rfl) ?_) | (refine wpList_store_row rfl 39 (.tmp 6) (.tmp 54) rfl (A + 1) cs rfl rfl _ _ P8.out.2.1 (by rw [H2.out.1]; kernel_rfl) (by rw [H2.out.1]; rfl) H2.out.2 ?_))
        refine bodyPost_ret (results_row_tmp Try.results5 _ _ (A + 1) _ cs _ _ (.bool true) rfl rfl (setRow_heap w8 (A + 1) _ _ _ _ P8.out.2.1) Try.underlying39 rfl (by rw [H2.out.1]; kernel_rfl)) rfl ⟨⟨_, rfl, ?_⟩, below_setRow P8.out.2.2.2.1 (by rw [← HA.out]; omega) _⟩
        rw [E2.out, ← Hcs.out]
        have o2 := (P8.out.1.boxedC P8.out.2.1 (w' := w8.setRow (A + 1) cs) (fun k hk _ => setRow_other _ _ _ _ hk)).mono (b' := w.heap.size) (by rw [← HA.out]; omega)
        rw [Hcs.out]
        have o3 := o2.lie
        unfold Gt.val at o3
        rw [Hcs.out] at o3
        exact o3
end Go.Proofs.Ytfkkmjejmflgjaa
