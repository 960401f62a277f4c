/-
  The walks of the model's steers: Settled. By the verifier, by program.
-/
import Derived.Test.YtemegnfefjcdaaaDoorSrSpecT
import Derived.Test.YtemegnfefjcdaaaDoorSrPlain
import Derived.Test.YtemegnfefjcdaaaDoorNumIn
import Derived.Test.YtemegnfefjcdaaaDoorNumMin
import Derived.Test.YtemegnfefjcdaaaDoorNumMax
import Derived.Test.YtemegnfefjcdaaaDoorBoxed
import Derived.Test.YtemegnfefjcdaaaDoorStepRow
import Derived.Test.YtemegnfefjcdaaaDoorQuiet
import Derived.BigQuiet
import Derived.Deep.DeepCutAuto
import Derived.Laws.ResultCell
import Derived.Laws.CopyOwn
import Derived.WalkKit
import Derived.WalkSpells
import Derived.WalkLawsBesides
import Derived.RegionTactic
namespace Go.Proofs.YtemegnfefjcdaaaDoor
open Go.RowKit

/-- What a round of Settled finds. -/
structure SrL (w : World) (p : Sr) (d : Int) (N k : Nat) (wr : World) : Prop where
  bel : Below w.heap.size w wr
  box : Boxed wr w.heap.size #[.int .i64 (p.times d (N - k)).target, .int .i64 (p.times d (N - k)).old, .int .i64 (p.times d (N - k)).prob] 25
  res : Boxed wr (w.heap.size + 1) #[.int .i64 0, .int .i64 0, .int .i64 0] 25

set_option maxHeartbeats 3200000 in
set_option maxRecDepth 100000 in
theorem specSettled (p : Sr) (d n : Int) (w : World) :
    Calls Tryd.prog 18 #[p.val, .int .i64 d, .int .i64 n] w fun e w' => e = .returned (p.settled d n).val ∧ Below w.heap.size w w' := by
  have A1 := fun w => specSteerOk p w
  have A2 := fun w => specIn d 0 100000 w
  have A3 := fun w => specIn n 0 1000 w
  have A4 : p.ok = true → inB 0 100000 d = true → ∀ (j : Nat) (w : World), Calls Tryd.prog 30 #[(p.times d j).val, .int .i64 d] w fun e w' => e = .returned (p.times d (j + 1)).val ∧ Below w.heap.size w w' := fun h1 h2 j w => specStir (p.times d j) d w (Sr.times_ok h1 h2 j) h2
  have HT : Hid (p.times d 0 = p) := rfl
  have Hv : Hid (p.settled d n = if p.ok = true then (if inB 0 100000 d = true ∧ inB 0 1000 n = true then p.times d n.toNat else p) else ⟨0, 0, 0⟩) := rfl
  have Hn : Hid (inB 0 1000 n = true → 0 ≤ n ∧ n ≤ 1000) := fun h => by rwa [inB_true] at h
  generalize p.settled d n = F at Hv ⊢
  generalize hT : p.times d = T at A4 Hv HT
  generalize p.ok = ok at A1 A4 Hv
  generalize inB 0 100000 d = t1 at A2 A4 Hv
  generalize inB 0 1000 n = t2 at A3 Hv Hn
  have HTT : Hid (p.times d = T) := hT
  clear hT
  obtain ⟨v0, v1, v2⟩ := p
  simp only [Sr.val] at A1 A4 ⊢
  have A1' : Hid _ := A1
  have A2' : Hid _ := A2
  have A3' : Hid _ := A3
  have A4' : Hid _ := A4
  clear A1 A2 A3 A4
  have X : Hid (Boxed ((w.alloc (.cells #[.int .i64 v0, .int .i64 v1, .int .i64 v2] 25)).alloc (.cells #[.int .i64 0, .int .i64 0, .int .i64 0] 25)) w.heap.size #[.int .i64 v0, .int .i64 v1, .int .i64 v2] 25 ∧ Boxed ((w.alloc (.cells #[.int .i64 v0, .int .i64 v1, .int .i64 v2] 25)).alloc (.cells #[.int .i64 0, .int .i64 0, .int .i64 0] 25)) (w.heap.size + 1) #[.int .i64 0, .int .i64 0, .int .i64 0] 25 ∧ Below w.heap.size w ((w.alloc (.cells #[.int .i64 v0, .int .i64 v1, .int .i64 v2] 25)).alloc (.cells #[.int .i64 0, .int .i64 0, .int .i64 0] 25))) := by
    refine ⟨(Boxed.new w _ _).more _, ?_, ((Below.refl _ _).alloc (Nat.le_refl _) _).alloc (by simp) _⟩
    have := Boxed.new (w.alloc (.cells #[.int .i64 v0, .int .i64 v1, .int .i64 v2] 25)) #[.int .i64 0, .int .i64 0, .int .i64 0] 25
    simpa using this
  go_enter Tryd.func18, Tryd.ntmps18
  go_wp2_with (refine wpList_load_row rfl 25 (.tmp 3) rfl w.heap.size rfl _ _ _ _ X.out.1 Tryd.underlying25 rfl (by kernel_rfl) ?_)
  refine (A1'.out _).mono ?_
  rintro e w1 ⟨rfl, q⟩
  have X1 : Hid (Boxed w1 w.heap.size #[.int .i64 v0, .int .i64 v1, .int .i64 v2] 25 ∧ Boxed w1 (w.heap.size + 1) #[.int .i64 0, .int .i64 0, .int .i64 0] 25 ∧ Below w.heap.size w w1) := ⟨X.out.1.below X.out.1.under q, X.out.2.1.below X.out.2.1.under q, X.out.2.2.trans (q.mono X.out.2.2.size)⟩
  clear q X
  cases ok
  · have e1 : F = ⟨0, 0, 0⟩ := by rw [Hv.out]; rfl
    subst e1
    go_wp2_with (refine wpList_store_row rfl 25 (.tmp 6) (.tmp 10) rfl (w.heap.size + 1) #[.int .i64 0, .int .i64 0, .int .i64 0] rfl rfl _ _ X1.out.2.1 (by kernel_rfl) rfl (srOnes _ _ _) ?_)
    exact bodyPost_ret (results_cell_row Tryd.results18 _ _ (w.heap.size + 1) _ _ _ _ rfl (setRow_heap _ (w.heap.size + 1) _ _ _ _ X1.out.2.1) Tryd.underlying25 rfl (by kernel_rfl)) rfl ⟨rfl, below_setRow X1.out.2.2 (by omega) _⟩
  go_wp2_with fail
  refine (A2'.out _).mono ?_
  rintro e w2 ⟨rfl, hw⟩
  have hw := hw.symm
  subst hw
  cases t1
  · have e1 : F = ⟨v0, v1, v2⟩ := by rw [Hv.out]; rfl
    subst e1
    go_wp2_with (first | (refine wpList_load_row rfl 25 (.tmp 3) rfl w.heap.size rfl _ _ _ _ X1.out.1 Tryd.underlying25 rfl (by kernel_rfl) ?_) | (refine wpList_store_row rfl 25 (.tmp 6) (.tmp 19) rfl (w.heap.size + 1) _ rfl rfl _ _ X1.out.2.1 (by kernel_rfl) rfl (srOnes _ _ _) ?_))
    exact bodyPost_ret (results_cell_row Tryd.results18 _ _ (w.heap.size + 1) _ _ _ _ rfl (setRow_heap _ (w.heap.size + 1) _ _ _ _ X1.out.2.1) Tryd.underlying25 rfl (by kernel_rfl)) rfl ⟨rfl, below_setRow X1.out.2.2 (by omega) _⟩
  go_wp2_with fail
  refine (A3'.out _).mono ?_
  rintro e w2 ⟨rfl, hw⟩
  have hw := hw.symm
  subst hw
  cases t2
  · have e1 : F = ⟨v0, v1, v2⟩ := by rw [Hv.out]; rfl
    subst e1
    go_wp2_with (first | (refine wpList_load_row rfl 25 (.tmp 3) rfl w.heap.size rfl _ _ _ _ X1.out.1 Tryd.underlying25 rfl (by kernel_rfl) ?_) | (refine wpList_store_row rfl 25 (.tmp 6) (.tmp 19) rfl (w.heap.size + 1) _ rfl rfl _ _ X1.out.2.1 (by kernel_rfl) rfl (srOnes _ _ _) ?_))
    exact bodyPost_ret (results_cell_row Tryd.results18 _ _ (w.heap.size + 1) _ _ _ _ rfl (setRow_heap _ (w.heap.size + 1) _ _ _ _ X1.out.2.1) Tryd.underlying25 rfl (by kernel_rfl)) rfl ⟨rfl, below_setRow X1.out.2.2 (by omega) _⟩
  have e1 : F = T n.toNat := by rw [Hv.out]; rfl
  have hn := Hn.out (by first | exact trivial | exact rfl)
  have B4 : Hid _ := A4'.out (by first | exact trivial | exact rfl) (by first | exact trivial | exact rfl)
  obtain ⟨N, hN⟩ : ∃ N : Nat, n = N := ⟨n.toNat, by omega⟩
  subst hN
  rw [Int.toNat_natCast] at e1
  subst e1
  have hN : N ≤ 1000 := by omega
  clear Hv Hn hn A1' A2' A3' A4'
  have L0 : Hid (SrL w ⟨v0, v1, v2⟩ d N N w1) := by
    refine ⟨X1.out.2.2, ?_, X1.out.2.1⟩
    rw [Nat.sub_self]
    exact X1.out.1
  go_wp2
  go_loopw [2] (fun nv wr => ∃ k : Nat, k ≤ N ∧ nv = .int .i64 k ∧ Hid (SrL w ⟨v0, v1, v2⟩ d N k wr)) (fun nv _ => (intOf nv).toNat)
  case atStart => exact ⟨N, Nat.le_refl _, rfl, L0.out⟩
  case round =>
    obtain ⟨k, hk, rfl, HL⟩ := hrel
    clear L0
    by_cases hlt : 0 < k
    · have C := fun w => B4.out (N - k) w
      have e3 : N - k + 1 = N - (k - 1) := by omega
      rw [e3] at C
      have hb := HL.out.box
      have HB : Hid (Boxed wr w.heap.size #[.int .i64 (T (N - k)).target, .int .i64 (T (N - k)).old, .int .i64 (T (N - k)).prob] 25) := by
        rw [HTT.out] at hb
        exact hb
      have HE : Hid (∀ wr' : World, Below w.heap.size w wr' → Boxed wr' w.heap.size #[.int .i64 (T (N - (k - 1))).target, .int .i64 (T (N - (k - 1))).old, .int .i64 (T (N - (k - 1))).prob] 25 → Boxed wr' (w.heap.size + 1) #[.int .i64 0, .int .i64 0, .int .i64 0] 25 → SrL w ⟨v0, v1, v2⟩ d N (k - 1) wr') := fun wr' h1 h2 h3 => ⟨h1, by rw [HTT.out]; exact h2, h3⟩
      clear hb e3
      generalize T (N - k) = s at C HB
      generalize T (N - (k - 1)) = u at C HE
      obtain ⟨s0, s1, s2⟩ := s
      obtain ⟨u0, u1, u2⟩ := u
      simp only at C HB HE
      have C' : Hid _ := C
      clear C
      have hk0 : (0 : Int) < (k : Int) := by omega
      have kw : IntKind.i64.wrap ((k : Int) - 1) = ((k - 1 : Nat) : Int) := by rw [IntKind.wrap_i64]; omega
      go_wp2_with (refine wpList_load_row rfl 25 (.tmp 3) rfl w.heap.size rfl _ _ _ _ HB.out Tryd.underlying25 rfl (by kernel_rfl) ?_)
      refine (C'.out _).mono ?_
      rintro e w2 ⟨rfl, q⟩
      have HB2 : Hid (Boxed w2 w.heap.size #[.int .i64 s0, .int .i64 s1, .int .i64 s2] 25 ∧ Below w.heap.size w w2 ∧ Boxed w2 (w.heap.size + 1) #[.int .i64 0, .int .i64 0, .int .i64 0] 25) := ⟨HB.out.below HB.out.under q, HL.out.bel.trans (q.mono HL.out.bel.size), HL.out.res.below HL.out.res.under q⟩
      clear q HB
      have HF : Hid (SrL w ⟨v0, v1, v2⟩ d N (k - 1) (w2.setRow w.heap.size #[.int .i64 u0, .int .i64 u1, .int .i64 u2])) := HE.out _ (below_setRow HB2.out.2.1 (Nat.le_refl _) _) (setRow_heap _ _ _ _ _ _ HB2.out.1) ((setRow_other _ _ _ _ (by omega)).trans HB2.out.2.2)
      go_wp2_with (refine wpList_store_row rfl 25 (.tmp 3) (.tmp 26) rfl w.heap.size #[.int .i64 u0, .int .i64 u1, .int .i64 u2] rfl rfl _ _ HB2.out.1 (by kernel_rfl) rfl (srOnes _ _ _) ?_)
      go_roundw
      case rel => exact ⟨k - 1, by omega, by first | rfl | (simp only [kw]), HF⟩
      case measure => simp [intOf]; omega
    · obtain rfl : k = 0 := by omega
      have hb := HL.out.box
      have HB : Hid (Boxed wr w.heap.size #[.int .i64 (T N).target, .int .i64 (T N).old, .int .i64 (T N).prob] 25 ∧ Boxed wr (w.heap.size + 1) #[.int .i64 0, .int .i64 0, .int .i64 0] 25 ∧ Below w.heap.size w wr) := by
        rw [HTT.out] at hb
        exact ⟨hb, HL.out.res, HL.out.bel⟩
      clear hb HL HT HTT B4 X1
      obtain ⟨s, hs⟩ : ∃ s, T N = s := ⟨_, rfl⟩
      rw [hs] at HB
      have Hs : Hid (T N = s) := hs
      clear hs
      obtain ⟨s0, s1, s2⟩ := s
      simp only at HB
      go_wp2_with (first | (refine wpList_load_row rfl 25 (.tmp 3) rfl w.heap.size rfl _ _ _ _ HB.out.1 Tryd.underlying25 rfl (by kernel_rfl) ?_) | (refine wpList_store_row rfl 25 (.tmp 6) (.tmp 27) rfl (w.heap.size + 1) _ rfl rfl _ _ HB.out.2.1 (by kernel_rfl) rfl (srOnes _ _ _) ?_))
      exact bodyPost_ret (results_cell_row Tryd.results18 _ _ (w.heap.size + 1) _ _ _ _ rfl (setRow_heap _ (w.heap.size + 1) _ _ _ _ HB.out.2.1) Tryd.underlying25 rfl (by kernel_rfl)) rfl ⟨by rw [Hs.out], below_setRow HB.out.2.2 (by omega) _⟩
end Go.Proofs.YtemegnfefjcdaaaDoor
