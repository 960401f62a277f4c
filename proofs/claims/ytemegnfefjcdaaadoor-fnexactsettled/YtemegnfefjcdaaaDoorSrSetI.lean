/-
  The walk of the program's Settled, the table of divisors given. By the verifier.
-/
import Derived.Test.YtemegnfefjcdaaaDoorSrStirI
namespace Go.Proofs.YtemegnfefjcdaaaDoor
open Go.RowKit

/-- Stirred so many times, whatever the delay. -/
def Sr.many (p : Sr) (d : Int) (k : Nat) : Sr := if inB 0 100000 d = true then p.times d k else p
theorem Sr.many_next {p : Sr} (h : p.ok = true) (d : Int) (k : Nat) : (p.many d k).stirred d = p.many d (k + 1) := by
  unfold Sr.many Sr.stirred
  cases hd : inB 0 100000 d
  · simp [h]
  · simp only [if_true]
    rw [if_pos (Sr.times_ok h hd k)]
    rfl
theorem Sr.many_settled {p : Sr} (h : p.ok = true) (d n : Int) (hn : inB 0 1000 n = true) : p.settled d n = p.many d n.toNat := by
  unfold Sr.many Sr.settled
  rw [if_pos h, hn]
  cases hd : inB 0 100000 d <;> simp

/-- What a round of Settled finds. -/
structure SrM (w : World) (T : Nat → Sr) (k : Nat) (wr : World) : Prop where
  bel : Below w.heap.size w wr
  box : Boxed wr w.heap.size #[.int .i64 (T k).target, .int .i64 (T k).old, .int .i64 (T k).prob] 25
  res : Boxed wr (w.heap.size + 1) #[.int .i64 0, .int .i64 0, .int .i64 0] 25

set_option maxHeartbeats 3200000 in
set_option maxRecDepth 100000 in
theorem implSettled (p : Sr) (d n : Int) (w : World) (hD : Dv w) :
    Calls Tryd.prog 17 #[p.val, .int .i64 d, .int .i64 n] w fun e w' => e = .returned (p.settled d n).val ∧ Below w.heap.size w w' := by
  have A1 := fun w => implSteerOk p w
  have A3 := fun B w h => implUpTo1 1000 n w B h
  have A4 : p.ok = true → ∀ (j : Nat) (w : World), Dv w → Calls Tryd.prog 9 #[(p.many d j).val, .int .i64 d] w fun e w' => e = .returned (p.many d (j + 1)).val ∧ Below w.heap.size w w' := fun h1 j w hD => by
    rw [← Sr.many_next h1]
    exact implStirred (p.many d j) d w hD
  have HT : Hid (p.many d 0 = p) := by
    show p.many d 0 = p
    unfold Sr.many
    split <;> rfl
  have Hv : Hid (p.settled d n = if p.ok = true then (if inB 0 1000 n = true then p.many d n.toNat else p) else ⟨0, 0, 0⟩) := by
    show p.settled d n = _
    cases h1 : p.ok
    · unfold Sr.settled; simp [h1]
    · cases h2 : inB 0 1000 n
      · unfold Sr.settled; simp [h1, h2]
      · rw [Sr.many_settled h1 d n h2]; simp
  have Hn : Hid (inB 0 1000 n = true → 0 ≤ n ∧ n ≤ 1000) := fun h => by rwa [inB_true] at h
  generalize p.settled d n = F at Hv ⊢
  generalize p.many d = T at A4 Hv HT
  generalize p.ok = ok at A1 A4 Hv
  generalize inB 0 1000 n = t2 at A3 Hv Hn
  obtain ⟨v0, v1, v2⟩ := p
  simp only [Sr.val] at A1 A4 ⊢
  have A1' : Hid _ := A1
  have A3' : Hid _ := A3
  have A4' : Hid _ := A4
  have HD : Hid (Dv w) := hD
  clear A1 A3 A4 hD
  have X : Hid (Boxed ((w.alloc (.cells #[.int .i64 v0, .int .i64 v1, .int .i64 v2] 25)).alloc (.cells #[.int .i64 0, .int .i64 0, .int .i64 0] 25)) w.heap.size #[.int .i64 v0, .int .i64 v1, .int .i64 v2] 25 ∧ Boxed ((w.alloc (.cells #[.int .i64 v0, .int .i64 v1, .int .i64 v2] 25)).alloc (.cells #[.int .i64 0, .int .i64 0, .int .i64 0] 25)) (w.heap.size + 1) #[.int .i64 0, .int .i64 0, .int .i64 0] 25 ∧ Below w.heap.size w ((w.alloc (.cells #[.int .i64 v0, .int .i64 v1, .int .i64 v2] 25)).alloc (.cells #[.int .i64 0, .int .i64 0, .int .i64 0] 25))) := by
    refine ⟨(Boxed.new w _ _).more _, ?_, ((Below.refl _ _).alloc (Nat.le_refl _) _).alloc (by simp) _⟩
    have := Boxed.new (w.alloc (.cells #[.int .i64 v0, .int .i64 v1, .int .i64 v2] 25)) #[.int .i64 0, .int .i64 0, .int .i64 0] 25
    simpa using this
  go_enter Tryd.func17, Tryd.ntmps17
  go_wp2_with (refine wpList_load_row rfl 25 (.tmp 3) rfl w.heap.size rfl _ _ _ _ X.out.1 Tryd.underlying25 rfl (by kernel_rfl) ?_)
  refine (A1'.out _).mono ?_
  rintro e w1 ⟨rfl, q⟩
  have X1 : Hid (Boxed w1 w.heap.size #[.int .i64 v0, .int .i64 v1, .int .i64 v2] 25 ∧ Boxed w1 (w.heap.size + 1) #[.int .i64 0, .int .i64 0, .int .i64 0] 25 ∧ Below w.heap.size w w1) := ⟨X.out.1.below X.out.1.under q, X.out.2.1.below X.out.2.1.under q, X.out.2.2.trans (q.mono X.out.2.2.size)⟩
  clear q X
  cases ok
  · have e1 : F = ⟨0, 0, 0⟩ := by rw [Hv.out]; rfl
    subst e1
    go_wp2_with (refine wpList_store_row rfl 25 (.tmp 6) (.tmp 10) rfl (w.heap.size + 1) #[.int .i64 0, .int .i64 0, .int .i64 0] rfl rfl _ _ X1.out.2.1 (by kernel_rfl) rfl (srOnes _ _ _) ?_)
    exact bodyPost_ret (results_cell_row Tryd.results17 _ _ (w.heap.size + 1) _ _ _ _ rfl (setRow_heap _ (w.heap.size + 1) _ _ _ _ X1.out.2.1) Tryd.underlying25 rfl (by kernel_rfl)) rfl ⟨rfl, below_setRow X1.out.2.2 (by omega) _⟩
  go_wp2_with fail
  refine (A3'.out _ _ (by simp)).mono ?_
  rintro e w' ⟨rfl, hw⟩
  rw [hw]
  have X2 : Hid (Boxed (w1.alloc (.cells #[.int .i64 n] 2)) w.heap.size #[.int .i64 v0, .int .i64 v1, .int .i64 v2] 25 ∧ Boxed (w1.alloc (.cells #[.int .i64 n] 2)) (w.heap.size + 1) #[.int .i64 0, .int .i64 0, .int .i64 0] 25 ∧ Below w.heap.size w (w1.alloc (.cells #[.int .i64 n] 2))) := ⟨X1.out.1.more _, X1.out.2.1.more _, X1.out.2.2.alloc X1.out.2.2.size _⟩
  generalize w1.alloc (.cells #[.int .i64 n] 2) = w2 at X2 ⊢
  clear X1 hw A1' A3'
  cases t2
  · have e1 : F = ⟨v0, v1, v2⟩ := by rw [Hv.out]; rfl
    subst e1
    go_wp2_with (first | (refine wpList_load_row rfl 25 (.tmp 3) rfl w.heap.size rfl _ _ _ _ X2.out.1 Tryd.underlying25 rfl (by kernel_rfl) ?_) | (refine wpList_store_row rfl 25 (.tmp 6) (.tmp 15) rfl (w.heap.size + 1) _ rfl rfl _ _ X2.out.2.1 (by kernel_rfl) rfl (srOnes _ _ _) ?_))
    exact bodyPost_ret (results_cell_row Tryd.results17 _ _ (w.heap.size + 1) _ _ _ _ rfl (setRow_heap _ (w.heap.size + 1) _ _ _ _ X2.out.2.1) Tryd.underlying25 rfl (by kernel_rfl)) rfl ⟨rfl, below_setRow X2.out.2.2 (by omega) _⟩
  have e1 : F = T n.toNat := by rw [Hv.out]; rfl
  have hn := Hn.out (by first | exact trivial | exact rfl)
  have B4 : Hid _ := A4'.out (by first | exact trivial | exact rfl)
  obtain ⟨N, hN⟩ : ∃ N : Nat, n = N := ⟨n.toNat, by omega⟩
  subst hN
  rw [Int.toNat_natCast] at e1
  subst e1
  have hN : N ≤ 1000 := by omega
  clear Hv Hn hn A4'
  have L0 : Hid (SrM w T 0 w2) := ⟨X2.out.2.2, by rw [HT.out]; exact X2.out.1, X2.out.2.1⟩
  clear X2 HT
  go_wp2
  go_loopw [17] (fun nv wr => ∃ k : Nat, k ≤ N ∧ nv = .int .i64 k ∧ Hid (SrM w T k wr)) (fun nv _ => N - (intOf nv).toNat)
  case atStart => exact ⟨0, Nat.zero_le _, rfl, L0.out⟩
  case round =>
    obtain ⟨k, hk, rfl, HL⟩ := hrel
    clear L0
    by_cases hlt : k < N
    · have C := fun w h => B4.out k w h
      have HB : Hid (Boxed wr w.heap.size #[.int .i64 (T k).target, .int .i64 (T k).old, .int .i64 (T k).prob] 25) := HL.out.box
      have HE : Hid (∀ wr' : World, Below w.heap.size w wr' → Boxed wr' w.heap.size #[.int .i64 (T (k + 1)).target, .int .i64 (T (k + 1)).old, .int .i64 (T (k + 1)).prob] 25 → Boxed wr' (w.heap.size + 1) #[.int .i64 0, .int .i64 0, .int .i64 0] 25 → SrM w T (k + 1) wr') := fun wr' h1 h2 h3 => ⟨h1, h2, h3⟩
      generalize T k = s at C HB
      generalize T (k + 1) = u at C HE
      obtain ⟨s0, s1, s2⟩ := s
      obtain ⟨u0, u1, u2⟩ := u
      simp only at C HB HE
      have C' : Hid _ := C
      clear C
      have hk0 : (k : Int) < (N : Int) := by omega
      have kw : IntKind.i64.wrap ((k : Int) + 1) = ((k + 1 : Nat) : Int) := by rw [IntKind.wrap_i64]; omega
      go_wp2_with (refine wpList_load_row rfl 25 (.tmp 3) rfl w.heap.size rfl _ _ _ _ HB.out Tryd.underlying25 rfl (by kernel_rfl) ?_)
      refine (C'.out _ (HD.out.on HL.out.bel)).mono ?_
      rintro e w3 ⟨rfl, q⟩
      have HB2 : Hid (Boxed w3 w.heap.size #[.int .i64 s0, .int .i64 s1, .int .i64 s2] 25 ∧ Below w.heap.size w w3 ∧ Boxed w3 (w.heap.size + 1) #[.int .i64 0, .int .i64 0, .int .i64 0] 25) := ⟨HB.out.below HB.out.under q, HL.out.bel.trans (q.mono HL.out.bel.size), HL.out.res.below HL.out.res.under q⟩
      clear q HB
      have HF : Hid (SrM w T (k + 1) (w3.setRow w.heap.size #[.int .i64 u0, .int .i64 u1, .int .i64 u2])) := HE.out _ (below_setRow HB2.out.2.1 (Nat.le_refl _) _) (setRow_heap _ _ _ _ _ _ HB2.out.1) ((setRow_other _ _ _ _ (by omega)).trans HB2.out.2.2)
      go_wp2_with (refine wpList_store_row rfl 25 (.tmp 3) (.tmp 21) rfl w.heap.size #[.int .i64 u0, .int .i64 u1, .int .i64 u2] rfl rfl _ _ HB2.out.1 (by kernel_rfl) rfl (srOnes _ _ _) ?_)
      go_roundw
      case rel => exact ⟨k + 1, by omega, by first | rfl | (simp only [kw]), HF⟩
      case measure => simp [intOf]; omega
    · obtain rfl : k = N := by omega
      have HB : Hid (Boxed wr w.heap.size #[.int .i64 (T k).target, .int .i64 (T k).old, .int .i64 (T k).prob] 25 ∧ Boxed wr (w.heap.size + 1) #[.int .i64 0, .int .i64 0, .int .i64 0] 25 ∧ Below w.heap.size w wr) := ⟨HL.out.box, HL.out.res, HL.out.bel⟩
      clear HL B4
      obtain ⟨s, hs⟩ : ∃ s, T k = s := ⟨_, rfl⟩
      rw [hs] at HB
      have Hs : Hid (T k = s) := hs
      clear hs
      obtain ⟨s0, s1, s2⟩ := s
      simp only at HB
      go_wp2_with (first | (refine wpList_load_row rfl 25 (.tmp 3) rfl w.heap.size rfl _ _ _ _ HB.out.1 Tryd.underlying25 rfl (by kernel_rfl) ?_) | (refine wpList_store_row rfl 25 (.tmp 6) (.tmp 23) rfl (w.heap.size + 1) _ rfl rfl _ _ HB.out.2.1 (by kernel_rfl) rfl (srOnes _ _ _) ?_))
      exact bodyPost_ret (results_cell_row Tryd.results17 _ _ (w.heap.size + 1) _ _ _ _ rfl (setRow_heap _ (w.heap.size + 1) _ _ _ _ HB.out.2.1) Tryd.underlying25 rfl (by kernel_rfl)) rfl ⟨by rw [Hs.out], below_setRow HB.out.2.2 (by omega) _⟩
end Go.Proofs.YtemegnfefjcdaaaDoor
