/-
  The walk of FnSettled, the program's contracts given. By the verifier, by program.
-/
import Derived.Test.YtemegnfefjcdaaaDoorSrDrawN
import Derived.Test.YtemegnfefjcdaaaDoorSrSpecS
import Derived.Test.YtemegnfefjcdaaaDoorSrFacts
import Derived.Test.YtemegnfefjcdaaaDoorPickD
import Derived.Test.YtemegnfefjcdaaaDoorBxs
import Derived.BigQuiet
namespace Go.Proofs.YtemegnfefjcdaaaDoor
open Go.RowKit

/-- The prob of a steer that is no variable. -/
theorem srProb (v0 v1 v2 : Int) (w : World) : (Instr.field 25 (.agg #[.int .i64 v0, .int .i64 v1, .int .i64 v2]) 2).run Tryd.prog w = .ok (.int .i64 v2) w := by rfl
/-- Was all in its range? -/
def Sr.fit (p : Sr) (d n : Int) : Bool := p.ok && (inB 0 100000 d && inB 0 1000 n)
theorem Sr.settled_fit (p : Sr) (d n : Int) (h : p.fit d n = false) : p.settled d n = if p.ok = true then p else ⟨0, 0, 0⟩ := by
  unfold Sr.settled
  unfold Sr.fit at h
  cases hk : p.ok
  · rfl
  · rw [hk, Bool.true_and, Bool.and_eq_false_iff] at h
    rw [if_pos rfl, if_pos rfl, if_neg]
    rintro ⟨h1, h2⟩
    rcases h with h | h
    · rw [h1] at h; cases h
    · rw [h2] at h; cases h
/-- What a round of the loop finds. -/
structure SrW (w : World) (gl : Nat) (P : Int) (k : Nat) (wr : World) : Prop where
  bel : Below w.heap.size w wr
  le : w.heap.size ≤ gl
  box : Boxed wr gl #[.int .i64 (Sr.times ⟨20, 0, P⟩ 0 (1000 * k)).target, .int .i64 (Sr.times ⟨20, 0, P⟩ 0 (1000 * k)).old, .int .i64 (Sr.times ⟨20, 0, P⟩ 0 (1000 * k)).prob] 25

set_option maxHeartbeats 6400000 in
set_option maxRecDepth 100000 in
theorem fnSettled_law
    (a : Option Addr) (len cap : Nat) (w : World)
    (IS : ∀ (l : Sr) (d n : Int) (x : World), Below w.heap.size w x → Calls Tryd.prog 17 #[l.val, .int .i64 d, .int .i64 n] x fun e w' => e = .returned (l.settled d n).val ∧ Below x.heap.size x w')
    (hcode : ∀ k, k < len → ∃ b off z, a = some ⟨b, off, none⟩ ∧ b < w.heap.size ∧ w.cell? ⟨b, off + k, none⟩ = some (.int .u8 z) ∧ 0 ≤ z ∧ z ≤ 255) :
    Calls Tryd.prog 4 #[.slice a len cap] w fun e w' => e = .returned (.bool true) ∧ Below w.heap.size w w' := by
  by_cases hbig : 4096 < len
  · clear hcode IS
    go_enter Tryd.func4, Tryd.ntmps4
    go_wp2
    go_ret
    exact ⟨rfl, Below.refl _ _⟩
  have hc : Hid (Code w a len) := ⟨by omega, hcode⟩
  have hb : Hid (Below w.heap.size w w) := Below.refl _ _
  have IS' : Hid _ := IS
  clear hcode IS
  go_enter Tryd.func4, Tryd.ntmps4
  go_wp2_with (go_at_call 7; go_in)
  refine (dDrawSettled hc _ hb).mono ?_
  rintro e w1 ⟨⟨⟨s0, s1, s2⟩, d, n, rfl, _, hd, hn⟩, q⟩
  have H1 : Hid (Bxs 25 [] w w1) := ⟨q, fun _ _ h => by cases h⟩
  clear q hb
  simp only [Sr.val]
  have N : Hid (Boxed (w1.alloc (.cells #[.int .i64 0, .int .i64 0, .int .i64 0] 25)) w1.heap.size #[.int .i64 0, .int .i64 0, .int .i64 0] 25) := Boxed.new _ _ _
  have H2 : Hid (Bxs 25 [(w1.heap.size, #[.int .i64 s0, .int .i64 s1, .int .i64 s2])] w ((w1.alloc (.cells #[.int .i64 0, .int .i64 0, .int .i64 0] 25)).setRow w1.heap.size #[.int .i64 s0, .int .i64 s1, .int .i64 s2])) := H1.out.store _ _
  go_wp2_with (first | (refine wpList_store_row rfl 25 (.tmp _) (.tmp _) rfl w1.heap.size #[.int .i64 s0, .int .i64 s1, .int .i64 s2] rfl rfl _ _ N.out (by kernel_rfl) rfl (srOnes _ _ _) ?_) | (refine wpList_load_row rfl 25 (.tmp _) rfl (w1.heap.size) rfl _ _ _ _ (H2.out.at 0 rfl) Tryd.underlying25 rfl (by kernel_rfl) ?_))
  generalize ((w1.alloc (.cells #[.int .i64 0, .int .i64 0, .int .i64 0] 25)).setRow w1.heap.size #[.int .i64 s0, .int .i64 s1, .int .i64 s2]) = w2 at H2 ⊢
  generalize w1.heap.size = gs at H2 ⊢
  clear N H1
  obtain ⟨x, hx⟩ : ∃ x, x = Sr.settled (Sr.mk s0 s1 s2) d n := ⟨_, rfl⟩
  have C := fun x hx => IS'.out (Sr.mk s0 s1 s2) d n x hx
  have D := fun w => specSettled (Sr.mk s0 s1 s2) d n w
  rw [← hx] at C D
  obtain ⟨x0, x1, x2⟩ := x
  simp only [Sr.val] at C D
  have Hx : Hid ((Sr.mk x0 x1 x2) = _) := hx
  have C' : Hid _ := C
  have D' : Hid _ := D
  clear hx C D hd hn
  refine (C'.out _ H2.out.bel).mono ?_
  rintro e w3 ⟨rfl, q⟩
  have H3 : Hid (Bxs 25 [(gs, #[.int .i64 s0, .int .i64 s1, .int .i64 s2])] w w3) := H2.out.below q
  clear q H2 C'
  have N : Hid (Boxed (w3.alloc (.cells #[.int .i64 0, .int .i64 0, .int .i64 0] 25)) w3.heap.size #[.int .i64 0, .int .i64 0, .int .i64 0] 25) := Boxed.new _ _ _
  have H4 : Hid (Bxs 25 [(w3.heap.size, #[.int .i64 x0, .int .i64 x1, .int .i64 x2]), (gs, #[.int .i64 s0, .int .i64 s1, .int .i64 s2])] w ((w3.alloc (.cells #[.int .i64 0, .int .i64 0, .int .i64 0] 25)).setRow w3.heap.size #[.int .i64 x0, .int .i64 x1, .int .i64 x2])) := H3.out.store _ _
  go_wp2_with (first | (refine wpList_store_row rfl 25 (.tmp _) (.tmp _) rfl w3.heap.size #[.int .i64 x0, .int .i64 x1, .int .i64 x2] rfl rfl _ _ N.out (by kernel_rfl) rfl (srOnes _ _ _) ?_) | (refine wpList_load_row rfl 25 (.tmp _) rfl (w3.heap.size) rfl _ _ _ _ (H4.out.at 0 rfl) Tryd.underlying25 rfl (by kernel_rfl) ?_) | (refine wpList_load_row rfl 25 (.tmp _) rfl (gs) rfl _ _ _ _ (H4.out.at 1 rfl) Tryd.underlying25 rfl (by kernel_rfl) ?_))
  generalize ((w3.alloc (.cells #[.int .i64 0, .int .i64 0, .int .i64 0] 25)).setRow w3.heap.size #[.int .i64 x0, .int .i64 x1, .int .i64 x2]) = w4 at H4 ⊢
  generalize w3.heap.size = gx at H4 ⊢
  clear N H3
  have cgs0 : ∀ p : BelW w4.heap.size w4, p.w'.cell? ⟨gs, 0, none⟩ = some (.int .i64 s0) := fun p => ((H4.out.below p.h).at 1 rfl).cell 0 rfl
  have cgs1 : ∀ p : BelW w4.heap.size w4, p.w'.cell? ⟨gs, 1, none⟩ = some (.int .i64 s1) := fun p => ((H4.out.below p.h).at 1 rfl).cell 1 rfl
  have cgs2 : ∀ p : BelW w4.heap.size w4, p.w'.cell? ⟨gs, 2, none⟩ = some (.int .i64 s2) := fun p => ((H4.out.below p.h).at 1 rfl).cell 2 rfl
  have cgx0 : ∀ p : BelW w4.heap.size w4, p.w'.cell? ⟨gx, 0, none⟩ = some (.int .i64 x0) := fun p => ((H4.out.below p.h).at 0 rfl).cell 0 rfl
  have cgx1 : ∀ p : BelW w4.heap.size w4, p.w'.cell? ⟨gx, 1, none⟩ = some (.int .i64 x1) := fun p => ((H4.out.below p.h).at 0 rfl).cell 1 rfl
  have cgx2 : ∀ p : BelW w4.heap.size w4, p.w'.cell? ⟨gx, 2, none⟩ = some (.int .i64 x2) := fun p => ((H4.out.below p.h).at 0 rfl).cell 2 rfl
  haveI : Nonempty (BelW w4.heap.size w4) := ⟨⟨w4, Below.refl _ _⟩⟩
  simp only [Act.put]
  refine region_below w4.heap.size (by kernel_rfl) (by kernel_rfl) ?_
  repeat (go_big_quiet_step ((go_at_call 18; refine quiet_below (Nat.le_refl _) (D'.out _))))
  refine wpQuiet_nil ?_
  intro w5 hx
  have q := BelW.out hx
  have H5 : Hid (Bxs 25 [(gx, #[.int .i64 x0, .int .i64 x1, .int .i64 x2]), (gs, #[.int .i64 s0, .int .i64 s1, .int .i64 s2])] w w5) := H4.out.below q
  clear hx q H4 cgs0 cgs1 cgs2 cgx0 cgx1 cgx2 D'
  obtain ⟨ok, hok⟩ : ∃ b, b = Sr.ok (Sr.mk s0 s1 s2) := ⟨_, rfl⟩
  obtain ⟨fit, hfit⟩ : ∃ b, b = Sr.fit (Sr.mk s0 s1 s2) d n := ⟨_, rfl⟩
  have A4 := fun w => specSteerOk (Sr.mk s0 s1 s2) w
  rw [← hok] at A4
  simp only [Sr.val] at A4
  have Hok : Hid (ok = _) := hok
  have Hfit : Hid (fit = (ok && (inB 0 100000 d && inB 0 1000 n))) := by
    show fit = _
    rw [hfit, hok]
    rfl
  have HF : Hid (fit = Sr.fit (Sr.mk s0 s1 s2) d n) := hfit
  have A4' : Hid _ := A4
  clear A4 hok hfit
  go_upto_region 7 with fail
  go_cut [47] (fun s wc => Hid (s = .bool (!fit) ∧ Bxs 25 [(gx, #[.int .i64 x0, .int .i64 x1, .int .i64 x2]), (gs, #[.int .i64 s0, .int .i64 s1, .int .i64 s2])] w wc))
  case first =>
    go_wp2_with (first | (refine wpList_load_row rfl 25 (.tmp _) rfl (gs) rfl _ _ _ _ (H5.out.at 1 rfl) Tryd.underlying25 rfl (by kernel_rfl) ?_))
    refine (A4'.out _).mono ?_
    rintro e u1 ⟨rfl, q⟩
    have K2 : Hid (Bxs 25 [(gx, #[.int .i64 x0, .int .i64 x1, .int .i64 x2]), (gs, #[.int .i64 s0, .int .i64 s1, .int .i64 s2])] w u1) := H5.out.below q
    clear q H5
    cases ok
    · go_wp2_with fail
      go_meet
      exact ⟨by rw [Hfit.out]; rfl, K2.out⟩
    by_cases g1 : d < 0
    · go_wp2_with fail
      go_meet
      exact ⟨by rw [Hfit.out, inB_false.2 (show d < 0 ∨ 100000 < d by omega)]; rfl, K2.out⟩
    by_cases g2 : 100000 < d
    · go_wp2_with fail
      go_meet
      exact ⟨by rw [Hfit.out, inB_false.2 (show d < 0 ∨ 100000 < d by omega)]; rfl, K2.out⟩
    by_cases g3 : n < 0
    · go_wp2_with fail
      go_meet
      exact ⟨by rw [Hfit.out, inB_false.2 (show n < 0 ∨ 1000 < n by omega), Bool.and_false]; rfl, K2.out⟩
    by_cases g4 : 1000 < n
    · go_wp2_with fail
      go_meet
      exact ⟨by rw [Hfit.out, inB_false.2 (show n < 0 ∨ 1000 < n by omega), Bool.and_false]; first | rfl | (rw [decide_eq_true g4]; rfl), K2.out⟩
    · go_wp2_with fail
      go_meet
      exact ⟨by rw [Hfit.out, inB_true.2 (show 0 ≤ d ∧ d ≤ 100000 by omega), inB_true.2 (show 0 ≤ n ∧ n ≤ 1000 by omega)]; first | rfl | (rw [decide_eq_false g4]; rfl) | (rw [decide_eq_false (show ¬ d < 0 by omega), decide_eq_false (show ¬ 100000 < d by omega), decide_eq_false (show ¬ n < 0 by omega), decide_eq_false (show ¬ 1000 < n by omega)]; rfl), K2.out⟩
  case rest =>
    obtain ⟨rfl, hK⟩ := hcut.out
    have K1 : Hid (Bxs 25 [(gx, #[.int .i64 x0, .int .i64 x1, .int .i64 x2]), (gs, #[.int .i64 s0, .int .i64 s1, .int .i64 s2])] w wc) := hK
    clear hcut hK H5
    cases fit with
    | false =>
      have e := Hx.out
      rw [Sr.settled_fit _ _ _ HF.out.symm] at e
      cases ok with
      | false =>
        rw [if_neg (by rw [← Hok.out]; decide)] at e
        cases e
        clear Hx HF Hfit
        go_wp2_with (first | (refine wpList_load_row rfl 25 (.tmp _) rfl (gs) rfl _ _ _ _ (K1.out.at 1 rfl) Tryd.underlying25 rfl (by kernel_rfl) ?_))
        refine (A4'.out _).mono ?_
        rintro e u1 ⟨rfl, q⟩
        have K2 : Hid (Bxs 25 [(gx, #[.int .i64 0, .int .i64 0, .int .i64 0]), (gs, #[.int .i64 s0, .int .i64 s1, .int .i64 s2])] w u1) := K1.out.below q
        clear q K1
        have cgs0 : u1.cell? ⟨gs, 0, none⟩ = some (.int .i64 s0) := (K2.out.at 1 rfl).cell 0 rfl
        have cgs1 : u1.cell? ⟨gs, 1, none⟩ = some (.int .i64 s1) := (K2.out.at 1 rfl).cell 1 rfl
        have cgs2 : u1.cell? ⟨gs, 2, none⟩ = some (.int .i64 s2) := (K2.out.at 1 rfl).cell 2 rfl
        have cgx0 : u1.cell? ⟨gx, 0, none⟩ = some (.int .i64 0) := (K2.out.at 0 rfl).cell 0 rfl
        have cgx1 : u1.cell? ⟨gx, 1, none⟩ = some (.int .i64 0) := (K2.out.at 0 rfl).cell 1 rfl
        have cgx2 : u1.cell? ⟨gx, 2, none⟩ = some (.int .i64 0) := (K2.out.at 0 rfl).cell 2 rfl
        go_wp2
        go_ret
        exact ⟨by first | rfl | simp, K2.out.bel⟩
      | true =>
        rw [if_pos (by rw [← Hok.out])] at e
        cases e
        clear Hx HF Hfit
        go_wp2_with (first | (refine wpList_load_row rfl 25 (.tmp _) rfl (gs) rfl _ _ _ _ (K1.out.at 1 rfl) Tryd.underlying25 rfl (by kernel_rfl) ?_))
        refine (A4'.out _).mono ?_
        rintro e u1 ⟨rfl, q⟩
        have K2 : Hid (Bxs 25 [(gx, #[.int .i64 s0, .int .i64 s1, .int .i64 s2]), (gs, #[.int .i64 s0, .int .i64 s1, .int .i64 s2])] w u1) := K1.out.below q
        clear q K1
        have cgs0 : u1.cell? ⟨gs, 0, none⟩ = some (.int .i64 s0) := (K2.out.at 1 rfl).cell 0 rfl
        have cgs1 : u1.cell? ⟨gs, 1, none⟩ = some (.int .i64 s1) := (K2.out.at 1 rfl).cell 1 rfl
        have cgs2 : u1.cell? ⟨gs, 2, none⟩ = some (.int .i64 s2) := (K2.out.at 1 rfl).cell 2 rfl
        have cgx0 : u1.cell? ⟨gx, 0, none⟩ = some (.int .i64 s0) := (K2.out.at 0 rfl).cell 0 rfl
        have cgx1 : u1.cell? ⟨gx, 1, none⟩ = some (.int .i64 s1) := (K2.out.at 0 rfl).cell 1 rfl
        have cgx2 : u1.cell? ⟨gx, 2, none⟩ = some (.int .i64 s2) := (K2.out.at 0 rfl).cell 2 rfl
        go_wp2
        go_ret
        exact ⟨by first | rfl | simp, K2.out.bel⟩
    | true =>
      have hf : Sr.fit (Sr.mk s0 s1 s2) d n = true := HF.out.symm
      unfold Sr.fit at hf
      simp only [Bool.and_eq_true] at hf
      have hn := hf.2.2
      rw [inB_true] at hn
      have hh := Sr.settled_half (p := (Sr.mk s0 s1 s2)) hf.1 hf.2.1 hf.2.2
      rw [← Hx.out] at hh
      have kd : Int.tdiv n 2 = n / 2 := Int.tdiv_eq_ediv_of_nonneg hn.1
      have k1 : IntKind.i64.wrap (n / 2) = n / 2 := by rw [IntKind.wrap_i64]; omega
      have k2 : IntKind.i64.wrap (n - n / 2) = n - n / 2 := by rw [IntKind.wrap_i64]; omega
      obtain ⟨m, hm⟩ : ∃ m, m = Sr.settled (Sr.mk s0 s1 s2) d (n / 2) := ⟨_, rfl⟩
      have C1 := fun x hx => IS'.out (Sr.mk s0 s1 s2) d (n / 2) x hx
      rw [← hm] at C1 hh
      have C2 := fun x hx => IS'.out m d (n - n / 2) x hx
      rw [hh] at C2
      obtain ⟨m0, m1, m2⟩ := m
      simp only [Sr.val] at C1 C2
      have C1' : Hid _ := C1
      have C2' : Hid _ := C2
      clear C1 C2 hh hm hf hn Hx HF Hfit Hok A4'
      go_wp2_with (first | (refine wpList_load_row rfl 25 (.tmp _) rfl (gs) rfl _ _ _ _ (K1.out.at 1 rfl) Tryd.underlying25 rfl (by kernel_rfl) ?_))
      refine (C1'.out _ K1.out.bel).mono ?_
      rintro e u1 ⟨rfl, q⟩
      have K2 : Hid (Bxs 25 [(gx, #[.int .i64 x0, .int .i64 x1, .int .i64 x2]), (gs, #[.int .i64 s0, .int .i64 s1, .int .i64 s2])] w u1) := K1.out.below q
      clear q K1 C1'
      go_wp2_with fail
      refine (C2'.out _ K2.out.bel).mono ?_
      rintro e u2 ⟨rfl, q⟩
      have K3 : Hid (Bxs 25 [(gx, #[.int .i64 x0, .int .i64 x1, .int .i64 x2]), (gs, #[.int .i64 s0, .int .i64 s1, .int .i64 s2])] w u2) := K2.out.below q
      clear q K2 C2' kd k1 k2
      have N : Hid (Boxed (u2.alloc (.cells #[.int .i64 0, .int .i64 0, .int .i64 0] 25)) u2.heap.size #[.int .i64 0, .int .i64 0, .int .i64 0] 25) := Boxed.new _ _ _
      have K4 : Hid (Bxs 25 [(u2.heap.size, #[.int .i64 x0, .int .i64 x1, .int .i64 x2]), (gx, #[.int .i64 x0, .int .i64 x1, .int .i64 x2]), (gs, #[.int .i64 s0, .int .i64 s1, .int .i64 s2])] w ((u2.alloc (.cells #[.int .i64 0, .int .i64 0, .int .i64 0] 25)).setRow u2.heap.size #[.int .i64 x0, .int .i64 x1, .int .i64 x2])) := K3.out.store _ _
      go_upto_region 10 with (refine wpList_store_row rfl 25 (.tmp _) (.tmp _) rfl u2.heap.size #[.int .i64 x0, .int .i64 x1, .int .i64 x2] rfl rfl _ _ N.out (by kernel_rfl) rfl (srOnes _ _ _) ?_)
      generalize ((u2.alloc (.cells #[.int .i64 0, .int .i64 0, .int .i64 0] 25)).setRow u2.heap.size #[.int .i64 x0, .int .i64 x1, .int .i64 x2]) = u3 at K4 ⊢
      generalize u2.heap.size = gh at K4 ⊢
      clear N K3
      obtain ⟨P, hP, PK⟩ := lawPickD (cap := cap) hc 1 1048576 (by omega) (by omega) (by omega) (by omega)
      have PK' : Hid _ := PK
      have B0 : Hid (Below w.heap.size w u3) := K4.out.bel
      clear PK
      go_wp2_with (first | (refine wpList_load_row rfl 25 (.tmp _) rfl gh rfl _ _ _ _ (K4.out.at 0 rfl) Tryd.underlying25 rfl (by kernel_rfl) ?_) | (refine wpList_load_row rfl 25 (.tmp _) rfl gx rfl _ _ _ _ (K4.out.at 1 rfl) Tryd.underlying25 rfl (by kernel_rfl) ?_))
      refine (PK'.out _ B0).mono ?_
      rintro e w' ⟨rfl, hw⟩
      have hw := hw.symm
      subst hw
      clear PK'
      have hy : Sr.ok ⟨20, 0, P⟩ = true := by rw [Sr.ok_iff]; simp only; omega
      have N1 : Hid (Boxed (u3.alloc (.cells #[.int .i64 0, .int .i64 0, .int .i64 0] 25)) u3.heap.size #[.int .i64 0, .int .i64 0, .int .i64 0] 25) := Boxed.new _ _ _
      have Y1 : Hid (Boxed ((u3.alloc (.cells #[.int .i64 0, .int .i64 0, .int .i64 0] 25)).setRow u3.heap.size #[.int .i64 20, .int .i64 0, .int .i64 P]) u3.heap.size #[.int .i64 20, .int .i64 0, .int .i64 P] 25 ∧ Below w.heap.size w ((u3.alloc (.cells #[.int .i64 0, .int .i64 0, .int .i64 0] 25)).setRow u3.heap.size #[.int .i64 20, .int .i64 0, .int .i64 P])) := ⟨setRow_heap _ _ _ _ _ _ N1.out, below_setRow (B0.out.alloc B0.out.size _) B0.out.size _⟩
      go_upto_region 13 with (refine wpList_store_row rfl 25 (.tmp _) (.tmp _) rfl u3.heap.size #[.int .i64 20, .int .i64 0, .int .i64 P] rfl rfl _ _ N1.out (by kernel_rfl) rfl (srOnes _ _ _) ?_)
      generalize ((u3.alloc (.cells #[.int .i64 0, .int .i64 0, .int .i64 0] 25)).setRow u3.heap.size #[.int .i64 20, .int .i64 0, .int .i64 P]) = u4 at Y1 ⊢
      generalize u3.heap.size = gy at Y1 ⊢
      clear N1 B0 K4
      have N1 : Hid (Boxed (u4.alloc (.cells #[.int .i64 0, .int .i64 0, .int .i64 0] 25)) u4.heap.size #[.int .i64 0, .int .i64 0, .int .i64 0] 25) := Boxed.new _ _ _
      have G0 : Hid (SrW w u4.heap.size P 0 ((u4.alloc (.cells #[.int .i64 0, .int .i64 0, .int .i64 0] 25)).setRow u4.heap.size #[.int .i64 20, .int .i64 0, .int .i64 P])) := by
        have hb := Y1.out.2.size
        exact ⟨below_setRow (Y1.out.2.alloc hb _) hb _, hb, setRow_heap _ _ _ _ _ _ N1.out⟩
      have y0 := (Boxed.more Y1.out.1 (.cells #[.int .i64 0, .int .i64 0, .int .i64 0] 25)).cell 0 rfl
      have y1 := (Boxed.more Y1.out.1 (.cells #[.int .i64 0, .int .i64 0, .int .i64 0] 25)).cell 1 rfl
      have y2 := (Boxed.more Y1.out.1 (.cells #[.int .i64 0, .int .i64 0, .int .i64 0] 25)).cell 2 rfl
      go_upto_region 14 with (first | (refine wpList_load_row rfl 25 (.tmp _) rfl gy rfl _ _ _ _ Y1.out.1 Tryd.underlying25 rfl (by kernel_rfl) ?_) | (refine wpList_store_row rfl 25 (.tmp _) (.tmp _) rfl u4.heap.size #[.int .i64 20, .int .i64 0, .int .i64 P] rfl rfl _ _ N1.out (by kernel_rfl) rfl (srOnes _ _ _) ?_))
      generalize ((u4.alloc (.cells #[.int .i64 0, .int .i64 0, .int .i64 0] 25)).setRow u4.heap.size #[.int .i64 20, .int .i64 0, .int .i64 P]) = wl at G0 ⊢
      clear y0 y1 y2
      generalize u4.heap.size = gl at G0 ⊢
      clear N1 Y1 hP
      have IL : Hid (∀ (k : Nat) (x : World), Below w.heap.size w x → Calls Tryd.prog 17 #[(Sr.times ⟨20, 0, P⟩ 0 (1000 * k)).val, .int .i64 0, .int .i64 1000] x fun e w' => e = .returned (Sr.times ⟨20, 0, P⟩ 0 (1000 * (k + 1))).val ∧ Below x.heap.size x w') := fun k x hx => by
        have hd : inB 0 100000 0 = true := by rw [inB_true]; omega
        have h := IS'.out (Sr.times ⟨20, 0, P⟩ 0 (1000 * k)) 0 1000 x hx
        rw [Sr.settled_ok (Sr.times_ok hy hd _) hd (by rw [inB_true]; omega), Sr.times_add] at h
        exact h
      have IE : Hid (∀ k : Nat, 30 ≤ k → (Sr.times ⟨20, 0, P⟩ 0 (1000 * k)).prob < 10485) := fun k hk => by
        have h := (Sr.eased hy rfl (1000 * k)).2
        omega
      have Q1 := fun x hx => IS'.out ⟨20, 0, 0⟩ 20 1000 x hx
      have Q2 := fun x hx => IS'.out ⟨20, 0, 0⟩ 5000 1000 x hx
      have h20 : Sr.ok ⟨20, 0, 0⟩ = true := by rw [Sr.ok_iff]; simp only; omega
      have hq1 : (Sr.settled ⟨20, 0, 0⟩ 20 1000).prob = 0 := by
        rw [Sr.settled_ok h20 (by rw [inB_true]; omega) (by rw [inB_true]; omega)]
        exact Sr.still _
      have hq2 : 0 ≤ (Sr.settled ⟨20, 0, 0⟩ 5000 1000).prob := by
        rw [Sr.settled_ok h20 (by rw [inB_true]; omega) (by rw [inB_true]; omega)]
        exact (Sr.ok_iff.1 (Sr.times_ok h20 (by rw [inB_true]; omega) _)).2.2.1
      generalize Sr.settled ⟨20, 0, 0⟩ 20 1000 = z1 at Q1 hq1
      generalize Sr.settled ⟨20, 0, 0⟩ 5000 1000 = z2 at Q2 hq2
      obtain ⟨p0, p1, p2⟩ := z1
      obtain ⟨q0, q1, q2⟩ := z2
      simp only at hq1 hq2
      subst hq1
      simp only [Sr.val] at Q1 Q2
      have Q1' : Hid _ := Q1
      have Q2' : Hid _ := Q2
      have HQ : Hid (0 ≤ q2) := hq2
      clear Q1 Q2 h20 hy hq2 IS'
      go_wp2
      go_loopw [10] (fun iv wr => ∃ k : Nat, k ≤ 30 ∧ iv = .int .i64 k ∧ Hid (SrW w gl P k wr)) (fun iv _ => 30 - (intOf iv).toNat)
      case atStart => exact ⟨0, by omega, rfl, G0.out⟩
      case round =>
        obtain ⟨k, hk, rfl, HG⟩ := hrel
        clear G0
        by_cases hlt : k < 30
        · have C := fun x hx => IL.out k x hx
          have HB : Hid (Boxed wr gl #[.int .i64 (Sr.times ⟨20, 0, P⟩ 0 (1000 * k)).target, .int .i64 (Sr.times ⟨20, 0, P⟩ 0 (1000 * k)).old, .int .i64 (Sr.times ⟨20, 0, P⟩ 0 (1000 * k)).prob] 25) := HG.out.box
          have HE : Hid (∀ wr' : World, Below w.heap.size w wr' → Boxed wr' gl #[.int .i64 (Sr.times ⟨20, 0, P⟩ 0 (1000 * (k + 1))).target, .int .i64 (Sr.times ⟨20, 0, P⟩ 0 (1000 * (k + 1))).old, .int .i64 (Sr.times ⟨20, 0, P⟩ 0 (1000 * (k + 1))).prob] 25 → SrW w gl P (k + 1) wr') := fun wr' h1 h2 => ⟨h1, HG.out.le, h2⟩
          generalize Sr.times ⟨20, 0, P⟩ 0 (1000 * k) = ta at C HB
          generalize Sr.times ⟨20, 0, P⟩ 0 (1000 * (k + 1)) = tb at C HE
          obtain ⟨t0, t1, t2⟩ := ta
          obtain ⟨z0, z1, z2⟩ := tb
          simp only [Sr.val] at C HB HE
          have C' : Hid _ := C
          clear C
          have hkk : (k : Int) < 30 := by omega
          go_wp2_with (refine wpList_load_row rfl 25 (.tmp 9) rfl gl rfl _ _ _ _ HB.out Tryd.underlying25 rfl (by kernel_rfl) ?_)
          refine (C'.out _ HG.out.bel).mono ?_
          rintro e w2 ⟨rfl, q⟩
          have HB2 : Hid (Boxed w2 gl #[.int .i64 t0, .int .i64 t1, .int .i64 t2] 25 ∧ Below w.heap.size w w2) := ⟨HB.out.below HB.out.under q, HG.out.bel.trans (q.mono HG.out.bel.size)⟩
          clear q HB
          have HF : Hid (SrW w gl P (k + 1) (w2.setRow gl #[.int .i64 z0, .int .i64 z1, .int .i64 z2])) := HE.out _ (below_setRow HB2.out.2 HG.out.le _) (setRow_heap _ _ _ _ _ _ HB2.out.1)
          go_wp2_with (refine wpList_store_row rfl 25 (.tmp 9) (.tmp 83) rfl gl #[.int .i64 z0, .int .i64 z1, .int .i64 z2] rfl rfl _ _ HB2.out.1 (by kernel_rfl) rfl (srOnes _ _ _) ?_)
          go_roundw
          case rel => exact ⟨k + 1, by omega, by go_num, HF⟩
          case measure => simp [intOf]; omega
        · have IE := IE.out k (by omega)
          have hkk : ¬ (k : Int) < 30 := by omega
          have HB : Hid (Boxed wr gl #[.int .i64 (Sr.times ⟨20, 0, P⟩ 0 (1000 * k)).target, .int .i64 (Sr.times ⟨20, 0, P⟩ 0 (1000 * k)).old, .int .i64 (Sr.times ⟨20, 0, P⟩ 0 (1000 * k)).prob] 25 ∧ Below w.heap.size w wr) := ⟨HG.out.box, HG.out.bel⟩
          generalize Sr.times ⟨20, 0, P⟩ 0 (1000 * k) = ta at IE HB
          obtain ⟨t0, t1, t2⟩ := ta
          simp only at IE HB
          have ie := IE
          have c2 : wr.cell? ⟨gl, 2, none⟩ = some (.int .i64 t2) := HB.out.1.cell 2 rfl
          have f1 := fun w => srProb p0 p1 0 w
          have f2 := fun w => srProb q0 q1 q2 w
          have hq := HQ.out
          clear HG IL IE
          go_wp2_with fail
          refine (Q1'.out _ HB.out.2).mono ?_
          rintro e v1 ⟨rfl, q⟩
          have X1 : Hid (Below w.heap.size w v1) := HB.out.2.trans (q.mono HB.out.2.size)
          clear q c2
          go_wp2_with fail
          refine (Q2'.out _ X1.out).mono ?_
          rintro e v2 ⟨rfl, q⟩
          have X2 : Hid (Below w.heap.size w v2) := X1.out.trans (q.mono X1.out.size)
          clear q X1
          go_wp2
          go_ret
          exact ⟨by first | rfl | simp [hq], X2.out⟩
end Go.Proofs.YtemegnfefjcdaaaDoor
