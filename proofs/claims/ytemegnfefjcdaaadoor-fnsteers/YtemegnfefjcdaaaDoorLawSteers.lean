/-
  The walk of FnSteers, the program's contracts given. By the verifier, by program.
-/
import Derived.Test.YtemegnfefjcdaaaDoorSrDrawT
import Derived.Test.YtemegnfefjcdaaaDoorSrDrawH
import Derived.Test.YtemegnfefjcdaaaDoorSrSpecD
import Derived.Test.YtemegnfefjcdaaaDoorSrSpecH
import Derived.Test.YtemegnfefjcdaaaDoorSrFacts
import Derived.Test.YtemegnfefjcdaaaDoorBxs
import Derived.BigQuiet
namespace Go.Proofs.YtemegnfefjcdaaaDoor
open Go.RowKit

set_option maxHeartbeats 6400000 in
set_option maxRecDepth 100000 in
theorem fnSteers_law
    (a : Option Addr) (len cap : Nat) (w : World)
    (IT : ∀ (l : Sr) (d : Int) (x : World), Below w.heap.size w x → Calls Tryd.prog 9 #[l.val, .int .i64 d] x fun e w' => e = .returned (l.stirred d).val ∧ Below x.heap.size x w')
    (IH : ∀ (l : Sr) (x : Int) (w : World), Calls Tryd.prog 12 #[l.val, .int .i64 x] w fun e w' => e = .returned (.bool (l.hit x)) ∧ Below w.heap.size w w')
    (IK : ∀ (l : Sr) (w : World), Calls Tryd.prog 14 #[l.val] w fun e w' => e = .returned (.bool l.ok) ∧ Below w.heap.size w w')
    (hcode : ∀ k, k < len → ∃ b off z, a = some ⟨b, off, none⟩ ∧ b < w.heap.size ∧ w.cell? ⟨b, off + k, none⟩ = some (.int .u8 z) ∧ 0 ≤ z ∧ z ≤ 255) :
    Calls Tryd.prog 3 #[.slice a len cap] w fun e w' => e = .returned (.bool true) ∧ Below w.heap.size w w' := by
  by_cases hbig : 4096 < len
  · clear hcode IT IH IK
    go_enter Tryd.func3, Tryd.ntmps3
    go_wp2
    go_ret
    exact ⟨rfl, Below.refl _ _⟩
  have hc : Hid (Code w a len) := ⟨by omega, hcode⟩
  have hb : Hid (Below w.heap.size w w) := Below.refl _ _
  have IT' : Hid _ := IT
  have IH' : Hid _ := IH
  have IK' : Hid _ := IK
  clear hcode IT IH IK
  go_enter Tryd.func3, Tryd.ntmps3
  go_wp2_with (go_at_call 7; go_in)
  refine (dDrawStirred hc _ hb).mono ?_
  rintro e w1 ⟨⟨⟨s0, s1, s2⟩, d, rfl, _, _⟩, q⟩
  have H1 : Hid (Bxs 25 [] w w1) := ⟨q, fun _ _ h => by cases h⟩
  clear q hb
  simp only [Sr.val]
  have N : Hid (Boxed (w1.alloc (.cells #[.int .i64 0, .int .i64 0, .int .i64 0] 25)) w1.heap.size #[.int .i64 0, .int .i64 0, .int .i64 0] 25) := Boxed.new _ _ _
  have H2 : Hid (Bxs 25 [(w1.heap.size, #[.int .i64 s0, .int .i64 s1, .int .i64 s2])] w ((w1.alloc (.cells #[.int .i64 0, .int .i64 0, .int .i64 0] 25)).setRow w1.heap.size #[.int .i64 s0, .int .i64 s1, .int .i64 s2])) := H1.out.store _ _
  go_wp2_with (first | (refine wpList_store_row rfl 25 (.tmp _) (.tmp _) rfl w1.heap.size #[.int .i64 s0, .int .i64 s1, .int .i64 s2] rfl rfl _ _ N.out (by kernel_rfl) rfl (srOnes _ _ _) ?_) | (refine wpList_load_row rfl 25 (.tmp _) rfl (w1.heap.size) rfl _ _ _ _ (H2.out.at 0 rfl) Tryd.underlying25 rfl (by kernel_rfl) ?_))
  generalize ((w1.alloc (.cells #[.int .i64 0, .int .i64 0, .int .i64 0] 25)).setRow w1.heap.size #[.int .i64 s0, .int .i64 s1, .int .i64 s2]) = w2 at H2 ⊢
  generalize w1.heap.size = gs at H2 ⊢
  clear N H1
  obtain ⟨x, hx⟩ : ∃ x, x = Sr.stirred (Sr.mk s0 s1 s2) d := ⟨_, rfl⟩
  have C := fun x hx => IT'.out (Sr.mk s0 s1 s2) d x hx
  have D := fun w => specStirred (Sr.mk s0 s1 s2) d w
  rw [← hx] at C D
  obtain ⟨x0, x1, x2⟩ := x
  simp only [Sr.val] at C D
  have Hx : Hid ((Sr.mk x0 x1 x2) = _) := hx
  have C' : Hid _ := C
  have D' : Hid _ := D
  clear hx C D
  refine (C'.out _ H2.out.bel).mono ?_
  rintro e w3 ⟨rfl, q⟩
  have H3 : Hid (Bxs 25 [(gs, #[.int .i64 s0, .int .i64 s1, .int .i64 s2])] w w3) := H2.out.below q
  clear q H2 C'
  have N : Hid (Boxed (w3.alloc (.cells #[.int .i64 0, .int .i64 0, .int .i64 0] 25)) w3.heap.size #[.int .i64 0, .int .i64 0, .int .i64 0] 25) := Boxed.new _ _ _
  have H4 : Hid (Bxs 25 [(w3.heap.size, #[.int .i64 x0, .int .i64 x1, .int .i64 x2]), (gs, #[.int .i64 s0, .int .i64 s1, .int .i64 s2])] w ((w3.alloc (.cells #[.int .i64 0, .int .i64 0, .int .i64 0] 25)).setRow w3.heap.size #[.int .i64 x0, .int .i64 x1, .int .i64 x2])) := H3.out.store _ _
  go_wp2_with (first | (refine wpList_store_row rfl 25 (.tmp _) (.tmp _) rfl w3.heap.size #[.int .i64 x0, .int .i64 x1, .int .i64 x2] rfl rfl _ _ N.out (by kernel_rfl) rfl (srOnes _ _ _) ?_) | (refine wpList_load_row rfl 25 (.tmp _) rfl (w3.heap.size) rfl _ _ _ _ (H4.out.at 0 rfl) Tryd.underlying25 rfl (by kernel_rfl) ?_) | (refine wpList_load_row rfl 25 (.tmp _) rfl (gs) rfl _ _ _ _ (H4.out.at 1 rfl) Tryd.underlying25 rfl (by kernel_rfl) ?_))
  generalize ((w3.alloc (.cells #[.int .i64 0, .int .i64 0, .int .i64 0] 25)).setRow w3.heap.size #[.int .i64 x0, .int .i64 x1, .int .i64 x2]) = w4 at H4 ⊢
  generalize w3.heap.size = gx at H4 ⊢
  clear N H3
  refine (dDrawHit hc _ (hid_bel H4)).mono ?_
  rintro e w5 ⟨⟨⟨h0, h1, h2⟩, v, rfl, _, _⟩, q⟩
  have H5 : Hid (Bxs 25 [(gx, #[.int .i64 x0, .int .i64 x1, .int .i64 x2]), (gs, #[.int .i64 s0, .int .i64 s1, .int .i64 s2])] w w5) := H4.out.below q
  clear q H4
  simp only [Sr.val]
  have N : Hid (Boxed (w5.alloc (.cells #[.int .i64 0, .int .i64 0, .int .i64 0] 25)) w5.heap.size #[.int .i64 0, .int .i64 0, .int .i64 0] 25) := Boxed.new _ _ _
  have H6 : Hid (Bxs 25 [(w5.heap.size, #[.int .i64 h0, .int .i64 h1, .int .i64 h2]), (gx, #[.int .i64 x0, .int .i64 x1, .int .i64 x2]), (gs, #[.int .i64 s0, .int .i64 s1, .int .i64 s2])] w ((w5.alloc (.cells #[.int .i64 0, .int .i64 0, .int .i64 0] 25)).setRow w5.heap.size #[.int .i64 h0, .int .i64 h1, .int .i64 h2])) := H5.out.store _ _
  go_upto_region 6 with (refine wpList_store_row rfl 25 (.tmp _) (.tmp _) rfl w5.heap.size #[.int .i64 h0, .int .i64 h1, .int .i64 h2] rfl rfl _ _ N.out (by kernel_rfl) rfl (srOnes _ _ _) ?_)
  generalize ((w5.alloc (.cells #[.int .i64 0, .int .i64 0, .int .i64 0] 25)).setRow w5.heap.size #[.int .i64 h0, .int .i64 h1, .int .i64 h2]) = w6 at H6 ⊢
  generalize w5.heap.size = gh at H6 ⊢
  clear N H5
  obtain ⟨hb, hhb⟩ : ∃ b, b = Sr.hit (Sr.mk h0 h1 h2) v := ⟨_, rfl⟩
  obtain ⟨ok, hok⟩ : ∃ b, b = Sr.ok (Sr.mk s0 s1 s2) := ⟨_, rfl⟩
  have A1 := fun w => IH'.out (Sr.mk h0 h1 h2) v w
  have A2 := fun w => specHit (Sr.mk h0 h1 h2) v w
  have A3 := fun w => IK'.out (Sr.mk s0 s1 s2) w
  have A4 := fun w => specSteerOk (Sr.mk s0 s1 s2) w
  rw [← hhb] at A1 A2
  rw [← hok] at A3 A4
  simp only [Sr.val] at A1 A2 A3 A4
  have Hhb : Hid (hb = _) := hhb
  have Hok : Hid (ok = _) := hok
  have A1' : Hid _ := A1
  have A2' : Hid _ := A2
  have A3' : Hid _ := A3
  have A4' : Hid _ := A4
  clear hhb hok A1 A2 A3 A4
  have cgs0 : ∀ p : BelW w6.heap.size w6, p.w'.cell? ⟨gs, 0, none⟩ = some (.int .i64 s0) := fun p => ((H6.out.below p.h).at 2 rfl).cell 0 rfl
  have cgs1 : ∀ p : BelW w6.heap.size w6, p.w'.cell? ⟨gs, 1, none⟩ = some (.int .i64 s1) := fun p => ((H6.out.below p.h).at 2 rfl).cell 1 rfl
  have cgs2 : ∀ p : BelW w6.heap.size w6, p.w'.cell? ⟨gs, 2, none⟩ = some (.int .i64 s2) := fun p => ((H6.out.below p.h).at 2 rfl).cell 2 rfl
  have cgx0 : ∀ p : BelW w6.heap.size w6, p.w'.cell? ⟨gx, 0, none⟩ = some (.int .i64 x0) := fun p => ((H6.out.below p.h).at 1 rfl).cell 0 rfl
  have cgx1 : ∀ p : BelW w6.heap.size w6, p.w'.cell? ⟨gx, 1, none⟩ = some (.int .i64 x1) := fun p => ((H6.out.below p.h).at 1 rfl).cell 1 rfl
  have cgx2 : ∀ p : BelW w6.heap.size w6, p.w'.cell? ⟨gx, 2, none⟩ = some (.int .i64 x2) := fun p => ((H6.out.below p.h).at 1 rfl).cell 2 rfl
  have cgh0 : ∀ p : BelW w6.heap.size w6, p.w'.cell? ⟨gh, 0, none⟩ = some (.int .i64 h0) := fun p => ((H6.out.below p.h).at 0 rfl).cell 0 rfl
  have cgh1 : ∀ p : BelW w6.heap.size w6, p.w'.cell? ⟨gh, 1, none⟩ = some (.int .i64 h1) := fun p => ((H6.out.below p.h).at 0 rfl).cell 1 rfl
  have cgh2 : ∀ p : BelW w6.heap.size w6, p.w'.cell? ⟨gh, 2, none⟩ = some (.int .i64 h2) := fun p => ((H6.out.below p.h).at 0 rfl).cell 2 rfl
  haveI : Nonempty (BelW w6.heap.size w6) := ⟨⟨w6, Below.refl _ _⟩⟩
  refine region_below w6.heap.size (by kernel_rfl) (by kernel_rfl) ?_
  repeat (go_big_quiet_step ((first | (go_at_call 11; refine quiet_below (Nat.le_refl _) (D'.out _)) | (go_at_call 12; refine quiet_below (Nat.le_refl _) (A1'.out _)) | (go_at_call 13; refine quiet_below (Nat.le_refl _) (A2'.out _)) | (go_at_call 14; refine quiet_below (Nat.le_refl _) (A3'.out _)) | (go_at_call 15; refine quiet_below (Nat.le_refl _) (A4'.out _)))))
  refine wpQuiet_nil ?_
  intro w7 hx
  have q := BelW.out hx
  have H7 : Hid (Bxs 25 [(gh, #[.int .i64 h0, .int .i64 h1, .int .i64 h2]), (gx, #[.int .i64 x0, .int .i64 x1, .int .i64 x2]), (gs, #[.int .i64 s0, .int .i64 s1, .int .i64 s2])] w w7) := H6.out.below q
  clear hx q H6 cgs0 cgs1 cgs2 cgx0 cgx1 cgx2 cgh0 cgh1 cgh2 D' A2' A3'
  go_wp2_with (first | (refine wpList_load_row rfl 25 (.tmp _) rfl (gs) rfl _ _ _ _ (H7.out.at 2 rfl) Tryd.underlying25 rfl (by kernel_rfl) ?_))
  refine (A4'.out _).mono ?_
  rintro e w8 ⟨rfl, q⟩
  have H8 : Hid (Bxs 25 [(gh, #[.int .i64 h0, .int .i64 h1, .int .i64 h2]), (gx, #[.int .i64 x0, .int .i64 x1, .int .i64 x2]), (gs, #[.int .i64 s0, .int .i64 s1, .int .i64 s2])] w w8) := H7.out.below q
  clear q H7 A4'
  have cgs0 : w8.cell? ⟨gs, 0, none⟩ = some (.int .i64 s0) := (H8.out.at 2 rfl).cell 0 rfl
  have cgs1 : w8.cell? ⟨gs, 1, none⟩ = some (.int .i64 s1) := (H8.out.at 2 rfl).cell 1 rfl
  have cgs2 : w8.cell? ⟨gs, 2, none⟩ = some (.int .i64 s2) := (H8.out.at 2 rfl).cell 2 rfl
  have cgx0 : w8.cell? ⟨gx, 0, none⟩ = some (.int .i64 x0) := (H8.out.at 1 rfl).cell 0 rfl
  have cgx1 : w8.cell? ⟨gx, 1, none⟩ = some (.int .i64 x1) := (H8.out.at 1 rfl).cell 1 rfl
  have cgx2 : w8.cell? ⟨gx, 2, none⟩ = some (.int .i64 x2) := (H8.out.at 1 rfl).cell 2 rfl
  cases ok
  · have e := Hx.out
    unfold Sr.stirred at e
    rw [if_neg (by rw [← Hok.out]; decide)] at e
    cases e
    clear Hx
    go_wp2_with (first | (refine wpList_load_row rfl 25 (.tmp _) rfl (gx) rfl _ _ _ _ (H8.out.at 1 rfl) Tryd.underlying25 rfl (by kernel_rfl) ?_))
    go_ret
    exact ⟨rfl, H8.out.bel⟩
  by_cases hd0 : d < 0
  · have e := Hx.out
    unfold Sr.stirred at e
    rw [if_pos (by rw [← Hok.out]), if_neg (by rw [inB_true]; omega)] at e
    cases e
    clear Hx
    go_wp2_with (first | (refine wpList_load_row rfl 25 (.tmp _) rfl (gx) rfl _ _ _ _ (H8.out.at 1 rfl) Tryd.underlying25 rfl (by kernel_rfl) ?_) | (refine wpList_load_row rfl 25 (.tmp _) rfl (gs) rfl _ _ _ _ (H8.out.at 2 rfl) Tryd.underlying25 rfl (by kernel_rfl) ?_))
    go_ret
    exact ⟨rfl, H8.out.bel⟩
  by_cases hd1 : 100000 < d
  · have e := Hx.out
    unfold Sr.stirred at e
    rw [if_pos (by rw [← Hok.out]), if_neg (by rw [inB_true]; omega)] at e
    cases e
    clear Hx
    go_wp2_with (first | (refine wpList_load_row rfl 25 (.tmp _) rfl (gx) rfl _ _ _ _ (H8.out.at 1 rfl) Tryd.underlying25 rfl (by kernel_rfl) ?_) | (refine wpList_load_row rfl 25 (.tmp _) rfl (gs) rfl _ _ _ _ (H8.out.at 2 rfl) Tryd.underlying25 rfl (by kernel_rfl) ?_))
    go_ret
    exact ⟨rfl, H8.out.bel⟩
  have hok : Sr.ok (Sr.mk s0 s1 s2) = true := Hok.out.symm
  have hdd : inB 0 100000 d = true := by rw [inB_true]; omega
  have e := Hx.out
  rw [Sr.stirred_ok hok hdd] at e
  have F1 : Hid (s0 < d → s1 ≤ d → ¬ x2 < s2) := fun g1 g2 => by
    have h := Sr.up hok g1 g2
    rw [← e] at h
    exact Int.not_lt.2 h
  have F2 : Hid (d < s0 → d ≤ s1 → ¬ s2 < x2) := fun g1 g2 => by
    have h := Sr.down hok (Int.le_of_lt g1) g2
    rw [← e] at h
    exact Int.not_lt.2 h
  have F3 : Hid (Sr.ok (Sr.mk x0 x1 x2) = true) := by
    show Sr.ok _ = true
    rw [e]
    exact Sr.stir_ok hok hdd
  have ex0 : x0 = s0 := congrArg Sr.target e
  have ex1 : x1 = d := congrArg Sr.old e
  subst ex0 ex1
  clear e hok hdd Hx Hok
  go_upto_region 12 with fail
  go_cut [94] (fun s wc => Hid (s = .bool false ∧ Bxs 25 [(gh, #[.int .i64 h0, .int .i64 h1, .int .i64 h2]), (gx, #[.int .i64 x0, .int .i64 x1, .int .i64 x2]), (gs, #[.int .i64 x0, .int .i64 s1, .int .i64 s2])] w wc))
  case first =>
    by_cases g1 : x0 < x1
    · have n1 : ¬ x1 < x0 := by omega
      by_cases g2 : s1 ≤ x1
      · have g3 := F1.out g1 g2
        go_wp2_with fail
        go_meet
        exact ⟨by first | rfl | (simp; omega) | simp, H8.out⟩
      · go_wp2_with fail
        go_meet
        exact ⟨by first | rfl | (simp; omega) | simp, H8.out⟩
    · by_cases g2 : x1 < x0
      · by_cases g3 : x1 ≤ s1
        · have g4 := F2.out g2 g3
          go_wp2_with fail
          go_meet
          exact ⟨by first | rfl | (simp; omega) | simp, H8.out⟩
        · go_wp2_with fail
          go_meet
          exact ⟨by first | rfl | (simp; omega) | simp, H8.out⟩
      · go_wp2_with fail
        go_meet
        exact ⟨by first | rfl | (simp; omega) | simp, H8.out⟩
  case rest =>
    obtain ⟨rfl, hK⟩ := hcut.out
    have K1 : Hid (Bxs 25 [(gh, #[.int .i64 h0, .int .i64 h1, .int .i64 h2]), (gx, #[.int .i64 x0, .int .i64 x1, .int .i64 x2]), (gs, #[.int .i64 x0, .int .i64 s1, .int .i64 s2])] w wc) := hK
    clear hcut hK H8 cgs0 cgs1 cgs2 cgx0 cgx1 cgx2
    have B2 := fun w => IH'.out (Sr.mk h0 h1 h2) (v - 1) w
    have HH : Hid (hb = true → 0 < v → Sr.hit (Sr.mk h0 h1 h2) (v - 1) = true) := fun g1 g2 => Sr.hit_less (by rw [← Hhb.out]; exact g1) g2
    have HI : Hid (hb = true → IntKind.i64.wrap (v - 1) = v - 1) := fun g1 => by
      have := Sr.hit_in (p := (Sr.mk h0 h1 h2)) (x := v) (by rw [← Hhb.out]; exact g1)
      rw [IntKind.wrap_i64]
      omega
    generalize Sr.hit (Sr.mk h0 h1 h2) (v - 1) = h2b at B2 HH
    simp only [Sr.val] at B2
    have B2' : Hid _ := B2
    have B3 := fun w => IK'.out (Sr.mk x0 x1 x2) w
    rw [F3.out] at B3
    simp only [Sr.val] at B3
    have B3' : Hid _ := B3
    clear B2 B3 IH' IK' Hhb F1 F2 F3
    go_upto_region 14 with fail
    go_cut [108] (fun s wc' => Hid (s = .bool false ∧ Bxs 25 [(gh, #[.int .i64 h0, .int .i64 h1, .int .i64 h2]), (gx, #[.int .i64 x0, .int .i64 x1, .int .i64 x2]), (gs, #[.int .i64 x0, .int .i64 s1, .int .i64 s2])] w wc'))
    case first =>
      go_wp2_with (first | (refine wpList_load_row rfl 25 (.tmp _) rfl (gh) rfl _ _ _ _ (K1.out.at 0 rfl) Tryd.underlying25 rfl (by kernel_rfl) ?_))
      refine (A1'.out _).mono ?_
      rintro e u1 ⟨rfl, q⟩
      have K2 : Hid (Bxs 25 [(gh, #[.int .i64 h0, .int .i64 h1, .int .i64 h2]), (gx, #[.int .i64 x0, .int .i64 x1, .int .i64 x2]), (gs, #[.int .i64 x0, .int .i64 s1, .int .i64 s2])] w u1) := K1.out.below q
      clear q K1
      cases hb
      · go_wp2_with fail
        go_meet
        exact ⟨by first | rfl | simp, K2.out⟩
      by_cases hv : 0 < v
      · have e := HH.out (by first | exact trivial | exact rfl) hv
        subst e
        have kw := HI.out (by first | exact trivial | exact rfl)
        have cgh0 : u1.cell? ⟨gh, 0, none⟩ = some (.int .i64 h0) := (K2.out.at 0 rfl).cell 0 rfl
        have cgh1 : u1.cell? ⟨gh, 1, none⟩ = some (.int .i64 h1) := (K2.out.at 0 rfl).cell 1 rfl
        have cgh2 : u1.cell? ⟨gh, 2, none⟩ = some (.int .i64 h2) := (K2.out.at 0 rfl).cell 2 rfl
        go_wp2_with fail
        refine (B2'.out _).mono ?_
        rintro e u2 ⟨rfl, q⟩
        have K3 : Hid (Bxs 25 [(gh, #[.int .i64 h0, .int .i64 h1, .int .i64 h2]), (gx, #[.int .i64 x0, .int .i64 x1, .int .i64 x2]), (gs, #[.int .i64 x0, .int .i64 s1, .int .i64 s2])] w u2) := K2.out.below q
        clear q K2 cgh0 cgh1 cgh2
        go_wp2_with fail
        go_meet
        exact ⟨by first | rfl | simp, K3.out⟩
      · go_wp2_with fail
        go_meet
        exact ⟨by first | rfl | simp, K2.out⟩
    case rest =>
      obtain ⟨rfl, hK⟩ := hcut.out
      have K2 : Hid (Bxs 25 [(gh, #[.int .i64 h0, .int .i64 h1, .int .i64 h2]), (gx, #[.int .i64 x0, .int .i64 x1, .int .i64 x2]), (gs, #[.int .i64 x0, .int .i64 s1, .int .i64 s2])] w wc) := hK
      clear hcut hK K1 HH HI A1' B2'
      go_wp2_with (first | (refine wpList_load_row rfl 25 (.tmp _) rfl (gx) rfl _ _ _ _ (K2.out.at 1 rfl) Tryd.underlying25 rfl (by kernel_rfl) ?_))
      refine (B3'.out _).mono ?_
      rintro e u1 ⟨rfl, q⟩
      have K3 : Hid (Bxs 25 [(gh, #[.int .i64 h0, .int .i64 h1, .int .i64 h2]), (gx, #[.int .i64 x0, .int .i64 x1, .int .i64 x2]), (gs, #[.int .i64 x0, .int .i64 s1, .int .i64 s2])] w u1) := K2.out.below q
      clear q K2 B3'
      have cgs0 : u1.cell? ⟨gs, 0, none⟩ = some (.int .i64 x0) := (K3.out.at 2 rfl).cell 0 rfl
      have cgs1 : u1.cell? ⟨gs, 1, none⟩ = some (.int .i64 s1) := (K3.out.at 2 rfl).cell 1 rfl
      have cgs2 : u1.cell? ⟨gs, 2, none⟩ = some (.int .i64 s2) := (K3.out.at 2 rfl).cell 2 rfl
      have cgx0 : u1.cell? ⟨gx, 0, none⟩ = some (.int .i64 x0) := (K3.out.at 1 rfl).cell 0 rfl
      have cgx1 : u1.cell? ⟨gx, 1, none⟩ = some (.int .i64 x1) := (K3.out.at 1 rfl).cell 1 rfl
      have cgx2 : u1.cell? ⟨gx, 2, none⟩ = some (.int .i64 x2) := (K3.out.at 1 rfl).cell 2 rfl
      go_wp2
      go_ret
      exact ⟨by first | rfl | simp, K3.out.bel⟩
end Go.Proofs.YtemegnfefjcdaaaDoor
