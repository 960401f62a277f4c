/-
  The walk of FnCoupled, the program's contracts given. By the verifier, by program.
-/
import Derived.Test.YtlednodibgcpeaaCoDraw
import Derived.Test.YtlednodibgcpeaaCoSpec
namespace Go.Proofs.Ytlednodibgcpeaa
open Go.RowKit

theorem co13 {s : Int} (h : 0 ≤ sqO s) : (0 ≤ s ∧ s ≤ 1048576) ∧ ¬ s < sqO s ∧ (s < 1048576 → ¬ sqO (s + 1) < sqO s) := by
  unfold sqO at h
  by_cases hi : inB 0 1048576 s = true
  · have hi' := hi
    rw [inB_true] at hi'
    have e : sqO s = s * s / 1048576 := by unfold sqO; rw [if_pos hi]
    have l := sq_le hi'.1 hi'.2
    refine ⟨hi', by omega, fun hs => ?_⟩
    have e2 : sqO (s + 1) = (s + 1) * (s + 1) / 1048576 := by unfold sqO; rw [if_pos (by rw [inB_true]; omega)]
    have m := sq_mono hi'.1 (show s ≤ s + 1 by omega)
    omega
  · rw [if_neg hi] at h
    omega
theorem co15 {a b : Int} (h : 0 ≤ frO a b) : IntKind.i64.wrap (a * b) = a * b ∧ (a * b ≤ 1048576 → frO a b = sqO a) ∧ ¬ sqO a < frO a b := by
  by_cases hi : coB a b = true
  · have l := fr_le hi
    exact ⟨cp_wraps hi, l.2.2, by omega⟩
  · unfold frO at h
    rw [if_neg hi] at h
    omega
theorem co17 {p f : Int} {g : Bool} {x : Int} : (chO p f g x = 1 → g = true ∧ ¬ cpO p f ≤ x) ∧ (chO p f g x = 2 → g = false ∧ chO p f true x = 1) := by
  unfold chO
  by_cases hi : (coB p f && inB 0 1048575 x) = true
  · rw [if_pos hi, if_pos hi]
    rw [Bool.and_eq_true] at hi
    have hc : cpO p f = cpV p f := by unfold cpO; rw [if_pos hi.1]
    have h1 := cpV_in hi.1
    have h2 := coB_iff.1 hi.1
    have h3 := sq_le h2.1.1 h2.1.2
    cases g
    · rw [if_neg (by decide), if_pos rfl]
      refine ⟨fun h => ?_, fun h => ⟨rfl, ?_⟩⟩
      · split at h <;> omega
      · split at h
        · rw [if_pos (by omega)]
        · omega
    · rw [if_pos rfl]
      refine ⟨fun h => ⟨rfl, ?_⟩, fun h => ?_⟩
      · split at h <;> omega
      · split at h <;> omega
  · rw [if_neg hi, if_neg hi]
    exact ⟨fun h => by omega, fun h => by omega⟩
theorem co19 {p f : Int} (h : ¬ cpO p f < 0) : p ≤ cpO p f ∧ cpO p f ≤ 1048576 ∧ sqO p ≤ cpO p f ∧ (¬ p = 1048576 → cpO p f ≤ cpO (p + 1) f) ∧ IntKind.i64.wrap (p + 1) = p + 1 := by
  by_cases hi : coB p f = true
  · have e : cpO p f = cpV p f := by unfold cpO; rw [if_pos hi]
    have h1 := cpV_in hi
    have h2 := coB_iff.1 hi
    have h3 := sq_le h2.1.1 h2.1.2
    have e2 : sqO p = p * p / 1048576 := by unfold sqO; rw [if_pos (by rw [inB_true]; exact h2.1)]
    refine ⟨by omega, by omega, by omega, fun hp => ?_, by rw [IntKind.wrap_i64]; omega⟩
    have e3 : cpO (p + 1) f = cpV (p + 1) f := by unfold cpO; rw [if_pos (coB_iff.2 (by omega))]
    have m : p * f ≤ (p + 1) * f := Int.mul_le_mul_of_nonneg_right (by omega) (by omega)
    rw [e, e3]
    unfold cpV
    omega
  · unfold cpO at h
    rw [if_neg hi] at h
    omega

set_option maxHeartbeats 6400000 in
set_option maxRecDepth 100000 in
theorem fnCoupled_law
    (IQ : ∀ (p : Int) (w : World), Calls Try.prog 12 #[.int .i64 p] w fun e w' => e = .returned (.int .i64 (sqO p)) ∧ Below w.heap.size w w')
    (IC : ∀ (p f : Int) (w : World), Calls Try.prog 10 #[.int .i64 p, .int .i64 f] w fun e w' => e = .returned (.int .i64 (cpO p f)) ∧ Below w.heap.size w w')
    (IF : ∀ (p f : Int) (w : World), Calls Try.prog 14 #[.int .i64 p, .int .i64 f] w fun e w' => e = .returned (.int .i64 (frO p f)) ∧ Below w.heap.size w w')
    (IX : ∀ (p f : Int) (g : Bool) (x : Int) (w : World), Calls Try.prog 16 #[.int .i64 p, .int .i64 f, .bool g, .int .i64 x] w fun e w' => e = .returned (.int .i64 (chO p f g x)) ∧ Below w.heap.size w w')
    (a : Option Addr) (len cap : Nat) (w : World)
    (hcode : ∀ k, k < len → ∃ b off z, a = some ⟨b, off, none⟩ ∧ b < w.heap.size ∧ w.cell? ⟨b, off + k, none⟩ = some (.int .u8 z) ∧ 0 ≤ z ∧ z ≤ 255) :
    Calls Try.prog 3 #[.slice a len cap] w fun e w' => e = .returned (.bool true) ∧ Below w.heap.size w w' := by
  by_cases hbig : 4096 < len
  · clear hcode IQ IC IF IX
    go_enter Try.func3, Try.ntmps3
    go_wp2
    go_ret
    exact ⟨rfl, Below.refl _ _⟩
  have hc : Hid (Code w a len) := ⟨by omega, hcode⟩
  have H0 : Hid (Below w.heap.size w w) := Below.refl _ _
  have IQ' : Hid _ := IQ
  have IC' : Hid _ := IC
  have IF' : Hid _ := IF
  have IX' : Hid _ := IX
  clear hcode IQ IC IF IX
  go_enter Try.func3, Try.ntmps3
  go_wp2_with (go_at_call 8; go_in)
  refine (dDrawCoupled hc _ H0).mono ?_
  rintro e w1 ⟨⟨p, f, rfl⟩, q⟩
  have H1 : Hid (Below w.heap.size w w1) := H0.out.trans (q.mono H0.out.size)
  clear q H0
  obtain ⟨c, hc⟩ : ∃ xx, xx = cpO p f := ⟨_, rfl⟩
  have C1 := fun w => IC'.out p f w
  have D1 := fun w => specCoupled p f w
  rw [← hc] at C1 D1
  have C1' : Hid _ := C1
  have D1' : Hid _ := D1
  have E1 : Hid (c = _) := hc
  clear C1 D1 hc
  go_wp2_with fail
  refine (C1'.out _).mono ?_
  rintro e w2 ⟨rfl, q⟩
  have H2 : Hid (Below w.heap.size w w2) := H1.out.trans (q.mono H1.out.size)
  clear q H1
  go_wp2_with fail
  refine (dDrawSquared hc _ H2).mono ?_
  rintro e w3 ⟨⟨s, rfl⟩, q⟩
  have H3 : Hid (Below w.heap.size w w3) := H2.out.trans (q.mono H2.out.size)
  clear q H2
  obtain ⟨q, hq⟩ : ∃ xx, xx = sqO s := ⟨_, rfl⟩
  have C2 := fun w => IQ'.out s w
  have D2 := fun w => specSquared s w
  rw [← hq] at C2 D2
  have C2' : Hid _ := C2
  have D2' : Hid _ := D2
  have E2 : Hid (q = _) := hq
  clear C2 D2 hq
  go_wp2_with fail
  refine (C2'.out _).mono ?_
  rintro e w4 ⟨rfl, q⟩
  have H4 : Hid (Below w.heap.size w w4) := H3.out.trans (q.mono H3.out.size)
  clear q H3
  go_wp2_with fail
  refine (dDrawFair hc _ H4).mono ?_
  rintro e w5 ⟨⟨x, y, rfl⟩, q⟩
  have H5 : Hid (Below w.heap.size w w5) := H4.out.trans (q.mono H4.out.size)
  clear q H4
  obtain ⟨v, hv⟩ : ∃ xx, xx = frO x y := ⟨_, rfl⟩
  have C3 := fun w => IF'.out x y w
  have D3 := fun w => specFair x y w
  rw [← hv] at C3 D3
  have C3' : Hid _ := C3
  have D3' : Hid _ := D3
  have E3 : Hid (v = _) := hv
  clear C3 D3 hv
  go_wp2_with fail
  refine (C3'.out _).mono ?_
  rintro e w6 ⟨rfl, q⟩
  have H6 : Hid (Below w.heap.size w w6) := H5.out.trans (q.mono H5.out.size)
  clear q H5
  go_wp2_with fail
  refine (dDrawChoice hc _ H6).mono ?_
  rintro e w7 ⟨⟨r, t, g, d, rfl⟩, q⟩
  have H7 : Hid (Below w.heap.size w w7) := H6.out.trans (q.mono H6.out.size)
  clear q H6
  obtain ⟨k, hk⟩ : ∃ xx, xx = chO r t g d := ⟨_, rfl⟩
  have C4 := fun w => IX'.out r t g d w
  have D4 := fun w => specChoice r t g d w
  rw [← hk] at C4 D4
  have C4' : Hid _ := C4
  have D4' : Hid _ := D4
  have E4 : Hid (k = _) := hk
  clear C4 D4 hk
  go_wp2_with fail
  refine (C4'.out _).mono ?_
  rintro e w8 ⟨rfl, q⟩
  have H8 : Hid (Below w.heap.size w w8) := H7.out.trans (q.mono H7.out.size)
  clear q H7
  clear C1' C2' C3' C4'
  go_wp2_with fail
  refine (D1'.out _).mono ?_
  rintro e w' ⟨rfl, hw⟩
  have hw := hw.symm
  subst hw
  go_wp2_with fail
  refine (D2'.out _).mono ?_
  rintro e w' ⟨rfl, hw⟩
  have hw := hw.symm
  subst hw
  go_wp2_with fail
  refine (D3'.out _).mono ?_
  rintro e w' ⟨rfl, hw⟩
  have hw := hw.symm
  subst hw
  go_wp2_with fail
  refine (D4'.out _).mono ?_
  rintro e w' ⟨rfl, hw⟩
  have hw := hw.symm
  subst hw
  clear D1' D2' D3' D4'
  have F1 : Hid (0 ≤ q → (0 ≤ s ∧ s ≤ 1048576) ∧ ¬ s < q ∧ (s < 1048576 → ¬ sqO (s + 1) < q)) := fun h => by
    rw [E2.out] at h ⊢
    exact co13 h
  have F2 : Hid (0 ≤ v → IntKind.i64.wrap (x * y) = x * y ∧ (x * y ≤ 1048576 → v = sqO x) ∧ ¬ sqO x < v) := fun h => by
    rw [E3.out] at h ⊢
    exact co15 h
  have F3 : Hid ((k = 1 → g = true ∧ ¬ cpO r t ≤ d) ∧ (k = 2 → g = false ∧ chO r t true d = 1)) := by
    show _ ∧ _
    rw [E4.out]
    exact co17
  have F4 : Hid (¬ c < 0 → p ≤ c ∧ c ≤ 1048576 ∧ sqO p ≤ c ∧ (¬ p = 1048576 → c ≤ cpO (p + 1) f) ∧ IntKind.i64.wrap (p + 1) = p + 1) := fun h => by
    rw [E1.out] at h ⊢
    exact co19 h
  have S1 := fun w => IQ'.out (s + 1) w
  have S2 := fun w => IQ'.out x w
  have S3 := fun w => IC'.out r t w
  have S4 := fun w => IX'.out r t true d w
  have S5 := fun w => IQ'.out p w
  have S6 := fun w => IC'.out (p + 1) f w
  generalize sqO (s + 1) = z1 at S1 F1
  generalize sqO x = z2 at S2 F2
  generalize cpO r t = z3 at S3 F3
  generalize chO r t true d = z4 at S4 F3
  generalize sqO p = z5 at S5 F4
  generalize cpO (p + 1) f = z6 at S6 F4
  have S1' : Hid _ := S1
  have S2' : Hid _ := S2
  have S3' : Hid _ := S3
  have S4' : Hid _ := S4
  have S5' : Hid _ := S5
  have S6' : Hid _ := S6
  clear S1 S2 S3 S4 S5 S6 E1 E2 E3 E4 IQ' IC' IF' IX' hc
  go_upto_region 13 with fail
  go_cut [94] (fun s wc => Hid (s = .bool false ∧ Below w.heap.size w wc))
  case first =>
    by_cases g0 : 0 ≤ q
    · obtain ⟨g1, g2, g3⟩ := F1.out g0
      by_cases g4 : s < 1048576
      · have g5 := g3 g4
        have kw : IntKind.i64.wrap (s + 1) = s + 1 := by rw [IntKind.wrap_i64]; omega
        clear g3
        go_wp2_with fail
        refine (S1'.out _).mono ?_
        rintro e u1 ⟨rfl, q⟩
        have J1 : Hid (Below w.heap.size w u1) := H8.out.trans (q.mono H8.out.size)
        clear q
        go_wp2_with fail
        go_meet
        exact ⟨by first | rfl | (simp; omega) | simp, J1.out⟩
      · clear g3
        go_wp2_with fail
        go_meet
        exact ⟨by first | rfl | (simp; omega) | simp, H8.out⟩
    · go_wp2_with fail
      go_meet
      exact ⟨by first | rfl | (simp; omega) | simp, H8.out⟩
  case rest =>
    obtain ⟨rfl, hK⟩ := hcut.out
    have K1 : Hid (Below w.heap.size w wc) := hK
    clear hcut hK H8 F1 S1'
    go_upto_region 15 with fail
    go_cut [114] (fun s wc => Hid (s = .bool false ∧ Below w.heap.size w wc))
    case first =>
      by_cases g0 : 0 ≤ v
      · obtain ⟨g1, g2, g3⟩ := F2.out g0
        by_cases g4 : x * y ≤ 1048576
        · have g5 := g2 g4
          subst g5
          clear g2
          go_wp2_with fail
          refine (S2'.out _).mono ?_
          rintro e u1 ⟨rfl, q⟩
          have J1 : Hid (Below w.heap.size w u1) := K1.out.trans (q.mono K1.out.size)
          clear q
          go_wp2_with fail
          refine (S2'.out _).mono ?_
          rintro e u2 ⟨rfl, q⟩
          have J2 : Hid (Below w.heap.size w u2) := J1.out.trans (q.mono J1.out.size)
          clear q
          go_wp2_with fail
          go_meet
          exact ⟨by first | rfl | (simp; omega) | simp, J2.out⟩
        · clear g2
          go_wp2_with fail
          refine (S2'.out _).mono ?_
          rintro e u1 ⟨rfl, q⟩
          have J1 : Hid (Below w.heap.size w u1) := K1.out.trans (q.mono K1.out.size)
          clear q
          go_wp2_with fail
          go_meet
          exact ⟨by first | rfl | (simp; omega) | simp, J1.out⟩
      · go_wp2_with fail
        go_meet
        exact ⟨by first | rfl | (simp; omega) | simp, K1.out⟩
    case rest =>
      obtain ⟨rfl, hK⟩ := hcut.out
      have K2 : Hid (Below w.heap.size w wc) := hK
      clear hcut hK K1 F2 S2'
      go_upto_region 17 with fail
      go_cut [141] (fun s wc => Hid (s = .bool false ∧ Below w.heap.size w wc))
      case first =>
        by_cases g0 : k = 1
        · subst g0
          obtain ⟨g1, g2⟩ := F3.out.1 rfl
          subst g1
          go_wp2_with fail
          refine (S3'.out _).mono ?_
          rintro e u1 ⟨rfl, q⟩
          have J1 : Hid (Below w.heap.size w u1) := K2.out.trans (q.mono K2.out.size)
          clear q
          go_wp2_with fail
          go_meet
          exact ⟨by first | rfl | (simp; omega) | simp, J1.out⟩
        · by_cases g1 : k = 2
          · subst g1
            obtain ⟨g2, g3⟩ := F3.out.2 rfl
            subst g2 g3
            go_wp2_with fail
            refine (S4'.out _).mono ?_
            rintro e u1 ⟨rfl, q⟩
            have J1 : Hid (Below w.heap.size w u1) := K2.out.trans (q.mono K2.out.size)
            clear q
            go_wp2_with fail
            go_meet
            exact ⟨by first | rfl | (simp; omega) | simp, J1.out⟩
          · go_wp2_with fail
            go_meet
            exact ⟨by first | rfl | (simp; omega) | simp, K2.out⟩
      case rest =>
        obtain ⟨rfl, hK⟩ := hcut.out
        have K3 : Hid (Below w.heap.size w wc) := hK
        clear hcut hK K2 F3 S3' S4'
        by_cases g0 : c < 0
        · go_wp2
          go_ret
          exact ⟨rfl, K3.out⟩
        obtain ⟨g1, g2, g3, g4, kw⟩ := F4.out (by omega)
        by_cases g5 : p = 1048576
        · clear g4
          subst g5
          go_wp2_with fail
          refine (S5'.out _).mono ?_
          rintro e u1 ⟨rfl, q⟩
          have J1 : Hid (Below w.heap.size w u1) := K3.out.trans (q.mono K3.out.size)
          clear q
          go_wp2
          go_ret
          exact ⟨by first | rfl | (simp; omega) | simp, J1.out⟩
        · have g6 := g4 g5
          clear g4
          go_wp2_with fail
          refine (S5'.out _).mono ?_
          rintro e u1 ⟨rfl, q⟩
          have J1 : Hid (Below w.heap.size w u1) := K3.out.trans (q.mono K3.out.size)
          clear q
          go_wp2_with fail
          refine (S6'.out _).mono ?_
          rintro e u2 ⟨rfl, q⟩
          have J2 : Hid (Below w.heap.size w u2) := J1.out.trans (q.mono J1.out.size)
          clear q
          go_wp2
          go_ret
          exact ⟨by first | rfl | (simp; omega) | simp, J2.out⟩
end Go.Proofs.Ytlednodibgcpeaa
