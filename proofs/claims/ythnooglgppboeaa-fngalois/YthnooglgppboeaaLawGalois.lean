/-
  The walk of the law that OnLine and OffLine are a Galois connection. By the verifier.
-/
import Derived.Test.YthnooglgppboeaaLnDrawP
import Derived.Test.YthnooglgppboeaaLnOff
import Derived.Test.YthnooglgppboeaaLnOffS
import Derived.Test.YthnooglgppboeaaPickS
import Derived.BigQuiet
namespace Go.Proofs.Ythnooglgppboeaa
open Go.RowKit

theorem on_nonneg {l : Ln} {n : Int} (h : 0 ≤ l.on n) : l.ok = true ∧ 0 ≤ n ∧ n ≤ 100000 ∧ l.on n = l.takes n := by
  unfold Ln.on at h ⊢
  split at h
  · next e =>
    obtain ⟨e1, e2⟩ := Bool.and_eq_true_iff.1 e
    have := inB_true.1 e2
    exact ⟨e1, this.1, this.2, by rw [if_pos e]⟩
  · omega
theorem off_bad {l : Ln} {room r : Int} (h : Off l room r) (g : (l.ok && inB 0 100000 room) = false) : r = -1 := by
  unfold Off Ln.room at h
  rw [g] at h
  simpa using h
theorem off_in {l : Ln} {room r : Int} (h : Off l room r) : -1 ≤ r ∧ r ≤ 100000 := by
  unfold Off at h
  split at h
  · exact ⟨by have := h.1; omega, h.2.1⟩
  · omega
theorem off_iff {l : Ln} {room r k : Int} (h : Off l room r) (ho : l.ok = true) (hr : inB 0 100000 room = true) (k0 : 0 ≤ k) (k1 : k ≤ 100000) : decide (k ≤ r) = decide (l.on k ≤ room) := by
  rw [on_ok ho (by rw [inB_true]; exact ⟨k0, k1⟩)]
  unfold Off Ln.room at h
  rw [ho, hr] at h
  by_cases g : l.takes 0 ≤ room
  · rw [if_pos (by simp [g])] at h
    exact decide_eq_decide.2 (h.iff k1)
  · rw [if_neg (by simp; omega)] at h
    have := takes_mono (l := l) k0
    rw [decide_eq_false (by omega), decide_eq_false (by omega)]

set_option maxHeartbeats 6400000 in
set_option maxRecDepth 100000 in
theorem fnGalois_walk (a : Option Addr) (len cap : Nat) (w : World)
    (hcode : ∀ k, k < len → ∃ b off z, a = some ⟨b, off, none⟩ ∧ b < w.heap.size ∧ w.cell? ⟨b, off + k, none⟩ = some (.int .u8 z) ∧ 0 ≤ z ∧ z ≤ 255) :
    Calls Try.prog 3 #[.slice a len cap] w fun e w' => e = .returned (.bool true) ∧ Below w.heap.size w w' := by
  by_cases hbig : 4096 < len
  · clear hcode
    go_enter Try.func3, Try.ntmps3
    go_wp2
    go_ret
    exact ⟨rfl, Below.refl _ _⟩
  have hc : Hid (Code w a len) := ⟨by omega, hcode⟩
  have hb : Hid (Below w.heap.size w w) := Below.refl _ _
  clear hcode
  go_enter Try.func3, Try.ntmps3
  go_wp2_with (go_at_call 4; go_in)
  refine (drawOnLine hc _ hb).mono ?_
  rintro e w1 ⟨⟨l, n, rfl, n0, n1⟩, b1⟩
  have H1 : Hid (Below w.heap.size w w1) := b1
  clear b1 hb
  -- what is told of the first line
  have A1 := fun w => implOn l n w
  have A2 := fun w => specOn l n w
  have A3 := fun w => implLineOk l w
  have A4 := fun w => (specLineOk l w).mono (R' := fun e w' => e = .returned (.bool l.ok) ∧ Below w.heap.size w w') fun _ _ h => ⟨h.1, by rw [h.2]; exact (Below.refl _ _).alloc (Nat.le_refl _) _⟩
  have A5 := fun w => implOn l (n + 1) w
  have F1 : Hid (0 ≤ l.on n → n ≤ l.on n ∧ (n < 100000 → l.on n ≤ l.on (n + 1))) := fun h => by
    obtain ⟨h1, h2, h3, h4⟩ := on_nonneg h
    refine ⟨by rw [h4]; exact takes_le h1 n, fun h5 => ?_⟩
    rw [h4, on_ok h1 (by rw [inB_true]; omega)]
    exact takes_mono (by omega)
  generalize l.on n = o at A1 A2 F1
  generalize l.on (n + 1) = o1 at A5 F1
  generalize l.ok = b1 at A3 A4
  obtain ⟨l0, l1, l2⟩ := l
  simp only [Ln.val] at A1 A2 A3 A4 A5 ⊢
  have A1' : Hid _ := A1
  have A2' : Hid _ := A2
  have A3' : Hid _ := A3
  have A4' : Hid _ := A4
  have A5' : Hid _ := A5
  clear A1 A2 A3 A4 A5
  have X1 : Hid (Boxed (w1.alloc (.cells #[.int .i64 l0, .int .i64 l1, .int .i64 l2] 25)) w1.heap.size #[.int .i64 l0, .int .i64 l1, .int .i64 l2] 25 ∧ Below w.heap.size w (w1.alloc (.cells #[.int .i64 l0, .int .i64 l1, .int .i64 l2] 25))) :=
    ⟨Boxed.new _ _ _, H1.out.alloc H1.out.size _⟩
  go_wp2_with fail
  refine (A1'.out _).mono ?_
  rintro e w2 ⟨rfl, q⟩
  have X2 : Hid (Boxed w2 w1.heap.size #[.int .i64 l0, .int .i64 l1, .int .i64 l2] 25 ∧ Below w.heap.size w w2) := ⟨X1.out.1.below X1.out.1.under q, X1.out.2.trans (q.mono X1.out.2.size)⟩
  clear q X1 H1 A1'
  generalize w1.heap.size = B1 at X2 ⊢
  go_wp2_with fail
  refine (drawOffLine hc _ X2.out.2).mono ?_
  rintro e w3 ⟨⟨l', room, rfl, r0, r1⟩, q⟩
  have X3 : Hid (Boxed w3 B1 #[.int .i64 l0, .int .i64 l1, .int .i64 l2] 25 ∧ Below w.heap.size w w3) := ⟨X2.out.1.below X2.out.1.under q, X2.out.2.trans (q.mono X2.out.2.size)⟩
  clear q X2
  -- what is told of the second one
  have D1 := fun w => implOff l' room w
  have D2 := fun w => specOff l' room w
  have D3 := fun w => (specLineOk l' w).mono (R' := fun e w' => e = .returned (.bool l'.ok) ∧ Below w.heap.size w w') fun _ _ h => ⟨h.1, by rw [h.2]; exact (Below.refl _ _).alloc (Nat.le_refl _) _⟩
  have D4 := fun k w => implOn l' k w
  have G1 : Hid (∀ r s, Off l' room r → Off l' room s → r = s) := fun _ _ => Off.one
  have G2 : Hid (∀ r, Off l' room r → (l'.ok && inB 0 100000 room) = false → r = -1) := fun _ => off_bad
  have G3 : Hid (∀ r, Off l' room r → -1 ≤ r ∧ r ≤ 100000) := fun _ => off_in
  have G4 : Hid (∀ r k, Off l' room r → l'.ok = true → inB 0 100000 room = true → 0 ≤ k → k ≤ 100000 → decide (k ≤ r) = decide (l'.on k ≤ room)) := fun _ _ => off_iff
  generalize Off l' room = OFF at D1 D2 G1 G2 G3 G4
  generalize l'.ok = b2 at D3 G2 G4
  generalize l'.on = ON at D4 G4
  obtain ⟨m0, m1, m2⟩ := l'
  simp only [Ln.val] at D1 D2 D3 D4 ⊢
  have D1' : Hid _ := D1
  have D2' : Hid _ := D2
  have D3' : Hid _ := D3
  have D4' : Hid _ := D4
  clear D1 D2 D3 D4
  have X4 : Hid (Boxed (w3.alloc (.cells #[.int .i64 m0, .int .i64 m1, .int .i64 m2] 25)) w3.heap.size #[.int .i64 m0, .int .i64 m1, .int .i64 m2] 25 ∧ Boxed (w3.alloc (.cells #[.int .i64 m0, .int .i64 m1, .int .i64 m2] 25)) B1 #[.int .i64 l0, .int .i64 l1, .int .i64 l2] 25 ∧ Below w.heap.size w (w3.alloc (.cells #[.int .i64 m0, .int .i64 m1, .int .i64 m2] 25))) :=
    ⟨Boxed.new _ _ _, X3.out.1.more _, X3.out.2.alloc X3.out.2.size _⟩
  go_wp2_with fail
  refine (D1'.out _).mono ?_
  rintro e w4 ⟨⟨r, rfl, hr⟩, q⟩
  have X5 : Hid (Boxed w4 w3.heap.size #[.int .i64 m0, .int .i64 m1, .int .i64 m2] 25 ∧ Boxed w4 B1 #[.int .i64 l0, .int .i64 l1, .int .i64 l2] 25 ∧ Below w.heap.size w w4) := ⟨X4.out.1.below X4.out.1.under q, X4.out.2.1.below X4.out.2.1.under q, X4.out.2.2.trans (q.mono X4.out.2.2.size)⟩
  have Hr : Hid (OFF r) := hr
  have E2 : Hid (∀ w : World, Calls Try.prog 10 #[.agg #[.int .i64 m0, .int .i64 m1, .int .i64 m2], .int .i64 room] w fun e w' => e = .returned (.int .i64 r) ∧ Below w.heap.size w w') := fun w =>
    (D2'.out w).mono fun _ _ h => by
      obtain ⟨⟨s, e, hs⟩, hb⟩ := h
      exact ⟨by rw [e, G1.out _ _ hs Hr.out], hb⟩
  clear q X3 X4 D1' D2' hr G1
  generalize w3.heap.size = B2 at X5 ⊢
  go_wp2_with fail
  have c0 : ∀ p : BelW w4.heap.size w4, p.w'.cell? ⟨B1, 0, none⟩ = some (.int .i64 l0) := fun p => (X5.out.2.1.below X5.out.2.1.under p.h).cell 0 rfl
  have c1 : ∀ p : BelW w4.heap.size w4, p.w'.cell? ⟨B1, 1, none⟩ = some (.int .i64 l1) := fun p => (X5.out.2.1.below X5.out.2.1.under p.h).cell 1 rfl
  have c2 : ∀ p : BelW w4.heap.size w4, p.w'.cell? ⟨B1, 2, none⟩ = some (.int .i64 l2) := fun p => (X5.out.2.1.below X5.out.2.1.under p.h).cell 2 rfl
  have d0 : ∀ p : BelW w4.heap.size w4, p.w'.cell? ⟨B2, 0, none⟩ = some (.int .i64 m0) := fun p => (X5.out.1.below X5.out.1.under p.h).cell 0 rfl
  have d1 : ∀ p : BelW w4.heap.size w4, p.w'.cell? ⟨B2, 1, none⟩ = some (.int .i64 m1) := fun p => (X5.out.1.below X5.out.1.under p.h).cell 1 rfl
  have d2 : ∀ p : BelW w4.heap.size w4, p.w'.cell? ⟨B2, 2, none⟩ = some (.int .i64 m2) := fun p => (X5.out.1.below X5.out.1.under p.h).cell 2 rfl
  haveI : Nonempty (BelW w4.heap.size w4) := ⟨⟨w4, Below.refl _ _⟩⟩
  refine region_below w4.heap.size (by kernel_rfl) (by kernel_rfl) ?_
  repeat (go_big_quiet_step ((first | (go_at_call 9; refine quiet_below (Nat.le_refl _) (A2'.out _)) | (go_at_call 10; refine quiet_below (Nat.le_refl _) (E2.out _)) | (go_at_call 11; refine quiet_below (Nat.le_refl _) (A3'.out _)) | (go_at_call 12; refine quiet_below (Nat.le_refl _) (A4'.out _)))))
  refine wpQuiet_nil ?_
  intro w5 hx
  have q := BelW.out hx
  have X6 : Hid (Boxed w5 B2 #[.int .i64 m0, .int .i64 m1, .int .i64 m2] 25 ∧ Boxed w5 B1 #[.int .i64 l0, .int .i64 l1, .int .i64 l2] 25 ∧ Below w.heap.size w w5) := ⟨X5.out.1.below X5.out.1.under q, X5.out.2.1.below X5.out.2.1.under q, X5.out.2.2.trans (q.mono X5.out.2.2.size)⟩
  clear hx q c0 c1 c2 d0 d1 d2 X5 A2' A3' A4' E2
  go_upto_region 9 with fail
  go_cut [66] (fun s wc => Hid (s = .bool false ∧ Boxed wc B2 #[.int .i64 m0, .int .i64 m1, .int .i64 m2] 25 ∧ Below w.heap.size w wc))
  case first =>
    by_cases ho : 0 ≤ o
    · obtain ⟨f1, f2⟩ := F1.out ho
      have f3 : ¬ o < n := by omega
      by_cases hn : n < 100000
      · have f4 := f2 hn
        have f5 : ¬ o1 < o := by omega
        have c0 : w5.cell? ⟨B1, 0, none⟩ = some (.int .i64 l0) := X6.out.2.1.cell 0 rfl
        have c1 : w5.cell? ⟨B1, 1, none⟩ = some (.int .i64 l1) := X6.out.2.1.cell 1 rfl
        have c2 : w5.cell? ⟨B1, 2, none⟩ = some (.int .i64 l2) := X6.out.2.1.cell 2 rfl
        clear f1 f2 f4
        go_wp2_with fail
        refine (A5'.out _).mono ?_
        rintro e w6 ⟨rfl, q⟩
        have X7 : Hid (Boxed w6 B2 #[.int .i64 m0, .int .i64 m1, .int .i64 m2] 25 ∧ Below w.heap.size w w6) := ⟨X6.out.1.below X6.out.1.under q, X6.out.2.2.trans (q.mono X6.out.2.2.size)⟩
        clear q c0 c1 c2
        go_wp2_with fail
        go_meet
        exact ⟨by rw [decide_eq_false (show ¬ o1 < o by omega)], X7.out⟩
      · clear f1 f2
        go_wp2_with fail
        go_meet
        exact ⟨rfl, X6.out.1, X6.out.2.2⟩
    · go_wp2_with fail
      go_meet
      exact ⟨rfl, X6.out.1, X6.out.2.2⟩
  case rest =>
    obtain ⟨rfl, hK⟩ := hcut.out
    have X7 : Hid (Boxed wc B2 #[.int .i64 m0, .int .i64 m1, .int .i64 m2] 25 ∧ Below w.heap.size w wc) := hK
    clear hcut hK X6 F1 A5'
    have c0 : wc.cell? ⟨B2, 0, none⟩ = some (.int .i64 m0) := X7.out.1.cell 0 rfl
    have c1 : wc.cell? ⟨B2, 1, none⟩ = some (.int .i64 m1) := X7.out.1.cell 1 rfl
    have c2 : wc.cell? ⟨B2, 2, none⟩ = some (.int .i64 m2) := X7.out.1.cell 2 rfl
    go_wp2_with fail
    refine (D3'.out _).mono ?_
    rintro e w6 ⟨rfl, q⟩
    have X8 : Hid (Boxed w6 B2 #[.int .i64 m0, .int .i64 m1, .int .i64 m2] 25 ∧ Below w.heap.size w w6) := ⟨X7.out.1.below X7.out.1.under q, X7.out.2.trans (q.mono X7.out.2.size)⟩
    clear q X7 c0 c1 c2
    by_cases hin : b2 = true ∧ 0 ≤ room ∧ room ≤ 100000
    · obtain ⟨rfl, s0, s1⟩ := hin
      obtain ⟨t0, t1⟩ := G3.out _ Hr.out
      have G5 : Hid (∀ k, 0 ≤ k → k ≤ 100000 → decide (k ≤ r) = decide (ON k ≤ room)) := fun k k0 k1 => G4.out r k Hr.out rfl (by rw [inB_true]; exact ⟨s0, s1⟩) k0 k1
      clear G2 G3 G4 Hr
      have s2 : ¬ room < 0 := by omega
      have s3 : ¬ 100000 < room := by omega
      clear s0 s1
      go_wp2
      clear s2 s3
      go_loopw [9] (fun s wr => ∃ i : Int, 0 ≤ i ∧ i ≤ 8 ∧ s = .int .i64 i ∧ Hid (Boxed wr B2 #[.int .i64 m0, .int .i64 m1, .int .i64 m2] 25 ∧ Below w.heap.size w wr)) (fun s _ => (8 - intOf s).toNat)
      case atStart => exact ⟨0, by omega, by omega, rfl, X8.out⟩
      case round =>
        obtain ⟨i, i0, i1, rfl, XR⟩ := hrel
        clear X8
        by_cases hlt : i < 8
        · have c0 : wr.cell? ⟨B2, 0, none⟩ = some (.int .i64 m0) := XR.out.1.cell 0 rfl
          have c1 : wr.cell? ⟨B2, 1, none⟩ = some (.int .i64 m1) := XR.out.1.cell 1 rfl
          have c2 : wr.cell? ⟨B2, 2, none⟩ = some (.int .i64 m2) := XR.out.1.cell 2 rfl
          go_wp2_with fail
          refine (lawPickS hc i 1600 i0 (by omega) (by omega) (by omega) _ XR.out.2).mono ?_
          rintro e wp ⟨⟨k, rfl, k0, k1⟩, hwp⟩
          have hwp := hwp.symm
          subst hwp
          by_cases h7 : i = 7 ∧ 0 ≤ r
          · obtain ⟨rfl, hr0⟩ := h7
            go_wp2_with fail
            refine (D4'.out r _).mono ?_
            rintro e wq ⟨rfl, q⟩
            have XQ : Hid (Boxed wq B2 #[.int .i64 m0, .int .i64 m1, .int .i64 m2] 25 ∧ Below w.heap.size w wq) := ⟨XR.out.1.below XR.out.1.under q, XR.out.2.trans (q.mono XR.out.2.size)⟩
            have hk := G5.out r hr0 t1
            generalize ON r = v at hk ⊢
            clear q c0 c1 c2
            by_cases hv : v ≤ room
            · have hk2 : r ≤ r := by
                rw [decide_eq_true hv] at hk
                exact of_decide_eq_true hk
              clear hk
              go_wp2
              go_round
              case rel => exact ⟨_, by omega, by omega, rfl, XQ.out⟩
              case measure => simp only [intOf]; omega
            · exact absurd (Int.le_refl r) (by
                rw [decide_eq_false hv] at hk
                exact of_decide_eq_false hk)
          · by_cases h6 : i = 6 ∧ 0 ≤ r ∧ r < 100000
            · obtain ⟨rfl, hr0, hr1⟩ := h6
              clear h7
              go_wp2_with fail
              refine (D4'.out (r + 1) _).mono ?_
              rintro e wq ⟨rfl, q⟩
              have XQ : Hid (Boxed wq B2 #[.int .i64 m0, .int .i64 m1, .int .i64 m2] 25 ∧ Below w.heap.size w wq) := ⟨XR.out.1.below XR.out.1.under q, XR.out.2.trans (q.mono XR.out.2.size)⟩
              have hk := G5.out (r + 1) (by omega) (by omega)
              generalize ON (r + 1) = v at hk ⊢
              clear q c0 c1 c2
              by_cases hv : v ≤ room
              · have hk2 : (r + 1) ≤ r := by
                  rw [decide_eq_true hv] at hk
                  exact of_decide_eq_true hk
                clear hk
                go_wp2
                go_round
                case rel => exact ⟨_, by omega, by omega, rfl, XQ.out⟩
                case measure => simp only [intOf]; omega
              · have hk2 : ¬ (r + 1) ≤ r := by
                  rw [decide_eq_false hv] at hk
                  exact of_decide_eq_false hk
                have hv3 : decide (v ≤ room) = false := decide_eq_false hv
                rw [hv3] at hk
                go_wp2
                go_round
                case rel => exact ⟨_, by omega, by omega, rfl, XQ.out⟩
                case measure => simp only [intOf]; omega
            · go_wp2_with fail
              all_goals (
                refine (D4'.out k _).mono ?_
                rintro e wq ⟨rfl, q⟩
                have XQ : Hid (Boxed wq B2 #[.int .i64 m0, .int .i64 m1, .int .i64 m2] 25 ∧ Below w.heap.size w wq) := ⟨XR.out.1.below XR.out.1.under q, XR.out.2.trans (q.mono XR.out.2.size)⟩
                have hk := G5.out k k0 (by omega)
                generalize ON k = v at hk ⊢
                clear q c0 c1 c2
                by_cases hv : v ≤ room
                · have hk2 : k ≤ r := by
                    rw [decide_eq_true hv] at hk
                    exact of_decide_eq_true hk
                  clear hk
                  go_wp2
                  go_round
                  case rel => exact ⟨_, by omega, by omega, rfl, XQ.out⟩
                  case measure => simp only [intOf]; omega
                · have hk2 : ¬ k ≤ r := by
                    rw [decide_eq_false hv] at hk
                    exact of_decide_eq_false hk
                  have hv3 : decide (v ≤ room) = false := decide_eq_false hv
                  rw [hv3] at hk
                  go_wp2
                  go_round
                  case rel => exact ⟨_, by omega, by omega, rfl, XQ.out⟩
                  case measure => simp only [intOf]; omega)
        · go_wp2
          go_ret
          exact ⟨rfl, XR.out.2⟩
    · have hm : r = -1 := G2.out _ Hr.out (by
        cases b2
        · rfl
        · rw [Bool.true_and, inB_false]
          have : ¬ (0 ≤ room ∧ room ≤ 100000) := fun h => hin ⟨rfl, h⟩
          omega)
      subst hm
      clear G2 G3 G4 Hr
      cases b2
      · go_wp2
        go_ret
        exact ⟨rfl, X8.out.2⟩
      · have hor : room < 0 ∨ 100000 < room := by
          have : ¬ (0 ≤ room ∧ room ≤ 100000) := fun h => hin ⟨rfl, h⟩
          omega
        clear hin
        rcases hor with hor | hor
        · go_wp2
          go_ret
          exact ⟨rfl, X8.out.2⟩
        · have hor' : ¬ room < 0 := by omega
          go_wp2
          go_ret
          exact ⟨rfl, X8.out.2⟩
end Go.Proofs.Ythnooglgppboeaa
