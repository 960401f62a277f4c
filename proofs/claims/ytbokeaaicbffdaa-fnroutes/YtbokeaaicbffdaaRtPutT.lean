/-
  The walk of the model's Put. By the verifier.
-/
import Derived.Test.YtbokeaaicbffdaaRtPutS
namespace Go.Proofs.Ytbokeaaicbffdaa
open Go.RowKit

/-- What Put answers. -/
def putsB (l : List Rt) (r : Rt) : Bool := rtsOk l && (r.ok && !(decide (l.length = 64) && decide (¬ atN l r.net r.bits < l.length)))
def putsL (l : List Rt) (r : Rt) : List Rt := if rtsOk l = true then (if putsB l r = true then putL l r else l) else []

set_option maxHeartbeats 1600000 in
theorem specPut (a : Option Addr) (cap : Nat) (l : List Rt) (r : Rt) (w : World) (hT : l.length ≤ 1048576) (hn : a = none → cap = 0) (h : Hid (RtsAt w a l)) :
    Calls Try.prog 9 #[.slice a l.length cap, r.val] w fun e w' => (∃ v, e = .returned (.tuple #[v, .bool (putsB l r)]) ∧ RRow w.heap.size w' v (putsL l r)) ∧ Below w.heap.size w w' := by
  have C := fun w h => specOk a cap l w hT h
  have A := fun w h => specAt a cap l r.net r.bits w hT h
  have D := fun w => specRoute r w
  obtain ⟨W0, hW0⟩ : ∃ W, W = w.alloc (.cells #[.int .i64 r.net, .int .i64 r.bits, .int .i64 r.hop] 26) := ⟨_, rfl⟩
  have HW : Hid (RtsAt W0 a l ∧ Below w.heap.size w W0 ∧ Boxed W0 w.heap.size #[.int .i64 r.net, .int .i64 r.bits, .int .i64 r.hop] 26) := by
    rw [hW0]
    exact ⟨h.out.alloc _, (Below.refl _ _).alloc (Nat.le_refl _) _, Boxed.new _ _ _⟩
  have HW0 : Hid (W0 = _) := hW0
  clear hW0
  cases hok : rtsOk l
  · have hv : putsL l r = [] := by unfold putsL; rw [hok]; rfl
    have hv2 : putsB l r = false := by unfold putsB; rw [hok]; rfl
    rw [hv, hv2]
    rw [hok] at C
    have C' : Hid _ := C
    clear C A D hok hv hv2
    generalize l.length = len at C' ⊢
    unfold Rt.val
    go_enter Try.func9, Try.ntmps9
    go_wp2_with fail
    rw [← HW0.out]
    refine (C'.out _ HW.out.1).mono ?_
    rintro e w1 ⟨rfl, b1⟩
    have B : Hid (Below w.heap.size w w1) := HW.out.2.1.trans (b1.mono HW.out.2.1.size)
    clear b1
    have H : Hid (RRow w.heap.size (w1.alloc (.cells #[] 26)) (.slice (some ⟨w1.heap.size, 0, none⟩) 0 0) []) := row_built w1 _ B.out.size
    go_wp2
    go_ret2
    exact ⟨⟨_, rfl, H.out⟩, B.out.alloc B.out.size _⟩
  rw [hok] at C
  have h64 : l.length ≤ 64 := by
    unfold rtsOk at hok
    rw [Bool.and_eq_true, decide_eq_true_iff] at hok
    exact hok.1
  have hb0 : putsB l r = (r.ok && !(decide (l.length = 64) && decide (¬ atN l r.net r.bits < l.length))) := by unfold putsB; rw [hok]; rfl
  have hl0 : putsL l r = if putsB l r = true then putL l r else l := by unfold putsL; rw [if_pos hok]
  have P := fun g cap base w hb h => specL4Put base g cap l r w hT hb h
  obtain ⟨N, hN⟩ : ∃ N, atN l r.net r.bits = N := ⟨_, rfl⟩
  rw [hN] at A hb0
  obtain ⟨len, hlen⟩ : ∃ n, l.length = n := ⟨_, rfl⟩
  have Hlen : Hid (l.length = len) := hlen
  have A' : Hid _ := A
  have C' : Hid _ := C
  have P' : Hid _ := P
  rw [hl0, hb0]
  unfold Rt.val at D P'
  simp only [hlen] at A' C' P' h64 hT ⊢
  clear C A P hok hb0 hl0 hN hlen
  -- up to the copy
  have step1 : Hid (∀ w1 : World, Below W0.heap.size W0 w1 → Below w.heap.size w w1 ∧ RtsAt w1 a l ∧ Boxed w1 w.heap.size #[.int .i64 r.net, .int .i64 r.bits, .int .i64 r.hop] 26) := by
    show ∀ w1 : World, Below W0.heap.size W0 w1 → _
    intro w1 b1
    exact ⟨HW.out.2.1.trans (b1.mono HW.out.2.1.size), HW.out.1.below b1, HW.out.2.2.below HW.out.2.2.under b1⟩
  unfold Rt.val
  cases hr : r.ok
  · rw [hr] at D
    simp only [Bool.false_and, Bool.false_eq_true, if_false]
    go_enter Try.func9, Try.ntmps9
    go_wp2_with fail
    rw [← HW0.out]
    refine (C'.out _ HW.out.1).mono ?_
    rintro e w1 ⟨rfl, b1⟩
    have B1 : Hid (Below W0.heap.size W0 w1) := b1
    clear b1
    go_wp2_with (at_builtin; refine row_app rfl (.tmp 11) (.tmp 12) rfl w1.heap.size _ [] _ _ _ l Hlen.out rfl rfl (row_built w1 _ (Nat.le_refl _)) ((step1.out _ B1.out).2.1.alloc _) hn (by have := Hlen.out; simp; omega) (by simp) ?_)
    intro v2 w2 r2 b2 _ _
    have b2' : Below w1.heap.size w1 w2 := ((Below.refl _ w1).alloc (Nat.le_refl _) _).trans b2
    have B2 : Below W0.heap.size W0 w2 := B1.out.trans (b2'.mono B1.out.size)
    have H2 : Hid (RRow w.heap.size w2 v2 l ∧ Below w.heap.size w w2) := ⟨r2.mono (step1.out _ B1.out).1.size, (step1.out _ B2).1⟩
    have x0 : w2.cell? ⟨w.heap.size, 0, none⟩ = some (.int .i64 r.net) := (step1.out _ B2).2.2.cell 0 rfl
    have x1 : w2.cell? ⟨w.heap.size, 1, none⟩ = some (.int .i64 r.bits) := (step1.out _ B2).2.2.cell 1 rfl
    have x2 : w2.cell? ⟨w.heap.size, 2, none⟩ = some (.int .i64 r.hop) := (step1.out _ B2).2.2.cell 2 rfl
    clear r2 b2 b2' B1 B2
    go_wp2_with (go_at_call 28; refine (D _).mono ?_; rintro e w' ⟨rfl, rfl⟩)
    go_ret2
    exact ⟨⟨_, rfl, H2.out.1.alloc _⟩, H2.out.2.alloc H2.out.2.size _⟩
  rw [hr] at D
  simp only [Bool.true_and]
  have fin : Hid (∀ (v2 : Value) (w1 w2 : World), Below W0.heap.size W0 w1 → RRow w1.heap.size w2 v2 ([] ++ l) → Below w1.heap.size (w1.alloc (.cells #[] 26)) w2 → (v2 = .slice none 0 0 → (Value.slice (some ⟨w1.heap.size, 0, none⟩) 0 0) = .slice none 0 0) →
      (∃ g c, v2 = .slice (some ⟨g, 0, none⟩) len c) ∧ RRow w.heap.size w2 v2 l ∧ Below w.heap.size w w2 ∧ RtsAt w2 a l ∧ Boxed w2 w.heap.size #[.int .i64 r.net, .int .i64 r.bits, .int .i64 r.hop] 26) := by
    show ∀ (v2 : Value) (w1 w2 : World), _
    intro v2 w1 w2 b1 r2 b2 n2
    have b2' : Below w1.heap.size w1 w2 := ((Below.refl _ w1).alloc (Nat.le_refl _) _).trans b2
    have B2 : Below W0.heap.size W0 w2 := b1.trans (b2'.mono b1.size)
    obtain ⟨g, c, e⟩ := r2.some (fun e => by have := n2 e; cases this)
    exact ⟨⟨g, c, by rw [e]; show Value.slice _ l.length _ = _; rw [Hlen.out]⟩, r2.mono (step1.out _ b1).1.size, (step1.out _ B2).1, (step1.out _ B2).2.1, (step1.out _ B2).2.2⟩
  by_cases hfull : len = 64 ∧ ¬ N < len
  · have hb1 : (!(decide (len = 64) && decide (¬ N < len))) = false := by simp [hfull.1]; omega
    rw [hb1]
    simp only [Bool.false_eq_true, if_false]
    have A2 : Hid (∀ w, RtsAt w a l → Calls Try.prog 29 #[.slice a len cap, .int .i64 r.net, .int .i64 r.bits] w fun e w' => e = .returned (.int .i64 (-1)) ∧ w' = w) := by
      show ∀ w, RtsAt w a l → _
      intro w hw
      have := A'.out w hw
      rw [if_neg hfull.2] at this
      exact this
    obtain ⟨h64', hNf⟩ := hfull
    clear hb1 A' P'
    subst h64'
    go_enter Try.func9, Try.ntmps9
    go_wp2_with fail
    rw [← HW0.out]
    refine (C'.out _ HW.out.1).mono ?_
    rintro e w1 ⟨rfl, b1⟩
    have B1 : Hid (Below W0.heap.size W0 w1) := b1
    clear b1
    go_wp2_with (at_builtin; refine row_app rfl (.tmp 11) (.tmp 12) rfl w1.heap.size _ [] _ _ _ l Hlen.out rfl rfl (row_built w1 _ (Nat.le_refl _)) ((step1.out _ B1.out).2.1.alloc _) hn (by have := Hlen.out; simp; omega) (by simp) ?_)
    intro v2 w2 r2 b2 _ n2
    obtain ⟨-, q1, q2, q3, q4⟩ := fin.out v2 w1 w2 B1.out r2 b2 (fun e => absurd e n2)
    have H2 : Hid (RRow w.heap.size w2 v2 l ∧ Below w.heap.size w w2 ∧ RtsAt w2 a l) := ⟨q1, q2, q3⟩
    have x0 : w2.cell? ⟨w.heap.size, 0, none⟩ = some (.int .i64 r.net) := q4.cell 0 rfl
    have x1 : w2.cell? ⟨w.heap.size, 1, none⟩ = some (.int .i64 r.bits) := q4.cell 1 rfl
    have x2 : w2.cell? ⟨w.heap.size, 2, none⟩ = some (.int .i64 r.hop) := q4.cell 2 rfl
    have x3 : w.heap.size < w2.heap.size := q4.under
    clear r2 b2 n2 q1 q2 q3 q4 B1
    go_wp2_with (first | (go_at_call 28; refine (D _).mono ?_; rintro e w' ⟨rfl, rfl⟩) | (go_at_call 29; refine (A2.out _ (H2.out.2.2.alloc _)).mono ?_; rintro e w' ⟨rfl, rfl⟩))
    go_ret2
    exact ⟨⟨_, rfl, H2.out.1.alloc _⟩, H2.out.2.1.alloc H2.out.2.1.size _⟩
  · have hb1 : (!(decide (len = 64) && decide (¬ N < len))) = true := by
      by_cases h1 : len = 64
      · by_cases h2 : N < len
        · simp [h2]
        · exact absurd ⟨h1, h2⟩ hfull
      · simp [h1]
    rw [hb1]
    simp only [if_true]
    have A2 : Hid (len = 64 → ∀ w, RtsAt w a l → Calls Try.prog 29 #[.slice a len cap, .int .i64 r.net, .int .i64 r.bits] w fun e w' => e = .returned (.int .i64 (N : Int)) ∧ w' = w) := by
      show len = 64 → ∀ w, RtsAt w a l → _
      intro h1 w hw
      have := A'.out w hw
      rw [if_pos (by apply Classical.byContradiction; intro h2; exact hfull ⟨h1, h2⟩)] at this
      exact this
    clear hb1 A'
    by_cases h1 : len = 64
    · have A3 := A2.out h1
      have A3' : Hid (∀ w, RtsAt w a l → Calls Try.prog 29 #[.slice a len cap, .int .i64 r.net, .int .i64 r.bits] w fun e w' => e = .returned (.int .i64 (N : Int)) ∧ w' = w) := A3
      clear A3 A2
      subst h1
      have hN0 : decide ((N : Int) < 0) = false := by simp
      go_enter Try.func9, Try.ntmps9
      go_wp2_with fail
      rw [← HW0.out]
      refine (C'.out _ HW.out.1).mono ?_
      rintro e w1 ⟨rfl, b1⟩
      have B1 : Hid (Below W0.heap.size W0 w1) := b1
      clear b1
      go_wp2_with (at_builtin; refine row_app rfl (.tmp 11) (.tmp 12) rfl w1.heap.size _ [] _ _ _ l Hlen.out rfl rfl (row_built w1 _ (Nat.le_refl _)) ((step1.out _ B1.out).2.1.alloc _) hn (by have := Hlen.out; simp; omega) (by simp) ?_)
      intro v2 w2 r2 b2 _ n2
      obtain ⟨⟨g2, c2, rfl⟩, q1, q2, q3, q4⟩ := fin.out v2 w1 w2 B1.out r2 b2 (fun e => absurd e n2)
      have H2 : Hid (RRow w.heap.size w2 (.slice (some ⟨g2, 0, none⟩) _ c2) l ∧ Below w.heap.size w w2 ∧ RtsAt w2 a l) := ⟨q1, q2, q3⟩
      have x0 : w2.cell? ⟨w.heap.size, 0, none⟩ = some (.int .i64 r.net) := q4.cell 0 rfl
      have x1 : w2.cell? ⟨w.heap.size, 1, none⟩ = some (.int .i64 r.bits) := q4.cell 1 rfl
      have x2 : w2.cell? ⟨w.heap.size, 2, none⟩ = some (.int .i64 r.hop) := q4.cell 2 rfl
      have x3 : w.heap.size < w2.heap.size := q4.under
      have HF : Hid (∀ w' e, (∃ v, e = Ending.returned v ∧ RRow w.heap.size w' v (putL l r) ∧ v ≠ .slice none 0 0) ∧ Below w.heap.size (w2.alloc (.cells #[.int .i64 r.net, .int .i64 r.bits, .int .i64 r.hop] 26)) w' → ∃ v, e = .returned v ∧ RRow w.heap.size w' v (putL l r) ∧ Below w.heap.size w w') := by
        show ∀ w' e, _ → _
        rintro w' e ⟨⟨v, e1, h1, _⟩, b⟩
        exact ⟨v, e1, h1, (H2.out.2.1.alloc H2.out.2.1.size _).trans b⟩
      clear r2 b2 n2 q1 q2 q3 q4 B1
      go_wp2_with (first | (go_at_call 28; refine (D _).mono ?_; rintro e w' ⟨rfl, rfl⟩) | (go_at_call 29; refine (A3'.out _ (H2.out.2.2.alloc _)).mono ?_; rintro e w' ⟨rfl, rfl⟩) | fail)
      refine (P'.out g2 c2 w.heap.size _ (by simp; omega) (H2.out.1.alloc _)).mono ?_
      intro e w' hh
      obtain ⟨v, rfl, q1, q2⟩ := HF.out w' e hh
      have HE : Hid (RRow w.heap.size w' v (putL l r) ∧ Below w.heap.size w w') := ⟨q1, q2⟩
      clear q1 q2 hh
      go_wp2
      go_ret2
      exact ⟨⟨_, rfl, HE.out.1⟩, HE.out.2⟩
    · have hlen64 : ((len : Int) == 64) = false := by rw [beq_eq_false_iff_ne]; omega
      have hN0 : decide ((N : Int) < 0) = false := by simp
      go_enter Try.func9, Try.ntmps9
      go_wp2_with fail
      rw [← HW0.out]
      refine (C'.out _ HW.out.1).mono ?_
      rintro e w1 ⟨rfl, b1⟩
      have B1 : Hid (Below W0.heap.size W0 w1) := b1
      clear b1
      go_wp2_with (at_builtin; refine row_app rfl (.tmp 11) (.tmp 12) rfl w1.heap.size _ [] _ _ _ l Hlen.out rfl rfl (row_built w1 _ (Nat.le_refl _)) ((step1.out _ B1.out).2.1.alloc _) hn (by have := Hlen.out; simp; omega) (by simp) ?_)
      intro v2 w2 r2 b2 _ n2
      obtain ⟨⟨g2, c2, rfl⟩, q1, q2, q3, q4⟩ := fin.out v2 w1 w2 B1.out r2 b2 (fun e => absurd e n2)
      have H2 : Hid (RRow w.heap.size w2 (.slice (some ⟨g2, 0, none⟩) _ c2) l ∧ Below w.heap.size w w2 ∧ RtsAt w2 a l) := ⟨q1, q2, q3⟩
      have x0 : w2.cell? ⟨w.heap.size, 0, none⟩ = some (.int .i64 r.net) := q4.cell 0 rfl
      have x1 : w2.cell? ⟨w.heap.size, 1, none⟩ = some (.int .i64 r.bits) := q4.cell 1 rfl
      have x2 : w2.cell? ⟨w.heap.size, 2, none⟩ = some (.int .i64 r.hop) := q4.cell 2 rfl
      have x3 : w.heap.size < w2.heap.size := q4.under
      have HF : Hid (∀ w' e, (∃ v, e = Ending.returned v ∧ RRow w.heap.size w' v (putL l r) ∧ v ≠ .slice none 0 0) ∧ Below w.heap.size (w2.alloc (.cells #[.int .i64 r.net, .int .i64 r.bits, .int .i64 r.hop] 26)) w' → ∃ v, e = .returned v ∧ RRow w.heap.size w' v (putL l r) ∧ Below w.heap.size w w') := by
        show ∀ w' e, _ → _
        rintro w' e ⟨⟨v, e1, h1, _⟩, b⟩
        exact ⟨v, e1, h1, (H2.out.2.1.alloc H2.out.2.1.size _).trans b⟩
      clear r2 b2 n2 q1 q2 q3 q4 B1
      go_wp2_with (first | (go_at_call 28; refine (D _).mono ?_; rintro e w' ⟨rfl, rfl⟩) | fail)
      refine (P'.out g2 c2 w.heap.size _ (by simp; omega) (H2.out.1.alloc _)).mono ?_
      intro e w' hh
      obtain ⟨v, rfl, q1, q2⟩ := HF.out w' e hh
      have HE : Hid (RRow w.heap.size w' v (putL l r) ∧ Below w.heap.size w w') := ⟨q1, q2⟩
      clear q1 q2 hh
      go_wp2
      go_ret2
      exact ⟨⟨_, rfl, HE.out.1⟩, HE.out.2⟩
end Go.Proofs.Ytbokeaaicbffdaa
