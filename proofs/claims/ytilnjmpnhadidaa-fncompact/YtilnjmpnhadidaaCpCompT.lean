/-
  The walk of the model's Compact. By the verifier.
-/
import Derived.Test.YtilnjmpnhadidaaCpComp
import Derived.Test.YtilnjmpnhadidaaCpPairS
import Derived.Test.YtilnjmpnhadidaaCpTrimS
namespace Go.Proofs.Ytilnjmpnhadidaa
open Go.RowKit

/-- What the model's loop holds. -/
structure CompSt (w : World) (l : List Rt) (v : Value) (wr : World) : Prop where
  is : ∃ a c cur, v = .slice a cur.length c ∧ rtsOk cur = true ∧ compL cur = compL l ∧ (a = none → c = 0) ∧ RRow w.heap.size wr v cur
  bel : Below w.heap.size w wr

set_option maxHeartbeats 1600000 in
theorem specComp (a : Option Addr) (cap : Nat) (l : List Rt) (w : World) (hT : l.length ≤ 1048576) (hn : a = none → cap = 0) (h : Hid (RtsAt w a l)) :
    Calls Try.prog 16 #[.slice a l.length cap] w fun e w' => (∃ v', e = .returned v' ∧ RRow w.heap.size w' v' (compV l)) ∧ Below w.heap.size w w' := by
  have C := fun w h => specOk a cap l w hT h
  unfold compV
  cases hok : rtsOk l
  · simp only [Bool.false_eq_true, if_false]
    rw [hok] at C
    have C' : Hid _ := C
    clear C hok
    generalize l.length = len at C' ⊢
    go_enter Try.func16, Try.ntmps16
    go_wp2_with fail
    refine (C'.out _ h).mono ?_
    rintro e w1 ⟨rfl, b1⟩
    have B : Hid (Below w.heap.size w w1) := b1
    clear b1
    go_wp2
    go_ret
    exact ⟨⟨_, rfl, row_built _ _ B.out.size⟩, B.out.alloc B.out.size _⟩
  · simp only [if_true]
    rw [hok] at C
    have C' : Hid _ := C
    have HK : Hid (rtsOk l = true ∧ l.length ≤ 64) := ⟨hok, (ok_all hok).1⟩
    obtain ⟨len, hlen⟩ : ∃ n, l.length = n := ⟨_, rfl⟩
    have Hlen : Hid (l.length = len) := hlen
    simp only [hlen] at C' hT ⊢
    clear C hok hlen
    go_enter Try.func16, Try.ntmps16
    go_wp2_with fail
    refine (C'.out _ h).mono ?_
    rintro e w1 ⟨rfl, b1⟩
    have B : Hid (Below w.heap.size w w1 ∧ RtsAt w1 a l) := ⟨b1, h.out.below b1⟩
    clear b1
    go_wp2_with (at_builtin; refine row_app rfl (.tmp 9) (.tmp 10) rfl w.heap.size _ [] _ _ _ l Hlen.out rfl rfl (row_built _ _ B.out.1.size) (B.out.2.alloc _) hn (by rw [Hlen.out]; simp; omega) (by have := B.out.1.size; simp; omega) ?_)
    intro v2 w2 r2 b2 _ n2
    have H0 : Hid (CompSt w l v2 w2) := by
      obtain ⟨a2, c2, rfl⟩ := RRow.shape r2
      exact ⟨⟨a2, c2, l, rfl, HK.out.1, rfl, RRow.none r2, r2⟩, (B.out.1.alloc B.out.1.size _).trans b2⟩
    clear r2 b2 n2
    go_wp2
    go_loopw [3] (fun v wr => Hid (CompSt w l v wr)) (fun v _ => lenOf v)
    case atStart => exact H0
    case round =>
      obtain ⟨a1, c1, cur, rfl, k1, k2, k3, k4⟩ := hrel.out.is
      have T := specTrimL a1 c1 cur wr (ok_all k1).1 (fine_of k1) k4.at
      have HR : Hid (Below w.heap.size w wr ∧ (stepL cur).length ≤ cur.length ∧ RRow w.heap.size wr (.slice a1 cur.length c1) cur) := ⟨hrel.out.bel, step_length k1, k4⟩
      have PH : Hid (∀ x v, RRow wr.heap.size x v (trimL cur) → ∃ a2 c2, v = .slice a2 (trimL cur).length c2 ∧ Calls Try.prog 40 #[.slice a2 (trimL cur).length c2] x fun e w' => (∃ v', e = .returned v' ∧ RRow x.heap.size w' v' (stepL cur) ∧ v' ≠ .slice none 0 0) ∧ Below x.heap.size x w') := by
        intro x v hr
        obtain ⟨a2, c2, rfl⟩ := hr.shape
        exact ⟨a2, c2, rfl, specPairL a2 c2 (trimL cur) x (ok_all (trim_ok k1).1).1 (fine_of (trim_ok k1).1) hr.none hr.at⟩
      have SH : Hid (∀ base x v, RRow base x v (stepL cur) → ∃ a2 c2, v = .slice a2 (stepL cur).length c2 ∧ (a2 = none → c2 = 0)) := by
        intro base x v hr
        obtain ⟨a2, c2, rfl⟩ := hr.shape
        exact ⟨a2, c2, rfl, hr.none⟩
      have HE : Hid (¬ (stepL cur).length < cur.length → cur = compL l) := by
        intro e
        rw [← k2, comp_end e]
      have HS : Hid ((stepL cur).length < cur.length → rtsOk (stepL cur) = true ∧ compL (stepL cur) = compL l) := fun e => ⟨step_ok k1, by rw [← comp_step e]; exact k2⟩
      clear hrel k1 k2 k3 k4
      obtain ⟨sl, hsl⟩ : ∃ n, (stepL cur).length = n := ⟨_, rfl⟩
      obtain ⟨cl, hcl⟩ : ∃ n, cur.length = n := ⟨_, rfl⟩
      simp only [hsl, hcl] at HR HE HS SH T ⊢
      generalize (trimL cur).length = tl at PH
      have HSL : Hid ((stepL cur).length = sl) := hsl
      clear hsl hcl
      go_wp2_with fail
      refine T.mono ?_
      rintro e w2 ⟨⟨v2, rfl, r2, _⟩, g2⟩
      obtain ⟨a2, c2, rfl, P⟩ := PH.out _ _ r2
      have H2 : Hid (Below w.heap.size w w2 ∧ RRow w.heap.size w2 (.slice a1 cl c1) cur) := ⟨HR.out.1.trans (g2.mono HR.out.1.size), HR.out.2.2.below (fun k hk => (HR.out.2.2.lt k hk).2) g2⟩
      clear r2 g2
      go_wp2_with fail
      refine P.mono ?_
      rintro e w3 ⟨⟨v3, rfl, r3, _⟩, g3⟩
      obtain ⟨a3, c3, rfl, z3⟩ := SH.out _ _ _ r3
      have H3 : Hid (RRow w.heap.size w3 (.slice a3 sl c3) (stepL cur) ∧ Below w.heap.size w w3 ∧ (a3 = none → c3 = 0) ∧ RRow w.heap.size w3 (.slice a1 cl c1) cur) := ⟨r3.mono H2.out.1.size, H2.out.1.trans (g3.mono H2.out.1.size), z3, H2.out.2.below (fun k hk => (H2.out.2.lt k hk).2) g3⟩
      clear r3 g3 z3 T P H2
      have hle := HR.out.2.1
      by_cases he : sl < cl
      · have HN : Hid (CompSt w l (.slice a3 sl c3) w3) := ⟨⟨a3, c3, stepL cur, by rw [HSL.out], (HS.out he).1, (HS.out he).2, H3.out.2.2.1, H3.out.1⟩, H3.out.2.1⟩
        have hlt' : (sl : Int) < (cl : Int) := by omega
        go_wp2
        go_roundw
        case rel => exact HN
        case measure => exact he
      · have HQ : Hid (RRow w.heap.size w3 (.slice a1 cl c1) (compL l)) := by
          show RRow _ _ _ _
          rw [← HE.out he]
          exact H3.out.2.2.2
        have hge : (cl : Int) ≤ (sl : Int) := by omega
        go_wp2
        go_ret
        exact ⟨⟨_, rfl, HQ.out⟩, H3.out.2.1⟩
end Go.Proofs.Ytilnjmpnhadidaa
