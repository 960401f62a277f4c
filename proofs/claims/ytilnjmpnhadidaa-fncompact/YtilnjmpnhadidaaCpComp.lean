/-
  The walk of the program's Compact. By the verifier.
-/
import Derived.Test.YtilnjmpnhadidaaCpCompM
import Derived.Test.YtilnjmpnhadidaaCpPair
namespace Go.Proofs.Ytilnjmpnhadidaa
open Go.RowKit Go.Maps

/-- How long a list is. -/
def lenOf (v : Value) : Nat := match v with
  | .slice _ n _ => n
  | _ => 0
/-- What the loop holds. -/
structure CompAt (w : World) (l : List Rt) (b : Nat) (v : Value) (wr : World) : Prop where
  is : ∃ a c cur, v = .slice a cur.length c ∧ rtsOk cur = true ∧ compL cur = compL l ∧ (a = none → c = 0) ∧ RtsAt wr a cur
  map : ∃ n g, HMap wr b n g
  bel : Below w.heap.size w wr
  low : w.heap.size ≤ b

set_option maxHeartbeats 1600000 in
theorem implComp (a : Option Addr) (cap : Nat) (l : List Rt) (w : World) (hT : l.length ≤ 1048576) (hn : a = none → cap = 0) (h : Hid (RtsAt w a l)) :
    Calls Try.prog 10 #[.slice a l.length cap] w fun e w' => (∃ v', e = .returned v' ∧ RRow w.heap.size w' v' (compV l)) ∧ Below w.heap.size w w' := by
  have C := fun w h => implOk a cap l w hT h
  unfold compV
  cases hok : rtsOk l
  · simp only [Bool.false_eq_true, if_false]
    rw [hok] at C
    have C' : Hid _ := C
    clear C hok
    generalize l.length = len at C' ⊢
    go_enter Try.func10, Try.ntmps10
    go_wp2_with fail
    refine (C'.out _ h).mono ?_
    rintro e w1 ⟨rfl, b1⟩
    have B : Hid (Below w.heap.size w w1) := b1
    clear b1
    go_wp2
    go_ret
    exact ⟨⟨_, rfl, row_built _ _ B.out.size⟩, B.out.alloc B.out.size _⟩
  · simp only [if_true]
    rw [hok] at C
    have C' : Hid _ := C
    have HL : Hid (∀ w1 c, rtsOk l = true ∧ (Below w.heap.size w w1 → CompAt w l w1.heap.size (.slice a l.length cap) (w1.alloc (.map #[] c)) ∨ c ≠ 0)) := by
      intro w1 c
      refine ⟨hok, fun b1 => ?_⟩
      by_cases hc : c = 0
      · subst hc
        exact .inl ⟨⟨a, cap, l, rfl, hok, rfl, hn, (h.out.below b1).alloc _⟩, ⟨_, _, HMap.made _⟩, b1.alloc b1.size _, b1.size⟩
      · exact .inr hc
    clear C hok
    generalize l.length = len at C' HL ⊢
    have hmm := @run_makeMap Try.prog
    go_enter Try.func10, Try.ntmps10
    go_wp2_with fail
    refine (C'.out _ h).mono ?_
    rintro e w1 ⟨rfl, b1⟩
    have B : Hid (Below w.heap.size w w1) := b1
    clear b1
    go_wp2
    obtain ⟨b, hb⟩ : ∃ b, w1.heap.size = b := ⟨_, rfl⟩
    have H0 : Hid (CompAt w l b (.slice a len cap) (w1.alloc (.map #[] 0))) := by
      have := ((HL.out w1 0).2 B.out).resolve_right (by simp)
      rw [hb] at this
      exact this
    simp only [hb]
    clear hb hmm
    go_loopw [0] (fun v wr => Hid (CompAt w l b v wr)) (fun v _ => lenOf v)
    case atStart => exact H0
    case round =>
      obtain ⟨a1, c1, cur, rfl, k1, k2, k3, k4⟩ := hrel.out.is
      obtain ⟨n1, g1, m1⟩ := hrel.out.map
      have T := implTrimH a1 c1 cur b n1 g1 wr k1 k3 k4 m1
      have HR : Hid (rtsOk cur = true ∧ compL cur = compL l ∧ Below w.heap.size w wr ∧ w.heap.size ≤ b ∧ (stepL cur).length ≤ cur.length) := ⟨k1, k2, hrel.out.bel, hrel.out.low, step_length k1⟩
      have PH : Hid (∀ x v, RRow wr.heap.size x v (trimL cur) → (∃ n' g', HMap x b n' g') → ∃ a2 c2, v = .slice a2 (trimL cur).length c2 ∧ Calls Try.prog 30 #[.map (some b), .slice a2 (trimL cur).length c2] x fun e w' => (∃ v', e = .returned v' ∧ RRow x.heap.size w' v' (stepL cur)) ∧ (∃ n' g', HMap w' b n' g') ∧ x.grownBy w' (some b)) := by
        intro x v hr hmx
        obtain ⟨n', g', hmx⟩ := hmx
        obtain ⟨a2, c2, rfl⟩ := hr.shape
        exact ⟨a2, c2, rfl, implPairH a2 c2 (trimL cur) b n' g' x (trim_ok k1).1 hr.none hr.at hmx⟩
      have SH : Hid (∀ base x v, RRow base x v (stepL cur) → ∃ a2 c2, v = .slice a2 (stepL cur).length c2 ∧ (a2 = none → c2 = 0) ∧ RtsAt x a2 (stepL cur)) := by
        intro base x v hr
        obtain ⟨a2, c2, rfl⟩ := hr.shape
        exact ⟨a2, c2, rfl, hr.none, hr.at⟩
      have HE : Hid ((stepL cur).length = cur.length → stepL cur = compL l) := by
        intro e
        rw [← k2, comp_end (by omega)]
        exact step_same k1 e
      have HS : Hid ((stepL cur).length < cur.length → rtsOk (stepL cur) = true ∧ compL (stepL cur) = compL l) := fun e => ⟨step_ok k1, by rw [← comp_step e]; exact k2⟩
      clear hrel k1 k2 k3 k4 m1
      obtain ⟨sl, hsl⟩ : ∃ n, (stepL cur).length = n := ⟨_, rfl⟩
      obtain ⟨cl, hcl⟩ : ∃ n, cur.length = n := ⟨_, rfl⟩
      simp only [hsl, hcl] at HR HE HS SH T ⊢
      generalize (trimL cur).length = tl at PH
      have HSL : Hid ((stepL cur).length = sl) := hsl
      clear hsl hcl
      go_wp2_with fail
      refine T.mono ?_
      rintro e w2 ⟨⟨v2, rfl, r2⟩, m2, g2⟩
      obtain ⟨a2, c2, rfl, P⟩ := PH.out _ _ r2 m2
      have H2 : Hid (Below w.heap.size w w2) := HR.out.2.2.1.grown g2 HR.out.2.2.1.size (by rintro k e; cases e; exact HR.out.2.2.2.1)
      clear r2 m2 g2
      go_wp2_with fail
      refine P.mono ?_
      rintro e w3 ⟨⟨v3, rfl, r3⟩, m3, g3⟩
      obtain ⟨a3, c3, rfl, z3, t3⟩ := SH.out _ _ _ r3
      have H3 : Hid (RRow w.heap.size w3 (.slice a3 sl c3) (stepL cur) ∧ (∃ n' g', HMap w3 b n' g') ∧ Below w.heap.size w w3 ∧ (a3 = none → c3 = 0) ∧ RtsAt w3 a3 (stepL cur)) := ⟨r3.mono H2.out.size, m3, H2.out.grown g3 H2.out.size (by rintro k e; cases e; exact HR.out.2.2.2.1), z3, t3⟩
      clear r3 m3 g3 z3 t3 T P H2
      have hle := HR.out.2.2.2.2
      by_cases he : sl = cl
      · subst he
        have HQ : Hid (RRow w.heap.size w3 (.slice a3 sl c3) (compL l)) := by
          show RRow _ _ _ _
          rw [← HE.out rfl]
          exact H3.out.1
        go_wp2
        go_ret
        exact ⟨⟨_, rfl, HQ.out⟩, H3.out.2.2.1⟩
      · have hlt : sl < cl := by omega
        have HN : Hid (CompAt w l b (.slice a3 sl c3) w3) := ⟨⟨a3, c3, stepL cur, by rw [HSL.out], (HS.out hlt).1, (HS.out hlt).2, H3.out.2.2.2.1, H3.out.2.2.2.2⟩, H3.out.2.1, H3.out.2.2.1, HR.out.2.2.2.1⟩
        go_wp2
        go_roundw
        case rel => exact HN
        case measure => exact hlt
end Go.Proofs.Ytilnjmpnhadidaa
