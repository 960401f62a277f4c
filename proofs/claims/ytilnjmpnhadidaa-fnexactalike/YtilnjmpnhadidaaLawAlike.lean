/-
  The walk of the exact law of Alike. By the verifier.
-/
import Derived.Test.YtilnjmpnhadidaaRtCopy
import Derived.Test.YtilnjmpnhadidaaCpAlikeS
namespace Go.Proofs.Ytilnjmpnhadidaa
open Go.RowKit

theorem szListsOf (L : Int) (h0 : 0 ≤ L) (h1 : L ≤ 1048576) (a : Option Addr) (cap len : Nat) (w : World) (hl : (len : Int) ≤ 9223372036854775807) :
    Calls Try.prog 24 #[.slice a len cap, .int .i64 L] w fun e w' => e = .returned (.int .i64 (if L - len < 0 then -1 else L - len)) ∧ w' = w := by
  by_cases h : L - len < 0
  · rw [if_pos h]
    go_enter Try.func24, Try.ntmps24
    go_wp2
    go_ret
    exact ⟨rfl, rfl⟩
  · rw [if_neg h]
    go_enter Try.func24, Try.ntmps24
    go_wp2
    go_ret
    exact ⟨rfl, rfl⟩

set_option maxHeartbeats 3200000 in
set_option maxRecDepth 100000 in
theorem fnExactAlike_walk (la : List Rt) (a : Option Addr) (ca : Nat) (lb : List Rt) (b : Option Addr) (cb : Nat) (w : World) (hla : (la.length : Int) ≤ 9223372036854775807) (ha : Hid (RtsAt w a la)) (hlb : (lb.length : Int) ≤ 9223372036854775807) (hb : Hid (RtsAt w b lb)) :
    Calls Try.prog 7 #[.slice a la.length ca, .slice b lb.length cb] w fun e w' => e = .returned (.bool true) ∧ Below w.heap.size w w' := by
  have S := fun w => szLists a ca la.length w hla
  by_cases hbig : (1048576 : Int) - la.length < 0
  · rw [if_pos hbig] at S
    generalize la.length = len at S hla hbig ⊢
    generalize lb.length = lenb at hlb ⊢
    clear ha hb
    go_enter Try.func7, Try.ntmps7
    go_wp2_with (go_at_call 24; refine (S _).mono ?_; rintro e w' ⟨rfl, rfl⟩)
    go_ret
    exact ⟨rfl, Below.refl _ _⟩
  rw [if_neg hbig] at S
  have hTa : la.length ≤ 1048576 := by omega
  have S2 := fun w => szListsOf (1048576 - la.length) (by omega) (by omega) b cb lb.length w hlb
  by_cases hbig2 : (1048576 : Int) - la.length - lb.length < 0
  · rw [if_pos hbig2] at S2
    generalize la.length = len at S S2 hla hbig hbig2 hTa ⊢
    generalize lb.length = lenb at S2 hlb hbig2 ⊢
    clear ha hb
    go_enter Try.func7, Try.ntmps7
    go_wp2_with fail
    refine (S _).mono ?_
    rintro e w' ⟨rfl, hw⟩
    have hw := hw.symm
    subst hw
    go_wp2_with fail
    refine (S2 _).mono ?_
    rintro e w' ⟨rfl, hw⟩
    have hw := hw.symm
    subst hw
    go_wp2_with fail
    go_ret
    exact ⟨rfl, Below.refl _ _⟩
  rw [if_neg hbig2] at S2
  have hTb : lb.length ≤ 1048576 := by omega
  have Ta := fun w h => toLists a ca la w hTa h
  have Tb := fun w h => toLists b cb lb w hTb h
  have C := fun g1 g2 w h1 h2 => specAlike (some ⟨g1, 0, none⟩) (some ⟨g2, 0, none⟩) la.length lb.length la lb w hTa hTb (by simp) (by simp) h1 h2
  have D := fun g1 g2 w h1 h2 => implAlike (some ⟨g1, 0, none⟩) (some ⟨g2, 0, none⟩) la.length lb.length la lb w hTa hTb (Nat.le_refl _) (Nat.le_refl _) (by simp) (by simp) h1 h2
  have Ea := fun g1 g2 w h1 h2 => eqLists (some ⟨g1, 0, none⟩) (some ⟨g2, 0, none⟩) la.length la.length la w hTa h1 h2
  have Eb := fun g1 g2 w h1 h2 => eqLists (some ⟨g1, 0, none⟩) (some ⟨g2, 0, none⟩) lb.length lb.length lb w hTb h1 h2
  generalize alikeV la lb = ok at C D
  have Ta' : Hid _ := Ta
  have Tb' : Hid _ := Tb
  have C' : Hid _ := C
  have D' : Hid _ := D
  have Ea' : Hid _ := Ea
  have Eb' : Hid _ := Eb
  clear Ta Tb C D Ea Eb
  have ata : Hid (∀ (b : Nat) (W : World) (g : Nat), RRow b W (.slice (some ⟨g, 0, none⟩) la.length la.length) la → RtsAt W (some ⟨g, 0, none⟩) la) := fun b W g h => h.at
  have atb : Hid (∀ (b : Nat) (W : World) (g : Nat), RRow b W (.slice (some ⟨g, 0, none⟩) lb.length lb.length) lb → RtsAt W (some ⟨g, 0, none⟩) lb) := fun b W g h => h.at
  obtain ⟨na, hna⟩ : ∃ n, la.length = n := ⟨_, rfl⟩
  obtain ⟨nb, hnb⟩ : ∃ n, lb.length = n := ⟨_, rfl⟩
  simp only [hna] at S S2 Ta' C' D' Ea' ata hla hbig hbig2 ⊢
  simp only [hnb] at S2 Tb' C' D' Eb' atb hlb hbig2 ⊢
  clear hna hnb hTa hTb
  go_enter Try.func7, Try.ntmps7
  go_wp2_with fail
  refine (S _).mono ?_
  rintro e w' ⟨rfl, hw⟩
  have hw := hw.symm
  subst hw
  go_wp2_with fail
  refine (S2 _).mono ?_
  rintro e w' ⟨rfl, hw⟩
  have hw := hw.symm
  subst hw
  go_wp2_with fail
  refine (Ta'.out _ ha.out).mono ?_
  rintro e w0 ⟨g0, rfl, r0, b0⟩
  have H0 : Hid (RtsAt w0 (some ⟨g0, 0, none⟩) la ∧ Below w.heap.size w w0) := ⟨ata.out _ _ _ r0, b0⟩
  clear r0 b0
  go_wp2_with fail
  refine (Tb'.out _ (hb.out.below H0.out.2)).mono ?_
  rintro e w1 ⟨g1, rfl, r1, b1⟩
  have H1 : Hid (RtsAt w1 (some ⟨g0, 0, none⟩) la ∧ RtsAt w1 (some ⟨g1, 0, none⟩) lb ∧ Below w.heap.size w w1) := ⟨H0.out.1.below b1, atb.out _ _ _ r1, H0.out.2.trans (b1.mono H0.out.2.size)⟩
  clear r1 b1 H0
  go_wp2_with fail
  refine (C'.out _ _ _ H1.out.1 H1.out.2.1).mono ?_
  rintro e w2 ⟨rfl, b2⟩
  have H2 : Hid (Below w.heap.size w w2) := H1.out.2.2.trans (b2.mono H1.out.2.2.size)
  clear b2 H1
  go_wp2_with fail
  refine (Ta'.out _ (ha.out.below H2.out)).mono ?_
  rintro e w3 ⟨g3, rfl, r3, b3⟩
  have H3 : Hid (RtsAt w3 (some ⟨g3, 0, none⟩) la ∧ Below w.heap.size w w3) := ⟨ata.out _ _ _ r3, H2.out.trans (b3.mono H2.out.size)⟩
  clear r3 b3 H2
  go_wp2_with fail
  refine (Tb'.out _ (hb.out.below H3.out.2)).mono ?_
  rintro e w4 ⟨g4, rfl, r4, b4⟩
  have H4 : Hid (RtsAt w4 (some ⟨g3, 0, none⟩) la ∧ RtsAt w4 (some ⟨g4, 0, none⟩) lb ∧ Below w.heap.size w w4) := ⟨H3.out.1.below b4, atb.out _ _ _ r4, H3.out.2.trans (b4.mono H3.out.2.size)⟩
  clear r4 b4 H3
  go_wp2_with fail
  refine (D'.out _ _ _ H4.out.1 H4.out.2.1).mono ?_
  rintro e w5 ⟨rfl, b5⟩
  have H5 : Hid (RtsAt w5 (some ⟨g3, 0, none⟩) la ∧ RtsAt w5 (some ⟨g4, 0, none⟩) lb ∧ Below w.heap.size w w5) := ⟨H4.out.1.below b5, H4.out.2.1.below b5, H4.out.2.2.trans (b5.mono H4.out.2.2.size)⟩
  clear b5 H4
  go_wp2_with fail
  refine (Ta'.out _ (ha.out.below H5.out.2.2)).mono ?_
  rintro e w6 ⟨g6, rfl, r6, b6⟩
  have H6 : Hid (RtsAt w6 (some ⟨g3, 0, none⟩) la ∧ RtsAt w6 (some ⟨g6, 0, none⟩) la ∧ RtsAt w6 (some ⟨g4, 0, none⟩) lb ∧ Below w.heap.size w w6) := ⟨H5.out.1.below b6, ata.out _ _ _ r6, H5.out.2.1.below b6, H5.out.2.2.trans (b6.mono H5.out.2.2.size)⟩
  clear r6 b6 H5
  go_wp2_with fail
  refine (Ea'.out _ _ _ H6.out.1 H6.out.2.1).mono ?_
  rintro e w7 ⟨rfl, b7⟩
  have H7 : Hid (RtsAt w7 (some ⟨g4, 0, none⟩) lb ∧ Below w.heap.size w w7) := ⟨H6.out.2.2.1.below b7, H6.out.2.2.2.trans (b7.mono H6.out.2.2.2.size)⟩
  clear b7 H6
  go_wp2_with fail
  refine (Tb'.out _ (hb.out.below H7.out.2)).mono ?_
  rintro e w8 ⟨g8, rfl, r8, b8⟩
  have H8 : Hid (RtsAt w8 (some ⟨g4, 0, none⟩) lb ∧ RtsAt w8 (some ⟨g8, 0, none⟩) lb ∧ Below w.heap.size w w8) := ⟨H7.out.1.below b8, atb.out _ _ _ r8, H7.out.2.trans (b8.mono H7.out.2.size)⟩
  clear r8 b8 H7
  go_wp2_with fail
  refine (Eb'.out _ _ _ H8.out.1 H8.out.2.1).mono ?_
  rintro e w9 ⟨rfl, b9⟩
  have H9 : Hid (Below w.heap.size w w9) := H8.out.2.2.trans (b9.mono H8.out.2.2.size)
  clear b9 H8
  go_wp2
  go_ret
  exact ⟨rfl, H9.out⟩
end Go.Proofs.Ytilnjmpnhadidaa
