/-
  The walk of the exact law of Idle. By the verifier.
-/
import Derived.Test.YtcafobokdfglfaaRuMark
import Derived.Test.YtcafobokdfglfaaRuCopy
import Derived.Test.YtcafobokdfglfaaIntMark
import Derived.Test.YtcafobokdfglfaaFrEq
import Derived.Test.YtcafobokdfglfaaRuIdlI
namespace Go.Proofs.Ytcafobokdfglfaa
open Go.RowKit

set_option maxHeartbeats 6400000 in
set_option maxRecDepth 100000 in
theorem fnExactIdle_walk (l : List Ru) (a : Option Addr) (cap : Nat) (w : World) (hl : (l.length : Int) ≤ 9223372036854775807) (h : Hid (RusAt w a l)) :
    Calls Try.prog 8 #[.slice a l.length cap] w fun e w' => e = .returned (.bool true) ∧ Below w.heap.size w w' := by
  have S := fun w => szRus 1048576 (by omega) (by omega) a cap l.length w hl
  by_cases hbig : (1048576 : Int) - l.length < 0
  · rw [if_pos hbig] at S
    generalize l.length = len at S hl hbig ⊢
    clear h
    go_enter Try.func8, Try.ntmps8
    go_wp2_with (go_at_call 9; refine (S _).mono ?_; rintro e w' ⟨rfl, rfl⟩)
    go_ret
    exact ⟨rfl, Below.refl _ _⟩
  rw [if_neg hbig] at S
  have hT : l.length ≤ 1048576 := by omega
  have T := fun w h => toRus a cap l w hT h
  have C : ∀ g w, RusAt w (some ⟨g, 0, none⟩) l → Calls Try.prog 30 #[.slice (some ⟨g, 0, none⟩) l.length l.length] w fun e w' => (∃ v, e = .returned v ∧ IRow w.heap.size w' v (idleV l)) ∧ Below w.heap.size w w' := fun g w h => specIdle (some ⟨g, 0, none⟩) l.length l w hT h
  have D : ∀ g w, RusAt w (some ⟨g, 0, none⟩) l → Calls Try.prog 31 #[.slice (some ⟨g, 0, none⟩) l.length l.length] w fun e w' => (∃ v, e = .returned v ∧ IRow w.heap.size w' v (idleV l)) ∧ Below w.heap.size w w' := fun g w h => implIdle (some ⟨g, 0, none⟩) l.length l w hT h
  have hX : (idleV l).length ≤ 1048576 := by have h1 := idleK_len l l.length; unfold idleV; split; omega; simp
  generalize idleV l = X at C D hX
  have E : Hid (∀ a1 a2 c1 c2 w, IntsAt w a1 X → IntsAt w a2 X → Calls Try.prog 24 #[.slice a1 X.length c1, .slice a2 X.length c2] w fun e w' => e = .returned (.bool true) ∧ Below w.heap.size w w') := fun a1 a2 c1 c2 w h1 h2 => eqInts a1 a2 c1 c2 X w hX h1 h2
  have E2 : Hid (∀ g1 g2 w, RusAt w (some ⟨g1, 0, none⟩) l → RusAt w (some ⟨g2, 0, none⟩) l → Calls Try.prog 13 #[.slice (some ⟨g1, 0, none⟩) l.length l.length, .slice (some ⟨g2, 0, none⟩) l.length l.length] w fun e w' => e = .returned (.bool true) ∧ Below w.heap.size w w') := fun g1 g2 w h1 h2 => eqRus (some ⟨g1, 0, none⟩) (some ⟨g2, 0, none⟩) l.length l.length l w hT h1 h2
  have M1 : Hid (∀ base g w, RuRow base w (.slice (some ⟨g, 0, none⟩) l.length l.length) l → Calls Try.prog 25 #[.slice (some ⟨g, 0, none⟩) l.length l.length, .int .i64 1] w fun e w' => e = .returned (.int .i64 (1 + 10 * (l.length : Int))) ∧ Below base w w' ∧ Oth (.slice (some ⟨g, 0, none⟩) l.length l.length) w w') := fun base g w hr => (markRus base (some ⟨g, 0, none⟩) l.length l hT w hr).mono fun _ _ hh => ⟨hh.1, hh.2.2.1, hh.2.2.2⟩
  have M2 : Hid (∀ base a1 c1 w, IRow base w (.slice a1 X.length c1) X → Calls Try.prog 26 #[.slice a1 X.length c1, .int .i64 1] w fun e w' => e = .returned (.int .i64 (1 + (X.length : Int))) ∧ IRow base w' (.slice a1 X.length c1) (mks 1 X X.length) ∧ Below base w w' ∧ Oth (.slice a1 X.length c1) w w') := fun base a1 c1 w hr => markInts base a1 c1 X hX w hr
  have Hd : Hid (∀ a1 c1 w, IntsAt w a1 (mks 1 X X.length) → Calls Try.prog 27 #[.slice a1 X.length c1, .int .i64 1] w fun e w' => e = .returned (.int .i64 (1 + (X.length : Int))) ∧ w' = w) := fun a1 c1 w hr => heldInts a1 c1 X hX w hr
  have hXm : (mks 1 X X.length).length = X.length := mks_length 1 X _ (Nat.le_refl _)
  have Rsh : Hid (∀ base w v, IRow base w v X → ∃ a1 c1, v = .slice a1 X.length c1) := fun base w v hr => hr.shape
  have Rat : Hid (∀ base w a1 c1, IRow base w (.slice a1 X.length c1) X → IntsAt w a1 X) := fun base w a1 c1 hr => hr.ints
  have Rat3 : Hid (∀ base w a1 c1, IRow base w (.slice a1 X.length c1) (mks 1 X X.length) → IntsAt w a1 (mks 1 X X.length)) := by
    show ∀ base w a1 c1, _ → _
    intro base w a1 c1 hr
    rw [← hXm] at hr
    exact IRow.ints (T := mks 1 X X.length) (by rw [hXm] at hr ⊢; exact hr)
  have Rat2 : Hid (∀ base w g, RuRow base w (.slice (some ⟨g, 0, none⟩) l.length l.length) l → RusAt w (some ⟨g, 0, none⟩) l) := fun base w g hr => hr.at
  have T' : Hid (∀ w, RusAt w a l → Calls Try.prog 11 #[.slice a l.length cap] w fun e w' => ∃ g, e = .returned (.slice (some ⟨g, 0, none⟩) l.length l.length) ∧ RuRow w.heap.size w' (.slice (some ⟨g, 0, none⟩) l.length l.length) l ∧ Below w.heap.size w w') := T
  have C' : Hid _ := C
  have D' : Hid _ := D
  clear T C D hXm
  obtain ⟨len, hlen⟩ : ∃ n, l.length = n := ⟨_, rfl⟩
  obtain ⟨xl, hxl⟩ : ∃ n, X.length = n := ⟨_, rfl⟩
  simp only [hlen] at S T' C' D' E2 M1 Rat2 hl hbig ⊢
  simp only [hxl] at E M2 Hd Rsh Rat Rat3 hX
  have hx0 : (0 : Int) ≤ 1 + (xl : Int) := by omega
  have hx1 : ¬ (1 + (xl : Int)) < 0 := by omega
  have hl1 : ¬ (1 + 10 * (len : Int)) < 0 := by omega
  clear hlen hxl hT
  go_enter Try.func8, Try.ntmps8
  go_wp2_with (go_at_call 9; refine (S _).mono ?_; rintro e w' ⟨rfl, hw⟩; have hw := hw.symm; subst hw)
  refine (T'.out _ h.out).mono ?_
  rintro e w1 ⟨g1, rfl, r1, b1⟩
  have H1 : Hid (RusAt w1 (some ⟨g1, 0, none⟩) l ∧ Below w.heap.size w w1) := ⟨Rat2.out _ _ _ r1, b1⟩
  clear r1 b1
  go_wp2_with fail
  refine (C'.out _ _ H1.out.1).mono ?_
  rintro e w2 ⟨⟨v8, rfl, r2⟩, b2⟩
  obtain ⟨a8, c8, rfl⟩ := Rsh.out _ _ _ r2
  have H2 : Hid (IRow w1.heap.size w2 (.slice a8 xl c8) X ∧ Below w.heap.size w w2) := ⟨r2, H1.out.2.trans (b2.mono H1.out.2.size)⟩
  have Hw2 : Hid (w.heap.size ≤ w2.heap.size) := H2.out.2.size
  clear r2 b2 H1
  go_wp2_with fail
  refine (T'.out _ (h.out.below H2.out.2)).mono ?_
  rintro e w3 ⟨g3, rfl, r3, b3⟩
  have H3 : Hid (IRow w1.heap.size w3 (.slice a8 xl c8) X ∧ Below w.heap.size w w3 ∧ RuRow w2.heap.size w3 (.slice (some ⟨g3, 0, none⟩) len len) l ∧ w2.heap.size ≤ w3.heap.size ∧ (∀ k, (Value.slice a8 xl c8).ownBlock = some k → k < w2.heap.size)) :=
    ⟨H2.out.1.below (fun k hk => (H2.out.1.lt k hk).2) b3, H2.out.2.trans (b3.mono H2.out.2.size), r3, b3.size, fun k hk => (H2.out.1.lt k hk).2⟩
  clear r3 b3 H2
  go_wp2_with fail
  refine (D'.out _ _ (Rat2.out _ _ _ H3.out.2.2.1)).mono ?_
  rintro e w4 ⟨⟨v11, rfl, r4⟩, b4⟩
  obtain ⟨a11, c11, rfl⟩ := Rsh.out _ _ _ r4
  have H4 : Hid (IRow w1.heap.size w4 (.slice a8 xl c8) X ∧ Below w.heap.size w w4 ∧ RuRow w2.heap.size w4 (.slice (some ⟨g3, 0, none⟩) len len) l ∧ IRow w3.heap.size w4 (.slice a11 xl c11) X ∧ w2.heap.size ≤ w3.heap.size ∧ (∀ k, (Value.slice a8 xl c8).ownBlock = some k → k < w2.heap.size) ∧ g3 < w3.heap.size ∧ w3.heap.size ≤ w4.heap.size) :=
    ⟨H3.out.1.below (fun k hk => (H3.out.1.lt k hk).2) b4, H3.out.2.1.trans (b4.mono H3.out.2.1.size), H3.out.2.2.1.below (fun k hk => (H3.out.2.2.1.lt k hk).2) b4, r4, H3.out.2.2.2.1, H3.out.2.2.2.2, (H3.out.2.2.1.lt g3 rfl).2, b4.size⟩
  clear r4 b4 H3
  go_wp2_with fail
  refine (E.out _ _ _ _ _ (Rat.out _ _ _ _ H4.out.2.2.2.1) (Rat.out _ _ _ _ H4.out.1)).mono ?_
  rintro e w5 ⟨rfl, b5⟩
  have H5 : Hid (IRow w1.heap.size w5 (.slice a8 xl c8) X ∧ Below w.heap.size w w5 ∧ RuRow w2.heap.size w5 (.slice (some ⟨g3, 0, none⟩) len len) l ∧ IRow w3.heap.size w5 (.slice a11 xl c11) X ∧ w2.heap.size ≤ w3.heap.size ∧ (∀ k, (Value.slice a8 xl c8).ownBlock = some k → k < w2.heap.size) ∧ g3 < w3.heap.size ∧ w3.heap.size ≤ w5.heap.size) :=
    ⟨H4.out.1.below (fun k hk => (H4.out.1.lt k hk).2) b5, H4.out.2.1.trans (b5.mono H4.out.2.1.size), H4.out.2.2.1.below (fun k hk => (H4.out.2.2.1.lt k hk).2) b5, H4.out.2.2.2.1.below (fun k hk => (H4.out.2.2.2.1.lt k hk).2) b5, H4.out.2.2.2.2.1, H4.out.2.2.2.2.2.1, H4.out.2.2.2.2.2.2.1, Nat.le_trans H4.out.2.2.2.2.2.2.2 b5.size⟩
  clear b5 H4
  go_wp2_with fail
  refine (T'.out _ (h.out.below H5.out.2.1)).mono ?_
  rintro e w6 ⟨g6, rfl, r6, b6⟩
  have H6 : Hid (IRow w1.heap.size w6 (.slice a8 xl c8) X ∧ Below w.heap.size w w6 ∧ RuRow w2.heap.size w6 (.slice (some ⟨g3, 0, none⟩) len len) l ∧ IRow w3.heap.size w6 (.slice a11 xl c11) X ∧ w2.heap.size ≤ w3.heap.size ∧ (∀ k, (Value.slice a8 xl c8).ownBlock = some k → k < w2.heap.size) ∧ g3 < w3.heap.size ∧ RusAt w6 (some ⟨g6, 0, none⟩) l ∧ w3.heap.size ≤ w6.heap.size) :=
    ⟨H5.out.1.below (fun k hk => (H5.out.1.lt k hk).2) b6, H5.out.2.1.trans (b6.mono H5.out.2.1.size), H5.out.2.2.1.below (fun k hk => (H5.out.2.2.1.lt k hk).2) b6, H5.out.2.2.2.1.below (fun k hk => (H5.out.2.2.2.1.lt k hk).2) b6, H5.out.2.2.2.2.1, H5.out.2.2.2.2.2.1, H5.out.2.2.2.2.2.2.1, Rat2.out _ _ _ r6, Nat.le_trans H5.out.2.2.2.2.2.2.2 b6.size⟩
  clear r6 b6 H5
  go_wp2_with fail
  refine (E2.out _ _ _ (Rat2.out _ _ _ H6.out.2.2.1) H6.out.2.2.2.2.2.2.2.1).mono ?_
  rintro e w7 ⟨rfl, b7⟩
  have H7 : Hid (IRow w1.heap.size w7 (.slice a8 xl c8) X ∧ Below w.heap.size w w7 ∧ RuRow w2.heap.size w7 (.slice (some ⟨g3, 0, none⟩) len len) l ∧ IRow w3.heap.size w7 (.slice a11 xl c11) X ∧ w2.heap.size ≤ w3.heap.size ∧ (∀ k, (Value.slice a8 xl c8).ownBlock = some k → k < w2.heap.size) ∧ g3 < w3.heap.size ∧ w3.heap.size ≤ w7.heap.size ∧ w.heap.size ≤ w2.heap.size) :=
    ⟨H6.out.1.below (fun k hk => (H6.out.1.lt k hk).2) b7, H6.out.2.1.trans (b7.mono H6.out.2.1.size), H6.out.2.2.1.below (fun k hk => (H6.out.2.2.1.lt k hk).2) b7, H6.out.2.2.2.1.below (fun k hk => (H6.out.2.2.2.1.lt k hk).2) b7, H6.out.2.2.2.2.1, H6.out.2.2.2.2.2.1, H6.out.2.2.2.2.2.2.1, Nat.le_trans H6.out.2.2.2.2.2.2.2.2 b7.size, Hw2.out⟩
  clear b7 H6
  go_wp2_with fail
  refine (M1.out _ _ _ H7.out.2.2.1).mono ?_
  rintro e w8 ⟨rfl, b8, o8⟩
  have H8 : Hid (IRow w1.heap.size w8 (.slice a8 xl c8) X ∧ Below w.heap.size w w8 ∧ IRow w3.heap.size w8 (.slice a11 xl c11) X ∧ (∀ k, (Value.slice a8 xl c8).ownBlock = some k → k < w3.heap.size) ∧ w.heap.size ≤ w3.heap.size ∧ w3.heap.size ≤ w8.heap.size) := by
    have q1 : IRow w3.heap.size w8 (.slice a11 xl c11) X := H7.out.2.2.2.1.carry fun k hk hlt => o8.block k (fun e => by
      have e1 : g3 = k := by simpa [Value.ownBlock] using e
      have e2 := hk
      have e3 := H7.out.2.2.2.2.2.2.1
      omega) hlt
    refine ⟨H7.out.1.below H7.out.2.2.2.2.2.1 b8, H7.out.2.1.trans (b8.mono H7.out.2.2.2.2.2.2.2.2), q1, fun k hk => Nat.lt_of_lt_of_le (H7.out.2.2.2.2.2.1 k hk) H7.out.2.2.2.2.1, Nat.le_trans H7.out.2.2.2.2.2.2.2.2 H7.out.2.2.2.2.1, Nat.le_trans H7.out.2.2.2.2.2.2.2.1 b8.size⟩
  clear b8 o8 H7
  go_wp2_with fail
  refine (E.out _ _ _ _ _ (Rat.out _ _ _ _ H8.out.2.2.1) (Rat.out _ _ _ _ H8.out.1)).mono ?_
  rintro e w9 ⟨rfl, b9⟩
  have H9 : Hid (IRow w1.heap.size w9 (.slice a8 xl c8) X ∧ Below w.heap.size w w9 ∧ IRow w3.heap.size w9 (.slice a11 xl c11) X ∧ (∀ k, (Value.slice a8 xl c8).ownBlock = some k → k < w3.heap.size) ∧ w.heap.size ≤ w3.heap.size ∧ w3.heap.size ≤ w9.heap.size) :=
    ⟨H8.out.1.below (fun k hk => (H8.out.1.lt k hk).2) b9, H8.out.2.1.trans (b9.mono H8.out.2.1.size), H8.out.2.2.1.below (fun k hk => (H8.out.2.2.1.lt k hk).2) b9, H8.out.2.2.2.1, H8.out.2.2.2.2.1, Nat.le_trans H8.out.2.2.2.2.2 b9.size⟩
  clear b9 H8
  go_wp2_with fail
  refine (M2.out _ _ _ _ H9.out.2.2.1).mono ?_
  rintro e wA ⟨rfl, rA, bA, oA⟩
  have HA : Hid (IRow w1.heap.size wA (.slice a8 xl c8) X ∧ Below w.heap.size w wA ∧ IRow w3.heap.size wA (.slice a11 xl c11) (mks 1 X xl)) := ⟨H9.out.1.below H9.out.2.2.2.1 bA, H9.out.2.1.trans (bA.mono H9.out.2.2.2.2.1), rA⟩
  clear rA bA oA H9
  go_wp2_with fail
  refine (Hd.out _ _ _ (Rat3.out _ _ _ _ HA.out.2.2)).mono ?_
  rintro e wB ⟨rfl, hwB⟩
  have hwB' := hwB.symm
  subst hwB'
  clear hwB
  go_wp2_with fail
  refine (T'.out _ (h.out.below HA.out.2.1)).mono ?_
  rintro e wC ⟨gC, rfl, rC, bC⟩
  have HC : Hid (IRow w1.heap.size wC (.slice a8 xl c8) X ∧ Below w.heap.size w wC ∧ IRow w3.heap.size wC (.slice a11 xl c11) (mks 1 X xl) ∧ RusAt wC (some ⟨gC, 0, none⟩) l) :=
    ⟨HA.out.1.below (fun k hk => (HA.out.1.lt k hk).2) bC, HA.out.2.1.trans (bC.mono HA.out.2.1.size), HA.out.2.2.below (fun k hk => (HA.out.2.2.lt k hk).2) bC, Rat2.out _ _ _ rC⟩
  clear rC bC HA
  go_wp2_with fail
  refine (D'.out _ _ HC.out.2.2.2).mono ?_
  rintro e wD ⟨⟨v16, rfl, rD⟩, bD⟩
  obtain ⟨a16, c16, rfl⟩ := Rsh.out _ _ _ rD
  have HD : Hid (IRow w1.heap.size wD (.slice a8 xl c8) X ∧ Below w.heap.size w wD ∧ IRow w3.heap.size wD (.slice a11 xl c11) (mks 1 X xl) ∧ IntsAt wD a16 X) :=
    ⟨HC.out.1.below (fun k hk => (HC.out.1.lt k hk).2) bD, HC.out.2.1.trans (bD.mono HC.out.2.1.size), HC.out.2.2.1.below (fun k hk => (HC.out.2.2.1.lt k hk).2) bD, Rat.out _ _ _ _ rD⟩
  clear rD bD HC
  go_wp2_with fail
  refine (E.out _ _ _ _ _ HD.out.2.2.2 (Rat.out _ _ _ _ HD.out.1)).mono ?_
  rintro e wE ⟨rfl, bE⟩
  have HE : Hid (Below w.heap.size w wE ∧ IntsAt wE a11 (mks 1 X xl)) := ⟨HD.out.2.1.trans (bE.mono HD.out.2.1.size), (Rat3.out _ _ _ _ HD.out.2.2.1).below bE⟩
  clear bE HD
  go_wp2_with fail
  refine (Hd.out _ _ _ HE.out.2).mono ?_
  rintro e wF ⟨rfl, hwF⟩
  have hwF' := hwF.symm
  subst hwF'
  clear hwF
  go_wp2
  go_ret
  exact ⟨rfl, HE.out.1⟩
end Go.Proofs.Ytcafobokdfglfaa
