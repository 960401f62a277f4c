/-
  The walk of the exact law of HeapTake, the program's contract given. By the verifier.
-/
import Derived.Test.YtgimalimfmoilaaM0HtVar
import Derived.Test.YtgimalimfmoilaaM2DuCopy
import Derived.Test.YtgimalimfmoilaaDuTkS
import Derived.Deep.DeepCutAuto
import Derived.Deep.RegionLaw
namespace Go.Proofs.Ytgimalimfmoilaa
open Go.RowKit

set_option maxHeartbeats 6400000 in
set_option maxRecDepth 100000 in
theorem fnExactHeapTake_of (impl' : ∀ (l : List Du) (a : Option Addr) (cap : Nat) (w : World), l.length ≤ 1048576 → l.length ≤ cap → (a = none → cap = 0) → Hid (DusAt w a l) → Calls Try.prog 20 #[.slice a l.length cap] w fun e w' => (∃ v, e = .returned (.tuple #[v, (takeD l).val, .bool (mayTake l)]) ∧ DuRow w.heap.size w' v (takeH l)) ∧ Below w.heap.size w w')
    (l : List Du) (a : Option Addr) (cap : Nat) (w : World) (hl : (l.length : Int) ≤ 9223372036854775807) (h : Hid (DusAt w a l)) :
    Calls Try.prog 5 #[.slice a l.length cap] w fun e w' => e = .returned (.bool true) ∧ Below w.heap.size w w' := by
  have S := fun w => szDus 1048576 (by omega) (by omega) a cap l.length w hl
  by_cases hbig : (1048576 : Int) - l.length < 0
  · rw [if_pos hbig] at S
    generalize l.length = len at S hl hbig ⊢
    clear h
    go_enter Try.func5, Try.ntmps5
    go_wp2_with (go_at_call 9; refine (S _).mono ?_; rintro e w' ⟨rfl, rfl⟩)
    go_ret
    exact ⟨rfl, Below.refl _ _⟩
  rw [if_neg hbig] at S
  have hT : l.length ≤ 1048576 := by omega
  have T := fun w h => toDus a cap l w hT h
  have C : ∀ g w, DusAt w (some ⟨g, 0, none⟩) l → Calls Try.prog 19 #[.slice (some ⟨g, 0, none⟩) l.length l.length] w fun e w' => (∃ v, e = .returned (.tuple #[v, (takeD l).val, .bool (mayTake l)]) ∧ DuRow w.heap.size w' v (takeH l)) ∧ Below w.heap.size w w' := fun g w h => specHeapTake (some ⟨g, 0, none⟩) l.length l w hT (Nat.le_refl _) h
  have D : ∀ g w, DusAt w (some ⟨g, 0, none⟩) l → Calls Try.prog 20 #[.slice (some ⟨g, 0, none⟩) l.length l.length] w fun e w' => (∃ v, e = .returned (.tuple #[v, (takeD l).val, .bool (mayTake l)]) ∧ DuRow w.heap.size w' v (takeH l)) ∧ Below w.heap.size w w' := fun g w h => impl' l (some ⟨g, 0, none⟩) l.length w hT (Nat.le_refl _) (fun q => by cases q) h
  have hX : (takeH l).length ≤ 1048576 := by
    unfold takeH
    split
    · rename_i hk
      have := (htake_hok hk).2.2.2.1
      omega
    · simp
  generalize mayTake l = tb at C D
  generalize takeD l = d at C D
  generalize takeH l = X at C D hX
  have ED := fun w => eqDu d w
  unfold Du.val at C D ED
  have E : Hid (∀ a1 a2 c1 c2 w, DusAt w a1 X → DusAt w a2 X → Calls Try.prog 13 #[.slice a1 X.length c1, .slice a2 X.length c2] w fun e w' => e = .returned (.bool true) ∧ Below w.heap.size w w') := fun a1 a2 c1 c2 w h1 h2 => eqDus a1 a2 c1 c2 X w hX h1 h2
  have E2 : Hid (∀ g1 g2 w, DusAt w (some ⟨g1, 0, none⟩) l → DusAt w (some ⟨g2, 0, none⟩) l → Calls Try.prog 13 #[.slice (some ⟨g1, 0, none⟩) l.length l.length, .slice (some ⟨g2, 0, none⟩) l.length l.length] w fun e w' => e = .returned (.bool true) ∧ Below w.heap.size w w') := fun g1 g2 w h1 h2 => eqDus (some ⟨g1, 0, none⟩) (some ⟨g2, 0, none⟩) l.length l.length l w hT h1 h2
  have M1 : Hid (∀ base g w, DuRow base w (.slice (some ⟨g, 0, none⟩) l.length l.length) l → Calls Try.prog 17 #[.slice (some ⟨g, 0, none⟩) l.length l.length, .int .i64 1] w fun e w' => e = .returned (.int .i64 (1 + 2 * (l.length : Int))) ∧ Below base w w' ∧ Oth (.slice (some ⟨g, 0, none⟩) l.length l.length) w w') := fun base g w hr => (markDus base (some ⟨g, 0, none⟩) l.length l hT w hr).mono fun _ _ hh => ⟨hh.1, hh.2.2.1, hh.2.2.2⟩
  have M2 : Hid (∀ base a1 c1 w, DuRow base w (.slice a1 X.length c1) X → Calls Try.prog 17 #[.slice a1 X.length c1, .int .i64 1] w fun e w' => e = .returned (.int .i64 (1 + 2 * (X.length : Int))) ∧ DuRow base w' (.slice a1 X.length c1) (duMks X X.length) ∧ Below base w w' ∧ Oth (.slice a1 X.length c1) w w') := fun base a1 c1 w hr => markDus base a1 c1 X hX w hr
  have Hd : Hid (∀ a1 c1 w, DusAt w a1 (duMks X X.length) → Calls Try.prog 18 #[.slice a1 X.length c1, .int .i64 1] w fun e w' => e = .returned (.int .i64 (1 + 2 * (X.length : Int))) ∧ w' = w) := fun a1 c1 w hr => heldDus a1 c1 X hX w hr
  have hXm : (duMks X X.length).length = X.length := duMks_length X _ (Nat.le_refl _)
  have Rsh : Hid (∀ base w v, DuRow base w v X → ∃ a1 c1, v = .slice a1 X.length c1) := fun base w v hr => hr.shape
  have Rat : Hid (∀ base w a1 c1, DuRow base w (.slice a1 X.length c1) X → DusAt w a1 X) := fun base w a1 c1 hr => hr.at
  have Rat3 : Hid (∀ base w a1 c1, DuRow base w (.slice a1 X.length c1) (duMks X X.length) → DusAt w a1 (duMks X X.length)) := by
    show ∀ base w a1 c1, _ → _
    intro base w a1 c1 hr
    rw [← hXm] at hr
    exact DuRow.at (l := duMks X X.length) (by rw [hXm] at hr ⊢; exact hr)
  have Rat2 : Hid (∀ base w g, DuRow base w (.slice (some ⟨g, 0, none⟩) l.length l.length) l → DusAt w (some ⟨g, 0, none⟩) l) := fun base w g hr => hr.at
  have T' : Hid (∀ w, DusAt w a l → Calls Try.prog 11 #[.slice a l.length cap] w fun e w' => ∃ g, e = .returned (.slice (some ⟨g, 0, none⟩) l.length l.length) ∧ DuRow w.heap.size w' (.slice (some ⟨g, 0, none⟩) l.length l.length) l ∧ Below w.heap.size w w') := T
  have C' : Hid _ := C
  have D' : Hid _ := D
  have ED' : Hid _ := ED
  clear T C D ED hXm
  obtain ⟨len, hlen⟩ : ∃ n, l.length = n := ⟨_, rfl⟩
  obtain ⟨xl, hxl⟩ : ∃ n, X.length = n := ⟨_, rfl⟩
  simp only [hlen] at S T' C' D' E2 M1 Rat2 hl hbig ⊢
  simp only [hxl] at E M2 Hd Rsh Rat Rat3 hX
  have hx0 : (0 : Int) ≤ 1 + 2 * (xl : Int) := by omega
  have hx1 : ¬ (1 + 2 * (xl : Int)) < 0 := by omega
  have hl1 : ¬ (1 + 2 * (len : Int)) < 0 := by omega
  clear hlen hxl hT
  obtain ⟨dt, hdt⟩ : ∃ x, d.time = x := ⟨_, rfl⟩
  obtain ⟨di, hdi⟩ : ∃ x, d.id = x := ⟨_, rfl⟩
  have hde : d = ⟨dt, di⟩ := by rw [← hdt, ← hdi]
  simp only [hdt, hdi] at C' D' ED'
  subst hde
  clear hdt hdi
  go_enter Try.func5, Try.ntmps5
  go_wp2_with (go_at_call 9; refine (S _).mono ?_; rintro e w' ⟨rfl, hw⟩; have hw := hw.symm; subst hw)
  refine (T'.out _ h.out).mono ?_
  rintro e w1 ⟨g1, rfl, r1, b1⟩
  have H1 : Hid (DusAt w1 (some ⟨g1, 0, none⟩) l ∧ Below w.heap.size w w1) := ⟨Rat2.out _ _ _ r1, b1⟩
  clear r1 b1
  go_wp2_with fail
  refine (C'.out _ _ H1.out.1).mono ?_
  rintro e w2 ⟨⟨v8, rfl, r2⟩, b2⟩
  obtain ⟨a8, c8, rfl⟩ := Rsh.out _ _ _ r2
  go_upto_region 6 with fail
  have H2 : Hid (Below w.heap.size w (w2.alloc (.cells #[.int .i64 dt, .int .i64 di] 33)) ∧ Htk w.heap.size w1.heap.size w2.heap.size (.slice a8 xl c8) X ⟨dt, di⟩ (w2.alloc (.cells #[.int .i64 dt, .int .i64 di] 33))) :=
    ⟨(H1.out.2.trans (b2.mono H1.out.2.size)).alloc (Nat.le_trans H1.out.2.size b2.size) _, Htk.new (d := ⟨dt, di⟩) r2 H1.out.2.size b2.size rfl⟩
  clear r2 b2 H1
  generalize w2.alloc (.cells #[.int .i64 dt, .int .i64 di] 33) = W2 at H2 ⊢
  generalize w2.heap.size = B0 at H2 ⊢
  generalize w1.heap.size = b0 at H2

  go_wp2_with fail
  refine (T'.out _ (h.out.below H2.out.1)).mono ?_
  rintro e w3 ⟨g3, rfl, r3, b3⟩
  have H3 : Hid (Below w.heap.size w w3 ∧ Htk w.heap.size b0 B0 (.slice a8 xl c8) X ⟨dt, di⟩ w3 ∧ DuRow W2.heap.size w3 (.slice (some ⟨g3, 0, none⟩) len len) l ∧ B0 < W2.heap.size ∧ W2.heap.size ≤ w3.heap.size) :=
    ⟨H2.out.1.trans (b3.mono H2.out.1.size), H2.out.2.below b3, r3, H2.out.2.box.under, b3.size⟩
  clear r3 b3 H2
  go_wp2_with fail
  refine (D'.out _ _ (Rat2.out _ _ _ H3.out.2.2.1)).mono ?_
  rintro e w4 ⟨⟨v11, rfl, r4⟩, b4⟩
  obtain ⟨a11, c11, rfl⟩ := Rsh.out _ _ _ r4
  go_upto_region 8 with fail
  have H4 : Hid (Ht2 w l X ⟨dt, di⟩ g3 len b0 B0 W2.heap.size w3.heap.size w4.heap.size (.slice a8 xl c8) (.slice a11 xl c11) (w4.alloc (.cells #[.int .i64 dt, .int .i64 di] 33))) := by
    have q1 : Below w3.heap.size w3 (w4.alloc (.cells #[.int .i64 dt, .int .i64 di] 33)) := b4.alloc b4.size _
    exact ⟨H3.out.1.trans (q1.mono H3.out.1.size), H3.out.2.1.below q1, H3.out.2.2.1.below (fun k hk => (H3.out.2.2.1.lt k hk).2) q1, Htk.new (d := ⟨dt, di⟩) r4 H3.out.1.size b4.size rfl, H3.out.2.2.2.1, H3.out.2.2.2.2, (H3.out.2.2.1.lt g3 rfl).2⟩
  clear r4 b4 H3
  generalize w4.alloc (.cells #[.int .i64 dt, .int .i64 di] 33) = W4 at H4 ⊢
  generalize w4.heap.size = B2 at H4 ⊢
  generalize W2.heap.size = m at H4
  generalize w3.heap.size = n at H4

  go_wp2_with fail
  refine (E.out _ _ _ _ _ (Rat.out _ _ _ _ H4.out.h2.row) (Rat.out _ _ _ _ H4.out.h0.row)).mono ?_
  rintro e w5 ⟨rfl, b5⟩
  have H5 : Hid _ := H4.out.below b5
  clear b5 H4
  have c0 := H5.out.h0.c0
  have c1 := H5.out.h0.c1
  have e0 := H5.out.h2.c0
  have e1 := H5.out.h2.c1
  go_wp2_with fail
  refine (ED'.out _).mono ?_
  rintro e w6 ⟨rfl, b6⟩
  have H6 : Hid _ := H5.out.below b6
  clear b6 H5 c0 c1 e0 e1
  go_wp2_with fail
  refine (T'.out _ (h.out.below H6.out.bel)).mono ?_
  rintro e w7 ⟨g7, rfl, r7, b7⟩
  have H7 : Hid (Ht2 w l X ⟨dt, di⟩ g3 len b0 B0 m n B2 (.slice a8 xl c8) (.slice a11 xl c11) w7 ∧ DusAt w7 (some ⟨g7, 0, none⟩) l) := ⟨H6.out.below b7, Rat2.out _ _ _ r7⟩
  clear r7 b7 H6
  go_wp2_with fail
  refine (E2.out _ _ _ (Rat2.out _ _ _ H7.out.1.arg) H7.out.2).mono ?_
  rintro e w8 ⟨rfl, b8⟩
  have H8 : Hid _ := H7.out.1.below b8
  clear b8 H7
  go_wp2_with fail
  refine (M1.out _ _ _ H8.out.arg).mono ?_
  rintro e w9 ⟨rfl, b9, o9⟩
  have H9 : Hid _ := H8.out.mark b9 o9
  clear b9 o9 H8
  go_wp2_with fail
  refine (E.out _ _ _ _ _ (Rat.out _ _ _ _ H9.out.h2.row) (Rat.out _ _ _ _ H9.out.h0.row)).mono ?_
  rintro e wA ⟨rfl, bA⟩
  have HA : Hid _ := H9.out.below bA
  clear bA H9
  have c0 := HA.out.h0.c0
  have c1 := HA.out.h0.c1
  have e0 := HA.out.h2.c0
  have e1 := HA.out.h2.c1
  go_wp2_with fail
  refine (ED'.out _).mono ?_
  rintro e wB ⟨rfl, bB⟩
  have HB : Hid _ := HA.out.below bB
  clear bB HA c0 c1 e0 e1
  go_wp2_with fail
  refine (M2.out _ _ _ _ HB.out.h2.row).mono ?_
  rintro e wC ⟨rfl, rC, bC, oC⟩
  have HC : Hid _ := HB.out.mark bC rC
  clear rC bC oC HB
  go_wp2_with fail
  refine (Hd.out _ _ _ (Rat3.out _ _ _ _ HC.out.row)).mono ?_
  rintro e wD ⟨rfl, hwD⟩
  have hwD' := hwD.symm
  subst hwD'
  clear hwD
  go_wp2_with fail
  refine (T'.out _ (h.out.below HC.out.bel)).mono ?_
  rintro e wE ⟨gE, rfl, rE, bE⟩
  have HE : Hid (Ht4 w X (duMks X xl) ⟨dt, di⟩ b0 B0 n (.slice a8 xl c8) (.slice a11 xl c11) wE ∧ DusAt wE (some ⟨gE, 0, none⟩) l) := ⟨HC.out.below bE, Rat2.out _ _ _ rE⟩
  clear rE bE HC
  go_wp2_with fail
  refine (D'.out _ _ HE.out.2).mono ?_
  rintro e wF ⟨⟨v16, rfl, rF⟩, bF⟩
  obtain ⟨a16, c16, rfl⟩ := Rsh.out _ _ _ rF
  go_upto_region 25 with fail
  have HF : Hid (Ht4 w X (duMks X xl) ⟨dt, di⟩ b0 B0 n (.slice a8 xl c8) (.slice a11 xl c11) (wF.alloc (.cells #[.int .i64 dt, .int .i64 di] 33)) ∧ Htk w.heap.size wE.heap.size wF.heap.size (.slice a16 xl c16) X ⟨dt, di⟩ (wF.alloc (.cells #[.int .i64 dt, .int .i64 di] 33))) :=
    ⟨HE.out.1.below (bF.alloc bF.size _), Htk.new (d := ⟨dt, di⟩) rF HE.out.1.bel.size bF.size rfl⟩
  clear rF bF HE
  generalize wF.alloc (.cells #[.int .i64 dt, .int .i64 di] 33) = WF at HF ⊢
  generalize wF.heap.size = B5 at HF ⊢
  generalize wE.heap.size = b5 at HF

  go_wp2_with fail
  refine (E.out _ _ _ _ _ (Rat.out _ _ _ _ HF.out.2.row) (Rat.out _ _ _ _ HF.out.1.h0.row)).mono ?_
  rintro e wG ⟨rfl, bG⟩
  have HG : Hid (Ht4 w X (duMks X xl) ⟨dt, di⟩ b0 B0 n (.slice a8 xl c8) (.slice a11 xl c11) wG ∧ Htk w.heap.size b5 B5 (.slice a16 xl c16) X ⟨dt, di⟩ wG) := ⟨HF.out.1.below bG, HF.out.2.below bG⟩
  clear bG HF
  have c0 := HG.out.1.h0.c0
  have c1 := HG.out.1.h0.c1
  have e0 := HG.out.2.c0
  have e1 := HG.out.2.c1
  go_wp2_with fail
  refine (ED'.out _).mono ?_
  rintro e wH ⟨rfl, bH⟩
  have HH : Hid _ := HG.out.1.below bH
  clear bH HG c0 c1 e0 e1
  go_wp2_with fail
  refine (Hd.out _ _ _ (Rat3.out _ _ _ _ HH.out.row)).mono ?_
  rintro e wI ⟨rfl, hwI⟩
  have hwI' := hwI.symm
  subst hwI'
  clear hwI
  go_wp2
  go_ret
  exact ⟨rfl, HH.out.bel⟩
end Go.Proofs.Ytgimalimfmoilaa
