/-
  The walk of the exact law of HeapPut, the program's contract given. By the verifier, by program.
-/
import Derived.Test.YtgimalimfmoilaaM0DuHeld
import Derived.Test.YtgimalimfmoilaaM2DuCopy
import Derived.Test.YtgimalimfmoilaaDuHpS
import Derived.Test.YtgimalimfmoilaaCallStep
import Derived.Deep.DeepCutAuto
import Derived.Deep.RegionLaw
namespace Go.Proofs.Ytgimalimfmoilaa
open Go.RowKit

set_option maxHeartbeats 6400000 in
set_option maxRecDepth 100000 in
theorem fnExactHeapPut_of (impl' : ∀ (l : List Du) (a : Option Addr) (cap : Nat) (d : Du) (w : World), l.length ≤ 1048576 → l.length ≤ cap → (a = none → cap = 0) → Hid (DusAt w a l) → Calls Try.prog 16 #[.slice a l.length cap, d.val] w fun e w' => (∃ v, e = .returned (.tuple #[v, .bool (putB l d)]) ∧ DuRow w.heap.size w' v (putH l d)) ∧ Below w.heap.size w w')
    (l : List Du) (a : Option Addr) (cap : Nat) (r : Du) (w : World) (hl : (l.length : Int) ≤ 9223372036854775807) (h : Hid (DusAt w a l)) :
    Calls Try.prog 4 #[.slice a l.length cap, r.val] w fun e w' => e = .returned (.bool true) ∧ Below w.heap.size w w' := by
  have S := fun w => szDus 1048576 (by omega) (by omega) a cap l.length w hl
  by_cases hbig : (1048576 : Int) - l.length < 0
  · rw [if_pos hbig] at S
    generalize l.length = len at S hl hbig ⊢
    clear h
    unfold Du.val
    go_enter Try.func4, Try.ntmps4
    go_wp2_with (go_at_call 9; refine (S _).mono ?_; rintro e w' ⟨rfl, rfl⟩)
    go_ret
    exact ⟨rfl, (Below.refl _ _).alloc (Nat.le_refl _) _⟩
  rw [if_neg hbig] at S
  have hT : l.length ≤ 1048576 := by omega
  have T := fun w h => toDus a cap l w hT h
  have C : ∀ g w, DusAt w (some ⟨g, 0, none⟩) l → Calls Try.prog 14 #[.slice (some ⟨g, 0, none⟩) l.length l.length, r.val] w fun e w' => (∃ v, e = .returned (.tuple #[v, .bool (putB l r)]) ∧ DuRow w.heap.size w' v (putH l r)) ∧ Below w.heap.size w w' := fun g w h => specHeapPut (some ⟨g, 0, none⟩) l.length l r w hT (Nat.le_refl _) (fun q => by cases q) h
  have D : ∀ g w, DusAt w (some ⟨g, 0, none⟩) l → Calls Try.prog 16 #[.slice (some ⟨g, 0, none⟩) l.length l.length, r.val] w fun e w' => (∃ v, e = .returned (.tuple #[v, .bool (putB l r)]) ∧ DuRow w.heap.size w' v (putH l r)) ∧ Below w.heap.size w w' := fun g w h => impl' l (some ⟨g, 0, none⟩) l.length r w hT (Nat.le_refl _) (fun q => by cases q) h
  have hX : (putH l r).length ≤ 1048576 := by
    unfold putH
    split
    · rename_i hk
      have h60 := (hok_iff.1 hk).1
      split
      · rw [hput_len]; omega
      · exact hT
    · simp
  generalize putB l r = tb at C D
  generalize putH l r = X at C D hX
  have E : Hid (∀ a1 a2 c1 c2 w, DusAt w a1 X → DusAt w a2 X → Calls Try.prog 13 #[.slice a1 X.length c1, .slice a2 X.length c2] w fun e w' => e = .returned (.bool true) ∧ Below w.heap.size w w') := fun a1 a2 c1 c2 w h1 h2 => eqDus a1 a2 c1 c2 X w hX h1 h2
  have E2 : Hid (∀ g1 g2 w, DusAt w (some ⟨g1, 0, none⟩) l → DusAt w (some ⟨g2, 0, none⟩) l → Calls Try.prog 13 #[.slice (some ⟨g1, 0, none⟩) l.length l.length, .slice (some ⟨g2, 0, none⟩) l.length l.length] w fun e w' => e = .returned (.bool true) ∧ Below w.heap.size w w') := fun g1 g2 w h1 h2 => eqDus (some ⟨g1, 0, none⟩) (some ⟨g2, 0, none⟩) l.length l.length l w hT h1 h2
  have M1 : Hid (∀ base g w, DuRow base w (.slice (some ⟨g, 0, none⟩) l.length l.length) l → Calls Try.prog 17 #[.slice (some ⟨g, 0, none⟩) l.length l.length, .int .i64 1] w fun e w' => e = .returned (.int .i64 (1 + 2 * (l.length : Int))) ∧ Below base w w' ∧ Oth (.slice (some ⟨g, 0, none⟩) l.length l.length) w w') := fun base g w hr => (markDus base (some ⟨g, 0, none⟩) l.length l hT w hr).mono fun _ _ hh => ⟨hh.1, hh.2.2.1, hh.2.2.2⟩
  have M2 : Hid (∀ base a1 c1 w, DuRow base w (.slice a1 X.length c1) X → Calls Try.prog 17 #[.slice a1 X.length c1, .int .i64 1] w fun e w' => e = .returned (.int .i64 (1 + 2 * (X.length : Int))) ∧ DuRow base w' (.slice a1 X.length c1) (duMks X X.length) ∧ Below base w w' ∧ Oth (.slice a1 X.length c1) w w') := fun base a1 c1 w hr => markDus base a1 c1 X hX w hr
  have Hd : Hid (∀ a1 c1 w, DusAt w a1 (duMks X X.length) → Calls Try.prog 18 #[.slice a1 X.length c1, .int .i64 1] w fun e w' => e = .returned (.int .i64 (1 + 2 * (X.length : Int))) ∧ w' = w) := fun a1 c1 w hr => heldDus a1 c1 X hX w hr
  have hXm : (duMks X X.length).length = X.length := duMks_length X _ (Nat.le_refl _)
  have Rsh : Hid (∀ base w v, DuRow base w v X → ∃ a1 c1, v = .slice a1 X.length c1) := fun base w v hr => hr.shape
  have Rat : Hid (∀ base w a1 c1, DuRow base w (.slice a1 X.length c1) X → DusAt w a1 X) := fun base w a1 c1 hr => hr.at
  have Rat3 : Hid (∀ base w a1 c1, DuRow base w (.slice a1 X.length c1) (duMks X X.length) → DusAt w a1 (duMks X X.length)) := by
    show ∀ base w a1 c1, _ → _
    intro base w a1 c1 hr
    rw [← hXm] at hr
    exact DuRow.at (l := duMks X X.length) (by rw [hXm] at hr ⊢; exact hr)
  have Rat2 : Hid (∀ base w g, DuRow base w (.slice (some ⟨g, 0, none⟩) l.length l.length) l → DusAt w (some ⟨g, 0, none⟩) l) := fun base w g hr => hr.at
  have T' : Hid (∀ w, DusAt w a l → Calls Try.prog 11 #[.slice a l.length cap] w fun e w' => ∃ g, e = .returned (.slice (some ⟨g, 0, none⟩) l.length l.length) ∧ DuRow w.heap.size w' (.slice (some ⟨g, 0, none⟩) l.length l.length) l ∧ Below w.heap.size w w') := T
  have C' : Hid _ := C
  have D' : Hid _ := D
  clear T C D hXm
  obtain ⟨len, hlen⟩ : ∃ n, l.length = n := ⟨_, rfl⟩
  obtain ⟨xl, hxl⟩ : ∃ n, X.length = n := ⟨_, rfl⟩
  simp only [hlen] at S T' C' D' E2 M1 Rat2 hl hbig ⊢
  simp only [hxl] at E M2 Hd Rsh Rat Rat3 hX
  have hx0 : (0 : Int) ≤ 1 + 2 * (xl : Int) := by omega
  have hx1 : ¬ (1 + 2 * (xl : Int)) < 0 := by omega
  have hl1 : ¬ (1 + 2 * (len : Int)) < 0 := by omega
  clear hlen hxl hT
  have TR := fun w => toDuB r w
  unfold Du.val at C' D' TR ⊢
  have TR' : Hid _ := TR
  clear TR
  obtain ⟨W, hW⟩ : ∃ W, W = w.alloc (.cells #[.int .i64 r.time, .int .i64 r.id] 30) := ⟨_, rfl⟩
  have HW : Hid (Boxed W w.heap.size #[.int .i64 r.time, .int .i64 r.id] 30 ∧ w.heap.size < W.heap.size ∧ Below w.heap.size w W) := by
    rw [hW]
    exact ⟨Boxed.new _ _ _, by simp, (Below.refl _ _).alloc (Nat.le_refl _) _⟩
  have h' : Hid (DusAt W a l) := by rw [hW]; exact h.out.alloc _
  have HWe : Hid (W = _) := hW
  have c0 : W.cell? ⟨w.heap.size, 0, none⟩ = some (.int .i64 r.time) := HW.out.1.cell 0 rfl
  have c1 : W.cell? ⟨w.heap.size, 1, none⟩ = some (.int .i64 r.id) := HW.out.1.cell 1 rfl
  have cB : Hid (∀ w', Below W.heap.size W w' → w'.cell? ⟨w.heap.size, 0, none⟩ = some (.int .i64 r.time) ∧ w'.cell? ⟨w.heap.size, 1, none⟩ = some (.int .i64 r.id)) := fun w' b => ⟨(HW.out.1.below HW.out.2.1 b).cell 0 rfl, (HW.out.1.below HW.out.2.1 b).cell 1 rfl⟩
  clear hW
  go_enter Try.func4, Try.ntmps4
  go_wp2_with (go_at_call 9; refine (S _).mono ?_; rintro e w' ⟨rfl, hw⟩; have hw := hw.symm; subst hw)
  rw [← HWe.out]
  go_cut [6, 7] (fun s6 s7 wc => Hid (∃ a8 c8, s6 = .slice a8 xl c8 ∧ s7 = .bool tb ∧ DuRow W.heap.size wc (.slice a8 xl c8) X ∧ Below W.heap.size W wc))
  case first =>
    go_region_law (first | (refine call_stepD rfl 11 rfl #[.slice a len cap] (by kernel_rfl) (T'.out W.drew h'.out.drew) ?_; rintro e w1 ⟨g1, rfl, r1, b1⟩; refine ⟨_, rfl, ?_⟩; have H1 : Hid (DusAt w1 (some ⟨g1, 0, none⟩) l ∧ Below W.heap.size W w1) := ⟨Rat2.out _ _ _ r1, (Below.refl _ W).drew.trans b1⟩; have d0 := (cB.out _ H1.out.2).1; have d1 := (cB.out _ H1.out.2).2; clear r1 b1) | (refine call_stepD rfl 15 rfl #[.agg #[.int .i64 r.time, .int .i64 r.id]] (by kernel_rfl) (TR'.out W.drew) ?_; rintro e w1 ⟨rfl, b1⟩; refine ⟨_, rfl, ?_⟩; have K1 : Hid (Below W.heap.size W w1) := (Below.refl _ W).drew.trans b1; clear b1) | (refine call_stepD rfl 11 rfl #[.slice a len cap] (by kernel_rfl) (T'.out _ (h'.out.below K1.out)) ?_; rintro e w2 ⟨g1, rfl, r1, b1⟩; refine ⟨_, rfl, ?_⟩; have H2 : Hid (DusAt w2 (some ⟨g1, 0, none⟩) l ∧ Below W.heap.size W w2) := ⟨Rat2.out _ _ _ r1, K1.out.trans (b1.mono K1.out.size)⟩; clear r1 b1) | (refine call_stepD rfl 15 rfl #[.agg #[.int .i64 r.time, .int .i64 r.id]] (by kernel_rfl) (TR'.out _) ?_; rintro e w2 ⟨rfl, b1⟩; refine ⟨_, rfl, ?_⟩; have H2 : Hid (DusAt w2 (some ⟨g1, 0, none⟩) l ∧ Below W.heap.size W w2) := ⟨H1.out.1.below b1, H1.out.2.trans (b1.mono H1.out.2.size)⟩; clear b1) | (refine call_stepD rfl 14 rfl #[.slice (some ⟨g1, 0, none⟩) len len, .agg #[.int .i64 r.time, .int .i64 r.id]] (by kernel_rfl) (C'.out _ _ H2.out.1) ?_; rintro e w4 ⟨⟨v8, rfl, r4⟩, b4⟩; refine ⟨_, rfl, ?_⟩; obtain ⟨a8, c8, rfl⟩ := Rsh.out _ _ _ r4; have H4 : Hid (DuRow W.heap.size w4 (.slice a8 xl c8) X ∧ Below W.heap.size W w4) := ⟨r4.mono H2.out.2.size, H2.out.2.trans (b4.mono H2.out.2.size)⟩; clear r4 b4))
    all_goals (go_wp2_with fail; go_meet; exact ⟨a8, c8, rfl, rfl, H4.out⟩)
  case rest =>
  obtain ⟨a8, c8, rfl, rfl, hr2, hb2⟩ := hcut.out
  obtain ⟨w2, rfl⟩ : ∃ w2, w2 = wc := ⟨_, rfl⟩
  have H2 : Hid (DuRow W.heap.size w2 (.slice a8 xl c8) X ∧ Below W.heap.size W w2) := ⟨hr2, hb2⟩
  have Hw2 : Hid (W.heap.size ≤ w2.heap.size) := hb2.size
  clear hcut hr2 hb2 c0 c1
  go_wp2_with fail
  refine (T'.out _ (h'.out.below H2.out.2)).mono ?_
  rintro e w3 ⟨g3, rfl, r3, b3⟩
  have H3 : Hid (DuRow W.heap.size w3 (.slice a8 xl c8) X ∧ Below W.heap.size W w3 ∧ DuRow w2.heap.size w3 (.slice (some ⟨g3, 0, none⟩) len len) l ∧ w2.heap.size ≤ w3.heap.size ∧ (∀ k, (Value.slice a8 xl c8).ownBlock = some k → k < w2.heap.size)) :=
    ⟨H2.out.1.below (fun k hk => (H2.out.1.lt k hk).2) b3, H2.out.2.trans (b3.mono H2.out.2.size), r3, b3.size, fun k hk => (H2.out.1.lt k hk).2⟩
  clear r3 b3 H2
  have c0 := (cB.out _ H3.out.2.1).1
  have c1 := (cB.out _ H3.out.2.1).2
  go_wp2_with fail
  refine (TR'.out _).mono ?_
  rintro e wt ⟨rfl, bt⟩
  have HT : Hid (DuRow W.heap.size wt (.slice a8 xl c8) X ∧ Below W.heap.size W wt ∧ DuRow w2.heap.size wt (.slice (some ⟨g3, 0, none⟩) len len) l ∧ w2.heap.size ≤ wt.heap.size ∧ (∀ k, (Value.slice a8 xl c8).ownBlock = some k → k < w2.heap.size)) :=
    ⟨H3.out.1.below (fun k hk => (H3.out.1.lt k hk).2) bt, H3.out.2.1.trans (bt.mono H3.out.2.1.size), H3.out.2.2.1.below (fun k hk => (H3.out.2.2.1.lt k hk).2) bt, Nat.le_trans H3.out.2.2.2.1 bt.size, H3.out.2.2.2.2⟩
  clear bt H3 c0 c1
  obtain ⟨w3, rfl⟩ : ∃ w3, w3 = wt := ⟨_, rfl⟩
  have H3 := HT
  clear HT
  go_wp2_with fail
  refine (D'.out _ _ (Rat2.out _ _ _ H3.out.2.2.1)).mono ?_
  rintro e w4 ⟨⟨v11, rfl, r4⟩, b4⟩
  obtain ⟨a11, c11, rfl⟩ := Rsh.out _ _ _ r4
  have H4 : Hid (DuRow W.heap.size w4 (.slice a8 xl c8) X ∧ Below W.heap.size W w4 ∧ DuRow w2.heap.size w4 (.slice (some ⟨g3, 0, none⟩) len len) l ∧ DuRow w3.heap.size w4 (.slice a11 xl c11) X ∧ w2.heap.size ≤ w3.heap.size ∧ (∀ k, (Value.slice a8 xl c8).ownBlock = some k → k < w2.heap.size) ∧ g3 < w3.heap.size ∧ w3.heap.size ≤ w4.heap.size) :=
    ⟨H3.out.1.below (fun k hk => (H3.out.1.lt k hk).2) b4, H3.out.2.1.trans (b4.mono H3.out.2.1.size), H3.out.2.2.1.below (fun k hk => (H3.out.2.2.1.lt k hk).2) b4, r4, H3.out.2.2.2.1, H3.out.2.2.2.2, (H3.out.2.2.1.lt g3 rfl).2, b4.size⟩
  clear r4 b4 H3
  go_wp2_with fail
  refine (E.out _ _ _ _ _ (Rat.out _ _ _ _ H4.out.2.2.2.1) (Rat.out _ _ _ _ H4.out.1)).mono ?_
  rintro e w5 ⟨rfl, b5⟩
  have H5 : Hid (DuRow W.heap.size w5 (.slice a8 xl c8) X ∧ Below W.heap.size W w5 ∧ DuRow w2.heap.size w5 (.slice (some ⟨g3, 0, none⟩) len len) l ∧ DuRow w3.heap.size w5 (.slice a11 xl c11) X ∧ w2.heap.size ≤ w3.heap.size ∧ (∀ k, (Value.slice a8 xl c8).ownBlock = some k → k < w2.heap.size) ∧ g3 < w3.heap.size ∧ w3.heap.size ≤ w5.heap.size) :=
    ⟨H4.out.1.below (fun k hk => (H4.out.1.lt k hk).2) b5, H4.out.2.1.trans (b5.mono H4.out.2.1.size), H4.out.2.2.1.below (fun k hk => (H4.out.2.2.1.lt k hk).2) b5, H4.out.2.2.2.1.below (fun k hk => (H4.out.2.2.2.1.lt k hk).2) b5, H4.out.2.2.2.2.1, H4.out.2.2.2.2.2.1, H4.out.2.2.2.2.2.2.1, Nat.le_trans H4.out.2.2.2.2.2.2.2 b5.size⟩
  clear b5 H4
  go_wp2_with fail
  refine (T'.out _ (h'.out.below H5.out.2.1)).mono ?_
  rintro e w6 ⟨g6, rfl, r6, b6⟩
  have H6 : Hid (DuRow W.heap.size w6 (.slice a8 xl c8) X ∧ Below W.heap.size W w6 ∧ DuRow w2.heap.size w6 (.slice (some ⟨g3, 0, none⟩) len len) l ∧ DuRow w3.heap.size w6 (.slice a11 xl c11) X ∧ w2.heap.size ≤ w3.heap.size ∧ (∀ k, (Value.slice a8 xl c8).ownBlock = some k → k < w2.heap.size) ∧ g3 < w3.heap.size ∧ DusAt w6 (some ⟨g6, 0, none⟩) l ∧ w3.heap.size ≤ w6.heap.size) :=
    ⟨H5.out.1.below (fun k hk => (H5.out.1.lt k hk).2) b6, H5.out.2.1.trans (b6.mono H5.out.2.1.size), H5.out.2.2.1.below (fun k hk => (H5.out.2.2.1.lt k hk).2) b6, H5.out.2.2.2.1.below (fun k hk => (H5.out.2.2.2.1.lt k hk).2) b6, H5.out.2.2.2.2.1, H5.out.2.2.2.2.2.1, H5.out.2.2.2.2.2.2.1, Rat2.out _ _ _ r6, Nat.le_trans H5.out.2.2.2.2.2.2.2 b6.size⟩
  clear r6 b6 H5
  go_wp2_with fail
  refine (E2.out _ _ _ (Rat2.out _ _ _ H6.out.2.2.1) H6.out.2.2.2.2.2.2.2.1).mono ?_
  rintro e w7 ⟨rfl, b7⟩
  have H7 : Hid (DuRow W.heap.size w7 (.slice a8 xl c8) X ∧ Below W.heap.size W w7 ∧ DuRow w2.heap.size w7 (.slice (some ⟨g3, 0, none⟩) len len) l ∧ DuRow w3.heap.size w7 (.slice a11 xl c11) X ∧ w2.heap.size ≤ w3.heap.size ∧ (∀ k, (Value.slice a8 xl c8).ownBlock = some k → k < w2.heap.size) ∧ g3 < w3.heap.size ∧ w3.heap.size ≤ w7.heap.size ∧ W.heap.size ≤ w2.heap.size) :=
    ⟨H6.out.1.below (fun k hk => (H6.out.1.lt k hk).2) b7, H6.out.2.1.trans (b7.mono H6.out.2.1.size), H6.out.2.2.1.below (fun k hk => (H6.out.2.2.1.lt k hk).2) b7, H6.out.2.2.2.1.below (fun k hk => (H6.out.2.2.2.1.lt k hk).2) b7, H6.out.2.2.2.2.1, H6.out.2.2.2.2.2.1, H6.out.2.2.2.2.2.2.1, Nat.le_trans H6.out.2.2.2.2.2.2.2.2 b7.size, Hw2.out⟩
  clear b7 H6
  go_wp2_with fail
  refine (M1.out _ _ _ H7.out.2.2.1).mono ?_
  rintro e w8 ⟨rfl, b8, o8⟩
  have H8 : Hid (DuRow W.heap.size w8 (.slice a8 xl c8) X ∧ Below W.heap.size W w8 ∧ DuRow w3.heap.size w8 (.slice a11 xl c11) X ∧ (∀ k, (Value.slice a8 xl c8).ownBlock = some k → k < w3.heap.size) ∧ W.heap.size ≤ w3.heap.size ∧ w3.heap.size ≤ w8.heap.size) := by
    have q1 : DuRow w3.heap.size w8 (.slice a11 xl c11) X := H7.out.2.2.2.1.carry fun k hk hlt => o8.block k (fun e => by
      have e1 : g3 = k := by simpa [Value.ownBlock] using e
      have e2 := (H7.out.2.2.2.1.lt k hk).1
      have e3 := H7.out.2.2.2.2.2.2.1
      omega) hlt
    refine ⟨H7.out.1.below H7.out.2.2.2.2.2.1 b8, H7.out.2.1.trans (b8.mono H7.out.2.2.2.2.2.2.2.2), q1, fun k hk => Nat.lt_of_lt_of_le (H7.out.2.2.2.2.2.1 k hk) H7.out.2.2.2.2.1, Nat.le_trans H7.out.2.2.2.2.2.2.2.2 H7.out.2.2.2.2.1, Nat.le_trans H7.out.2.2.2.2.2.2.2.1 b8.size⟩
  clear b8 o8 H7
  go_wp2_with fail
  refine (E.out _ _ _ _ _ (Rat.out _ _ _ _ H8.out.2.2.1) (Rat.out _ _ _ _ H8.out.1)).mono ?_
  rintro e w9 ⟨rfl, b9⟩
  have H9 : Hid (DuRow W.heap.size w9 (.slice a8 xl c8) X ∧ Below W.heap.size W w9 ∧ DuRow w3.heap.size w9 (.slice a11 xl c11) X ∧ (∀ k, (Value.slice a8 xl c8).ownBlock = some k → k < w3.heap.size) ∧ W.heap.size ≤ w3.heap.size ∧ w3.heap.size ≤ w9.heap.size) :=
    ⟨H8.out.1.below (fun k hk => (H8.out.1.lt k hk).2) b9, H8.out.2.1.trans (b9.mono H8.out.2.1.size), H8.out.2.2.1.below (fun k hk => (H8.out.2.2.1.lt k hk).2) b9, H8.out.2.2.2.1, H8.out.2.2.2.2.1, Nat.le_trans H8.out.2.2.2.2.2 b9.size⟩
  clear b9 H8
  go_wp2_with fail
  refine (M2.out _ _ _ _ H9.out.2.2.1).mono ?_
  rintro e wA ⟨rfl, rA, bA, oA⟩
  have HA : Hid (DuRow W.heap.size wA (.slice a8 xl c8) X ∧ Below W.heap.size W wA ∧ DuRow w3.heap.size wA (.slice a11 xl c11) (duMks X xl)) := ⟨H9.out.1.below H9.out.2.2.2.1 bA, H9.out.2.1.trans (bA.mono H9.out.2.2.2.2.1), rA⟩
  clear rA bA oA H9
  go_wp2_with fail
  refine (Hd.out _ _ _ (Rat3.out _ _ _ _ HA.out.2.2)).mono ?_
  rintro e wB ⟨rfl, hwB⟩
  have hwB' := hwB.symm
  subst hwB'
  clear hwB
  have c0 := (cB.out _ HA.out.2.1).1
  have c1 := (cB.out _ HA.out.2.1).2
  go_wp2_with fail
  have Ht' : Hid (DusAt wA a l) := h'.out.below HA.out.2.1
  go_cut [14, 15] (fun s14 s15 wc => Hid (∃ a16 c16, s14 = .slice a16 xl c16 ∧ s15 = .bool tb ∧ DuRow W.heap.size wc (.slice a8 xl c8) X ∧ Below W.heap.size W wc ∧ DuRow w3.heap.size wc (.slice a11 xl c11) (duMks X xl) ∧ DusAt wc a16 X))
  case first =>
    go_region_law (first | (refine call_stepD rfl 11 rfl #[.slice a len cap] (by kernel_rfl) (T'.out wA.drew Ht'.out.drew) ?_; rintro e q1 ⟨g1, rfl, r1, b1⟩; refine ⟨_, rfl, ?_⟩; have H1 : Hid (DusAt q1 (some ⟨g1, 0, none⟩) l ∧ Below wA.heap.size wA q1) := ⟨Rat2.out _ _ _ r1, (Below.refl _ wA).drew.trans b1⟩; have d0 := (cB.out _ (HA.out.2.1.trans (H1.out.2.mono HA.out.2.1.size))).1; have d1 := (cB.out _ (HA.out.2.1.trans (H1.out.2.mono HA.out.2.1.size))).2; clear r1 b1) | (refine call_stepD rfl 15 rfl #[.agg #[.int .i64 r.time, .int .i64 r.id]] (by kernel_rfl) (TR'.out wA.drew) ?_; rintro e q1 ⟨rfl, b1⟩; refine ⟨_, rfl, ?_⟩; have K1 : Hid (Below wA.heap.size wA q1) := (Below.refl _ wA).drew.trans b1; clear b1) | (refine call_stepD rfl 11 rfl #[.slice a len cap] (by kernel_rfl) (T'.out _ (Ht'.out.below K1.out)) ?_; rintro e q2 ⟨g1, rfl, r1, b1⟩; refine ⟨_, rfl, ?_⟩; have H2 : Hid (DusAt q2 (some ⟨g1, 0, none⟩) l ∧ Below wA.heap.size wA q2) := ⟨Rat2.out _ _ _ r1, K1.out.trans (b1.mono K1.out.size)⟩; clear r1 b1) | (refine call_stepD rfl 15 rfl #[.agg #[.int .i64 r.time, .int .i64 r.id]] (by kernel_rfl) (TR'.out _) ?_; rintro e q2 ⟨rfl, b1⟩; refine ⟨_, rfl, ?_⟩; have H2 : Hid (DusAt q2 (some ⟨g1, 0, none⟩) l ∧ Below wA.heap.size wA q2) := ⟨H1.out.1.below b1, H1.out.2.trans (b1.mono H1.out.2.size)⟩; clear b1) | (refine call_stepD rfl 16 rfl #[.slice (some ⟨g1, 0, none⟩) len len, .agg #[.int .i64 r.time, .int .i64 r.id]] (by kernel_rfl) (D'.out _ _ H2.out.1) ?_; rintro e q4 ⟨⟨v16, rfl, r4⟩, b4⟩; refine ⟨_, rfl, ?_⟩; obtain ⟨a16, c16, rfl⟩ := Rsh.out _ _ _ r4; have H4 : Hid (DusAt q4 a16 X ∧ Below wA.heap.size wA q4) := ⟨Rat.out _ _ _ _ r4, H2.out.2.trans (b4.mono H2.out.2.size)⟩; clear r4 b4))
    all_goals
      have HD : Hid (DuRow W.heap.size q4 (.slice a8 xl c8) X ∧ Below W.heap.size W q4 ∧ DuRow w3.heap.size q4 (.slice a11 xl c11) (duMks X xl) ∧ DusAt q4 a16 X) := ⟨HA.out.1.below (fun k hk => (HA.out.1.lt k hk).2) H4.out.2, HA.out.2.1.trans (H4.out.2.mono HA.out.2.1.size), HA.out.2.2.below (fun k hk => (HA.out.2.2.lt k hk).2) H4.out.2, H4.out.1⟩
      go_wp2_with fail
      go_meet
      exact ⟨a16, c16, rfl, rfl, HD.out⟩
  case rest =>
  obtain ⟨a16, c16, rfl, rfl, hD⟩ := hcut.out
  obtain ⟨wD, rfl⟩ : ∃ wD, wD = wc := ⟨_, rfl⟩
  have HD : Hid (DuRow W.heap.size wD (.slice a8 xl c8) X ∧ Below W.heap.size W wD ∧ DuRow w3.heap.size wD (.slice a11 xl c11) (duMks X xl) ∧ DusAt wD a16 X) := hD
  clear hcut hD HA c0 c1 Ht'
  go_wp2_with fail
  refine (E.out _ _ _ _ _ HD.out.2.2.2 (Rat.out _ _ _ _ HD.out.1)).mono ?_
  rintro e wE ⟨rfl, bE⟩
  have HE : Hid (Below W.heap.size W wE ∧ DusAt wE a11 (duMks X xl)) := ⟨HD.out.2.1.trans (bE.mono HD.out.2.1.size), (Rat3.out _ _ _ _ HD.out.2.2.1).below bE⟩
  clear bE HD
  go_wp2_with fail
  refine (Hd.out _ _ _ HE.out.2).mono ?_
  rintro e wF ⟨rfl, hwF⟩
  have hwF' := hwF.symm
  subst hwF'
  clear hwF
  go_wp2
  go_ret
  exact ⟨rfl, HW.out.2.2.trans (HE.out.1.mono HW.out.2.2.size)⟩
end Go.Proofs.Ytgimalimfmoilaa
