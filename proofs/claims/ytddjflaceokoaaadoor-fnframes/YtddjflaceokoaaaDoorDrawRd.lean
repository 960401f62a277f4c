/-
  The model's drawing of a text that may be read as a frame. By the verifier.
-/
import Derived.Test.YtddjflaceokoaaaDoorDrawFo
import Derived.Test.YtddjflaceokoaaaDoorDrawBend
import Derived.Test.YtddjflaceokoaaaDoorFrShow
import Derived.Test.YtddjflaceokoaaaDoorRdBack
namespace Go.Proofs.YtddjflaceokoaaaDoor
open Go.RowKit

theorem show_bound {f : Fr} (hT : f.tags.length ≤ 3) (hB : f.body.size ≤ 1503) : f.show.size ≤ 1600 ∧ (f.show.size = 0 ∨ 23 ≤ f.show.size) := by
  by_cases h : f.ok = true
  · have h' := Fr.ok_true.1 h
    rw [show_size f h']
    omega
  · have := (show_empty f).2 (fun ok => h (Fr.ok_true.2 ok))
    omega

set_option maxHeartbeats 3200000 in
set_option maxRecDepth 100000 in
theorem drawReadFrame {W : World} {ac : Option Addr} {len cap : Nat} (hc : Hid (Code W ac len)) (w : World) (bel : Hid (Below W.heap.size W w)) :
    Calls Tryd.prog 8 #[.slice ac len cap] w fun e w' => (∃ t : ByteArray, e = .returned (.string t) ∧ t.size ≤ 2000) ∧ Below w.heap.size w w' := by
  go_enter Tryd.func8, Tryd.ntmps8
  go_wp2_with fail
  refine (drawNew hc _ bel).mono ?_
  rintro e w1 ⟨rfl, c1, b1⟩
  obtain ⟨bc, hbc⟩ : ∃ bc, w.heap.size = bc := ⟨_, rfl⟩
  have H1 : Hid (Cur W bc ac len cap w1 ∧ Below bc w w1) := by rw [← hbc]; exact ⟨c1, b1⟩
  have fin : Hid (∀ w3, Cur W bc ac len cap w3 → Keep bc w1 w3 → Below w.heap.size w w3) := fun w3 c k => by
    have h1 := H1.out.2.size
    have h2 := k.size
    exact bel_two bel.out c.bel (by omega) fun j hj => (k.block j (by omega) (by omega)).trans (H1.out.2.block j (by omega))
  rw [hbc]
  clear c1 b1 hbc
  go_wp2_with fail
  refine (drawLit hc _ H1.out.1).mono ?_
  rintro e w2 ⟨⟨f, a2, c2, rfl, hS, hT, hB, row⟩, cu, kp⟩
  have H2 : Hid (Cur W bc ac len cap w2 ∧ Keep bc w1 w2 ∧ IntsAt w2 a2 f.tags) := ⟨cu, kp, row.ints⟩
  have S := fun w h => specShow f a2 c2 w (by omega) h
  have hz := show_bound (f := f) (by omega) hB
  clear row cu kp H1 hS
  generalize f.show = s at S hz
  obtain ⟨r0, r1, T, r3, r4, r5, r6, r7, r8, sm, bd⟩ := f
  simp only [Fr.val] at S hT H2 ⊢
  obtain ⟨nt, hnt⟩ : ∃ n, T.length = n := ⟨_, rfl⟩
  simp only [hnt] at S hT ⊢
  clear hnt
  have S' : Hid _ := S
  clear S
  go_wp2_with fail
  refine (S'.out _ H2.out.2.2).mono ?_
  rintro e w3 ⟨rfl, b3⟩
  have H3 : Hid (Cur W bc ac len cap w3 ∧ Keep bc w1 w3) := ⟨H2.out.1.below H2.out.1.lt b3, H2.out.2.1.trans ⟨b3.size, fun k _ hk => b3.block k hk⟩⟩
  clear b3 H2 S'
  obtain ⟨hz1, hz2⟩ := hz
  go_wp2_with fail
  refine (drawBelow hc 5 (by omega) _ H3.out.1).mono ?_
  rintro e w4 ⟨⟨y, rfl, y0, y1⟩, c4, k4⟩
  have H4 : Hid (Cur W bc ac len cap w4 ∧ Keep bc w1 w4) := ⟨c4, H3.out.2.trans k4⟩
  clear c4 k4 H3
  rcases (show y = 0 ∨ y = 1 ∨ y = 2 ∨ y = 3 ∨ y = 4 by omega) with rfl | rfl | rfl | rfl | rfl
  · go_wp2_with fail
    refine (drawBend hc s _ (by omega) rfl _ H4.out.1).mono ?_
    rintro e w5 ⟨⟨t, rfl, ht⟩, c5, k5⟩
    have H5 : Hid (Below w.heap.size w w5) := fin.out _ c5 (H4.out.2.trans k5)
    clear c5 k5 H4
    go_wp2
    go_ret
    exact ⟨⟨t, rfl, by omega⟩, H5.out⟩
  · go_wp2_with fail
    refine (drawBelow hc ((s.size : Int) + 1) (by omega) _ H4.out.1).mono ?_
    rintro e w5 ⟨⟨m, rfl, m0, m1⟩, c5, k5⟩
    have H5 : Hid (Below w.heap.size w w5) := fin.out _ c5 (H4.out.2.trans k5)
    clear c5 k5 H4
    have m2 : m ≤ (s.size : Int) := by omega
    go_wp2
    go_ret
    exact ⟨⟨_, rfl, by rw [ByteArray.size_extract]; omega⟩, H5.out⟩
  · by_cases h6 : 6 < s.size
    · have h6i : (6 : Int) < s.size := by omega
      have h8 : 8 ≤ s.size := by omega
      have h8i : (8 : Int) ≤ s.size := by omega
      have h4i : (4 : Int) ≤ s.size := by omega
      have h4 : 4 ≤ s.size := by omega
      go_wp2_with fail
      go_region_law (refine step_call rfl 26 rfl #[.pointer (some ⟨bc, 0, none⟩), .string (s.extract 4 8), .string ⟨#[0, 1, 2, 3, 255]⟩] (by kernel_rfl) (drawBend hc (s.extract 4 8) _ (by rw [ByteArray.size_extract]; omega) rfl w4.drew H4.out.1.drew) ?_; rintro e w5 ⟨⟨t, rfl, ht⟩, c5, k5⟩; refine ⟨_, rfl, ?_⟩; have H5 : Hid (Below w.heap.size w w5) := fin.out _ c5 (H4.out.2.trans ((Keep.refl _ _).drew.trans k5)); have ht6 : t.size ≤ 6 := (by rw [ByteArray.size_extract] at ht; omega); have hm1 : ¬ 9223372036854775807 < 4 + t.size := (by omega); have hm2 : ¬ 9223372036854775807 < 4 + t.size + (s.size - 8) := (by omega); clear c5 k5 ht)
      all_goals (clear H4; go_wp2; go_ret; exact ⟨⟨_, rfl, by rw [ByteArray.size_append, ByteArray.size_append, ByteArray.size_extract, ByteArray.size_extract]; omega⟩, H5.out⟩)
    · have h6i : ¬ (6 : Int) < s.size := by omega
      have H5 : Hid (Below w.heap.size w w4) := fin.out _ H4.out.1 H4.out.2
      clear H4
      go_wp2
      go_ret
      exact ⟨⟨s, rfl, by omega⟩, H5.out⟩
  · have H5 : Hid (Below w.heap.size w w4) := fin.out _ H4.out.1 H4.out.2
    clear H4
    go_wp2
    go_ret
    exact ⟨⟨s, rfl, by omega⟩, H5.out⟩
  · have H5 : Hid (Below w.heap.size w w4) := fin.out _ H4.out.1 H4.out.2
    clear H4
    go_wp2
    go_ret
    exact ⟨⟨s, rfl, by omega⟩, H5.out⟩
end Go.Proofs.YtddjflaceokoaaaDoor
