/-
  The walk of the law of the longest prefix. By the verifier.
-/
import Derived.Test.YthkeabnfhgnpjaaRtDrawH
import Derived.Test.YthkeabnfhgnpjaaRtHopOf
import Derived.Test.YthkeabnfhgnpjaaQuiet
namespace Go.Proofs.Ythkeabnfhgnpjaa
open Go.RowKit

theorem all_ok {l : List Rt} (h : rtsOk l = true) (k : Nat) (hk : k < l.length) : (rtAt l k).ok = true := by
  unfold rtsOk goodTo at h
  rw [Bool.and_eq_true, List.all_eq_true] at h
  have := h.2 k (List.mem_range.2 hk)
  unfold good at this
  rw [Bool.and_eq_true] at this
  exact this.1
theorem hopV_bad {l : List Rt} {x : Int} (h : ¬ (rtsOk l = true ∧ inB 0 4294967295 x = true)) : hopV l x = -1 := by unfold hopV; rw [if_neg h]
theorem hopV_good {l : List Rt} {x : Int} (h : rtsOk l = true) (x0 : 0 ≤ x) (x1 : x ≤ 4294967295) : hopV l x = hopL l x := by unfold hopV; rw [if_pos ⟨h, by rw [inB_true]; exact ⟨x0, x1⟩⟩]
theorem fits_good {r : Rt} {x : Int} (h : r.ok = true) (x0 : 0 ≤ x) (x1 : x ≤ 4294967295) : r.fits x = fitB r.net r.bits x := by
  unfold Rt.fits
  rw [h, show inB 0 4294967295 x = true by rw [inB_true]; exact ⟨x0, x1⟩]
  simp

set_option maxHeartbeats 6400000 in
set_option maxRecDepth 100000 in
theorem fnLongest_walk (a : Option Addr) (len cap : Nat) (w : World)
    (hcode : ∀ k, k < len → ∃ b off z, a = some ⟨b, off, none⟩ ∧ b < w.heap.size ∧ w.cell? ⟨b, off + k, none⟩ = some (.int .u8 z) ∧ 0 ≤ z ∧ z ≤ 255) :
    Calls Try.prog 3 #[.slice a len cap] w fun e w' => e = .returned (.bool true) ∧ Below w.heap.size w w' := by
  by_cases hbig : 4096 < len
  · clear hcode
    go_enter Try.func3, Try.ntmps3
    go_wp2
    go_ret
    exact ⟨rfl, Below.refl _ _⟩
  have hc : Hid (Code w a len) := ⟨by omega, hcode⟩
  have hb : Hid (Below w.heap.size w w) := Below.refl _ _
  clear hcode
  go_enter Try.func3, Try.ntmps3
  go_wp2_with (go_at_call 9; go_in)
  refine (drawHop hc _ hb).mono ?_
  rintro e w1 ⟨⟨g, c, L, x, rfl, hL, hLc, r1⟩, b1⟩
  have H1 : Hid (RtsAt w1 (some ⟨g, 0, none⟩) L ∧ Below w.heap.size w w1) := ⟨r1, b1⟩
  clear r1 b1
  have D := fun w h => implHop (some ⟨g, 0, none⟩) c L x w (by omega) hLc h
  have C := fun w h => specHop (some ⟨g, 0, none⟩) c L x w (by omega) h
  have O := fun w h => specOk (some ⟨g, 0, none⟩) c L w (by omega) h
  obtain ⟨h, hh⟩ : ∃ h, hopV L x = h := ⟨_, rfl⟩
  obtain ⟨n, hn⟩ : ∃ n, L.length = n := ⟨_, rfl⟩
  rw [hh] at C D
  simp only [hn] at C D O hL hLc ⊢
  have Hh : Hid _ := hh
  have Hn : Hid _ := hn
  have C' : Hid _ := C
  have D' : Hid _ := D
  have O' : Hid _ := O
  clear C D O hh hn
  go_wp2_with fail
  refine (D'.out _ H1.out.1).mono ?_
  rintro e w2 ⟨rfl, b2⟩
  have H2 : Hid (RtsAt w2 (some ⟨g, 0, none⟩) L ∧ Below w.heap.size w w2) := ⟨H1.out.1.below b2, H1.out.2.trans (b2.mono H1.out.2.size)⟩
  clear b2 H1
  go_wp2_with fail
  refine (drawFit hc _ H2.out.2).mono ?_
  rintro e w3 ⟨⟨r, b, rfl⟩, b3⟩
  have F := fun w => implFits r b w
  have G := fun w => specFits r b w
  generalize r.fits b = fb at F G
  unfold Rt.val at F G ⊢
  obtain ⟨net, bits, hop⟩ := r
  simp only [] at F G ⊢
  have H3 : Hid (RtsAt w3 (some ⟨g, 0, none⟩) L ∧ Below w.heap.size w w3) := ⟨H2.out.1.below b3, H2.out.2.trans (b3.mono H2.out.2.size)⟩
  clear b3 H2
  go_wp2_with fail
  obtain ⟨W4, hW4⟩ : ∃ W4, W4 = w3.alloc (.cells #[.int .i64 net, .int .i64 bits, .int .i64 hop] 29) := ⟨_, rfl⟩
  rw [← hW4]
  have H4 : Hid (RtsAt W4 (some ⟨g, 0, none⟩) L ∧ Below w.heap.size w W4 ∧ Boxed W4 w3.heap.size #[.int .i64 net, .int .i64 bits, .int .i64 hop] 29) := by
    rw [hW4]; exact ⟨H3.out.1.alloc _, H3.out.2.alloc H3.out.2.size _, Boxed.new _ _ _⟩
  clear hW4 H3
  generalize w3.heap.size = B at H4 ⊢
  have f0 := fun p : BelW W4.heap.size W4 => (H4.out.2.2.below H4.out.2.2.under p.h).cell 0 rfl
  have f1 := fun p : BelW W4.heap.size W4 => (H4.out.2.2.below H4.out.2.2.under p.h).cell 1 rfl
  have f2 := fun p : BelW W4.heap.size W4 => (H4.out.2.2.below H4.out.2.2.under p.h).cell 2 rfl
  haveI : Nonempty (BelW W4.heap.size W4) := ⟨⟨W4, Below.refl _ _⟩⟩
  have C2 := fun p : BelW W4.heap.size W4 => C'.out p.w' (H4.out.1.below p.h)
  refine region_below W4.heap.size (by kernel_rfl) (by kernel_rfl) ?_
  repeat (go_big_quiet_step ((first | (go_at_call 13; refine quiet_below (Nat.le_refl _) (C2 _)) | (go_at_call 14; refine quiet_below (Nat.le_refl _) (F _)) | (go_at_call 15; refine quiet_below (Nat.le_refl _) (G _)))))
  refine wpQuiet_nil ?_
  intro wq hx
  have hq := BelW.out hx
  have H5 : Hid (RtsAt wq (some ⟨g, 0, none⟩) L ∧ Below w.heap.size w wq) := ⟨H4.out.1.below hq, H4.out.2.1.trans (hq.mono H4.out.2.1.size)⟩
  clear hx hq f0 f1 f2 C2 H4 F G this
  go_wp2_with fail
  refine (O'.out _ H5.out.1).mono ?_
  rintro e w6 ⟨rfl, b6⟩
  have H6 : Hid (RtsAt w6 (some ⟨g, 0, none⟩) L ∧ Below w.heap.size w w6) := ⟨H5.out.1.below b6, H5.out.2.trans (b6.mono H5.out.2.size)⟩
  clear b6 H5 C' D' O' hc hb hLc
  cases hok : rtsOk L
  · have e1 : h = -1 := by rw [← Hh.out]; exact hopV_bad (by simp [hok])
    subst e1
    go_wp2
    go_ret
    exact ⟨rfl, H6.out.2⟩
  have Hok : Hid (rtsOk L = true) := hok
  clear hok
  by_cases x0 : x < 0
  · have e1 : h = -1 := by rw [← Hh.out]; exact hopV_bad (by rw [inB_true]; omega)
    subst e1
    go_wp2
    go_ret
    exact ⟨rfl, H6.out.2⟩
  by_cases x1 : 4294967295 < x
  · have e1 : h = -1 := by rw [← Hh.out]; exact hopV_bad (by rw [inB_true]; omega)
    subst e1
    go_wp2
    go_ret
    exact ⟨rfl, H6.out.2⟩
  have Hv : Hid (hopL L x = h) := by rw [← Hh.out]; exact (hopV_good Hok.out (by omega) (by omega)).symm
  clear Hh
  have Hx : Hid (0 ≤ x ∧ x ≤ 4294967295) := ⟨by omega, by omega⟩
  go_wp2_with fail
  go_loopw [8, 9, 10] (fun m hp i wr => ∃ (k : Nat) (s : Int × Int), k ≤ n ∧ m = .int .i64 s.1 ∧ hp = .int .i64 s.2 ∧ i = .int .i64 k ∧ Hid (s = (L.take k).foldl (hopStep x) (-1, -1) ∧ RtsAt wr (some ⟨g, 0, none⟩) L ∧ Below w.heap.size w wr)) (fun _ _ i _ => n - (intOf i).toNat)
  case atStart => exact ⟨0, (-1, -1), Nat.zero_le _, rfl, rfl, rfl, ⟨rfl, H6.out⟩⟩
  case round =>
    clear H6
    obtain ⟨k, ⟨s1, s2⟩, hk, rfl, rfl, rfl, H7⟩ := hrel
    simp only [] at *
    by_cases hkn : k < n
    · have hcell := cells_at H7.out.2.1 (k := k) (by rw [Hn.out]; exact hkn)
      have F := fun w => implFits (rtAt L k) x w
      rw [fits_good (all_ok Hok.out k (by rw [Hn.out]; exact hkn)) Hx.out.1 Hx.out.2] at F
      have Hs : Hid ((L.take (k + 1)).foldl (hopStep x) (-1, -1) = hopStep x (s1, s2) (rtAt L k)) := by
        show (L.take (k + 1)).foldl (hopStep x) (-1, -1) = hopStep x (s1, s2) (rtAt L k)
        rw [hop_take L x k (by rw [Hn.out]; exact hkn), ← H7.out.1]
      have hRt := fun w' (h : Below wr.heap.size wr w') => H7.out.2.1.below h
      have hCe := fun w' (h : Below wr.heap.size wr w') => cells_at (hRt w' h) (k := k) (by rw [Hn.out]; exact hkn)
      have Hu : Hid _ := hopStep.eq_1 x (s1, s2) (rtAt L k)
      have hCe' : Hid _ := hCe
      have hRt' : Hid _ := hRt
      clear hCe hRt
      unfold Rt.val at F
      generalize rtAt L k = r at hcell F Hs hCe' Hu
      obtain ⟨rn, rb, rh⟩ := r
      simp only [Nat.zero_add] at hcell F Hs hCe' Hu
      obtain ⟨c0, c1, c2⟩ := hcell
      have hki : (k : Int) < (n : Int) := by omega
      generalize fitB rn rb x = fb at F Hu
      go_wp2_with (go_at_call 14; refine (F _).mono ?_; rintro e w8 ⟨rfl, b8⟩; have H8 : Hid (RtsAt w8 (some ⟨g, 0, none⟩) L ∧ Below w.heap.size w w8) := ⟨hRt'.out _ b8, H7.out.2.2.trans (b8.mono H7.out.2.2.size)⟩; have d0 := (hCe'.out _ b8).1; have d1 := (hCe'.out _ b8).2.1; have d2 := (hCe'.out _ b8).2.2; clear b8 c0 c1 c2; cases fb)
      · refine ⟨⟨k + 1, (s1, s2), by omega, rfl, rfl, by simp, ⟨?_, H8.out⟩⟩, by simp [intOf]; omega⟩
        rw [Hs.out, Hu.out, if_neg (by simp)]
      · refine ⟨⟨k + 1, (rb, rh), by omega, rfl, rfl, by simp, ⟨?_, H8.out⟩⟩, by simp [intOf]; omega⟩
        rw [Hs.out, Hu.out, if_pos (by constructor <;> first | assumption | trivial)]
      · refine ⟨⟨k + 1, (s1, s2), by omega, rfl, rfl, by simp, ⟨?_, H8.out⟩⟩, by simp [intOf]; omega⟩
        rw [Hs.out, Hu.out, if_neg (by simp; assumption)]
    · obtain rfl : k = n := by omega
      have e1 : s2 = h := by
        have q := H7.out.1
        rw [List.take_of_length_le (by rw [Hn.out]; exact Nat.le_refl _)] at q
        have q2 := Hv.out
        unfold hopL at q2
        rw [← q] at q2
        exact q2
      subst e1
      go_wp2
      go_ret
      exact ⟨rfl, H7.out.2.2⟩
end Go.Proofs.Ythkeabnfhgnpjaa
