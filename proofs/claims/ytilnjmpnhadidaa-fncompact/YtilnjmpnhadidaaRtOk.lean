/-
  The walks of RoutesOk, the program's and the model's. By the verifier.
-/
import Derived.Test.YtilnjmpnhadidaaRtOrder
import Derived.Test.YtilnjmpnhadidaaQuiet
import Derived.BigQuiet
namespace Go.Proofs.Ytilnjmpnhadidaa
open Go.RowKit

theorem cmpV_in (a b : Int) : -1 ≤ cmpV a b ∧ cmpV a b ≤ 1 := by unfold cmpV; split <;> (try split) <;> omega
theorem ordV_lt (a b : Rt) : decide (ordV a b < 0) = a.lt b := by
  rw [Bool.eq_iff_iff, decide_eq_true_iff]
  unfold Rt.lt
  rw [decide_eq_true_iff]
  unfold ordV cmpV
  by_cases h1 : a.net < b.net <;> by_cases h2 : b.net < a.net <;> by_cases h3 : a.bits < b.bits <;> by_cases h4 : b.bits < a.bits <;> simp [h1, h2, h3, h4] <;> omega

set_option maxHeartbeats 1600000 in
theorem implOk (a0 : Option Addr) (cap : Nat) (l : List Rt) (w : World) (hT : l.length ≤ 1048576) (h : Hid (RtsAt w a0 l)) :
    Calls Try.prog 23 #[.slice a0 l.length cap] w fun e w' => e = .returned (.bool (rtsOk l)) ∧ Below w.heap.size w w' := by
  have Hok : Hid (rtsOk l = (decide (l.length ≤ 64) && goodTo l l.length)) := rfl
  obtain ⟨len, hlen⟩ : ∃ n, l.length = n := ⟨_, rfl⟩
  rw [hlen] at hT ⊢
  have Hlen : Hid (l.length = len) := hlen
  clear hlen
  by_cases h64 : 64 < len
  · have e : rtsOk l = false := by rw [Hok.out, Hlen.out]; simp; omega
    rw [e]
    clear e Hok
    go_enter Try.func23, Try.ntmps23
    go_wp2
    go_ret
    exact ⟨rfl, Below.refl _ _⟩
  have e : Hid (rtsOk l = goodTo l len) := by
    show rtsOk l = goodTo l len
    rw [Hok.out, Hlen.out]
    simp; omega
  clear Hok
  go_enter Try.func23, Try.ntmps23
  go_wp2
  go_loopw [10] (fun i wr => ∃ k : Nat, k ≤ len ∧ i = .int .i64 k ∧ Hid (goodTo l k = true) ∧ Hid (Below w.heap.size w wr)) (fun i _ => len - (intOf i).toNat)
  case atStart => exact ⟨0, Nat.zero_le _, rfl, rfl, Below.refl _ _⟩
  case round =>
    obtain ⟨k, hk, rfl, hg, hb⟩ := hrel
    by_cases hlt : k < len
    · have R : Hid (RtsAt wr a0 l) := h.out.below hb.out
      obtain ⟨b1, o1, ha1, hb1, -⟩ := R.out k (by rw [Hlen.out]; exact hlt)
      subst ha1
      have hc := cells_at R.out (k := k) (by rw [Hlen.out]; exact hlt)
      have hn := goodTo_succ l k
      have hh := fun g => goodTo_hit (l := l) (k := k) (n := len) hlt g
      have hgd : good l k = ((rtAt l k).ok && (decide (k = 0) || (rtAt l (k - 1)).lt (rtAt l k))) := rfl
      obtain ⟨W1, hW1⟩ : ∃ W, W = wr.alloc (.cells #[.int .i64 (rtAt l k).net, .int .i64 (rtAt l k).bits, .int .i64 (rtAt l k).hop] 53) := ⟨_, rfl⟩
      have hW1s : W1.heap.size = wr.heap.size + 1 := by rw [hW1]; simp
      have B1 : Hid (Below w.heap.size w W1) := by rw [hW1]; exact hb.out.alloc hb.out.size _
      have R1 : Hid (RtsAt W1 (some ⟨b1, o1, none⟩) l) := by rw [hW1]; exact R.out.alloc _
      have d0 : W1.cell? ⟨wr.heap.size, 0, none⟩ = some (.int .i64 (rtAt l k).net) := by rw [hW1]; simp
      have d1 : W1.cell? ⟨wr.heap.size, 1, none⟩ = some (.int .i64 (rtAt l k).bits) := by rw [hW1]; simp
      have d2 : W1.cell? ⟨wr.heap.size, 2, none⟩ = some (.int .i64 (rtAt l k).hop) := by rw [hW1]; simp
      have f0 := fun p : BelW W1.heap.size W1 => cell_of_below p.h (show (⟨wr.heap.size, 0, none⟩ : Addr).block < _ by show wr.heap.size < _; omega) d0
      have f1 := fun p : BelW W1.heap.size W1 => cell_of_below p.h (show (⟨wr.heap.size, 1, none⟩ : Addr).block < _ by show wr.heap.size < _; omega) d1
      have f2 := fun p : BelW W1.heap.size W1 => cell_of_below p.h (show (⟨wr.heap.size, 2, none⟩ : Addr).block < _ by show wr.heap.size < _; omega) d2
      have C := fun w => implRoute (rtAt l k) w
      have O := fun w => implOrder (rtAt l (k - 1)) (rtAt l k) w
      have hord := ordV_lt (rtAt l (k - 1)) (rtAt l k)
      have HW1 : Hid (W1 = _) := hW1
      have Hn : Hid _ := hn
      have Hh : Hid _ := hh
      have Hgd : Hid _ := hgd
      clear hW1 hn hh hgd d0 d1 d2 hW1s
      have hlt' : (k : Int) < (len : Int) := by omega
      haveI : Nonempty (BelW W1.heap.size W1) := ⟨⟨W1, Below.refl _ _⟩⟩
      cases hok : (rtAt l k).ok
      · rw [hok] at C
        have hbad : Hid (goodTo l len = false) := Hh.out (by rw [Hgd.out, hok]; rfl)
        clear hok Hn Hh Hgd O hord
        unfold Rt.val at C
        generalize rtAt l k = r at hc HW1 f0 f1 f2 C
        obtain ⟨hc0, hc1, hc2⟩ := hc
        go_wp2
        rw [← HW1.out]
        refine region_below W1.heap.size (by kernel_rfl) (by kernel_rfl) ?_
        repeat (go_big_quiet_step ((go_at_call 47; refine quiet_below (Nat.le_refl _) (C _))))
        refine wpQuiet_nil ?_
        intro wq hx
        have hq := BelW.out hx
        have B : Hid (Below w.heap.size w wq) := B1.out.trans (hq.mono B1.out.size)
        clear hx hq f0 f1 f2
        go_wp2
        go_ret
        exact ⟨ret_bool (by rw [e.out, hbad.out]), B.out⟩
      rw [hok] at C
      by_cases hk0 : k = 0
      · have hgood : Hid (goodTo l (k + 1) = true) := by
          show goodTo l (k + 1) = true
          rw [Hn.out, hg.out, Hgd.out, hok]; simp [hk0]
        clear hok Hn Hh Hgd O hord
        unfold Rt.val at C
        generalize rtAt l k = r at hc HW1 f0 f1 f2 C
        obtain ⟨hc0, hc1, hc2⟩ := hc
        subst hk0
        simp only [Nat.zero_mul, Nat.add_zero] at hc0 hc1 hc2
        go_wp2
        rw [← HW1.out]
        refine region_below W1.heap.size (by kernel_rfl) (by kernel_rfl) ?_
        repeat (go_big_quiet_step ((go_at_call 47; refine quiet_below (Nat.le_refl _) (C _))))
        refine wpQuiet_nil ?_
        intro wq hx
        have hq := BelW.out hx
        have B : Hid (Below w.heap.size w wq) := B1.out.trans (hq.mono B1.out.size)
        clear hx hq f0 f1 f2
        go_wp2
        go_roundw
        case rel => exact ⟨0 + 1, by omega, by go_num, hgood, B⟩
        case measure => simp [intOf]; omega
      · obtain ⟨j, rfl⟩ : ∃ j, k = j + 1 := ⟨k - 1, by omega⟩
        have g0 := fun p : BelW W1.heap.size W1 => (cells_at (R1.out.below p.h) (k := j) (by rw [Hlen.out]; omega)).1
        have g1 := fun p : BelW W1.heap.size W1 => (cells_at (R1.out.below p.h) (k := j) (by rw [Hlen.out]; omega)).2.1
        have g2 := fun p : BelW W1.heap.size W1 => (cells_at (R1.out.below p.h) (k := j) (by rw [Hlen.out]; omega)).2.2
        have hj0 : (0 : Int) < (j : Int) + 1 := by omega
        have hjl : (j : Int) < (len : Int) := by omega
        simp only [Nat.add_sub_cancel] at O hord Hgd
        have hgd2 : Hid (good l (j + 1) = decide (ordV (rtAt l j) (rtAt l (j + 1)) < 0)) := by
          show good l (j + 1) = decide (ordV (rtAt l j) (rtAt l (j + 1)) < 0)
          rw [Hgd.out, hok, hord]; simp
        clear hok Hgd hord
        generalize ordV (rtAt l j) (rtAt l (j + 1)) = z at O hgd2
        unfold Rt.val at C O
        generalize rtAt l (j + 1) = r at hc HW1 f0 f1 f2 C O
        generalize rtAt l j = r2 at g0 g1 g2 O
        obtain ⟨hc0, hc1, hc2⟩ := hc
        by_cases hz : z < 0
        · have hgood : Hid (goodTo l (j + 1 + 1) = true) := by
            show goodTo l (j + 1 + 1) = true
            rw [Hn.out, hg.out, hgd2.out]; simp [hz]
          clear Hn Hh hgd2
          have hz' : ¬ (0 ≤ z) := by omega
          go_wp2
          rw [← HW1.out]
          refine region_below W1.heap.size (by kernel_rfl) (by kernel_rfl) ?_
          repeat (go_big_quiet_step ((first | (go_at_call 47; refine quiet_below (Nat.le_refl _) (C _)) | (go_at_call 48; refine quiet_below (Nat.le_refl _) (O _)))))
          refine wpQuiet_nil ?_
          intro wq hx
          have hq := BelW.out hx
          have B : Hid (Below w.heap.size w wq) := B1.out.trans (hq.mono B1.out.size)
          clear hx hq f0 f1 f2 g0 g1 g2
          go_wp2
          go_roundw
          case rel => exact ⟨j + 1 + 1, by omega, by go_num, hgood, B⟩
          case measure => simp [intOf]; omega
        · have hbad : Hid (goodTo l len = false) := Hh.out (by rw [hgd2.out]; simp [hz])
          clear Hn Hh hgd2
          have hz' : 0 ≤ z := by omega
          go_wp2
          rw [← HW1.out]
          refine region_below W1.heap.size (by kernel_rfl) (by kernel_rfl) ?_
          repeat (go_big_quiet_step ((first | (go_at_call 47; refine quiet_below (Nat.le_refl _) (C _)) | (go_at_call 48; refine quiet_below (Nat.le_refl _) (O _)))))
          refine wpQuiet_nil ?_
          intro wq hx
          have hq := BelW.out hx
          have B : Hid (Below w.heap.size w wq) := B1.out.trans (hq.mono B1.out.size)
          clear hx hq f0 f1 f2 g0 g1 g2
          go_wp2
          go_ret
          exact ⟨ret_bool (by rw [e.out, hbad.out]), B.out⟩
    · obtain rfl : k = len := by omega
      go_wp2
      go_ret
      exact ⟨ret_bool (by rw [e.out, hg.out]), hb.out⟩
end Go.Proofs.Ytilnjmpnhadidaa
