import Derived.Test.YtgebghkcikmfaaaGreatDoorQJ1FrInner
import Derived.Test.YtgebghkcikmfaaaGreatDoorQJ2RuMatch
import Derived.Test.YtgebghkcikmfaaaGreatDoorQJ0NumUp
import Derived.BigQuiet
/-
  The walk of a right route, the model's. By the verifier.
-/
namespace Go.Proofs.YtgebghkcikmfaaaGreatDoor
open Go.RowKit

theorem specRoute (r : Rt) (w : World) :
    Calls Tryz.prog 140 #[r.val] w fun e w' => e = .returned (.bool r.ok) ∧ w' = w.alloc (.cells #[.int .i64 r.net, .int .i64 r.bits, .int .i64 r.hop] 132) := by
  unfold Rt.ok Rt.val
  obtain ⟨net, bits, hop⟩ := r
  simp only []
  have C := fun w => specNet net bits w
  have D := fun w => specIn hop 0 99 w
  cases hn : netB net bits
  · rw [hn] at C
    clear D hn
    go_enter Tryz.func140, Tryz.ntmps140
    go_wp2_with (go_at_call 209; refine (C _).mono ?_; rintro e w' ⟨rfl, rfl⟩)
    go_ret
    exact ⟨rfl, rfl⟩
  · rw [hn] at C
    clear hn
    generalize inB 0 99 hop = b at D ⊢
    go_enter Tryz.func140, Tryz.ntmps140
    go_wp2_with (first | (go_at_call 209; refine (C _).mono ?_; rintro e w' ⟨rfl, rfl⟩) | (go_at_call 72; refine (D _).mono ?_; rintro e w' ⟨rfl, rfl⟩))
    go_ret
    exact ⟨rfl, rfl⟩

end Go.Proofs.YtgebghkcikmfaaaGreatDoor

/-
  Small joins for routes. By the verifier.
-/
namespace Go.Proofs.YtgebghkcikmfaaaGreatDoor
open Go.RowKit

theorem cell_of_below {w w' : World} {n : Nat} (h : Below n w w') {p : Addr} (hp : p.block < n) {v : Value} (c : w.cell? p = some v) : w'.cell? p = some v := by
  rw [h.cell hp]; exact c
theorem ok_parts {r : Rt} (h : r.ok = true) : inB 0 32 r.bits = true ∧ (0 ≤ r.net ∧ r.net ≤ 4294967295) ∧ r.net % 2 ^ (32 - r.bits).toNat = 0 ∧ (0 ≤ r.hop ∧ r.hop ≤ 99) := by
  unfold Rt.ok netB at h
  simp only [Bool.and_eq_true, decide_eq_true_eq, inB_true] at h
  obtain ⟨⟨h1, h2, h3⟩, h4⟩ := h
  exact ⟨by rw [inB_true]; exact h1, h2, h3, h4⟩
end Go.Proofs.YtgebghkcikmfaaaGreatDoor

/-
  The walk of the model's RoutesOk. By the verifier.
-/
namespace Go.Proofs.YtgebghkcikmfaaaGreatDoor
open Go.RowKit

theorem lt_false {a b : Rt} (h : a.lt b = false) : b.net < a.net ∨ b.net = a.net ∧ b.bits ≤ a.bits := by
  unfold Rt.lt at h
  rw [decide_eq_false_iff_not] at h
  omega
theorem lt_true {a b : Rt} (h : a.lt b = true) : a.net < b.net ∨ a.net = b.net ∧ a.bits < b.bits := by
  unfold Rt.lt at h
  rw [decide_eq_true_iff] at h
  exact h

set_option maxHeartbeats 1600000 in
theorem specOk (a0 : Option Addr) (cap : Nat) (l : List Rt) (w : World) (hT : l.length ≤ 1048576) (h : Hid (RtsAt w a0 l)) :
    Calls Tryz.prog 67 #[.slice a0 l.length cap] w fun e w' => e = .returned (.bool (rtsOk l)) ∧ Below w.heap.size w w' := by
  have Hok : Hid (rtsOk l = (decide (l.length ≤ 64) && goodTo l l.length)) := rfl
  obtain ⟨len, hlen⟩ : ∃ n, l.length = n := ⟨_, rfl⟩
  rw [hlen] at hT ⊢
  have Hlen : Hid (l.length = len) := hlen
  clear hlen
  by_cases h64 : 64 < len
  · have e : rtsOk l = false := by rw [Hok.out, Hlen.out]; simp; omega
    rw [e]
    clear e Hok
    go_enter Tryz.func67, Tryz.ntmps67
    go_wp2
    go_ret
    exact ⟨rfl, Below.refl _ _⟩
  have e : Hid (rtsOk l = goodTo l len) := by
    show rtsOk l = goodTo l len
    rw [Hok.out, Hlen.out]
    simp; omega
  clear Hok
  go_enter Tryz.func67, Tryz.ntmps67
  go_wp2
  go_loopw [3] (fun i wr => ∃ k : Nat, k ≤ len ∧ i = .int .i64 k ∧ Hid (goodTo l k = true) ∧ Hid (Below w.heap.size w wr)) (fun i _ => len - (intOf i).toNat)
  case atStart => exact ⟨0, Nat.zero_le _, rfl, rfl, Below.refl _ _⟩
  case round =>
    obtain ⟨k, hk, rfl, hg, hb⟩ := hrel
    by_cases hlt : k < len
    · have R : Hid (RtsAt wr a0 l) := h.out.below hb.out
      obtain ⟨b1, o1, ha1, hb1, -⟩ := R.out k (by rw [Hlen.out]; exact hlt)
      subst ha1
      have hc := cells_at R.out (k := k) (by rw [Hlen.out]; exact hlt)
      have hn := goodTo_succ l k
      have hh := fun g => goodTo_hit (l := l) (k := k) (n := len) hlt g
      have hgd : good l k = ((rtAt l k).ok && (decide (k = 0) || (rtAt l (k - 1)).lt (rtAt l k))) := rfl
      have hlt' : (k : Int) < (len : Int) := by omega
      have C := fun w => specRoute (rtAt l k) w
      have Hn : Hid _ := hn
      have Hh : Hid _ := hh
      have Hgd : Hid _ := hgd
      clear hn hh hgd
      obtain ⟨hc0, hc1, hc2⟩ := hc
      have hcell : Hid (∀ W2 : World, W2 = (wr.alloc (.cells #[.int .i64 (rtAt l k).net, .int .i64 (rtAt l k).bits, .int .i64 (rtAt l k).hop] 132)).alloc (.cells #[.int .i64 (rtAt l k).net, .int .i64 (rtAt l k).bits, .int .i64 (rtAt l k).hop] 132) → Below w.heap.size w W2 ∧ RtsAt W2 (some ⟨b1, o1, none⟩) l ∧ wr.heap.size < W2.heap.size ∧ W2.cell? ⟨wr.heap.size, 0, none⟩ = some (.int .i64 (rtAt l k).net) ∧ W2.cell? ⟨wr.heap.size, 1, none⟩ = some (.int .i64 (rtAt l k).bits)) := by
        show ∀ W2 : World, _ → _
        rintro W2 rfl
        exact ⟨bel_alloc (hb.out.alloc hb.out.size _) (Nat.le_refl _) _, (R.out.alloc _).alloc _, by simp; omega, by simp, by simp⟩
      cases hok : (rtAt l k).ok
      · rw [hok] at C
        have hbad : Hid (goodTo l len = false) := Hh.out (by rw [Hgd.out, hok]; rfl)
        clear hok Hn Hh Hgd
        unfold Rt.val at C
        generalize rtAt l k = r at hc0 hc1 hc2 C hcell
        go_wp2_with (go_at_call 140; refine (C _).mono ?_; rintro e w' ⟨rfl, rfl⟩)
        go_ret
        exact ⟨ret_bool (by rw [e.out, hbad.out]), (hcell.out _ rfl).1⟩
      rw [hok] at C
      unfold Rt.val at C
      obtain ⟨W2, hW2⟩ : ∃ W2 : World, W2 = (wr.alloc (.cells #[.int .i64 (rtAt l k).net, .int .i64 (rtAt l k).bits, .int .i64 (rtAt l k).hop] 132)).alloc (.cells #[.int .i64 (rtAt l k).net, .int .i64 (rtAt l k).bits, .int .i64 (rtAt l k).hop] 132) := ⟨_, rfl⟩
      obtain ⟨B2, R2, s2, x0, x1⟩ := hcell.out W2 hW2
      have HB2 : Hid (Below w.heap.size w W2) := B2
      have f0 := fun p : BelW W2.heap.size W2 => cell_of_below p.h (show (⟨wr.heap.size, 0, none⟩ : Addr).block < _ from s2) x0
      have f1 := fun p : BelW W2.heap.size W2 => cell_of_below p.h (show (⟨wr.heap.size, 1, none⟩ : Addr).block < _ from s2) x1
      have HR2 : Hid (RtsAt W2 (some ⟨b1, o1, none⟩) l) := R2
      have HW2 : Hid _ := hW2
      haveI : Nonempty (BelW W2.heap.size W2) := ⟨⟨W2, Below.refl _ _⟩⟩
      clear hcell B2 R2 s2 x0 x1 hW2
      by_cases hk0 : k = 0
      · have hgood : Hid (goodTo l (k + 1) = true) := by
          show goodTo l (k + 1) = true
          rw [Hn.out, hg.out, Hgd.out, hok]; simp [hk0]
        clear hok Hn Hh Hgd
        generalize rtAt l k = r at hc0 hc1 hc2 C f0 f1 HW2
        subst hk0
        simp only [Nat.zero_mul, Nat.add_zero] at hc0 hc1 hc2
        go_wp2_with (go_at_call 140; refine (C _).mono ?_; rintro e w' ⟨rfl, rfl⟩)
        rw [← HW2.out]
        refine region_below W2.heap.size (by kernel_rfl) (by kernel_rfl) ?_
        repeat (go_big_quiet_step (fail))
        refine wpQuiet_nil ?_
        intro wq hx
        have hq := BelW.out hx
        have B : Hid (Below w.heap.size w wq) := HB2.out.trans (hq.mono HB2.out.size)
        clear hx hq f0 f1
        go_wp2
        go_roundw
        case rel => exact ⟨0 + 1, by omega, by go_num, hgood, B⟩
        case measure => simp [intOf]; omega
      · obtain ⟨j, rfl⟩ : ∃ j, k = j + 1 := ⟨k - 1, by omega⟩
        have g0 := fun p : BelW W2.heap.size W2 => (cells_at (HR2.out.below p.h) (k := j) (by rw [Hlen.out]; omega)).1
        have g1 := fun p : BelW W2.heap.size W2 => (cells_at (HR2.out.below p.h) (k := j) (by rw [Hlen.out]; omega)).2.1
        have hj0 : (0 : Int) < (j : Int) + 1 := by omega
        have hjl : (j : Int) < (len : Int) := by omega
        simp only [Nat.add_sub_cancel] at Hgd
        cases hL : (rtAt l j).lt (rtAt l (j + 1))
        · have hbad : Hid (goodTo l len = false) := Hh.out (by rw [Hgd.out, hok, hL]; simp)
          have hz := lt_false hL
          clear hok Hn Hh Hgd hL
          generalize rtAt l (j + 1) = r at hc0 hc1 hc2 C f0 f1 HW2 hz
          generalize rtAt l j = r2 at g0 g1 hz
          by_cases hz1 : r.net < r2.net
          · go_wp2_with (go_at_call 140; refine (C _).mono ?_; rintro e w' ⟨rfl, rfl⟩)
            rw [← HW2.out]
            refine region_below W2.heap.size (by kernel_rfl) (by kernel_rfl) ?_
            repeat (go_big_quiet_step (fail))
            refine wpQuiet_nil ?_
            intro wq hx
            have hq := BelW.out hx
            have B : Hid (Below w.heap.size w wq) := HB2.out.trans (hq.mono HB2.out.size)
            clear hx hq f0 f1 g0 g1
            go_wp2
            go_ret
            exact ⟨ret_bool (by rw [e.out, hbad.out]), B.out⟩
          · have hz2 : r.net = r2.net := by omega
            have hz3 : r.bits ≤ r2.bits := by omega
            clear hz
            obtain ⟨rn, rb, rh⟩ := r
            obtain ⟨qn, qb, qh⟩ := r2
            simp only [] at hz1 hz2 hz3 hc0 hc1 hc2 C f0 f1 g0 g1 HW2
            subst hz2
            have hz4 : ¬ rn < rn := by omega
            go_wp2_with (go_at_call 140; refine (C _).mono ?_; rintro e w' ⟨rfl, rfl⟩)
            rw [← HW2.out]
            refine region_below W2.heap.size (by kernel_rfl) (by kernel_rfl) ?_
            repeat (go_big_quiet_step (fail))
            refine wpQuiet_nil ?_
            intro wq hx
            have hq := BelW.out hx
            have B : Hid (Below w.heap.size w wq) := HB2.out.trans (hq.mono HB2.out.size)
            clear hx hq f0 f1 g0 g1
            go_wp2
            go_ret
            exact ⟨ret_bool (by rw [e.out, hbad.out]), B.out⟩
        · have hgood : Hid (goodTo l (j + 1 + 1) = true) := by
            show goodTo l (j + 1 + 1) = true
            rw [Hn.out, hg.out, Hgd.out, hok, hL]; simp
          have hz := lt_true hL
          clear hok Hn Hh Hgd hL
          generalize rtAt l (j + 1) = r at hc0 hc1 hc2 C f0 f1 HW2 hz
          generalize rtAt l j = r2 at g0 g1 hz
          have hz0 : ¬ r.net < r2.net := by omega
          by_cases hz2 : r.net = r2.net
          · have hz3 : ¬ r.bits ≤ r2.bits := by omega
            clear hz
            obtain ⟨rn, rb, rh⟩ := r
            obtain ⟨qn, qb, qh⟩ := r2
            simp only [] at hz0 hz2 hz3 hc0 hc1 hc2 C f0 f1 g0 g1 HW2
            subst hz2
            go_wp2_with (go_at_call 140; refine (C _).mono ?_; rintro e w' ⟨rfl, rfl⟩)
            rw [← HW2.out]
            refine region_below W2.heap.size (by kernel_rfl) (by kernel_rfl) ?_
            repeat (go_big_quiet_step (fail))
            refine wpQuiet_nil ?_
            intro wq hx
            have hq := BelW.out hx
            have B : Hid (Below w.heap.size w wq) := HB2.out.trans (hq.mono HB2.out.size)
            clear hx hq f0 f1 g0 g1
            go_wp2
            go_roundw
            case rel => exact ⟨j + 1 + 1, by omega, by go_num, hgood, B⟩
            case measure => simp [intOf]; omega
          · clear hz
            have hz3 : (r.net == r2.net) = false := by simp [hz2]
            have hz4 : decide (r.net < r2.net) = false := by simp; omega
            go_wp2_with (go_at_call 140; refine (C _).mono ?_; rintro e w' ⟨rfl, rfl⟩)
            rw [← HW2.out]
            refine region_below W2.heap.size (by kernel_rfl) (by kernel_rfl) ?_
            repeat (go_big_quiet_step (fail))
            refine wpQuiet_nil ?_
            intro wq hx
            have hq := BelW.out hx
            have B : Hid (Below w.heap.size w wq) := HB2.out.trans (hq.mono HB2.out.size)
            clear hx hq f0 f1 g0 g1
            go_wp2
            go_roundw
            case rel => exact ⟨j + 1 + 1, by omega, by go_num, hgood, B⟩
            case measure => simp [intOf]; omega
    · obtain rfl : k = len := by omega
      go_wp2
      go_ret
      exact ⟨ret_bool (by rw [e.out, hg.out]), hb.out⟩
end Go.Proofs.YtgebghkcikmfaaaGreatDoor
