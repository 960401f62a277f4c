/-
  The walk of slices.BinarySearchFunc at right routes, by the program's own order. By the verifier.
-/
import Derived.Test.YtilnjmpnhadidaaRtOk
import Derived.Test.YtilnjmpnhadidaaRtPutS
namespace Go.Proofs.Ytilnjmpnhadidaa
open Go.RowKit

theorem lt_trans {a b c : Rt} (h1 : a.lt b = true) (h2 : b.lt c = true) : a.lt c = true := by
  have := lt_iff.1 h1
  have := lt_iff.1 h2
  exact lt_iff.2 (by omega)
theorem search_up {l : List Rt} {r : Rt} {h : Nat} (hs : l.Pairwise fun a b => a.lt b = true) (hh : h < l.length) (hlt : (rtAt l h).lt r = true) : h < insN l r := by
  apply Classical.byContradiction
  intro hn
  have hK : insN l r < l.length := by omega
  have h1 := insN_hit hK
  by_cases e : insN l r = h
  · rw [e] at h1; rw [h1] at hlt; cases hlt
  · have h2 := List.pairwise_iff_getElem.1 hs (insN l r) h hK hh (by omega)
    rw [rtAt_lt hK] at h1
    rw [rtAt_lt hh] at hlt
    rw [lt_trans h2 hlt] at h1
    cases h1
theorem search_down {l : List Rt} {r : Rt} {h : Nat} (hlt : (rtAt l h).lt r = false) : insN l r ≤ h := by
  apply Classical.byContradiction
  intro hn
  rw [insN_lt (by omega)] at hlt
  cases hlt
theorem ordV_zero {a b : Rt} : ordV a b = 0 ↔ a.net = b.net ∧ a.bits = b.bits := by
  unfold ordV cmpV
  by_cases h1 : a.net < b.net <;> by_cases h2 : b.net < a.net <;> by_cases h3 : a.bits < b.bits <;> by_cases h4 : b.bits < a.bits <;> simp [h1, h2, h3, h4] <;> omega
/-- Is it there? -/
def thereB (l : List Rt) (r : Rt) : Bool := decide (insN l r < l.length) && decide (ordV (rtAt l (insN l r)) r = 0)
theorem there_at {l : List Rt} {r : Rt} (hs : l.Pairwise fun a b => a.lt b = true) : (thereB l r = true ↔ atN l r.net r.bits < l.length) ∧ (atN l r.net r.bits < l.length → atN l r.net r.bits = insN l r) := by
  have k1 : atN l r.net r.bits < l.length → atN l r.net r.bits = insN l r := by
    intro h
    have hh := atN_hit h
    have a1 : (rtAt l (atN l r.net r.bits)).lt r = false := by
      unfold Rt.lt
      rw [decide_eq_false_iff_not]
      omega
    have h1 := search_down a1
    apply Classical.byContradiction
    intro hne
    have hK : insN l r < atN l r.net r.bits := by omega
    have h2 := insN_hit (l := l) (r := r) (by omega)
    have h3 := List.pairwise_iff_getElem.1 hs (insN l r) (atN l r.net r.bits) (by omega) h hK
    rw [rtAt_lt (by omega)] at h2
    rw [rtAt_lt h] at hh
    have h4 := lt_iff.1 h3
    unfold Rt.lt at h2
    rw [decide_eq_false_iff_not] at h2
    omega
  refine ⟨?_, k1⟩
  unfold thereB
  rw [Bool.and_eq_true, decide_eq_true_iff, decide_eq_true_iff]
  constructor
  · rintro ⟨h1, h2⟩
    apply Classical.byContradiction
    intro hn
    have := atN_miss (l := l) (net := r.net) (bits := r.bits) (k := insN l r) (by omega)
    exact this (ordV_zero.1 h2)
  · intro h
    have e := k1 h
    exact ⟨by omega, by rw [← e]; exact ordV_zero.2 (atN_hit h)⟩

set_option maxHeartbeats 1600000 in
theorem implSearch (a : Option Addr) (cap : Nat) (l : List Rt) (r : Rt) (w : World) (hT : l.length ≤ 64) (hs : Hid (l.Pairwise fun a b => a.lt b = true)) (h : Hid (RtsAt w a l)) :
    Calls Try.prog 60 #[.slice a l.length cap, r.val, .func (.func 48) #[] #[]] w fun e w' => e = .returned (.tuple #[.int .i64 (insN l r : Int), .bool (thereB l r)]) ∧ Below w.heap.size w w' := by
  have HT : Hid (thereB l r = (decide (insN l r < l.length) && decide (ordV (rtAt l (insN l r)) r = 0))) := rfl
  obtain ⟨W0, hW0⟩ : ∃ W, W = w.alloc (.cells #[.int .i64 r.net, .int .i64 r.bits, .int .i64 r.hop] 53) := ⟨_, rfl⟩
  have HW : Hid (RtsAt W0 a l ∧ Below w.heap.size w W0 ∧ Boxed W0 w.heap.size #[.int .i64 r.net, .int .i64 r.bits, .int .i64 r.hop] 53) := by
    rw [hW0]
    exact ⟨h.out.alloc _, (Below.refl _ _).alloc (Nat.le_refl _) _, Boxed.new _ _ _⟩
  have HW0 : Hid (W0 = _) := hW0
  clear hW0
  obtain ⟨K, hK⟩ : ∃ K, insN l r = K := ⟨_, rfl⟩
  have HK : Hid (insN l r = K) := hK
  have hKl : K ≤ l.length := by rw [← hK]; exact insN_le _ _
  obtain ⟨len, hlen⟩ : ∃ n, l.length = n := ⟨_, rfl⟩
  have Hlen : Hid (l.length = len) := hlen
  rw [hlen] at hT hKl ⊢
  rw [hK]
  obtain ⟨tb, htb⟩ : ∃ b, thereB l r = b := ⟨_, rfl⟩
  rw [htb]
  have HTB : Hid (tb = (decide (K < len) && decide (ordV (rtAt l K) r = 0))) := by
    show tb = _
    rw [← htb, HT.out, hK, hlen]
  clear hK hlen htb HT
  unfold Rt.val
  go_enter Try.func60, Try.ntmps60
  go_wp2
  rw [← HW0.out]
  go_loopw [9, 10] (fun i j wr => ∃ i0 j0 : Nat, i0 ≤ K ∧ K ≤ j0 ∧ j0 ≤ len ∧ i = .int .i64 i0 ∧ j = .int .i64 j0 ∧ Hid (Below W0.heap.size W0 wr)) (fun i j _ => (intOf j).toNat - (intOf i).toNat)
  case atStart => exact ⟨0, len, Nat.zero_le _, hKl, Nat.le_refl _, rfl, rfl, Below.refl _ _⟩
  case round =>
    obtain ⟨i0, j0, hi0, hj0, hjl, rfl, rfl, HB⟩ := hrel
    have x0 := fun p : BelW wr.heap.size wr => cell_of_below (HB.out.trans (p.h.mono HB.out.size)) (show (⟨w.heap.size, 0, none⟩ : Addr).block < _ from HW.out.2.2.under) (HW.out.2.2.cell 0 rfl)
    have x1 := fun p : BelW wr.heap.size wr => cell_of_below (HB.out.trans (p.h.mono HB.out.size)) (show (⟨w.heap.size, 1, none⟩ : Addr).block < _ from HW.out.2.2.under) (HW.out.2.2.cell 1 rfl)
    have x2 := fun p : BelW wr.heap.size wr => cell_of_below (HB.out.trans (p.h.mono HB.out.size)) (show (⟨w.heap.size, 2, none⟩ : Addr).block < _ from HW.out.2.2.under) (HW.out.2.2.cell 2 rfl)
    have f0 : ∀ p : BelW wr.heap.size wr, p.w'.cell? ⟨w.heap.size, 0, none⟩ = some (.int .i64 r.net) := x0
    have f1 : ∀ p : BelW wr.heap.size wr, p.w'.cell? ⟨w.heap.size, 1, none⟩ = some (.int .i64 r.bits) := x1
    have f2 : ∀ p : BelW wr.heap.size wr, p.w'.cell? ⟨w.heap.size, 2, none⟩ = some (.int .i64 r.hop) := x2
    clear x0 x1 x2
    haveI : Nonempty (BelW wr.heap.size wr) := ⟨⟨wr, Below.refl _ _⟩⟩
    by_cases hij : i0 < j0
    · obtain ⟨m, hm⟩ : ∃ m, (i0 + j0) / 2 = m := ⟨_, rfl⟩
      have hm1 : i0 ≤ m ∧ m < j0 := by omega
      have hml : m < len := by omega
      obtain ⟨b1, o1, ha1, hb1, -⟩ := HW.out.1 m (by rw [Hlen.out]; exact hml)
      subst ha1
      have g0 := fun p : BelW wr.heap.size wr => (cells_at (HW.out.1.below (HB.out.trans (p.h.mono HB.out.size))) (k := m) (by rw [Hlen.out]; exact hml)).1
      have g1 := fun p : BelW wr.heap.size wr => (cells_at (HW.out.1.below (HB.out.trans (p.h.mono HB.out.size))) (k := m) (by rw [Hlen.out]; exact hml)).2.1
      have g2 := fun p : BelW wr.heap.size wr => (cells_at (HW.out.1.below (HB.out.trans (p.h.mono HB.out.size))) (k := m) (by rw [Hlen.out]; exact hml)).2.2
      have O := fun w => implOrder (rtAt l m) r w
      have up : Hid (ordV (rtAt l m) r < 0 → m + 1 ≤ K) := by
        show _ → _
        intro hz
        have := search_up (r := r) hs.out (h := m) (by rw [Hlen.out]; exact hml) (by rw [← ordV_lt]; exact decide_eq_true hz)
        rw [HK.out] at this
        omega
      have down : Hid (¬ ordV (rtAt l m) r < 0 → K ≤ m) := by
        show _ → _
        intro hz
        have := search_down (l := l) (r := r) (h := m) (by rw [← ordV_lt]; exact decide_eq_false hz)
        rwa [HK.out] at this
      generalize ordV (rtAt l m) r = z at O up down
      unfold Rt.val at O
      generalize rtAt l m = y at g0 g1 g2 O
      have hml' : (m : Int) < (len : Int) := by omega
      have hm' : ((i0 : Int) + (j0 : Int)) / 2 = (m : Int) := by omega
      clear hm
      by_cases hz : z < 0
      · have hd : decide (z < 0) = true := by simp [hz]
        have hK1 := up.out hz
        clear up down hz
        go_wp2

        refine region_below wr.heap.size (by kernel_rfl) (by kernel_rfl) ?_
        repeat (go_big_quiet_step ((go_at_call 48; refine quiet_below (Nat.le_refl _) (O _))))
        refine wpQuiet_nil ?_
        intro wq hx
        have hq := BelW.out hx
        have HB2 : Hid (Below W0.heap.size W0 wq) := HB.out.trans (hq.mono HB.out.size)
        clear hx hq f0 f1 f2 g0 g1 g2 O
        go_wp2
        go_roundw
        case rel => exact ⟨m + 1, j0, by omega, hj0, hjl, by go_num, rfl, HB2⟩
        case measure => simp [intOf]; omega
      · have hd : decide (z < 0) = false := by simp [hz]
        have hK1 := down.out hz
        clear up down hz
        go_wp2
        refine region_below wr.heap.size (by kernel_rfl) (by kernel_rfl) ?_
        repeat (go_big_quiet_step ((go_at_call 48; refine quiet_below (Nat.le_refl _) (O _))))
        refine wpQuiet_nil ?_
        intro wq hx
        have hq := BelW.out hx
        have HB2 : Hid (Below W0.heap.size W0 wq) := HB.out.trans (hq.mono HB.out.size)
        clear hx hq f0 f1 f2 g0 g1 g2 O
        go_wp2
        go_roundw
        case rel => exact ⟨i0, m, hi0, hK1, by omega, rfl, rfl, HB2⟩
        case measure => simp [intOf]; omega
    · obtain rfl : i0 = K := by omega
      obtain rfl : j0 = i0 := by omega
      by_cases hlt : j0 < len
      · obtain ⟨b1, o1, ha1, hb1, -⟩ := HW.out.1 j0 (by rw [Hlen.out]; exact hlt)
        subst ha1
        have g0 := fun p : BelW wr.heap.size wr => (cells_at (HW.out.1.below (HB.out.trans (p.h.mono HB.out.size))) (k := j0) (by rw [Hlen.out]; exact hlt)).1
        have g1 := fun p : BelW wr.heap.size wr => (cells_at (HW.out.1.below (HB.out.trans (p.h.mono HB.out.size))) (k := j0) (by rw [Hlen.out]; exact hlt)).2.1
        have g2 := fun p : BelW wr.heap.size wr => (cells_at (HW.out.1.below (HB.out.trans (p.h.mono HB.out.size))) (k := j0) (by rw [Hlen.out]; exact hlt)).2.2
        have O := fun w => implOrder (rtAt l j0) r w
        have htb : Hid (tb = (ordV (rtAt l j0) r == 0)) := by
          show tb = _
          rw [HTB.out, decide_eq_true hlt, Bool.true_and]
          rw [Bool.eq_iff_iff, decide_eq_true_iff, beq_iff_eq]
        generalize ordV (rtAt l j0) r = z at O htb
        unfold Rt.val at O
        generalize rtAt l j0 = y at g0 g1 g2 O
        have hlt' : (j0 : Int) < (len : Int) := by omega
        have hd : decide ((j0 : Int) < (len : Int)) = true := by simp [hlt]
        clear HTB
        go_wp2
        refine region_below wr.heap.size (by kernel_rfl) (by kernel_rfl) ?_
        repeat (go_big_quiet_step ((go_at_call 48; refine quiet_below (Nat.le_refl _) (O _))))
        refine wpQuiet_nil ?_
        intro wq hx
        have hq := BelW.out hx
        have HB2 : Hid (Below w.heap.size w wq) := HW.out.2.1.trans ((HB.out.trans (hq.mono HB.out.size)).mono HW.out.2.1.size)
        clear hx hq f0 f1 f2 g0 g1 g2 O
        go_wp2
        go_ret2
        exact ⟨by rw [htb.out]; rfl, HB2.out⟩
      · have hd : decide ((j0 : Int) < (len : Int)) = false := by simp; omega
        have htb : Hid (tb = false) := by
          show tb = _
          rw [HTB.out, decide_eq_false hlt, Bool.false_and]
        clear HTB
        go_wp2
        refine region_below wr.heap.size (by kernel_rfl) (by kernel_rfl) ?_
        repeat (go_big_quiet_step (fail))
        refine wpQuiet_nil ?_
        intro wq hx
        have hq := BelW.out hx
        have HB2 : Hid (Below w.heap.size w wq) := HW.out.2.1.trans ((HB.out.trans (hq.mono HB.out.size)).mono HW.out.2.1.size)
        clear hx hq f0 f1 f2
        go_wp2
        go_ret2
        exact ⟨by rw [htb.out]; rfl, HB2.out⟩
end Go.Proofs.Ytilnjmpnhadidaa
