/-
  The walks of the program's first, rest and price. By the verifier.
-/
import Derived.Test.YtllmkolchgmjoaaFsJoin
namespace Go.Proofs.Ytllmkolchgmjoaa
open Go.RowKit

set_option maxHeartbeats 1600000 in
theorem implFirst (a : Option Addr) (cap : Nat) (l : List Int) (w : World) (h0 : 0 < l.length) (hT : l.length ≤ 1048576) (h : IntsAt w a l) :
    Calls Try.prog 34 #[.slice a l.length cap] w fun e w' => e = .returned (.int .i64 (szAt l 0)) ∧ w' = w := by
  obtain ⟨b, off, ha, hb, c0⟩ := h 0 h0
  subst ha
  have e0 : l[0]?.getD 0 = szAt l 0 := rfl
  rw [e0, Nat.add_zero] at c0
  generalize szAt l 0 = z at c0 ⊢
  obtain ⟨n, hn⟩ : ∃ n, l.length = n := ⟨_, rfl⟩
  rw [hn] at h0 hT ⊢
  clear h hn e0
  have h1 : (0 : Int) < (n : Int) := by omega
  go_enter Try.func34, Try.ntmps34
  go_wp2
  go_ret
  exact ⟨rfl, rfl⟩

theorem ints_drop {w : World} {b off : Nat} {l : List Int} (h : IntsAt w (some ⟨b, off, none⟩) l) : IntsAt w (some ⟨b, off + 1, none⟩) (l.drop 1) := by
  intro k hk
  rw [List.length_drop] at hk
  obtain ⟨b', off', e, hb, c⟩ := h (k + 1) (by omega)
  cases e
  refine ⟨_, _, rfl, hb, ?_⟩
  rw [show off + 1 + k = off + (k + 1) by omega, c, List.getElem?_drop, Nat.add_comm 1 k]
set_option maxHeartbeats 1600000 in
theorem implRest (a : Option Addr) (cap : Nat) (l : List Int) (w : World) (h0 : 0 < l.length) (hT : l.length ≤ 1048576) (hc : l.length ≤ cap) (h : IntsAt w a l) :
    Calls Try.prog 63 #[.slice a l.length cap] w fun e w' => ∃ v, e = .returned v ∧ IRow w.heap.size w' v (l.drop 1) ∧ Below w.heap.size w w' := by
  obtain ⟨b, off, ha, hb, c0⟩ := h 0 h0
  subst ha
  have C := fun a cap h => implCopyN a cap (l.drop 1) w h (by rw [List.length_drop]; omega)
  have hd := ints_drop h
  have hl : Hid (cap = 1 → l.drop 1 = []) := fun e => List.eq_nil_of_length_eq_zero (by rw [List.length_drop]; omega)
  obtain ⟨n, hn⟩ : ∃ n, l.length = n + 1 := ⟨l.length - 1, by omega⟩
  rw [hn] at h0 hT hc ⊢
  rw [List.length_drop, hn, Nat.add_sub_cancel] at C
  have C' : Hid _ := C
  have HD : Hid _ := hd
  clear C hd hn h c0
  have h1 : (1 : Int) ≤ (n : Int) + 1 := by omega
  have h2 : (0 : Int) ≤ (n : Int) := by omega
  have h3 : ((n : Int) + 1) ≤ (cap : Int) := by omega
  by_cases hck : cap = 1
  · subst hck
    obtain rfl : n = 0 := by omega
    have HT0 : Hid (IntsAt w (some ⟨b, off, none⟩) (l.drop 1)) := by
      show IntsAt _ _ _
      rw [hl.out rfl]
      intro k hk
      simp at hk
    go_enter Try.func63, Try.ntmps63
    go_wp2_with fail
    refine (C'.out _ _ HT0).mono ?_
    rintro e w' ⟨v, rfl, q1, q2⟩
    have R : Hid (IRow w.heap.size w' v (l.drop 1) ∧ Below w.heap.size w w') := ⟨q1, q2⟩
    clear q1 q2
    go_wp2
    go_ret
    exact ⟨_, rfl, R.out⟩
  · have hck' : (cap = 1) = False := by simp [hck]
    go_enter Try.func63, Try.ntmps63
    go_wp2_with fail
    refine (C'.out _ _ HD).mono ?_
    rintro e w' ⟨v, rfl, q1, q2⟩
    have R : Hid (IRow w.heap.size w' v (l.drop 1) ∧ Below w.heap.size w w') := ⟨q1, q2⟩
    clear q1 q2
    go_wp2
    go_ret
    exact ⟨_, rfl, R.out⟩

theorem price_of {s t : Int} (h1 : 1 ≤ t) (h2 : t ≤ 10) : Int.tdiv (s * 2520) t = s * (2520 / t) := by
  have : t = 1 ∨ t = 2 ∨ t = 3 ∨ t = 4 ∨ t = 5 ∨ t = 6 ∨ t = 7 ∨ t = 8 ∨ t = 9 ∨ t = 10 := by omega
  have key : ∀ (d q : Int), 0 < d → d * q = 2520 → Int.tdiv (s * 2520) d = s * (2520 / d) := fun d q hd e => by
    rw [← e, Int.mul_ediv_cancel_left _ (by omega), show s * (d * q) = d * (s * q) by rw [Int.mul_left_comm], Int.mul_tdiv_cancel_left _ (by omega)]
  rcases this with rfl | rfl | rfl | rfl | rfl | rfl | rfl | rfl | rfl | rfl
  · exact key 1 2520 (by omega) (by omega)
  · exact key 2 1260 (by omega) (by omega)
  · exact key 3 840 (by omega) (by omega)
  · exact key 4 630 (by omega) (by omega)
  · exact key 5 504 (by omega) (by omega)
  · exact key 6 420 (by omega) (by omega)
  · exact key 7 360 (by omega) (by omega)
  · exact key 8 315 (by omega) (by omega)
  · exact key 9 280 (by omega) (by omega)
  · exact key 10 252 (by omega) (by omega)

set_option maxHeartbeats 3200000 in
set_option maxRecDepth 100000 in
theorem implPrice (x : Fw) (a : Option Addr) (c : Nat) (w : World) (hk : x.ok = true) (h0 : 0 < x.sizes.length) (h : IntsAt w a x.sizes) :
    Calls Try.prog 62 #[x.pay a c] w fun e w' => e = .returned (.int .i64 x.cost) ∧ Below w.heap.size w w' := by
  have h1 := Fw.ok_iff.1 hk
  have hT : x.sizes.length ≤ 1048576 := by have := h1.2.2.1; omega
  have C := fun w h => implFirst a c x.sizes w h0 hT h
  have hc := (Fs.cost_in hk h0).2
  have hp := price_of (s := szAt x.sizes 0) h1.1.1 h1.1.2
  have e : x.cost = szAt x.sizes 0 * (2520 / x.weight) := rfl
  rw [← e] at hp
  have HI : Hid (∀ w', Below w.heap.size w w' → IntsAt w' a x.sizes) := fun w' g => h.below g
  generalize x.cost = K at hc hp ⊢
  generalize szAt x.sizes 0 = s at C hc hp
  obtain ⟨t, u, fl⟩ := x
  simp only [Fw.pay] at C hp HI h1 ⊢
  generalize fl.length = n at C ⊢
  obtain ⟨⟨t1, t2⟩, -⟩ := h1
  obtain ⟨⟨s1, s2⟩, k1, k2⟩ := hc
  have C' : Hid _ := C
  clear C h hT h0 e
  have kw : IntKind.i64.wrap (s * 2520) = s * 2520 := by rw [IntKind.wrap_i64]; omega
  have kw2 : IntKind.i64.wrap K = K := by rw [IntKind.wrap_i64]; omega
  have tz : ¬ t = 0 := by omega
  have tz' : (t == 0) = false := by simpa using tz
  obtain ⟨W, hW⟩ : ∃ W, W = w.alloc (.cells #[.slice a n c, .int .i64 t, .int .i64 u] 55) := ⟨_, rfl⟩
  have X : Hid (Boxed W w.heap.size #[.slice a n c, .int .i64 t, .int .i64 u] 55 ∧ Below w.heap.size w W) := by rw [hW]; exact ⟨Boxed.new _ _ _, (Below.refl _ _).alloc (Nat.le_refl _) _⟩
  have HW : Hid _ := hW
  clear hW
  have c0 : W.cell? ⟨w.heap.size, 0, none⟩ = some (.slice a n c) := X.out.1.cell 0 rfl
  have c1 : W.cell? ⟨w.heap.size, 1, none⟩ = some (.int .i64 t) := X.out.1.cell 1 rfl
  have Wd : Hid (IntsAt W.drew a fl) := HI.out _ X.out.2.drew
  go_enter Try.func62, Try.ntmps62
  go_upto_region 1 with fail
  rw [← HW.out]
  go_region_law (refine stepCall rfl 34 rfl #[.slice a n c] (by kernel_rfl) (C'.out W.drew Wd.out) ?_; rintro e x1 ⟨rfl, hx1⟩; refine ⟨_, rfl, ?_⟩; obtain rfl := hx1.symm; clear hx1; have c1 : W.drew.cell? ⟨w.heap.size, 1, none⟩ = some (.int .i64 t) := X.out.1.cell 1 rfl)
  all_goals (
    go_wp2
    go_ret
    exact ⟨rfl, X.out.2.drew⟩)
end Go.Proofs.Ytllmkolchgmjoaa
