/-
  The walk of the exact law of NewGate, given what the program's NewGate answers. By the verifier, by program.
-/
import Derived.Test.YtfkkmjejmflgjaaQ27GtNewS
import Derived.Test.YtfkkmjejmflgjaaQ38GtEq
import Derived.Test.YtfkkmjejmflgjaaQ39GtMark
import Derived.Test.YtfkkmjejmflgjaaQ40GtHeld
import Derived.Test.YtfkkmjejmflgjaaQ21GtNewFn
import Derived.Test.YtfkkmjejmflgjaaQ41LnTo
import Derived.Test.YtfkkmjejmflgjaaQ37GtMk
import Derived.Test.YtfkkmjejmflgjaaQ42LoadG
import Derived.Test.YtfkkmjejmflgjaaQ2SsV
import Derived.Test.YtfkkmjejmflgjaaQ9StepRow
import Derived.Deep.RegionLaw
import Derived.Deep.DeepCutAuto
namespace Go.Proofs.Ytfkkmjejmflgjaa
open Go.RowKit

theorem newGate_big (l : Ln) (t : List Nd) (ls : List Int) : (newGate l t ls).big ≤ 1048576 := by
  unfold newGate
  by_cases h : newB l t ls = true
  · rw [if_pos h]
    have hn := newB_small h
    have ht := (tok_iff.1 (Gt.head_iff.1 (Gt.ok_iff.1 h).1).2.2.2.1).2.1
    have hz : ∀ n, n ≤ 8 → (⟨100, List.replicate n []⟩ : Rw).big ≤ 1000 := by decide
    have hf : ∀ n, n ≤ 8 → (⟨0, List.replicate n ⟨1, 0, []⟩⟩ : Fs).big ≤ 1000 := by decide
    have h1 := hz _ hn.2
    have h2 := hf _ hn.2
    have h3 : t.length ≤ 12 := ht
    show 0 + 0 + t.length + ls.length + (⟨100, List.replicate ls.length []⟩ : Rw).big + (List.replicate ls.length (⟨20, 0, 0⟩ : Sr)).length + (⟨0, List.replicate ls.length ⟨1, 0, []⟩⟩ : Fs).big ≤ 1048576
    rw [List.length_replicate]
    omega
  · rw [if_neg h, Gt.zero_big]
    omega

set_option maxHeartbeats 12800000 in
set_option maxRecDepth 100000 in
theorem fnExactNewGate_of (impl' : ∀ (l : Ln) (t : List Nd) (ta : Option Addr) (tc : Nat) (ls : List Int) (la : Option Addr) (lc : Nat) (w : World), t.length ≤ 1048576 → ls.length ≤ 1048576 → t.length ≤ tc → (ta = none → tc = 0) → Hid (NdsAt w ta t) → Hid (IntsAt w la ls) → Calls Try.prog 9 #[l.val, .slice ta t.length tc, .slice la ls.length lc] w fun e w' => (∃ v', e = .returned (.tuple #[v', .bool (newB l t ls)]) ∧ GtIn w.heap.size w'.heap.size w' v' (newGate l t ls)) ∧ Below w.heap.size w w')
    (l : Ln) (t : List Nd) (ta : Option Addr) (tc : Nat) (ls : List Int) (la : Option Addr) (lc : Nat) (w : World) (hlt : (t.length : Int) ≤ 9223372036854775807) (ht : Hid (NdsAt w ta t)) (hll : (ls.length : Int) ≤ 9223372036854775807) (hl : Hid (IntsAt w la ls)) :
    Calls Try.prog 3 #[l.val, .slice ta t.length tc, .slice la ls.length lc] w fun e w' => e = .returned (.bool true) ∧ Below w.heap.size w w' := by
  have S := fun w => szNds 1048576 (by omega) (by omega) ta tc t.length w hlt
  obtain ⟨n, hn⟩ : ∃ n, ls.length = n := ⟨_, rfl⟩
  obtain ⟨tn, htn⟩ : ∃ n, t.length = n := ⟨_, rfl⟩
  by_cases hL : ¬ n ≤ 1048576
  · obtain ⟨kd, ex, le⟩ := l
    simp only [Ln.val]
    rw [hn, htn]
    rw [hn] at hll
    have hgt : (1048576 : Int) < (n : Int) := by omega
    obtain ⟨W, hW⟩ : ∃ W, W = w.alloc (.cells #[.int .i64 kd, .int .i64 ex, .int .i64 le] 23) := ⟨_, rfl⟩
    have X0 : Hid (Lies w [Thing.box w.heap.size #[.int .i64 kd, .int .i64 ex, .int .i64 le] 23] W) := by
      rw [hW]
      exact ⟨⟨Boxed.new _ _ _, trivial⟩, (Below.refl _ _).alloc (Nat.le_refl _) _⟩
    have HW : Hid (W = _) := hW
    clear S hW hn htn hL ht hl hlt impl'
    go_enter Try.func3, Try.ntmps3
    go_upto_region 1 with fail
    rw [← HW.out]
    clear HW
    go_wp2
    go_ret
    exact ⟨rfl, X0.out.2⟩
  have hL' : n ≤ 1048576 := Classical.byContradiction hL
  clear hL
  have hngt : ¬ (1048576 : Int) < (n : Int) := by omega
  by_cases hbig : (1048576 : Int) - (t.length : Int) < 0
  · rw [if_pos hbig] at S
    obtain ⟨kd, ex, le⟩ := l
    simp only [Ln.val]
    rw [htn] at S
    rw [hn, htn]
    have S' : Hid _ := S
    obtain ⟨W, hW⟩ : ∃ W, W = w.alloc (.cells #[.int .i64 kd, .int .i64 ex, .int .i64 le] 23) := ⟨_, rfl⟩
    have X0 : Hid (Lies w [Thing.box w.heap.size #[.int .i64 kd, .int .i64 ex, .int .i64 le] 23] W) := by
      rw [hW]
      exact ⟨⟨Boxed.new _ _ _, trivial⟩, (Below.refl _ _).alloc (Nat.le_refl _) _⟩
    have HW : Hid (W = _) := hW
    clear S hW hn htn ht hl hlt hll hbig impl' hL'
    go_enter Try.func3, Try.ntmps3
    go_upto_region 1 with fail
    rw [← HW.out]
    clear HW
    go_wp2_with fail
    refine (S'.out _).mono ?_
    rintro e wz ⟨rfl, hwz⟩
    obtain rfl := hwz.symm
    clear hwz
    go_wp2
    go_ret
    exact ⟨rfl, X0.out.2⟩
  rw [if_neg hbig] at S
  have hT : t.length ≤ 1048576 := by omega
  have hN : ls.length ≤ 1048576 := by omega
  have hXB := newGate_big l t ls
  obtain ⟨X, hXe⟩ : ∃ X, newGate l t ls = X := ⟨_, rfl⟩
  obtain ⟨u0, hu0⟩ : ∃ u, newB l t ls = u := ⟨_, rfl⟩
  have TN : ∀ w, NdsAt w ta t → Calls Try.prog 7 #[.slice ta tn tc] w fun e w' => (∃ p d, e = .returned (.slice p tn d) ∧ NdsW w.heap.size w'.heap.size w' (.slice p tn d) t) ∧ Below w.heap.size w w' := fun w hh => by
    rw [← htn]
    refine (toNdW ta tc t w hT hh).mono fun e w' ⟨⟨v, h1, h2⟩, h3⟩ => ?_
    obtain ⟨p, d, e1, _⟩ := h2.2
    subst e1
    exact ⟨⟨p, d, h1, h2⟩, h3⟩
  have TI : ∀ w, IntsAt w la ls → Calls Try.prog 8 #[.slice la n lc] w fun e w' => (∃ p d, e = .returned (.slice p n d) ∧ IntsW w.heap.size w'.heap.size w' (.slice p n d) ls) ∧ Below w.heap.size w w' := fun w hh => by
    rw [← hn]
    refine (toIntW la lc ls w hN hh).mono fun e w' ⟨⟨v, h1, h2⟩, h3⟩ => ?_
    obtain ⟨p, d, e1, _⟩ := h2.2
    subst e1
    exact ⟨⟨p, d, h1, h2⟩, h3⟩
  have TL := fun w => toLnB l w
  have C : ∀ p1 d1 p2 d2 w, NdsV w (.slice p1 tn d1) t → IntsV w (.slice p2 n d2) ls → Calls Try.prog 5 #[l.val, .slice p1 tn d1, .slice p2 n d2] w fun e w' => (∃ c : Array Value, e = .returned (.tuple #[.agg c, .bool u0]) ∧ (c.size = 14 ∧ c.all (·.oneCell') = true) ∧ GtLie w.heap.size w'.heap.size w' (.agg c) X) ∧ Below w.heap.size w w' := fun p1 d1 p2 d2 w h1 h2 => by
    rw [← htn] at h1 ⊢
    rw [← hn] at h2 ⊢
    refine (specNewGate l t p1 d1 ls p2 d2 w hT hN (by obtain ⟨a, c, e, _, _, hz⟩ := h1; cases e; exact hz) (by obtain ⟨a, c, e, _, _, hz⟩ := h2; cases e; exact hz) h1.spot' h2.spot').mono fun e w' hh => ?_
    rw [hXe, hu0] at hh
    obtain ⟨⟨v, rfl, hi⟩, hb⟩ := hh
    obtain ⟨x', rfl⟩ := hi.cells
    exact ⟨⟨_, rfl, ⟨Gt.cells_size X x', Gt.cells_one X x'⟩, hi⟩, hb⟩
  have D : ∀ p1 d1 p2 d2 w, NdsV w (.slice p1 tn d1) t → IntsV w (.slice p2 n d2) ls → Calls Try.prog 9 #[l.val, .slice p1 tn d1, .slice p2 n d2] w fun e w' => (∃ c : Array Value, e = .returned (.tuple #[.agg c, .bool u0]) ∧ (c.size = 14 ∧ c.all (·.oneCell') = true) ∧ GtIn w.heap.size w'.heap.size w' (.agg c) X) ∧ Below w.heap.size w w' := fun p1 d1 p2 d2 w h1 h2 => by
    rw [← htn] at h1 ⊢
    rw [← hn] at h2 ⊢
    refine (impl' l t p1 d1 ls p2 d2 w hT hN (by obtain ⟨a, c, e, _, hz, _⟩ := h1; cases e; exact hz) (by obtain ⟨a, c, e, _, _, hz⟩ := h1; cases e; exact hz) h1.spot' h2.spot').mono fun e w' hh => ?_
    rw [hXe, hu0] at hh
    obtain ⟨⟨v, rfl, hi⟩, hb⟩ := hh
    obtain ⟨x', rfl⟩ := hi.cells
    exact ⟨⟨_, rfl, ⟨Gt.cells_size X x', Gt.cells_one X x'⟩, hi⟩, hb⟩
  rw [hXe] at hXB
  have EX := fun v1 v2 w h1 h2 => eqGts v1 v2 X w hXB h1 h2
  have EN := fun v1 v2 w h1 h2 => eqNdW v1 v2 t w hT h1 h2
  have EI := fun v1 v2 w h1 h2 => eqIntW v1 v2 ls w hN h1 h2
  have MN : ∀ b t' v w, Hid (NdsW b t' w v t) → Calls Try.prog 13 #[v, .int .i64 1] w fun e w' => e = .returned (.int .i64 (1 + 5 * (t.length : Int))) ∧ Span b t' w w' := fun b t' v w h => (markNdW b t' v t w hT h).mono fun _ _ hh => ⟨hh.1, hh.2.2⟩
  have MI : ∀ b t' v w, Hid (IntsW b t' w v ls) → Calls Try.prog 14 #[v, .int .i64 (1 + 5 * (t.length : Int))] w fun e w' => e = .returned (.int .i64 (1 + 5 * (t.length : Int) + (ls.length : Int))) ∧ Span b t' w w' := fun b t' v w h => (markIntS (1 + 5 * (t.length : Int)) (by omega) (by omega) b t' v ls w hN h).mono fun _ _ hh => ⟨hh.1, hh.2.2⟩
  have MX := fun b t v w h => markGts 1 (by omega) (by omega) b t v X w hXB h
  have HX := fun v w h => heldGts 1 (by omega) (by omega) v X w hXB h
  have m0 : ¬ 1 + 5 * (t.length : Int) + (ls.length : Int) < 0 := by omega
  have m1 : ¬ X.k7 1 < 0 := by have := (Gt.ks hXB (s := 1) (by omega) (by omega)).2.2.2.2.2.2; omega
  generalize 1 + 5 * (t.length : Int) + (ls.length : Int) = kr at MI m0
  generalize 1 + 5 * (t.length : Int) = k1 at MN MI
  generalize X.k7 1 = kx at MX HX m1
  obtain ⟨Xm, hXm⟩ : ∃ Xm, X.mk' 1 = Xm := ⟨_, rfl⟩
  rw [hXm] at MX HX
  have hb0 : ¬ (1048576 : Int) - (tn : Int) < 0 := by rw [← htn]; exact hbig
  rw [htn] at S
  generalize (1048576 : Int) - (tn : Int) = left at S hb0
  have KN : Hid (∀ w', Below w.heap.size w w' → NdsAt w' ta t) := fun w' q => ht.out.below q
  have KI : Hid (∀ w', Below w.heap.size w w' → IntsAt w' la ls) := fun w' q => hl.out.below q
  rw [hn, htn]
  have SV : Hid (∀ k, True) := fun (_ : Nat) => trivial
  obtain ⟨kd, ex, le⟩ := l
  simp only [Ln.val] at TL C D ⊢
  have S' : Hid _ := S
  have TN' : Hid _ := TN
  have TI' : Hid _ := TI
  have TL' : Hid _ := TL
  have C' : Hid _ := C
  have D' : Hid _ := D
  have EX' : Hid _ := EX
  have EN' : Hid _ := EN
  have EI' : Hid _ := EI
  have MN' : Hid _ := MN
  have MI' : Hid _ := MI
  have MX' : Hid _ := MX
  have HX' : Hid _ := HX
  obtain ⟨W, hW⟩ : ∃ W, W = w.alloc (.cells #[.int .i64 kd, .int .i64 ex, .int .i64 le] 23) := ⟨_, rfl⟩
  have X0 : Hid (Lies w [Thing.box w.heap.size #[.int .i64 kd, .int .i64 ex, .int .i64 le] 23] W) := by
    rw [hW]
    exact ⟨⟨Boxed.new _ _ _, trivial⟩, (Below.refl _ _).alloc (Nat.le_refl _) _⟩
  have HW : Hid (W = _) := hW
  clear S TN TI TL C D EX EN EI MN MI MX HX SV hbig hXB hXe hu0 hXm hlt hll hl ht hT hN hn htn hW hL' impl'
  go_enter Try.func3, Try.ntmps3
  go_upto_region 1 with fail
  rw [← HW.out]
  clear HW
  go_wp2_with fail
  refine (S'.out _).mono ?_
  rintro e wz ⟨rfl, hwz⟩
  obtain rfl := hwz.symm
  clear hwz S'
  go_upto_region 7 with fail
  go_wp2_with (refine wpList_load_row rfl 23 (.tmp 3) rfl w.heap.size rfl _ _ _ _ (show Boxed _ _ _ _ from X0.out.1.1) Try.underlying23 rfl (by kernel_rfl) ?_)
  refine (TL'.out _).mono ?_
  rintro e wAZ1 ⟨rfl, q⟩
  have Z2 : Hid (Lies w [Thing.box w.heap.size #[.int .i64 kd, .int .i64 ex, .int .i64 le] 23] wAZ1) := X0.out.below q
  clear q X0
  go_wp2_with fail
  refine (TN'.out _ (KN.out _ Z2.out.2)).mono ?_
  rintro e wBZ3 ⟨⟨pN, dN, rfl, ry⟩, q⟩
  have AN0 : Hid (NdsV wBZ3 (.slice pN tn dN) t) := ry.at
  have Z4 : Hid (Lies w [Thing.box w.heap.size #[.int .i64 kd, .int .i64 ex, .int .i64 le] 23] wBZ3) := Z2.out.below q
  clear q Z2 ry
  go_wp2_with fail
  refine (TI'.out _ (KI.out _ Z4.out.2)).mono ?_
  rintro e wCZ5 ⟨⟨pI, dI, rfl, ry⟩, q⟩
  have AN : Hid (NdsV wCZ5 (.slice pN tn dN) t) := AN0.out.below q
  have AI : Hid (IntsV wCZ5 (.slice pI n dI) ls) := ry.at
  have Z6 : Hid (Lies w [Thing.box w.heap.size #[.int .i64 kd, .int .i64 ex, .int .i64 le] 23] wCZ5) := Z4.out.below q
  clear q Z4 ry AN0
  go_wp2_with fail
  refine (C'.out _ _ _ _ _ AN.out AI.out).mono ?_
  rintro e wY ⟨⟨c0, rfl, hc, iY⟩, q⟩
  have Hc0 : Hid (c0.size = 14 ∧ c0.all (·.oneCell') = true) := hc
  clear hc AN AI C'
  have N : Hid (Boxed (wY.alloc (.cells #[.int .i64 0, .int .i64 0, .int .i64 0, .slice none 0 0, .slice none 0 0, .slice none 0 0, .slice none 0 0, .int .i64 0, .slice none 0 0, .slice none 0 0, .int .i64 0, .slice none 0 0, .int .i64 0, .int .i64 0] 39)) wY.heap.size #[.int .i64 0, .int .i64 0, .int .i64 0, .slice none 0 0, .slice none 0 0, .slice none 0 0, .slice none 0 0, .int .i64 0, .slice none 0 0, .slice none 0 0, .int .i64 0, .slice none 0 0, .int .i64 0, .int .i64 0] 39) := Boxed.new _ _ _
  go_upto_region 8 with (refine wpList_store_row rfl 39 (.tmp 8) (.tmp 35) rfl wY.heap.size c0 rfl rfl _ _ N.out (by rw [Hc0.out.1]; kernel_rfl) (by rw [Hc0.out.1]; rfl) Hc0.out.2 ?_)
  try simp only [Act.put]
  have bN : Below wY.heap.size wY ((wY.alloc (.cells #[.int .i64 0, .int .i64 0, .int .i64 0, .slice none 0 0, .slice none 0 0, .slice none 0 0, .slice none 0 0, .int .i64 0, .slice none 0 0, .slice none 0 0, .int .i64 0, .slice none 0 0, .int .i64 0, .int .i64 0] 39)).setRow wY.heap.size c0) := below_setRow ((Below.refl _ _).alloc (Nat.le_refl _) _) (Nat.le_refl _) _
  have Z7 : Hid (Lies w [Thing.box w.heap.size #[.int .i64 kd, .int .i64 ex, .int .i64 le] 23, Thing.own (fun W => GtLie wCZ5.heap.size wY.heap.size W (.agg c0) X) wCZ5.heap.size wY.heap.size (fun h s k => GtLie.keep h s k), Thing.box wY.heap.size c0 39] ((wY.alloc (.cells #[.int .i64 0, .int .i64 0, .int .i64 0, .slice none 0 0, .slice none 0 0, .slice none 0 0, .slice none 0 0, .int .i64 0, .slice none 0 0, .slice none 0 0, .int .i64 0, .slice none 0 0, .int .i64 0, .int .i64 0] 39)).setRow wY.heap.size c0) ∧ wCZ5.heap.size ≤ wY.heap.size ∧ wY.heap.size + 1 ≤ ((wY.alloc (.cells #[.int .i64 0, .int .i64 0, .int .i64 0, .slice none 0 0, .slice none 0 0, .slice none 0 0, .slice none 0 0, .int .i64 0, .slice none 0 0, .slice none 0 0, .int .i64 0, .slice none 0 0, .int .i64 0, .int .i64 0] 39)).setRow wY.heap.size c0).heap.size ∧ w.heap.size + 1 ≤ wCZ5.heap.size) := ⟨(Z6.out.below q).more bN ⟨⟨GtLie.below iY bN, bN.size⟩, setRow_heap _ _ _ _ _ _ N.out, trivial⟩, q.size, by rw [size_setRow]; simp, Boxed.under (show Boxed _ w.heap.size _ _ from Z6.out.1.1)⟩
  clear bN q iY N Z6
  generalize ((wY.alloc (.cells #[.int .i64 0, .int .i64 0, .int .i64 0, .slice none 0 0, .slice none 0 0, .slice none 0 0, .slice none 0 0, .int .i64 0, .slice none 0 0, .slice none 0 0, .int .i64 0, .slice none 0 0, .int .i64 0, .int .i64 0] 39)).setRow wY.heap.size c0) = w0 at Z7 ⊢
  generalize wY.heap.size = t0 at Z7 ⊢
  generalize wCZ5.heap.size = b0 at Z7
  have Z7A : Hid (Lies w [Thing.box w.heap.size #[.int .i64 kd, .int .i64 ex, .int .i64 le] 23, Thing.own (fun W => GtLie b0 t0 W (.agg c0) X) b0 t0 (fun h s k => GtLie.keep h s k), Thing.box t0 c0 39] w0) := Z7.out.1
  have O0 : Hid (b0 ≤ t0 ∧ t0 + 1 ≤ w0.heap.size ∧ w.heap.size + 1 ≤ b0) := Z7.out.2
  clear Z7
  go_wp2_with fail
  refine (TN'.out _ (KN.out _ Z7A.out.2)).mono ?_
  rintro e wL1 ⟨⟨px1, dx1, rfl, rx⟩, q⟩
  have Z8 : Hid (Lies w [Thing.box w.heap.size #[.int .i64 kd, .int .i64 ex, .int .i64 le] 23, Thing.own (fun W => GtLie b0 t0 W (.agg c0) X) b0 t0 (fun h s k => GtLie.keep h s k), Thing.box t0 c0 39, Thing.own (fun W => NdsW w0.heap.size wL1.heap.size W (.slice px1 tn dx1) t) w0.heap.size wL1.heap.size (fun h s k => NdsW.keep h s k)] wL1 ∧ w0.heap.size ≤ wL1.heap.size) := ⟨(Z7A.out.below q).more (Below.refl _ _) ⟨⟨rx, Nat.le_refl _⟩, trivial⟩, q.size⟩
  clear q rx Z7A
  generalize w0.heap.size = e1 at Z8 O0
  have Z8A : Hid (Lies w [Thing.box w.heap.size #[.int .i64 kd, .int .i64 ex, .int .i64 le] 23, Thing.own (fun W => GtLie b0 t0 W (.agg c0) X) b0 t0 (fun h s k => GtLie.keep h s k), Thing.box t0 c0 39, Thing.own (fun W => NdsW e1 wL1.heap.size W (.slice px1 tn dx1) t) e1 wL1.heap.size (fun h s k => NdsW.keep h s k)] wL1) := Z8.out.1
  have OL1 : Hid (e1 ≤ wL1.heap.size) := Z8.out.2
  clear Z8
  go_upto_region 9 with fail
  go_wp2_with fail
  refine (TI'.out _ (KI.out _ Z8A.out.2)).mono ?_
  rintro e wL2x ⟨⟨px2x, dx2x, rfl, rx⟩, q⟩
  have Z9 : Hid (Lies w [Thing.box w.heap.size #[.int .i64 kd, .int .i64 ex, .int .i64 le] 23, Thing.own (fun W => GtLie b0 t0 W (.agg c0) X) b0 t0 (fun h s k => GtLie.keep h s k), Thing.box t0 c0 39, Thing.own (fun W => NdsW e1 wL1.heap.size W (.slice px1 tn dx1) t) e1 wL1.heap.size (fun h s k => NdsW.keep h s k), Thing.own (fun W => IntsW wL1.heap.size wL2x.heap.size W (.slice px2x n dx2x) ls) wL1.heap.size wL2x.heap.size (fun h s k => IntsW.keep h s k)] wL2x ∧ wL1.heap.size ≤ wL2x.heap.size) := ⟨(Z8A.out.below q).more (Below.refl _ _) ⟨⟨rx, Nat.le_refl _⟩, trivial⟩, q.size⟩
  clear q rx Z8A
  generalize wL1.heap.size = e2x at Z9 O0 OL1
  have Z9A : Hid (Lies w [Thing.box w.heap.size #[.int .i64 kd, .int .i64 ex, .int .i64 le] 23, Thing.own (fun W => GtLie b0 t0 W (.agg c0) X) b0 t0 (fun h s k => GtLie.keep h s k), Thing.box t0 c0 39, Thing.own (fun W => NdsW e1 e2x W (.slice px1 tn dx1) t) e1 e2x (fun h s k => NdsW.keep h s k), Thing.own (fun W => IntsW e2x wL2x.heap.size W (.slice px2x n dx2x) ls) e2x wL2x.heap.size (fun h s k => IntsW.keep h s k)] wL2x) := Z9.out.1
  have OL2x : Hid (e2x ≤ wL2x.heap.size) := Z9.out.2
  clear Z9
  go_upto_region 10 with fail
  go_wp2_with (refine wpList_load_row rfl 23 (.tmp 3) rfl w.heap.size rfl _ _ _ _ (show Boxed _ _ _ _ from Z9A.out.1.1) Try.underlying23 rfl (by kernel_rfl) ?_)
  refine (TL'.out _).mono ?_
  rintro e wAZ10 ⟨rfl, q⟩
  have OLn : Hid (wL2x.heap.size ≤ wAZ10.heap.size) := q.size
  have Z11 : Hid (Lies w [Thing.box w.heap.size #[.int .i64 kd, .int .i64 ex, .int .i64 le] 23, Thing.own (fun W => GtLie b0 t0 W (.agg c0) X) b0 t0 (fun h s k => GtLie.keep h s k), Thing.box t0 c0 39, Thing.own (fun W => NdsW e1 e2x W (.slice px1 tn dx1) t) e1 e2x (fun h s k => NdsW.keep h s k), Thing.own (fun W => IntsW e2x wL2x.heap.size W (.slice px2x n dx2x) ls) e2x wL2x.heap.size (fun h s k => IntsW.keep h s k)] wAZ10) := Z9A.out.below q
  clear q Z9A
  go_wp2_with fail
  refine (D'.out _ _ _ _ _ (NdsW.at (show NdsW _ _ _ _ _ from Z11.out.1.2.2.2.1.1)) (IntsW.at (show IntsW _ _ _ _ _ from Z11.out.1.2.2.2.2.1.1))).mono ?_
  rintro e wY ⟨⟨c2, rfl, hc, iY⟩, q⟩
  have Hc2 : Hid (c2.size = 14 ∧ c2.all (·.oneCell') = true) := hc
  clear hc
  have N : Hid (Boxed (wY.alloc (.cells #[.int .i64 0, .int .i64 0, .int .i64 0, .slice none 0 0, .slice none 0 0, .slice none 0 0, .slice none 0 0, .int .i64 0, .slice none 0 0, .slice none 0 0, .int .i64 0, .slice none 0 0, .int .i64 0, .int .i64 0] 39)) wY.heap.size #[.int .i64 0, .int .i64 0, .int .i64 0, .slice none 0 0, .slice none 0 0, .slice none 0 0, .slice none 0 0, .int .i64 0, .slice none 0 0, .slice none 0 0, .int .i64 0, .slice none 0 0, .int .i64 0, .int .i64 0] 39) := Boxed.new _ _ _
  go_upto_region 11 with (refine wpList_store_row rfl 39 (.tmp 12) (.tmp 47) rfl wY.heap.size c2 rfl rfl _ _ N.out (by rw [Hc2.out.1]; kernel_rfl) (by rw [Hc2.out.1]; rfl) Hc2.out.2 ?_)
  try simp only [Act.put]
  have bN : Below wY.heap.size wY ((wY.alloc (.cells #[.int .i64 0, .int .i64 0, .int .i64 0, .slice none 0 0, .slice none 0 0, .slice none 0 0, .slice none 0 0, .int .i64 0, .slice none 0 0, .slice none 0 0, .int .i64 0, .slice none 0 0, .int .i64 0, .int .i64 0] 39)).setRow wY.heap.size c2) := below_setRow ((Below.refl _ _).alloc (Nat.le_refl _) _) (Nat.le_refl _) _
  have Z12 : Hid (Lies w [Thing.box w.heap.size #[.int .i64 kd, .int .i64 ex, .int .i64 le] 23, Thing.own (fun W => GtLie b0 t0 W (.agg c0) X) b0 t0 (fun h s k => GtLie.keep h s k), Thing.box t0 c0 39, Thing.own (fun W => NdsW e1 e2x W (.slice px1 tn dx1) t) e1 e2x (fun h s k => NdsW.keep h s k), Thing.own (fun W => IntsW e2x wL2x.heap.size W (.slice px2x n dx2x) ls) e2x wL2x.heap.size (fun h s k => IntsW.keep h s k), Thing.own (fun W => GtIn wAZ10.heap.size wY.heap.size W (.agg c2) X) wAZ10.heap.size wY.heap.size (fun h s k => GtIn.keep h s k), Thing.box wY.heap.size c2 39] ((wY.alloc (.cells #[.int .i64 0, .int .i64 0, .int .i64 0, .slice none 0 0, .slice none 0 0, .slice none 0 0, .slice none 0 0, .int .i64 0, .slice none 0 0, .slice none 0 0, .int .i64 0, .slice none 0 0, .int .i64 0, .int .i64 0] 39)).setRow wY.heap.size c2) ∧ wAZ10.heap.size ≤ wY.heap.size ∧ wY.heap.size + 1 ≤ ((wY.alloc (.cells #[.int .i64 0, .int .i64 0, .int .i64 0, .slice none 0 0, .slice none 0 0, .slice none 0 0, .slice none 0 0, .int .i64 0, .slice none 0 0, .slice none 0 0, .int .i64 0, .slice none 0 0, .int .i64 0, .int .i64 0] 39)).setRow wY.heap.size c2).heap.size ∧ w.heap.size + 1 ≤ wAZ10.heap.size) := ⟨(Z11.out.below q).more bN ⟨⟨GtIn.below iY bN, bN.size⟩, setRow_heap _ _ _ _ _ _ N.out, trivial⟩, q.size, by rw [size_setRow]; simp, Boxed.under (show Boxed _ w.heap.size _ _ from Z11.out.1.1)⟩
  clear bN q iY N Z11
  generalize ((wY.alloc (.cells #[.int .i64 0, .int .i64 0, .int .i64 0, .slice none 0 0, .slice none 0 0, .slice none 0 0, .slice none 0 0, .int .i64 0, .slice none 0 0, .slice none 0 0, .int .i64 0, .slice none 0 0, .int .i64 0, .int .i64 0] 39)).setRow wY.heap.size c2) = w2 at Z12 ⊢
  generalize wY.heap.size = t2 at Z12 ⊢
  generalize wAZ10.heap.size = b2 at Z12 O0 OL1 OL2x OLn
  have Z12A : Hid (Lies w [Thing.box w.heap.size #[.int .i64 kd, .int .i64 ex, .int .i64 le] 23, Thing.own (fun W => GtLie b0 t0 W (.agg c0) X) b0 t0 (fun h s k => GtLie.keep h s k), Thing.box t0 c0 39, Thing.own (fun W => NdsW e1 e2x W (.slice px1 tn dx1) t) e1 e2x (fun h s k => NdsW.keep h s k), Thing.own (fun W => IntsW e2x wL2x.heap.size W (.slice px2x n dx2x) ls) e2x wL2x.heap.size (fun h s k => IntsW.keep h s k), Thing.own (fun W => GtIn b2 t2 W (.agg c2) X) b2 t2 (fun h s k => GtIn.keep h s k), Thing.box t2 c2 39] w2) := Z12.out.1
  have O2 : Hid (b2 ≤ t2 ∧ t2 + 1 ≤ w2.heap.size ∧ w.heap.size + 1 ≤ b2) := Z12.out.2
  clear Z12
  have O9 : Hid (_ ∧ _) := And.intro O0.out (And.intro OL1.out (And.intro OL2x.out (And.intro OLn.out O2.out)))
  clear O0 OL1 OL2x O2 OLn
  go_wp2_with (first | (refine wpList_load_row rfl 39 (.tmp 12) rfl t2 rfl _ _ _ _ (show Boxed _ _ _ _ from Z12A.out.1.2.2.2.2.2.2.1) Try.underlying39 rfl (by rw [Hc2.out.1]; kernel_rfl) ?_) | (refine wpList_load_row rfl 39 (.tmp 8) rfl t0 rfl _ _ _ _ (show Boxed _ _ _ _ from Z12A.out.1.2.2.1) Try.underlying39 rfl (by rw [Hc0.out.1]; kernel_rfl) ?_))
  refine (EX'.out _ _ _ (GtIn.at (show GtIn _ _ _ _ _ from Z12A.out.1.2.2.2.2.2.1.1)) (GtLie.at (show GtLie _ _ _ _ _ from Z12A.out.1.2.1.1))).mono ?_
  rintro e wE12 ⟨rfl, q⟩
  have Z13 : Hid (Lies w [Thing.box w.heap.size #[.int .i64 kd, .int .i64 ex, .int .i64 le] 23, Thing.own (fun W => GtLie b0 t0 W (.agg c0) X) b0 t0 (fun h s k => GtLie.keep h s k), Thing.box t0 c0 39, Thing.own (fun W => NdsW e1 e2x W (.slice px1 tn dx1) t) e1 e2x (fun h s k => NdsW.keep h s k), Thing.own (fun W => IntsW e2x wL2x.heap.size W (.slice px2x n dx2x) ls) e2x wL2x.heap.size (fun h s k => IntsW.keep h s k), Thing.own (fun W => GtIn b2 t2 W (.agg c2) X) b2 t2 (fun h s k => GtIn.keep h s k), Thing.box t2 c2 39] wE12) := Z12A.out.below q
  clear q Z12A
  go_upto_region 13 with fail
  go_wp2_with fail
  refine (TN'.out _ (KN.out _ Z13.out.2)).mono ?_
  rintro e wTZ14 ⟨⟨py, dy, rfl, ry⟩, q⟩
  have LV : Hid (NdsV wTZ14 (.slice py tn dy) t) := ry.at
  have Z15 : Hid (Lies w [Thing.box w.heap.size #[.int .i64 kd, .int .i64 ex, .int .i64 le] 23, Thing.own (fun W => GtLie b0 t0 W (.agg c0) X) b0 t0 (fun h s k => GtLie.keep h s k), Thing.box t0 c0 39, Thing.own (fun W => NdsW e1 e2x W (.slice px1 tn dx1) t) e1 e2x (fun h s k => NdsW.keep h s k), Thing.own (fun W => IntsW e2x wL2x.heap.size W (.slice px2x n dx2x) ls) e2x wL2x.heap.size (fun h s k => IntsW.keep h s k), Thing.own (fun W => GtIn b2 t2 W (.agg c2) X) b2 t2 (fun h s k => GtIn.keep h s k), Thing.box t2 c2 39] wTZ14) := Z13.out.below q
  clear q Z13 ry
  go_wp2_with fail
  refine (EN'.out _ _ _ ((show NdsW _ _ _ _ _ from Z15.out.1.2.2.2.1.1).at) LV).mono ?_
  rintro e wSZ14 ⟨rfl, q⟩
  have Z16 : Hid (Lies w [Thing.box w.heap.size #[.int .i64 kd, .int .i64 ex, .int .i64 le] 23, Thing.own (fun W => GtLie b0 t0 W (.agg c0) X) b0 t0 (fun h s k => GtLie.keep h s k), Thing.box t0 c0 39, Thing.own (fun W => NdsW e1 e2x W (.slice px1 tn dx1) t) e1 e2x (fun h s k => NdsW.keep h s k), Thing.own (fun W => IntsW e2x wL2x.heap.size W (.slice px2x n dx2x) ls) e2x wL2x.heap.size (fun h s k => IntsW.keep h s k), Thing.own (fun W => GtIn b2 t2 W (.agg c2) X) b2 t2 (fun h s k => GtIn.keep h s k), Thing.box t2 c2 39] wSZ14) := Z15.out.below q
  clear q Z15 LV
  go_upto_region 15 with fail
  go_wp2_with fail
  refine (TI'.out _ (KI.out _ Z16.out.2)).mono ?_
  rintro e wTZ17 ⟨⟨py, dy, rfl, ry⟩, q⟩
  have LV : Hid (IntsV wTZ17 (.slice py n dy) ls) := ry.at
  have Z18 : Hid (Lies w [Thing.box w.heap.size #[.int .i64 kd, .int .i64 ex, .int .i64 le] 23, Thing.own (fun W => GtLie b0 t0 W (.agg c0) X) b0 t0 (fun h s k => GtLie.keep h s k), Thing.box t0 c0 39, Thing.own (fun W => NdsW e1 e2x W (.slice px1 tn dx1) t) e1 e2x (fun h s k => NdsW.keep h s k), Thing.own (fun W => IntsW e2x wL2x.heap.size W (.slice px2x n dx2x) ls) e2x wL2x.heap.size (fun h s k => IntsW.keep h s k), Thing.own (fun W => GtIn b2 t2 W (.agg c2) X) b2 t2 (fun h s k => GtIn.keep h s k), Thing.box t2 c2 39] wTZ17) := Z16.out.below q
  clear q Z16 ry
  go_wp2_with fail
  refine (EI'.out _ _ _ ((show IntsW _ _ _ _ _ from Z18.out.1.2.2.2.2.1.1).at) LV).mono ?_
  rintro e wSZ17 ⟨rfl, q⟩
  have Z19 : Hid (Lies w [Thing.box w.heap.size #[.int .i64 kd, .int .i64 ex, .int .i64 le] 23, Thing.own (fun W => GtLie b0 t0 W (.agg c0) X) b0 t0 (fun h s k => GtLie.keep h s k), Thing.box t0 c0 39, Thing.own (fun W => NdsW e1 e2x W (.slice px1 tn dx1) t) e1 e2x (fun h s k => NdsW.keep h s k), Thing.own (fun W => IntsW e2x wL2x.heap.size W (.slice px2x n dx2x) ls) e2x wL2x.heap.size (fun h s k => IntsW.keep h s k), Thing.own (fun W => GtIn b2 t2 W (.agg c2) X) b2 t2 (fun h s k => GtIn.keep h s k), Thing.box t2 c2 39] wSZ17) := Z18.out.below q
  clear q Z18 LV
  go_upto_region 18 with fail
  go_wp2_with fail
  refine (MN'.out e1 e2x _ _ (show NdsW _ _ _ _ _ from Z19.out.1.2.2.2.1.1)).mono ?_
  rintro e wG1 ⟨rfl, q⟩
  have Z20 : Hid (Lies w [Thing.box w.heap.size #[.int .i64 kd, .int .i64 ex, .int .i64 le] 23, Thing.own (fun W => GtLie b0 t0 W (.agg c0) X) b0 t0 (fun h s k => GtLie.keep h s k), Thing.box t0 c0 39, Thing.own (fun W => IntsW e2x wL2x.heap.size W (.slice px2x n dx2x) ls) e2x wL2x.heap.size (fun h s k => IntsW.keep h s k), Thing.own (fun W => GtIn b2 t2 W (.agg c2) X) b2 t2 (fun h s k => GtIn.keep h s k), Thing.box t2 c2 39] wG1) := by
    have oo := O9.out
    have k0 : Lies w [Thing.box w.heap.size #[.int .i64 kd, .int .i64 ex, .int .i64 le] 23, Thing.own (fun W => GtLie b0 t0 W (.agg c0) X) b0 t0 (fun h s k => GtLie.keep h s k), Thing.box t0 c0 39, Thing.own (fun W => IntsW e2x wL2x.heap.size W (.slice px2x n dx2x) ls) e2x wL2x.heap.size (fun h s k => IntsW.keep h s k), Thing.own (fun W => GtIn b2 t2 W (.agg c2) X) b2 t2 (fun h s k => GtIn.keep h s k), Thing.box t2 c2 39] wSZ17 := ⟨⟨Z19.out.1.1, Z19.out.1.2.1, Z19.out.1.2.2.1, Z19.out.1.2.2.2.2.1, Z19.out.1.2.2.2.2.2.1, Z19.out.1.2.2.2.2.2.2.1, trivial⟩, Z19.out.2⟩
    exact k0.span q ⟨(show w.heap.size + 1 ≤ e1 ∨ e2x ≤ w.heap.size by omega), (show t0 ≤ e1 ∨ e2x ≤ b0 by omega), (show t0 + 1 ≤ e1 ∨ e2x ≤ t0 by omega), (show wL2x.heap.size ≤ e1 ∨ e2x ≤ e2x by omega), (show t2 ≤ e1 ∨ e2x ≤ b2 by omega), (show t2 + 1 ≤ e1 ∨ e2x ≤ t2 by omega), trivial⟩ (by omega)
  clear q Z19
  go_upto_region 19 with fail
  go_wp2_with fail
  refine (MI'.out e2x wL2x.heap.size _ _ (show IntsW _ _ _ _ _ from Z20.out.1.2.2.2.1.1)).mono ?_
  rintro e wG2 ⟨rfl, q⟩
  have Z21 : Hid (Lies w [Thing.box w.heap.size #[.int .i64 kd, .int .i64 ex, .int .i64 le] 23, Thing.own (fun W => GtLie b0 t0 W (.agg c0) X) b0 t0 (fun h s k => GtLie.keep h s k), Thing.box t0 c0 39, Thing.own (fun W => GtIn b2 t2 W (.agg c2) X) b2 t2 (fun h s k => GtIn.keep h s k), Thing.box t2 c2 39] wG2) := by
    have oo := O9.out
    have k0 : Lies w [Thing.box w.heap.size #[.int .i64 kd, .int .i64 ex, .int .i64 le] 23, Thing.own (fun W => GtLie b0 t0 W (.agg c0) X) b0 t0 (fun h s k => GtLie.keep h s k), Thing.box t0 c0 39, Thing.own (fun W => GtIn b2 t2 W (.agg c2) X) b2 t2 (fun h s k => GtIn.keep h s k), Thing.box t2 c2 39] wG1 := ⟨⟨Z20.out.1.1, Z20.out.1.2.1, Z20.out.1.2.2.1, Z20.out.1.2.2.2.2.1, Z20.out.1.2.2.2.2.2.1, trivial⟩, Z20.out.2⟩
    exact k0.span q ⟨(show w.heap.size + 1 ≤ e2x ∨ wL2x.heap.size ≤ w.heap.size by omega), (show t0 ≤ e2x ∨ wL2x.heap.size ≤ b0 by omega), (show t0 + 1 ≤ e2x ∨ wL2x.heap.size ≤ t0 by omega), (show t2 ≤ e2x ∨ wL2x.heap.size ≤ b2 by omega), (show t2 + 1 ≤ e2x ∨ wL2x.heap.size ≤ t2 by omega), trivial⟩ (by omega)
  clear q Z20
  go_upto_region 20 with fail
  go_wp2_with (first | (refine wpList_load_rowG (by simp [Region.wanted, yielded, Act.put] <;> omega) 39 (.tmp 12) rfl t2 rfl _ _ _ _ (show Boxed _ _ _ _ from Z21.out.1.2.2.2.2.1) Try.underlying39 rfl (by rw [Hc2.out.1]; kernel_rfl) ?_) | (refine wpList_load_rowG (by simp [Region.wanted, yielded, Act.put] <;> omega) 39 (.tmp 8) rfl t0 rfl _ _ _ _ (show Boxed _ _ _ _ from Z21.out.1.2.2.1) Try.underlying39 rfl (by rw [Hc0.out.1]; kernel_rfl) ?_))
  refine (EX'.out _ _ _ (GtIn.at (show GtIn _ _ _ _ _ from Z21.out.1.2.2.2.1.1)) (GtLie.at (show GtLie _ _ _ _ _ from Z21.out.1.2.1.1))).mono ?_
  rintro e wE21 ⟨rfl, q⟩
  have Z22 : Hid (Lies w [Thing.box w.heap.size #[.int .i64 kd, .int .i64 ex, .int .i64 le] 23, Thing.own (fun W => GtLie b0 t0 W (.agg c0) X) b0 t0 (fun h s k => GtLie.keep h s k), Thing.box t0 c0 39, Thing.own (fun W => GtIn b2 t2 W (.agg c2) X) b2 t2 (fun h s k => GtIn.keep h s k), Thing.box t2 c2 39] wE21) := Z21.out.below q
  clear q Z21
  go_upto_region 23 with fail
  go_wp2_with (refine wpList_load_row rfl 39 (.tmp 12) rfl t2 rfl _ _ _ _ (show Boxed _ _ _ _ from Z22.out.1.2.2.2.2.1) Try.underlying39 rfl (by rw [Hc2.out.1]; kernel_rfl) ?_)
  refine (MX'.out b2 t2 _ _ (show GtIn _ _ _ _ _ from Z22.out.1.2.2.2.1.1)).mono ?_
  rintro e wJ ⟨rfl, m, q⟩
  have Z23 : Hid (Lies w [Thing.box w.heap.size #[.int .i64 kd, .int .i64 ex, .int .i64 le] 23, Thing.own (fun W => GtLie b0 t0 W (.agg c0) X) b0 t0 (fun h s k => GtLie.keep h s k), Thing.box t0 c0 39, Thing.box t2 c2 39, Thing.own (fun W => GtIn b2 t2 W (.agg c2) Xm) b2 t2 (fun h s k => GtIn.keep h s k)] wJ) := by
    have oo := O9.out
    have k0 : Lies w [Thing.box w.heap.size #[.int .i64 kd, .int .i64 ex, .int .i64 le] 23, Thing.own (fun W => GtLie b0 t0 W (.agg c0) X) b0 t0 (fun h s k => GtLie.keep h s k), Thing.box t0 c0 39, Thing.box t2 c2 39] wE21 := ⟨⟨Z22.out.1.1, Z22.out.1.2.1, Z22.out.1.2.2.1, Z22.out.1.2.2.2.2.1, trivial⟩, Z22.out.2⟩
    have k1 := k0.span q ⟨(show w.heap.size + 1 ≤ b2 ∨ t2 ≤ w.heap.size by omega), (show t0 ≤ b2 ∨ t2 ≤ b0 by omega), (show t0 + 1 ≤ b2 ∨ t2 ≤ t0 by omega), (show t2 + 1 ≤ b2 ∨ t2 ≤ t2 by omega), trivial⟩ (by omega)
    exact ⟨k1.1.app (us := [Thing.own (fun W => GtIn b2 t2 W (.agg c2) Xm) b2 t2 (fun h s k => GtIn.keep h s k)]) ⟨⟨m, Nat.le_trans (show t2 ≤ wE21.heap.size from Z22.out.1.2.2.2.1.2) q.size⟩, trivial⟩, k1.2⟩
  clear q m Z22
  go_upto_region 25 with fail
  go_wp2_with (refine wpList_load_row rfl 39 (.tmp 12) rfl t2 rfl _ _ _ _ (show Boxed _ _ _ _ from Z23.out.1.2.2.2.1) Try.underlying39 rfl (by rw [Hc2.out.1]; kernel_rfl) ?_)
  refine (HX'.out _ _ (GtIn.at (show GtIn _ _ _ _ _ from Z23.out.1.2.2.2.2.1.1))).mono ?_
  rintro e wK ⟨rfl, q⟩
  have Z24 : Hid (Lies w [Thing.box w.heap.size #[.int .i64 kd, .int .i64 ex, .int .i64 le] 23, Thing.own (fun W => GtLie b0 t0 W (.agg c0) X) b0 t0 (fun h s k => GtLie.keep h s k), Thing.box t0 c0 39, Thing.box t2 c2 39, Thing.own (fun W => GtIn b2 t2 W (.agg c2) Xm) b2 t2 (fun h s k => GtIn.keep h s k)] wK) := Z23.out.below q
  clear q Z23
  go_upto_region 30 with fail
  go_wp2_with (refine wpList_load_row rfl 23 (.tmp 3) rfl w.heap.size rfl _ _ _ _ (show Boxed _ _ _ _ from Z24.out.1.1) Try.underlying23 rfl (by kernel_rfl) ?_)
  refine (TL'.out _).mono ?_
  rintro e wAZ25 ⟨rfl, q⟩
  have Z26 : Hid (Lies w [Thing.box w.heap.size #[.int .i64 kd, .int .i64 ex, .int .i64 le] 23, Thing.own (fun W => GtLie b0 t0 W (.agg c0) X) b0 t0 (fun h s k => GtLie.keep h s k), Thing.box t0 c0 39, Thing.box t2 c2 39, Thing.own (fun W => GtIn b2 t2 W (.agg c2) Xm) b2 t2 (fun h s k => GtIn.keep h s k)] wAZ25) := Z24.out.below q
  clear q Z24
  go_wp2_with fail
  refine (TN'.out _ (KN.out _ Z26.out.2)).mono ?_
  rintro e wBZ27 ⟨⟨pN, dN, rfl, ry⟩, q⟩
  have AN0 : Hid (NdsV wBZ27 (.slice pN tn dN) t) := ry.at
  have Z28 : Hid (Lies w [Thing.box w.heap.size #[.int .i64 kd, .int .i64 ex, .int .i64 le] 23, Thing.own (fun W => GtLie b0 t0 W (.agg c0) X) b0 t0 (fun h s k => GtLie.keep h s k), Thing.box t0 c0 39, Thing.box t2 c2 39, Thing.own (fun W => GtIn b2 t2 W (.agg c2) Xm) b2 t2 (fun h s k => GtIn.keep h s k)] wBZ27) := Z26.out.below q
  clear q Z26 ry
  go_wp2_with fail
  refine (TI'.out _ (KI.out _ Z28.out.2)).mono ?_
  rintro e wCZ29 ⟨⟨pI, dI, rfl, ry⟩, q⟩
  have AN : Hid (NdsV wCZ29 (.slice pN tn dN) t) := AN0.out.below q
  have AI : Hid (IntsV wCZ29 (.slice pI n dI) ls) := ry.at
  have Z30 : Hid (Lies w [Thing.box w.heap.size #[.int .i64 kd, .int .i64 ex, .int .i64 le] 23, Thing.own (fun W => GtLie b0 t0 W (.agg c0) X) b0 t0 (fun h s k => GtLie.keep h s k), Thing.box t0 c0 39, Thing.box t2 c2 39, Thing.own (fun W => GtIn b2 t2 W (.agg c2) Xm) b2 t2 (fun h s k => GtIn.keep h s k)] wCZ29) := Z28.out.below q
  clear q Z28 ry AN0
  go_wp2_with fail
  refine (D'.out _ _ _ _ _ AN.out AI.out).mono ?_
  rintro e wY ⟨⟨c3, rfl, hc, iY⟩, q⟩
  have Hc3 : Hid (c3.size = 14 ∧ c3.all (·.oneCell') = true) := hc
  clear hc AN AI
  have N : Hid (Boxed (wY.alloc (.cells #[.int .i64 0, .int .i64 0, .int .i64 0, .slice none 0 0, .slice none 0 0, .slice none 0 0, .slice none 0 0, .int .i64 0, .slice none 0 0, .slice none 0 0, .int .i64 0, .slice none 0 0, .int .i64 0, .int .i64 0] 39)) wY.heap.size #[.int .i64 0, .int .i64 0, .int .i64 0, .slice none 0 0, .slice none 0 0, .slice none 0 0, .slice none 0 0, .int .i64 0, .slice none 0 0, .slice none 0 0, .int .i64 0, .slice none 0 0, .int .i64 0, .int .i64 0] 39) := Boxed.new _ _ _
  go_upto_region 31 with (refine wpList_store_row rfl 39 (.tmp 17) (.tmp 106) rfl wY.heap.size c3 rfl rfl _ _ N.out (by rw [Hc3.out.1]; kernel_rfl) (by rw [Hc3.out.1]; rfl) Hc3.out.2 ?_)
  try simp only [Act.put]
  have bN : Below wY.heap.size wY ((wY.alloc (.cells #[.int .i64 0, .int .i64 0, .int .i64 0, .slice none 0 0, .slice none 0 0, .slice none 0 0, .slice none 0 0, .int .i64 0, .slice none 0 0, .slice none 0 0, .int .i64 0, .slice none 0 0, .int .i64 0, .int .i64 0] 39)).setRow wY.heap.size c3) := below_setRow ((Below.refl _ _).alloc (Nat.le_refl _) _) (Nat.le_refl _) _
  have Z31 : Hid (Lies w [Thing.box w.heap.size #[.int .i64 kd, .int .i64 ex, .int .i64 le] 23, Thing.own (fun W => GtLie b0 t0 W (.agg c0) X) b0 t0 (fun h s k => GtLie.keep h s k), Thing.box t0 c0 39, Thing.box t2 c2 39, Thing.own (fun W => GtIn b2 t2 W (.agg c2) Xm) b2 t2 (fun h s k => GtIn.keep h s k), Thing.own (fun W => GtIn wCZ29.heap.size wY.heap.size W (.agg c3) X) wCZ29.heap.size wY.heap.size (fun h s k => GtIn.keep h s k), Thing.box wY.heap.size c3 39] ((wY.alloc (.cells #[.int .i64 0, .int .i64 0, .int .i64 0, .slice none 0 0, .slice none 0 0, .slice none 0 0, .slice none 0 0, .int .i64 0, .slice none 0 0, .slice none 0 0, .int .i64 0, .slice none 0 0, .int .i64 0, .int .i64 0] 39)).setRow wY.heap.size c3) ∧ wCZ29.heap.size ≤ wY.heap.size ∧ wY.heap.size + 1 ≤ ((wY.alloc (.cells #[.int .i64 0, .int .i64 0, .int .i64 0, .slice none 0 0, .slice none 0 0, .slice none 0 0, .slice none 0 0, .int .i64 0, .slice none 0 0, .slice none 0 0, .int .i64 0, .slice none 0 0, .int .i64 0, .int .i64 0] 39)).setRow wY.heap.size c3).heap.size ∧ w.heap.size + 1 ≤ wCZ29.heap.size) := ⟨(Z30.out.below q).more bN ⟨⟨GtIn.below iY bN, bN.size⟩, setRow_heap _ _ _ _ _ _ N.out, trivial⟩, q.size, by rw [size_setRow]; simp, Boxed.under (show Boxed _ w.heap.size _ _ from Z30.out.1.1)⟩
  clear bN q iY N Z30
  generalize ((wY.alloc (.cells #[.int .i64 0, .int .i64 0, .int .i64 0, .slice none 0 0, .slice none 0 0, .slice none 0 0, .slice none 0 0, .int .i64 0, .slice none 0 0, .slice none 0 0, .int .i64 0, .slice none 0 0, .int .i64 0, .int .i64 0] 39)).setRow wY.heap.size c3) = w3 at Z31 ⊢
  generalize wY.heap.size = t3 at Z31 ⊢
  generalize wCZ29.heap.size = b3 at Z31
  have Z31A : Hid (Lies w [Thing.box w.heap.size #[.int .i64 kd, .int .i64 ex, .int .i64 le] 23, Thing.own (fun W => GtLie b0 t0 W (.agg c0) X) b0 t0 (fun h s k => GtLie.keep h s k), Thing.box t0 c0 39, Thing.box t2 c2 39, Thing.own (fun W => GtIn b2 t2 W (.agg c2) Xm) b2 t2 (fun h s k => GtIn.keep h s k), Thing.own (fun W => GtIn b3 t3 W (.agg c3) X) b3 t3 (fun h s k => GtIn.keep h s k), Thing.box t3 c3 39] w3) := Z31.out.1
  have O3 : Hid (b3 ≤ t3 ∧ t3 + 1 ≤ w3.heap.size ∧ w.heap.size + 1 ≤ b3) := Z31.out.2
  clear Z31
  clear O3
  go_wp2_with (first | (refine wpList_load_row rfl 39 (.tmp 17) rfl t3 rfl _ _ _ _ (show Boxed _ _ _ _ from Z31A.out.1.2.2.2.2.2.2.1) Try.underlying39 rfl (by rw [Hc3.out.1]; kernel_rfl) ?_) | (refine wpList_load_row rfl 39 (.tmp 8) rfl t0 rfl _ _ _ _ (show Boxed _ _ _ _ from Z31A.out.1.2.2.1) Try.underlying39 rfl (by rw [Hc0.out.1]; kernel_rfl) ?_))
  refine (EX'.out _ _ _ (GtIn.at (show GtIn _ _ _ _ _ from Z31A.out.1.2.2.2.2.2.1.1)) (GtLie.at (show GtLie _ _ _ _ _ from Z31A.out.1.2.1.1))).mono ?_
  rintro e wE31 ⟨rfl, q⟩
  have Z32 : Hid (Lies w [Thing.box w.heap.size #[.int .i64 kd, .int .i64 ex, .int .i64 le] 23, Thing.own (fun W => GtLie b0 t0 W (.agg c0) X) b0 t0 (fun h s k => GtLie.keep h s k), Thing.box t0 c0 39, Thing.box t2 c2 39, Thing.own (fun W => GtIn b2 t2 W (.agg c2) Xm) b2 t2 (fun h s k => GtIn.keep h s k), Thing.own (fun W => GtIn b3 t3 W (.agg c3) X) b3 t3 (fun h s k => GtIn.keep h s k), Thing.box t3 c3 39] wE31) := Z31A.out.below q
  clear q Z31A
  go_upto_region 34 with fail
  go_wp2_with (refine wpList_load_row rfl 39 (.tmp 12) rfl t2 rfl _ _ _ _ (show Boxed _ _ _ _ from Z32.out.1.2.2.2.1) Try.underlying39 rfl (by rw [Hc2.out.1]; kernel_rfl) ?_)
  refine (HX'.out _ _ (GtIn.at (show GtIn _ _ _ _ _ from Z32.out.1.2.2.2.2.1.1))).mono ?_
  rintro e wQ ⟨rfl, q⟩
  have Z33 : Hid (Lies w [Thing.box w.heap.size #[.int .i64 kd, .int .i64 ex, .int .i64 le] 23, Thing.own (fun W => GtLie b0 t0 W (.agg c0) X) b0 t0 (fun h s k => GtLie.keep h s k), Thing.box t0 c0 39, Thing.box t2 c2 39, Thing.own (fun W => GtIn b2 t2 W (.agg c2) Xm) b2 t2 (fun h s k => GtIn.keep h s k), Thing.own (fun W => GtIn b3 t3 W (.agg c3) X) b3 t3 (fun h s k => GtIn.keep h s k), Thing.box t3 c3 39] wQ) := Z32.out.below q
  clear q Z32
  go_wp2
  go_ret
  exact ⟨rfl, Z33.out.2⟩
end Go.Proofs.Ytfkkmjejmflgjaa
