/-
  The walk of the exact law of PathOf, given what the program's PathOf answers. By the verifier, by program.
-/
import Derived.Test.YtdnghdepiiimmaaNdPathS
import Derived.Test.YtdnghdepiiimmaaNdW
import Derived.Test.YtdnghdepiiimmaaIntW
import Derived.Test.YtdnghdepiiimmaaThings
import Derived.Test.YtdnghdepiiimmaaStepRow
import Derived.Deep.RegionLaw
import Derived.Deep.DeepCutAuto
namespace Go.Proofs.Ytdnghdepiiimmaa
open Go.RowKit

set_option maxHeartbeats 12800000 in
set_option maxRecDepth 100000 in
theorem fnExactPathOf_of (impl' : ∀ (a : Option Addr) (c : Nat) (r : List Nd) (n : Int) (w : World), r.length ≤ 1048576 → r.length ≤ c → (a = none → c = 0) → Hid (NdsAt w a r) → Calls Try.prog 15 #[.slice a r.length c, .int .i64 n] w fun e w' => (∃ v', e = .returned (v') ∧ IRow w.heap.size w' v' (pathOf r n)) ∧ Below w.heap.size w w')
    (r : List Nd) (a : Option Addr) (c : Nat) (n : Int) (w : World) (hl : (r.length : Int) ≤ 9223372036854775807) (h : Hid (NdsAt w a r)) :
    Calls Try.prog 4 #[.slice a r.length c, .int .i64 n] w fun e w' => e = .returned (.bool true) ∧ Below w.heap.size w w' := by
  have S : ∀ w, Hid (NdsAt w a r) → Calls Try.prog 9 #[.slice a r.length c, .int .i64 1048576] w fun e w' => e = .returned (.int .i64 (if (1048576 : Int) - (r.length : Nat) < 0 then -1 else 1048576 - (r.length : Nat))) ∧ Below w.heap.size w w' := fun w h => (szNds 1048576 (by omega) (by omega) a c r.length w hl).mono fun e w' hh => ⟨hh.1, by rw [hh.2]; exact Below.refl _ _⟩
  by_cases hbig : (1048576 : Int) - (r.length : Nat) < 0
  · rw [if_pos hbig] at S
    generalize hn : r.length = n at S hl ⊢
    clear hn
    have S' : Hid _ := S
    clear S hbig
    have X : Hid (NdsAt w a r ∧ Below w.heap.size w w) := ⟨h.out.below (Below.refl _ _), (Below.refl _ _)⟩
    go_enter Try.func4, Try.ntmps4
    go_wp2_with fail
    refine (S'.out _ X.out.1).mono ?_
    rintro e w1 ⟨rfl, q⟩
    have X1 : Hid (Below w.heap.size w w1) := X.out.2.trans (q.mono X.out.2.size)
    clear q
    go_wp2
    go_ret
    exact ⟨rfl, X1.out⟩
  rw [if_neg hbig] at S
  have hB : r.length ≤ 1048576 := by omega
  have T : ∀ w, Hid (NdsAt w a r) → Calls Try.prog 11 #[.slice a r.length c] w fun e w' => (∃ p q, e = .returned (.slice p r.length q) ∧ NdsW w.heap.size w'.heap.size w' (.slice p r.length q) r) ∧ Below w.heap.size w w' := fun w h => (toNdW a c r w hB h).mono fun e w' hh => by
    obtain ⟨⟨v, rfl, hi⟩, hb⟩ := hh
    obtain ⟨p, q, rfl⟩ := NdsW.cells hi
    exact ⟨⟨p, q, rfl, hi⟩, hb⟩
  have hXB : (pathOf r n).length ≤ 1048576 := Nat.le_trans (pathOf_len r n) (by decide)
  obtain ⟨X, hXe⟩ : ∃ X, pathOf r n = X := ⟨_, rfl⟩
  have C : ∀ v w, Hid (NdsV w v r) → Calls Try.prog 14 #[v, .int .i64 n] w fun e w' => (∃ p q, e = .returned (.slice p X.length q) ∧ IntsW w.heap.size w'.heap.size w' (.slice p X.length q) X) ∧ Below w.heap.size w w' := fun v w h => by
    obtain ⟨a', c', rfl, k1, k2, k3⟩ := h.out
    exact (specPathOf a' c' r n w hB k1).mono fun e w' hh => by
      rw [hXe, ] at hh
      obtain ⟨⟨v, rfl, hi⟩, hb⟩ := hh
      have hi := IntsW.of_row hi
      obtain ⟨p, q, rfl⟩ := IntsW.cells hi
      exact ⟨⟨p, q, rfl, hi⟩, hb⟩
  have D : ∀ v w, Hid (NdsV w v r) → Calls Try.prog 15 #[v, .int .i64 n] w fun e w' => (∃ p q, e = .returned (.slice p X.length q) ∧ IntsW w.heap.size w'.heap.size w' (.slice p X.length q) X) ∧ Below w.heap.size w w' := fun v w h => by
    obtain ⟨a', c', rfl, k1, k2, k3⟩ := h.out
    exact (impl' a' c' r n w hB k2 k3 k1).mono fun e w' hh => by
      rw [hXe, ] at hh
      obtain ⟨⟨v, rfl, hi⟩, hb⟩ := hh
      have hi := IntsW.of_row hi
      obtain ⟨p, q, rfl⟩ := IntsW.cells hi
      exact ⟨⟨p, q, rfl, hi⟩, hb⟩
  rw [hXe] at hXB
  have ER := fun v1 v2 w h1 h2 => eqNdW v1 v2 r w hB h1 h2
  have EX := fun v1 v2 w h1 h2 => eqIntW v1 v2 X w hXB h1 h2
  have MR : ∀ b t v w, Hid (NdsW b t w v r) → Calls Try.prog 17 #[v, .int .i64 1] w fun e w' => e = .returned (.int .i64 (1 + 5 * (r.length : Int))) ∧ Span b t w w' := fun b t v w h => (markNdW b t v r w hB h).mono fun _ _ hh => ⟨hh.1, hh.2.2⟩
  have MX := fun b t v w h => markIntW b t v X w hXB h
  have HX := fun v w h => heldIntW v X w hXB h
  have m0 : ¬ 1 + 5 * (r.length : Int) < 0 := by omega
  have m1 : ¬ 1 + (X.length : Int) < 0 := by omega
  generalize 1 + 5 * (r.length : Int) = kr at MR m0
  generalize 1 + (X.length : Int) = kx at MX HX m1
  obtain ⟨Xm, hXm⟩ : ∃ Xm, intMk1 X = Xm := ⟨_, rfl⟩
  rw [hXm] at MX HX
  have hb0 : ¬ (1048576 : Int) - (r.length : Nat) < 0 := hbig
  generalize (1048576 : Int) - (r.length : Nat) = left at S hb0
  obtain ⟨n, hn⟩ : ∃ n, r.length = n := ⟨_, rfl⟩
  simp only [hn] at S T ⊢
  clear hn
  obtain ⟨xn, hxn⟩ : ∃ n, X.length = n := ⟨_, rfl⟩
  simp only [hxn] at C D
  clear hxn
  have S' : Hid _ := S
  have T' : Hid _ := T
  have C' : Hid _ := C
  have D' : Hid _ := D
  have ER' : Hid _ := ER
  have EX' : Hid _ := EX
  have MR' : Hid _ := MR
  have MX' : Hid _ := MX
  have HX' : Hid _ := HX
  clear S T C D ER EX MR MX HX hbig hB hXB hXe  hXm hl
  obtain ⟨W, hW⟩ : ∃ W, W = w := ⟨_, rfl⟩
  have X0 : Hid (Lies w [] W) := by
    rw [hW]
    refine ⟨trivial, (Below.refl _ _)⟩
  have HW : Hid (W = _) := hW
  have K : Hid (∀ w', Below w.heap.size w w' → NdsAt w' a r) := fun w' g => h.out.below g
  clear h hW
  go_enter Try.func4, Try.ntmps4
  go_wp2_with fail
  rw [← HW.out]
  refine (S'.out _ (K.out _ X0.out.2)).mono ?_
  rintro e w1 ⟨rfl, q⟩
  have Z : Hid (Lies w [] w1) := X0.out.below q
  clear q X0 S' HW
  go_wp2_with fail
  refine (T'.out _ (K.out _ Z.out.2)).mono ?_
  rintro e wAZ1 ⟨⟨pA, qA, rfl, iA⟩, g⟩
  have Z1 : Hid (Lies w [] wAZ1 ∧ NdsV wAZ1 (.slice pA n qA) r) := ⟨Z.out.below g, iA.at⟩
  clear g iA Z
  have Z1A : Hid (Lies w [] wAZ1) := Z1.out.1
  have AT : Hid (NdsV wAZ1 (.slice pA n qA) r) := Z1.out.2
  clear Z1
  go_wp2_with fail
  refine (C'.out _ _ AT.out).mono ?_
  rintro e wY ⟨⟨p0, q0, rfl, iY⟩, g⟩
  go_upto_region 6 with fail
  have bN : Below wY.heap.size wY wY := (Below.refl _ _)
  have Z2 : Hid (Lies w [Thing.own (fun W => IntsW wAZ1.heap.size wY.heap.size W (.slice p0 xn q0) X) wAZ1.heap.size wY.heap.size (fun h s k => IntsW.keep h s k)] wY ∧ wAZ1.heap.size ≤ wY.heap.size ∧ wY.heap.size + 0 ≤ wY.heap.size ∧ w.heap.size + 0 ≤ wAZ1.heap.size) := by
    refine ⟨(Z1A.out.below g).more bN ⟨⟨IntsW.below iY bN, bN.size⟩, trivial⟩, g.size, by simp, Z1A.out.2.size⟩
  clear bN g iY Z1A AT
  obtain ⟨w0, rfl⟩ : ∃ w0, w0 = wY := ⟨_, rfl⟩
  obtain ⟨t0, ht0⟩ : ∃ t, t = w0.heap.size := ⟨_, rfl⟩
  rw [← ht0] at Z2
  have HHt0 : Hid (t0 + 0 ≤ w0.heap.size) := Nat.le_of_eq ht0
  clear ht0
  generalize wAZ1.heap.size = b0 at Z2
  have Z2A : Hid (Lies w [Thing.own (fun W => IntsW b0 t0 W (.slice p0 xn q0) X) b0 t0 (fun h s k => IntsW.keep h s k)] w0) := Z2.out.1
  have O0 : Hid (b0 ≤ t0 ∧ t0 + 0 ≤ w0.heap.size ∧ w.heap.size + 0 ≤ b0) := ⟨Z2.out.2.1, HHt0.out, Z2.out.2.2.2⟩
  clear Z2 HHt0
  go_wp2_with fail
  refine (T'.out _ (K.out _ Z2A.out.2)).mono ?_
  rintro e wC ⟨⟨p1, q1, rfl, iC⟩, g⟩
  go_upto_region 7 with fail
  have bN : Below wC.heap.size wC wC := Below.refl _ _
  have Z3 : Hid (Lies w [Thing.own (fun W => IntsW b0 t0 W (.slice p0 xn q0) X) b0 t0 (fun h s k => IntsW.keep h s k), Thing.own (fun W => NdsW w0.heap.size wC.heap.size W (.slice p1 n q1) r) w0.heap.size wC.heap.size (fun h s k => NdsW.keep h s k)] wC ∧ w0.heap.size ≤ wC.heap.size ∧ wC.heap.size + 0 ≤ wC.heap.size) := ⟨(Z2A.out.below g).more bN ⟨⟨NdsW.below iC bN, bN.size⟩, trivial⟩, g.size, by simp⟩
  clear bN g iC Z2A
  obtain ⟨w6, rfl⟩ : ∃ w6, w6 = wC := ⟨_, rfl⟩
  obtain ⟨t1, ht1⟩ : ∃ t, t = w6.heap.size := ⟨_, rfl⟩
  rw [← ht1] at Z3
  have Ht1 : Hid (t1 ≤ w6.heap.size) := Nat.le_of_eq ht1
  clear ht1
  generalize w0.heap.size = b1 at Z3 O0
  have Z3A : Hid (Lies w [Thing.own (fun W => IntsW b0 t0 W (.slice p0 xn q0) X) b0 t0 (fun h s k => IntsW.keep h s k), Thing.own (fun W => NdsW b1 t1 W (.slice p1 n q1) r) b1 t1 (fun h s k => NdsW.keep h s k)] w6) := Z3.out.1
  have O1 : Hid (b1 ≤ t1 ∧ t1 + 0 ≤ w6.heap.size ∧ _) := ⟨Z3.out.2.1, Ht1.out, O0.out⟩
  clear Z3 O0 Ht1
  go_wp2_with fail
  refine (D'.out _ _ (NdsW.at (show NdsW _ _ _ _ _ from Z3A.out.1.2.1.1))).mono ?_
  rintro e wY ⟨⟨p2, q2, rfl, iY⟩, g⟩
  go_upto_region 8 with fail
  have bN : Below wY.heap.size wY wY := (Below.refl _ _)
  have Z4 : Hid (Lies w [Thing.own (fun W => IntsW b0 t0 W (.slice p0 xn q0) X) b0 t0 (fun h s k => IntsW.keep h s k), Thing.own (fun W => NdsW b1 t1 W (.slice p1 n q1) r) b1 t1 (fun h s k => NdsW.keep h s k), Thing.own (fun W => IntsW w6.heap.size wY.heap.size W (.slice p2 xn q2) X) w6.heap.size wY.heap.size (fun h s k => IntsW.keep h s k)] wY ∧ w6.heap.size ≤ wY.heap.size ∧ wY.heap.size + 0 ≤ wY.heap.size ∧ w.heap.size + 0 ≤ w6.heap.size) := by
    refine ⟨(Z3A.out.below g).more bN ⟨⟨IntsW.below iY bN, bN.size⟩, trivial⟩, g.size, by simp, Z3A.out.2.size⟩
  clear bN g iY Z3A
  obtain ⟨w2, rfl⟩ : ∃ w2, w2 = wY := ⟨_, rfl⟩
  obtain ⟨t2, ht2⟩ : ∃ t, t = w2.heap.size := ⟨_, rfl⟩
  rw [← ht2] at Z4
  have HHt2 : Hid (t2 + 0 ≤ w2.heap.size) := Nat.le_of_eq ht2
  clear ht2
  generalize w6.heap.size = b2 at Z4 O1
  have Z4A : Hid (Lies w [Thing.own (fun W => IntsW b0 t0 W (.slice p0 xn q0) X) b0 t0 (fun h s k => IntsW.keep h s k), Thing.own (fun W => NdsW b1 t1 W (.slice p1 n q1) r) b1 t1 (fun h s k => NdsW.keep h s k), Thing.own (fun W => IntsW b2 t2 W (.slice p2 xn q2) X) b2 t2 (fun h s k => IntsW.keep h s k)] w2) := Z4.out.1
  have O2 : Hid (b2 ≤ t2 ∧ t2 + 0 ≤ w2.heap.size ∧ w.heap.size + 0 ≤ b2) := ⟨Z4.out.2.1, HHt2.out, Z4.out.2.2.2⟩
  clear Z4 HHt2
  have OO : Hid (_ ∧ _) := ⟨O1.out, O2.out⟩
  clear O1 O2
  go_wp2_with fail
  refine (EX'.out _ _ _ (IntsW.at (show IntsW _ _ _ _ _ from Z4A.out.1.2.2.1.1)) (IntsW.at (show IntsW _ _ _ _ _ from Z4A.out.1.1.1))).mono ?_
  rintro e wE4 ⟨rfl, g⟩
  have Z5 : Hid (Lies w [Thing.own (fun W => IntsW b0 t0 W (.slice p0 xn q0) X) b0 t0 (fun h s k => IntsW.keep h s k), Thing.own (fun W => NdsW b1 t1 W (.slice p1 n q1) r) b1 t1 (fun h s k => NdsW.keep h s k), Thing.own (fun W => IntsW b2 t2 W (.slice p2 xn q2) X) b2 t2 (fun h s k => IntsW.keep h s k)] wE4) := Z4A.out.below g
  clear g Z4A
  go_upto_region 10 with fail
  go_wp2_with fail
  refine (T'.out _ (K.out _ Z5.out.2)).mono ?_
  rintro e wAZ6 ⟨⟨pA, qA, rfl, iA⟩, g⟩
  have Z6 : Hid (Lies w [Thing.own (fun W => IntsW b0 t0 W (.slice p0 xn q0) X) b0 t0 (fun h s k => IntsW.keep h s k), Thing.own (fun W => NdsW b1 t1 W (.slice p1 n q1) r) b1 t1 (fun h s k => NdsW.keep h s k), Thing.own (fun W => IntsW b2 t2 W (.slice p2 xn q2) X) b2 t2 (fun h s k => IntsW.keep h s k)] wAZ6 ∧ NdsV wAZ6 (.slice pA n qA) r) := ⟨Z5.out.below g, iA.at⟩
  clear g iA Z5
  have Z6A : Hid (Lies w [Thing.own (fun W => IntsW b0 t0 W (.slice p0 xn q0) X) b0 t0 (fun h s k => IntsW.keep h s k), Thing.own (fun W => NdsW b1 t1 W (.slice p1 n q1) r) b1 t1 (fun h s k => NdsW.keep h s k), Thing.own (fun W => IntsW b2 t2 W (.slice p2 xn q2) X) b2 t2 (fun h s k => IntsW.keep h s k)] wAZ6) := Z6.out.1
  have AT : Hid (NdsV wAZ6 (.slice pA n qA) r) := Z6.out.2
  clear Z6
  go_wp2_with fail
  refine (ER'.out _ _ _ (NdsW.at (show NdsW _ _ _ _ _ from Z6A.out.1.2.1.1)) AT.out).mono ?_
  rintro e wF ⟨rfl, g⟩
  have Z7 : Hid (Lies w [Thing.own (fun W => IntsW b0 t0 W (.slice p0 xn q0) X) b0 t0 (fun h s k => IntsW.keep h s k), Thing.own (fun W => NdsW b1 t1 W (.slice p1 n q1) r) b1 t1 (fun h s k => NdsW.keep h s k), Thing.own (fun W => IntsW b2 t2 W (.slice p2 xn q2) X) b2 t2 (fun h s k => IntsW.keep h s k)] wF) := Z6A.out.below g
  clear g Z6A AT
  go_upto_region 13 with fail
  go_wp2_with fail
  refine (MR'.out b1 t1 _ _ (show NdsW _ _ _ _ _ from Z7.out.1.2.1.1)).mono ?_
  rintro e wG ⟨rfl, q⟩
  have Z8 : Hid (Lies w [Thing.own (fun W => IntsW b0 t0 W (.slice p0 xn q0) X) b0 t0 (fun h s k => IntsW.keep h s k), Thing.own (fun W => IntsW b2 t2 W (.slice p2 xn q2) X) b2 t2 (fun h s k => IntsW.keep h s k)] wG) := by
    have oo := OO.out
    have k0 : Lies w [Thing.own (fun W => IntsW b0 t0 W (.slice p0 xn q0) X) b0 t0 (fun h s k => IntsW.keep h s k), Thing.own (fun W => IntsW b2 t2 W (.slice p2 xn q2) X) b2 t2 (fun h s k => IntsW.keep h s k)] wF := ⟨⟨Z7.out.1.1, Z7.out.1.2.2.1, trivial⟩, Z7.out.2⟩
    exact k0.span q ⟨(show t0 ≤ b1 ∨ t1 ≤ b0 by omega), (show t2 ≤ b1 ∨ t1 ≤ b2 by omega), trivial⟩ (by omega)
  clear q Z7
  go_upto_region 14 with fail
  go_wp2_with fail
  refine (EX'.out _ _ _ (IntsW.at (show IntsW _ _ _ _ _ from Z8.out.1.2.1.1)) (IntsW.at (show IntsW _ _ _ _ _ from Z8.out.1.1.1))).mono ?_
  rintro e wE8 ⟨rfl, g⟩
  have Z9 : Hid (Lies w [Thing.own (fun W => IntsW b0 t0 W (.slice p0 xn q0) X) b0 t0 (fun h s k => IntsW.keep h s k), Thing.own (fun W => IntsW b2 t2 W (.slice p2 xn q2) X) b2 t2 (fun h s k => IntsW.keep h s k)] wE8) := Z8.out.below g
  clear g Z8
  go_upto_region 17 with fail
  go_wp2_with fail
  refine (MX'.out b2 t2 _ _ (show IntsW _ _ _ _ _ from Z9.out.1.2.1.1)).mono ?_
  rintro e wJ ⟨rfl, m, q⟩
  have Z10 : Hid (Lies w [Thing.own (fun W => IntsW b0 t0 W (.slice p0 xn q0) X) b0 t0 (fun h s k => IntsW.keep h s k), Thing.own (fun W => IntsW b2 t2 W (.slice p2 xn q2) Xm) b2 t2 (fun h s k => IntsW.keep h s k)] wJ) := by
    have oo := OO.out
    have k0 : Lies w [Thing.own (fun W => IntsW b0 t0 W (.slice p0 xn q0) X) b0 t0 (fun h s k => IntsW.keep h s k)] wE8 := ⟨⟨Z9.out.1.1, trivial⟩, Z9.out.2⟩
    have k1 := k0.span q ⟨(show t0 ≤ b2 ∨ t2 ≤ b0 by omega), trivial⟩ (by omega)
    exact ⟨k1.1.app (us := [Thing.own (fun W => IntsW b2 t2 W (.slice p2 xn q2) Xm) b2 t2 (fun h s k => IntsW.keep h s k)]) ⟨⟨m, Nat.le_trans (show t2 ≤ wE8.heap.size from Z9.out.1.2.1.2) q.size⟩, trivial⟩, k1.2⟩
  clear q m Z9
  go_upto_region 19 with fail
  go_wp2_with fail
  refine (HX'.out _ _ (IntsW.at (show IntsW _ _ _ _ _ from Z10.out.1.2.1.1))).mono ?_
  rintro e wK ⟨rfl, g⟩
  have Z11 : Hid (Lies w [Thing.own (fun W => IntsW b0 t0 W (.slice p0 xn q0) X) b0 t0 (fun h s k => IntsW.keep h s k), Thing.own (fun W => IntsW b2 t2 W (.slice p2 xn q2) Xm) b2 t2 (fun h s k => IntsW.keep h s k)] wK) := Z10.out.below g
  clear g Z10
  go_upto_region 24 with fail
  go_wp2_with fail
  refine (T'.out _ (K.out _ Z11.out.2)).mono ?_
  rintro e wAZ12 ⟨⟨pA, qA, rfl, iA⟩, g⟩
  have Z12 : Hid (Lies w [Thing.own (fun W => IntsW b0 t0 W (.slice p0 xn q0) X) b0 t0 (fun h s k => IntsW.keep h s k), Thing.own (fun W => IntsW b2 t2 W (.slice p2 xn q2) Xm) b2 t2 (fun h s k => IntsW.keep h s k)] wAZ12 ∧ NdsV wAZ12 (.slice pA n qA) r) := ⟨Z11.out.below g, iA.at⟩
  clear g iA Z11
  have Z12A : Hid (Lies w [Thing.own (fun W => IntsW b0 t0 W (.slice p0 xn q0) X) b0 t0 (fun h s k => IntsW.keep h s k), Thing.own (fun W => IntsW b2 t2 W (.slice p2 xn q2) Xm) b2 t2 (fun h s k => IntsW.keep h s k)] wAZ12) := Z12.out.1
  have AT : Hid (NdsV wAZ12 (.slice pA n qA) r) := Z12.out.2
  clear Z12
  go_wp2_with fail
  refine (D'.out _ _ AT.out).mono ?_
  rintro e wY ⟨⟨p3, q3, rfl, iY⟩, g⟩
  go_upto_region 25 with fail
  have bN : Below wY.heap.size wY wY := (Below.refl _ _)
  have Z13 : Hid (Lies w [Thing.own (fun W => IntsW b0 t0 W (.slice p0 xn q0) X) b0 t0 (fun h s k => IntsW.keep h s k), Thing.own (fun W => IntsW b2 t2 W (.slice p2 xn q2) Xm) b2 t2 (fun h s k => IntsW.keep h s k), Thing.own (fun W => IntsW wAZ12.heap.size wY.heap.size W (.slice p3 xn q3) X) wAZ12.heap.size wY.heap.size (fun h s k => IntsW.keep h s k)] wY ∧ wAZ12.heap.size ≤ wY.heap.size ∧ wY.heap.size + 0 ≤ wY.heap.size ∧ w.heap.size + 0 ≤ wAZ12.heap.size) := by
    refine ⟨(Z12A.out.below g).more bN ⟨⟨IntsW.below iY bN, bN.size⟩, trivial⟩, g.size, by simp, Z12A.out.2.size⟩
  clear bN g iY Z12A AT
  obtain ⟨w3, rfl⟩ : ∃ w3, w3 = wY := ⟨_, rfl⟩
  obtain ⟨t3, ht3⟩ : ∃ t, t = w3.heap.size := ⟨_, rfl⟩
  rw [← ht3] at Z13
  have HHt3 : Hid (t3 + 0 ≤ w3.heap.size) := Nat.le_of_eq ht3
  clear ht3
  generalize wAZ12.heap.size = b3 at Z13
  have Z13A : Hid (Lies w [Thing.own (fun W => IntsW b0 t0 W (.slice p0 xn q0) X) b0 t0 (fun h s k => IntsW.keep h s k), Thing.own (fun W => IntsW b2 t2 W (.slice p2 xn q2) Xm) b2 t2 (fun h s k => IntsW.keep h s k), Thing.own (fun W => IntsW b3 t3 W (.slice p3 xn q3) X) b3 t3 (fun h s k => IntsW.keep h s k)] w3) := Z13.out.1
  have O3 : Hid (b3 ≤ t3 ∧ t3 + 0 ≤ w3.heap.size ∧ w.heap.size + 0 ≤ b3) := ⟨Z13.out.2.1, HHt3.out, Z13.out.2.2.2⟩
  clear Z13 HHt3
  clear O3
  go_wp2_with fail
  refine (EX'.out _ _ _ (IntsW.at (show IntsW _ _ _ _ _ from Z13A.out.1.2.2.1.1)) (IntsW.at (show IntsW _ _ _ _ _ from Z13A.out.1.1.1))).mono ?_
  rintro e wE13 ⟨rfl, g⟩
  have Z14 : Hid (Lies w [Thing.own (fun W => IntsW b0 t0 W (.slice p0 xn q0) X) b0 t0 (fun h s k => IntsW.keep h s k), Thing.own (fun W => IntsW b2 t2 W (.slice p2 xn q2) Xm) b2 t2 (fun h s k => IntsW.keep h s k), Thing.own (fun W => IntsW b3 t3 W (.slice p3 xn q3) X) b3 t3 (fun h s k => IntsW.keep h s k)] wE13) := Z13A.out.below g
  clear g Z13A
  go_upto_region 28 with fail
  go_wp2_with fail
  refine (HX'.out _ _ (IntsW.at (show IntsW _ _ _ _ _ from Z14.out.1.2.1.1))).mono ?_
  rintro e wQ ⟨rfl, g⟩
  have Z15 : Hid (Lies w [Thing.own (fun W => IntsW b0 t0 W (.slice p0 xn q0) X) b0 t0 (fun h s k => IntsW.keep h s k), Thing.own (fun W => IntsW b2 t2 W (.slice p2 xn q2) Xm) b2 t2 (fun h s k => IntsW.keep h s k), Thing.own (fun W => IntsW b3 t3 W (.slice p3 xn q3) X) b3 t3 (fun h s k => IntsW.keep h s k)] wQ) := Z14.out.below g
  clear g Z14
  go_wp2
  go_ret
  exact ⟨rfl, Z15.out.2⟩
end Go.Proofs.Ytdnghdepiiimmaa
