/-
  The walk of the exact law of WheelTake, given what the program's WheelTake answers. By the verifier, by program.
-/
import Derived.Test.YtgimalimfmoilaaWhTakeS
import Derived.Test.YtgimalimfmoilaaM7WhBig
import Derived.Test.YtgimalimfmoilaaM11Things
import Derived.Test.YtgimalimfmoilaaM8DuCopy
import Derived.Test.YtgimalimfmoilaaStepRow
import Derived.Deep.RegionLaw
import Derived.Deep.DeepCutAuto
namespace Go.Proofs.Ytgimalimfmoilaa
open Go.RowKit

set_option maxHeartbeats 12800000 in
set_option maxRecDepth 100000 in
theorem fnExactWheelTake_of (impl' : ∀ (r : Wh) (v : Value) (w : World), r.big ≤ 1048576 → Hid (WhAt w v r) → Calls Try.prog 32 #[v] w fun e w' => (∃ v', e = .returned (.tuple #[v', Du.val (r.takeD), .bool (r.takeB)]) ∧ WhIn w.heap.size w'.heap.size w' v' (r.take)) ∧ Below w.heap.size w w')
    (r : Wh) (a : Option Addr) (c : Nat) (w : World) (hl : (r.slots.length : Int) ≤ 9223372036854775807) (hin : Hid (∀ k, k < r.slots.length → ((dzAt r.slots k).length : Int) ≤ 9223372036854775807)) (h : Hid (DzAt w a r.slots)) :
    Calls Try.prog 8 #[r.val a c] w fun e w' => e = .returned (.bool true) ∧ Below w.heap.size w w' := by
  have S := fun (w : World) (h : Hid (DzAt w a r.slots)) => szWhs 1048576 (by omega) (by omega) r a c w hl hin h
  by_cases hbig : (1048576 : Int) - (r.big : Nat) < 0
  · rw [if_pos hbig] at S
    obtain ⟨f, ls⟩ := r
    simp only [Wh.val] at S h ⊢
    generalize ls.length = n at S hl ⊢
    have S' : Hid _ := S
    clear S hbig
    have X : Hid (DzAt (w.alloc (.cells #[.int .i64 f, .slice a n c] 42)) a ls ∧ Below w.heap.size w (w.alloc (.cells #[.int .i64 f, .slice a n c] 42))) := ⟨h.out.below ((Below.refl _ _).alloc (Nat.le_refl _) _), ((Below.refl _ _).alloc (Nat.le_refl _) _)⟩
    go_enter Try.func8, Try.ntmps8
    go_wp2_with fail
    refine (S'.out _ X.out.1).mono ?_
    rintro e w1 ⟨rfl, q⟩
    have X1 : Hid (Below w.heap.size w w1) := X.out.2.trans (q.mono X.out.2.size)
    clear q
    go_wp2
    go_ret
    exact ⟨rfl, X1.out⟩
  rw [if_neg hbig] at S
  have hB : r.big ≤ 1048576 := by omega
  have T : ∀ w, Hid (DzAt w a r.slots) → Calls Try.prog 24 #[r.val a c] w fun e w' => (∃ p q, e = .returned (.agg #[.int .i64 r.step, .slice p r.slots.length q]) ∧ WhIn w.heap.size w'.heap.size w' (.agg #[.int .i64 r.step, .slice p r.slots.length q]) r) ∧ Below w.heap.size w w' := fun w h => (toWhs r a c w hB h).mono fun e w' hh => by
    obtain ⟨⟨v, rfl, hi⟩, hb⟩ := hh
    obtain ⟨p, q, rfl⟩ := WhIn.cells hi
    exact ⟨⟨p, q, rfl, hi⟩, hb⟩
  have hXB : (r.take).big ≤ 1048576 := Wh.big_take hB
  obtain ⟨X, hXe⟩ : ∃ X, r.take = X := ⟨_, rfl⟩
  obtain ⟨J0, hJ0⟩ : ∃ J, r.takeD = J := ⟨_, rfl⟩
  obtain ⟨t1', ht1'⟩ : ∃ t, r.takeB = t := ⟨_, rfl⟩
  have C : ∀ v w, Hid (WhAt w v r) → Calls Try.prog 31 #[v] w fun e w' => (∃ p q, e = .returned (.tuple #[.agg #[.int .i64 X.step, .slice p X.slots.length q], J0.val, .bool t1']) ∧ WhIn w.heap.size w'.heap.size w' (.agg #[.int .i64 X.step, .slice p X.slots.length q]) X) ∧ Below w.heap.size w w' := fun v w h => (specWheelTake r v w hB h).mono fun e w' hh => by
      rw [hXe, hJ0, ht1'] at hh
      obtain ⟨⟨v, rfl, hi⟩, hb⟩ := hh
      obtain ⟨p, q, rfl⟩ := WhIn.cells hi
      exact ⟨⟨p, q, rfl, hi⟩, hb⟩
  have D : ∀ v w, Hid (WhAt w v r) → Calls Try.prog 32 #[v] w fun e w' => (∃ p q, e = .returned (.tuple #[.agg #[.int .i64 X.step, .slice p X.slots.length q], J0.val, .bool t1']) ∧ WhIn w.heap.size w'.heap.size w' (.agg #[.int .i64 X.step, .slice p X.slots.length q]) X) ∧ Below w.heap.size w w' := fun v w h => (impl' r v w hB h).mono fun e w' hh => by
      rw [hXe, hJ0, ht1'] at hh
      obtain ⟨⟨v, rfl, hi⟩, hb⟩ := hh
      obtain ⟨p, q, rfl⟩ := WhIn.cells hi
      exact ⟨⟨p, q, rfl, hi⟩, hb⟩
  rw [hXe] at hXB
  have ER := fun v1 v2 w h1 h2 => eqWhs v1 v2 r w hB h1 h2
  have EX := fun v1 v2 w h1 h2 => eqWhs v1 v2 X w hXB h1 h2
  have MR : ∀ b t v w, Hid (WhIn b t w v r) → Calls Try.prog 29 #[v, .int .i64 1] w fun e w' => e = .returned (.int .i64 (1 + 2 * (dzSum r.slots r.slots.length : Int))) ∧ Span b t w w' := fun b t v w h => (markWhs 1 (by omega) (by omega) b t v r w hB h).mono fun _ _ hh => ⟨hh.1, hh.2.2⟩
  have MX := fun b t v w h => markWhs 1 (by omega) (by omega) b t v X w hXB h
  have HX := fun v w h => heldWhs 1 (by omega) (by omega) v X w hXB h
  have m0 : ¬ 1 + 2 * (dzSum r.slots r.slots.length : Int) < 0 := by omega
  have m1 : ¬ 1 + 2 * (dzSum X.slots X.slots.length : Int) < 0 := by omega
  generalize 1 + 2 * (dzSum r.slots r.slots.length : Int) = kr at MR m0
  generalize 1 + 2 * (dzSum X.slots X.slots.length : Int) = kx at MX HX m1
  obtain ⟨Xm, hXm⟩ : ∃ Xm, X.mk' 1 = Xm := ⟨_, rfl⟩
  rw [hXm] at MX HX
  have EJ0 := fun w => eqDu J0 w
  have hb0 : ¬ (1048576 : Int) - (r.big : Nat) < 0 := hbig
  generalize (1048576 : Int) - (r.big : Nat) = left at S hb0
  obtain ⟨n, hn⟩ : ∃ n, r.slots.length = n := ⟨_, rfl⟩
  obtain ⟨f, hf⟩ : ∃ f, r.step = f := ⟨_, rfl⟩
  unfold Wh.val at S T ⊢
  simp only [hn, hf] at S T ⊢
  clear hn hf
  obtain ⟨xn, hxn⟩ : ∃ n, X.slots.length = n := ⟨_, rfl⟩
  obtain ⟨xf, hxf⟩ : ∃ f, X.step = f := ⟨_, rfl⟩
  simp only [hxn, hxf] at C D
  clear hxn hxf
  obtain ⟨j0_0, j0_1⟩ := J0
  simp only [Du.val] at C D EJ0 ⊢
  have S' : Hid _ := S
  have T' : Hid _ := T
  have C' : Hid _ := C
  have D' : Hid _ := D
  have ER' : Hid _ := ER
  have EX' : Hid _ := EX
  have MR' : Hid _ := MR
  have MX' : Hid _ := MX
  have HX' : Hid _ := HX
  have EJ0' : Hid _ := EJ0
  clear S T C D ER EX MR MX HX EJ0 hbig hB hXB hXe hJ0 ht1' hXm hl hin
  obtain ⟨W, hW⟩ : ∃ W, W = (w.alloc (.cells #[.int .i64 f, .slice a n c] 42)) := ⟨_, rfl⟩
  have X0 : Hid (Lies w [Thing.box w.heap.size #[.int .i64 f, .slice a n c] 42] W) := by
    rw [hW]
    refine ⟨⟨?_, trivial⟩, ((Below.refl _ _).alloc (Nat.le_refl _) _)⟩
    · have := (Boxed.new w #[.int .i64 f, .slice a n c] 42)
      simpa using this
  have HW : Hid (W = _) := hW
  have K : Hid (∀ w', Below w.heap.size w w' → DzAt w' a r.slots) := fun w' g => h.out.below g
  clear h hW
  go_enter Try.func8, Try.ntmps8
  go_wp2_with fail
  rw [← HW.out]
  refine (S'.out _ (K.out _ X0.out.2)).mono ?_
  rintro e w1 ⟨rfl, q⟩
  have Z : Hid (Lies w [Thing.box w.heap.size #[.int .i64 f, .slice a n c] 42] w1) := X0.out.below q
  clear q X0 S' HW
  have c0 : w1.cell? ⟨w.heap.size, 0, none⟩ = some (.int .i64 f) := Boxed.cell (show Boxed _ _ _ _ from Z.out.1.1) 0 rfl
  have c1 : w1.cell? ⟨w.heap.size, 1, none⟩ = some (.slice a n c) := Boxed.cell (show Boxed _ _ _ _ from Z.out.1.1) 1 rfl
  go_wp2_with fail
  refine (T'.out _ (K.out _ Z.out.2)).mono ?_
  rintro e wAZ1 ⟨⟨pA, qA, rfl, iA⟩, g⟩
  have Z1 : Hid (Lies w [Thing.box w.heap.size #[.int .i64 f, .slice a n c] 42] wAZ1 ∧ WhAt wAZ1 (.agg #[.int .i64 f, .slice pA n qA]) r) := ⟨Z.out.below g, iA.at⟩
  clear g iA Z c0 c1
  have Z1A : Hid (Lies w [Thing.box w.heap.size #[.int .i64 f, .slice a n c] 42] wAZ1) := Z1.out.1
  have AT : Hid (WhAt wAZ1 (.agg #[.int .i64 f, .slice pA n qA]) r) := Z1.out.2
  clear Z1
  go_wp2_with fail
  refine (C'.out _ _ AT.out).mono ?_
  rintro e wY ⟨⟨p0, q0, rfl, iY⟩, g⟩
  go_upto_region 6 with fail
  have bN : Below wY.heap.size wY ((wY.alloc (.cells #[.int .i64 xf, .slice p0 xn q0] 47)).alloc (.cells #[.int .i64 j0_0, .int .i64 j0_1] 33)) := (((Below.refl _ _).alloc (Nat.le_refl _) _).alloc (by simp) _)
  have Z2 : Hid (Lies w [Thing.box w.heap.size #[.int .i64 f, .slice a n c] 42, Thing.own (fun W => WhIn wAZ1.heap.size wY.heap.size W (.agg #[.int .i64 xf, .slice p0 xn q0]) X) wAZ1.heap.size wY.heap.size (fun h s k => WhIn.keep h s k), Thing.box wY.heap.size #[.int .i64 xf, .slice p0 xn q0] 47, Thing.box (wY.heap.size + 1) #[.int .i64 j0_0, .int .i64 j0_1] 33] ((wY.alloc (.cells #[.int .i64 xf, .slice p0 xn q0] 47)).alloc (.cells #[.int .i64 j0_0, .int .i64 j0_1] 33)) ∧ wAZ1.heap.size ≤ wY.heap.size ∧ wY.heap.size + 2 ≤ ((wY.alloc (.cells #[.int .i64 xf, .slice p0 xn q0] 47)).alloc (.cells #[.int .i64 j0_0, .int .i64 j0_1] 33)).heap.size ∧ w.heap.size + 1 ≤ wAZ1.heap.size) := by
    refine ⟨(Z1A.out.below g).more bN ⟨⟨WhIn.below iY bN, bN.size⟩, ?_, ?_, trivial⟩, g.size, by simp, by have := Boxed.under (show Boxed _ _ _ _ from Z1A.out.1.1); omega⟩
    · have := ((Boxed.new wY #[.int .i64 xf, .slice p0 xn q0] 47).more (.cells #[.int .i64 j0_0, .int .i64 j0_1] 33))
      simpa using this
    · have := (Boxed.new (wY.alloc (.cells #[.int .i64 xf, .slice p0 xn q0] 47)) #[.int .i64 j0_0, .int .i64 j0_1] 33)
      simpa using this
  clear bN g iY Z1A AT
  generalize ((wY.alloc (.cells #[.int .i64 xf, .slice p0 xn q0] 47)).alloc (.cells #[.int .i64 j0_0, .int .i64 j0_1] 33)) = w0 at Z2 ⊢
  generalize wY.heap.size = t0 at Z2 ⊢
  generalize wAZ1.heap.size = b0 at Z2
  have Z2A : Hid (Lies w [Thing.box w.heap.size #[.int .i64 f, .slice a n c] 42, Thing.own (fun W => WhIn b0 t0 W (.agg #[.int .i64 xf, .slice p0 xn q0]) X) b0 t0 (fun h s k => WhIn.keep h s k), Thing.box t0 #[.int .i64 xf, .slice p0 xn q0] 47, Thing.box (t0 + 1) #[.int .i64 j0_0, .int .i64 j0_1] 33] w0) := Z2.out.1
  have O0 : Hid (b0 ≤ t0 ∧ t0 + 2 ≤ w0.heap.size ∧ w.heap.size + 1 ≤ b0) := Z2.out.2
  clear Z2
  have c0 : w0.cell? ⟨w.heap.size, 0, none⟩ = some (.int .i64 f) := Boxed.cell (show Boxed _ _ _ _ from Z2A.out.1.1) 0 rfl
  have c1 : w0.cell? ⟨w.heap.size, 1, none⟩ = some (.slice a n c) := Boxed.cell (show Boxed _ _ _ _ from Z2A.out.1.1) 1 rfl
  go_wp2_with fail
  refine (T'.out _ (K.out _ Z2A.out.2)).mono ?_
  rintro e wC ⟨⟨p1, q1, rfl, iC⟩, g⟩
  go_upto_region 7 with fail
  have bN : Below wC.heap.size wC (wC.alloc (.cells #[.int .i64 f, .slice p1 n q1] 47)) := (Below.refl _ _).alloc (Nat.le_refl _) _
  have Z3 : Hid (Lies w [Thing.box w.heap.size #[.int .i64 f, .slice a n c] 42, Thing.own (fun W => WhIn b0 t0 W (.agg #[.int .i64 xf, .slice p0 xn q0]) X) b0 t0 (fun h s k => WhIn.keep h s k), Thing.box t0 #[.int .i64 xf, .slice p0 xn q0] 47, Thing.box (t0 + 1) #[.int .i64 j0_0, .int .i64 j0_1] 33, Thing.own (fun W => WhIn w0.heap.size wC.heap.size W (.agg #[.int .i64 f, .slice p1 n q1]) r) w0.heap.size wC.heap.size (fun h s k => WhIn.keep h s k), Thing.box wC.heap.size #[.int .i64 f, .slice p1 n q1] 47] (wC.alloc (.cells #[.int .i64 f, .slice p1 n q1] 47)) ∧ w0.heap.size ≤ wC.heap.size ∧ wC.heap.size + 1 ≤ (wC.alloc (.cells #[.int .i64 f, .slice p1 n q1] 47)).heap.size) := ⟨(Z2A.out.below g).more bN ⟨⟨WhIn.below iC bN, bN.size⟩, Boxed.new _ _ _, trivial⟩, g.size, by simp⟩
  clear bN g iC Z2A c0 c1
  generalize (wC.alloc (.cells #[.int .i64 f, .slice p1 n q1] 47)) = w6 at Z3 ⊢
  generalize wC.heap.size = t1 at Z3 ⊢
  generalize w0.heap.size = b1 at Z3 O0
  have Z3A : Hid (Lies w [Thing.box w.heap.size #[.int .i64 f, .slice a n c] 42, Thing.own (fun W => WhIn b0 t0 W (.agg #[.int .i64 xf, .slice p0 xn q0]) X) b0 t0 (fun h s k => WhIn.keep h s k), Thing.box t0 #[.int .i64 xf, .slice p0 xn q0] 47, Thing.box (t0 + 1) #[.int .i64 j0_0, .int .i64 j0_1] 33, Thing.own (fun W => WhIn b1 t1 W (.agg #[.int .i64 f, .slice p1 n q1]) r) b1 t1 (fun h s k => WhIn.keep h s k), Thing.box t1 #[.int .i64 f, .slice p1 n q1] 47] w6) := Z3.out.1
  have O1 : Hid (b1 ≤ t1 ∧ t1 + 1 ≤ w6.heap.size ∧ _) := ⟨Z3.out.2.1, Z3.out.2.2, O0.out⟩
  clear Z3 O0
  have dr0 : w6.cell? ⟨t1, 0, none⟩ = some (.int .i64 f) := Boxed.cell (show Boxed _ _ _ _ from Z3A.out.1.2.2.2.2.2.1) 0 rfl
  have dr1 : w6.cell? ⟨t1, 1, none⟩ = some (.slice p1 n q1) := Boxed.cell (show Boxed _ _ _ _ from Z3A.out.1.2.2.2.2.2.1) 1 rfl
  go_wp2_with fail
  refine (D'.out _ _ (WhIn.at (show WhIn _ _ _ _ _ from Z3A.out.1.2.2.2.2.1.1))).mono ?_
  rintro e wY ⟨⟨p2, q2, rfl, iY⟩, g⟩
  go_upto_region 8 with fail
  have bN : Below wY.heap.size wY ((wY.alloc (.cells #[.int .i64 xf, .slice p2 xn q2] 47)).alloc (.cells #[.int .i64 j0_0, .int .i64 j0_1] 33)) := (((Below.refl _ _).alloc (Nat.le_refl _) _).alloc (by simp) _)
  have Z4 : Hid (Lies w [Thing.box w.heap.size #[.int .i64 f, .slice a n c] 42, Thing.own (fun W => WhIn b0 t0 W (.agg #[.int .i64 xf, .slice p0 xn q0]) X) b0 t0 (fun h s k => WhIn.keep h s k), Thing.box t0 #[.int .i64 xf, .slice p0 xn q0] 47, Thing.box (t0 + 1) #[.int .i64 j0_0, .int .i64 j0_1] 33, Thing.own (fun W => WhIn b1 t1 W (.agg #[.int .i64 f, .slice p1 n q1]) r) b1 t1 (fun h s k => WhIn.keep h s k), Thing.box t1 #[.int .i64 f, .slice p1 n q1] 47, Thing.own (fun W => WhIn w6.heap.size wY.heap.size W (.agg #[.int .i64 xf, .slice p2 xn q2]) X) w6.heap.size wY.heap.size (fun h s k => WhIn.keep h s k), Thing.box wY.heap.size #[.int .i64 xf, .slice p2 xn q2] 47, Thing.box (wY.heap.size + 1) #[.int .i64 j0_0, .int .i64 j0_1] 33] ((wY.alloc (.cells #[.int .i64 xf, .slice p2 xn q2] 47)).alloc (.cells #[.int .i64 j0_0, .int .i64 j0_1] 33)) ∧ w6.heap.size ≤ wY.heap.size ∧ wY.heap.size + 2 ≤ ((wY.alloc (.cells #[.int .i64 xf, .slice p2 xn q2] 47)).alloc (.cells #[.int .i64 j0_0, .int .i64 j0_1] 33)).heap.size ∧ w.heap.size + 1 ≤ w6.heap.size) := by
    refine ⟨(Z3A.out.below g).more bN ⟨⟨WhIn.below iY bN, bN.size⟩, ?_, ?_, trivial⟩, g.size, by simp, by have := Boxed.under (show Boxed _ _ _ _ from Z3A.out.1.1); omega⟩
    · have := ((Boxed.new wY #[.int .i64 xf, .slice p2 xn q2] 47).more (.cells #[.int .i64 j0_0, .int .i64 j0_1] 33))
      simpa using this
    · have := (Boxed.new (wY.alloc (.cells #[.int .i64 xf, .slice p2 xn q2] 47)) #[.int .i64 j0_0, .int .i64 j0_1] 33)
      simpa using this
  clear bN g iY Z3A dr0 dr1
  generalize ((wY.alloc (.cells #[.int .i64 xf, .slice p2 xn q2] 47)).alloc (.cells #[.int .i64 j0_0, .int .i64 j0_1] 33)) = w2 at Z4 ⊢
  generalize wY.heap.size = t2 at Z4 ⊢
  generalize w6.heap.size = b2 at Z4 O1
  have Z4A : Hid (Lies w [Thing.box w.heap.size #[.int .i64 f, .slice a n c] 42, Thing.own (fun W => WhIn b0 t0 W (.agg #[.int .i64 xf, .slice p0 xn q0]) X) b0 t0 (fun h s k => WhIn.keep h s k), Thing.box t0 #[.int .i64 xf, .slice p0 xn q0] 47, Thing.box (t0 + 1) #[.int .i64 j0_0, .int .i64 j0_1] 33, Thing.own (fun W => WhIn b1 t1 W (.agg #[.int .i64 f, .slice p1 n q1]) r) b1 t1 (fun h s k => WhIn.keep h s k), Thing.box t1 #[.int .i64 f, .slice p1 n q1] 47, Thing.own (fun W => WhIn b2 t2 W (.agg #[.int .i64 xf, .slice p2 xn q2]) X) b2 t2 (fun h s k => WhIn.keep h s k), Thing.box t2 #[.int .i64 xf, .slice p2 xn q2] 47, Thing.box (t2 + 1) #[.int .i64 j0_0, .int .i64 j0_1] 33] w2) := Z4.out.1
  have O2 : Hid (b2 ≤ t2 ∧ t2 + 2 ≤ w2.heap.size ∧ w.heap.size + 1 ≤ b2) := Z4.out.2
  clear Z4
  have OO : Hid (_ ∧ _) := ⟨O1.out, O2.out⟩
  clear O1 O2
  have u0 : w2.cell? ⟨t2, 0, none⟩ = some (.int .i64 xf) := Boxed.cell (show Boxed _ _ _ _ from Z4A.out.1.2.2.2.2.2.2.2.1) 0 rfl
  have u1 : w2.cell? ⟨t2, 1, none⟩ = some (.slice p2 xn q2) := Boxed.cell (show Boxed _ _ _ _ from Z4A.out.1.2.2.2.2.2.2.2.1) 1 rfl
  have v0 : w2.cell? ⟨t0, 0, none⟩ = some (.int .i64 xf) := Boxed.cell (show Boxed _ _ _ _ from Z4A.out.1.2.2.1) 0 rfl
  have v1 : w2.cell? ⟨t0, 1, none⟩ = some (.slice p0 xn q0) := Boxed.cell (show Boxed _ _ _ _ from Z4A.out.1.2.2.1) 1 rfl
  go_wp2_with fail
  refine (EX'.out _ _ _ (WhIn.at (show WhIn _ _ _ _ _ from Z4A.out.1.2.2.2.2.2.2.1.1)) (WhIn.at (show WhIn _ _ _ _ _ from Z4A.out.1.2.1.1))).mono ?_
  rintro e wE4 ⟨rfl, g⟩
  have Z5 : Hid (Lies w [Thing.box w.heap.size #[.int .i64 f, .slice a n c] 42, Thing.own (fun W => WhIn b0 t0 W (.agg #[.int .i64 xf, .slice p0 xn q0]) X) b0 t0 (fun h s k => WhIn.keep h s k), Thing.box t0 #[.int .i64 xf, .slice p0 xn q0] 47, Thing.box (t0 + 1) #[.int .i64 j0_0, .int .i64 j0_1] 33, Thing.own (fun W => WhIn b1 t1 W (.agg #[.int .i64 f, .slice p1 n q1]) r) b1 t1 (fun h s k => WhIn.keep h s k), Thing.box t1 #[.int .i64 f, .slice p1 n q1] 47, Thing.own (fun W => WhIn b2 t2 W (.agg #[.int .i64 xf, .slice p2 xn q2]) X) b2 t2 (fun h s k => WhIn.keep h s k), Thing.box t2 #[.int .i64 xf, .slice p2 xn q2] 47, Thing.box (t2 + 1) #[.int .i64 j0_0, .int .i64 j0_1] 33] wE4) := Z4A.out.below g
  clear g Z4A u0 u1 v0 v1
  have u0 : wE4.cell? ⟨(t2 + 1), 0, none⟩ = some (.int .i64 j0_0) := Boxed.cell (show Boxed _ _ _ _ from Z5.out.1.2.2.2.2.2.2.2.2.1) 0 rfl
  have u1 : wE4.cell? ⟨(t2 + 1), 1, none⟩ = some (.int .i64 j0_1) := Boxed.cell (show Boxed _ _ _ _ from Z5.out.1.2.2.2.2.2.2.2.2.1) 1 rfl
  have v0 : wE4.cell? ⟨(t0 + 1), 0, none⟩ = some (.int .i64 j0_0) := Boxed.cell (show Boxed _ _ _ _ from Z5.out.1.2.2.2.1) 0 rfl
  have v1 : wE4.cell? ⟨(t0 + 1), 1, none⟩ = some (.int .i64 j0_1) := Boxed.cell (show Boxed _ _ _ _ from Z5.out.1.2.2.2.1) 1 rfl
  go_wp2_with fail
  refine (EJ0'.out _).mono ?_
  rintro e wE5 ⟨rfl, g⟩
  have Z6 : Hid (Lies w [Thing.box w.heap.size #[.int .i64 f, .slice a n c] 42, Thing.own (fun W => WhIn b0 t0 W (.agg #[.int .i64 xf, .slice p0 xn q0]) X) b0 t0 (fun h s k => WhIn.keep h s k), Thing.box t0 #[.int .i64 xf, .slice p0 xn q0] 47, Thing.box (t0 + 1) #[.int .i64 j0_0, .int .i64 j0_1] 33, Thing.own (fun W => WhIn b1 t1 W (.agg #[.int .i64 f, .slice p1 n q1]) r) b1 t1 (fun h s k => WhIn.keep h s k), Thing.box t1 #[.int .i64 f, .slice p1 n q1] 47, Thing.own (fun W => WhIn b2 t2 W (.agg #[.int .i64 xf, .slice p2 xn q2]) X) b2 t2 (fun h s k => WhIn.keep h s k), Thing.box t2 #[.int .i64 xf, .slice p2 xn q2] 47, Thing.box (t2 + 1) #[.int .i64 j0_0, .int .i64 j0_1] 33] wE5) := Z5.out.below g
  clear g Z5 u0 u1 v0 v1
  go_upto_region 10 with fail
  go_cut [56] (fun s wc => Hid (s = .bool false ∧ Lies w [Thing.box w.heap.size #[.int .i64 f, .slice a n c] 42, Thing.own (fun W => WhIn b0 t0 W (.agg #[.int .i64 xf, .slice p0 xn q0]) X) b0 t0 (fun h s k => WhIn.keep h s k), Thing.box t0 #[.int .i64 xf, .slice p0 xn q0] 47, Thing.box (t0 + 1) #[.int .i64 j0_0, .int .i64 j0_1] 33, Thing.own (fun W => WhIn b1 t1 W (.agg #[.int .i64 f, .slice p1 n q1]) r) b1 t1 (fun h s k => WhIn.keep h s k), Thing.box t1 #[.int .i64 f, .slice p1 n q1] 47, Thing.own (fun W => WhIn b2 t2 W (.agg #[.int .i64 xf, .slice p2 xn q2]) X) b2 t2 (fun h s k => WhIn.keep h s k), Thing.box t2 #[.int .i64 xf, .slice p2 xn q2] 47, Thing.box (t2 + 1) #[.int .i64 j0_0, .int .i64 j0_1] 33] wc))
  case first =>
    have c0 : wE5.cell? ⟨w.heap.size, 0, none⟩ = some (.int .i64 f) := Boxed.cell (show Boxed _ _ _ _ from Z6.out.1.1) 0 rfl
    have c1 : wE5.cell? ⟨w.heap.size, 1, none⟩ = some (.slice a n c) := Boxed.cell (show Boxed _ _ _ _ from Z6.out.1.1) 1 rfl
    have dr0 : wE5.cell? ⟨t1, 0, none⟩ = some (.int .i64 f) := Boxed.cell (show Boxed _ _ _ _ from Z6.out.1.2.2.2.2.2.1) 0 rfl
    have dr1 : wE5.cell? ⟨t1, 1, none⟩ = some (.slice p1 n q1) := Boxed.cell (show Boxed _ _ _ _ from Z6.out.1.2.2.2.2.2.1) 1 rfl
    go_wp2_with fail
    go_region_law (first | (refine stepCall rfl 24 rfl #[.agg #[.int .i64 f, .slice a n c]] (by kernel_rfl) (T'.out wE5.drew (K.out _ Z6.out.2.drew)) ?_; rintro e wE ⟨⟨pE, qE, rfl, iE⟩, q⟩; have q' : Below wE5.heap.size wE5 wE := (Below.refl _ wE5).drew.trans q; have ZE : Hid (Lies w [Thing.box w.heap.size #[.int .i64 f, .slice a n c] 42, Thing.own (fun W => WhIn b0 t0 W (.agg #[.int .i64 xf, .slice p0 xn q0]) X) b0 t0 (fun h s k => WhIn.keep h s k), Thing.box t0 #[.int .i64 xf, .slice p0 xn q0] 47, Thing.box (t0 + 1) #[.int .i64 j0_0, .int .i64 j0_1] 33, Thing.own (fun W => WhIn b1 t1 W (.agg #[.int .i64 f, .slice p1 n q1]) r) b1 t1 (fun h s k => WhIn.keep h s k), Thing.box t1 #[.int .i64 f, .slice p1 n q1] 47, Thing.own (fun W => WhIn b2 t2 W (.agg #[.int .i64 xf, .slice p2 xn q2]) X) b2 t2 (fun h s k => WhIn.keep h s k), Thing.box t2 #[.int .i64 xf, .slice p2 xn q2] 47, Thing.box (t2 + 1) #[.int .i64 j0_0, .int .i64 j0_1] 33] wE) := Z6.out.below q'; have AE : Hid (WhAt wE (.agg #[.int .i64 f, .slice pE n qE]) r) := iE.at; have dE0 : wE.cell? ⟨t1, 0, none⟩ = some (.int .i64 f) := Boxed.cell (show Boxed _ _ _ _ from ZE.out.1.2.2.2.2.2.1) 0 rfl; have dE1 : wE.cell? ⟨t1, 1, none⟩ = some (.slice p1 n q1) := Boxed.cell (show Boxed _ _ _ _ from ZE.out.1.2.2.2.2.2.1) 1 rfl; clear q q' iE; refine ⟨_, rfl, ?_⟩) | (refine stepCall rfl 26 rfl #[.agg #[.int .i64 f, .slice p1 n q1], .agg #[.int .i64 f, .slice pE n qE]] (by kernel_rfl) (ER'.out _ _ wE (WhIn.at (show WhIn _ _ _ _ _ from ZE.out.1.2.2.2.2.1.1)) AE.out) ?_; rintro e wF ⟨rfl, q⟩; have ZF : Hid (Lies w [Thing.box w.heap.size #[.int .i64 f, .slice a n c] 42, Thing.own (fun W => WhIn b0 t0 W (.agg #[.int .i64 xf, .slice p0 xn q0]) X) b0 t0 (fun h s k => WhIn.keep h s k), Thing.box t0 #[.int .i64 xf, .slice p0 xn q0] 47, Thing.box (t0 + 1) #[.int .i64 j0_0, .int .i64 j0_1] 33, Thing.own (fun W => WhIn b1 t1 W (.agg #[.int .i64 f, .slice p1 n q1]) r) b1 t1 (fun h s k => WhIn.keep h s k), Thing.box t1 #[.int .i64 f, .slice p1 n q1] 47, Thing.own (fun W => WhIn b2 t2 W (.agg #[.int .i64 xf, .slice p2 xn q2]) X) b2 t2 (fun h s k => WhIn.keep h s k), Thing.box t2 #[.int .i64 xf, .slice p2 xn q2] 47, Thing.box (t2 + 1) #[.int .i64 j0_0, .int .i64 j0_1] 33] wF) := ZE.out.below q; clear q; refine ⟨_, rfl, ?_⟩))
    all_goals (go_wp2_with fail; go_meet; exact ⟨rfl, ZF.out⟩)
  case rest =>
  obtain ⟨rfl, hP⟩ := hcut.out
  obtain ⟨wF, rfl⟩ : ∃ wF, wF = wc := ⟨_, rfl⟩
  have Z7 : Hid (Lies w [Thing.box w.heap.size #[.int .i64 f, .slice a n c] 42, Thing.own (fun W => WhIn b0 t0 W (.agg #[.int .i64 xf, .slice p0 xn q0]) X) b0 t0 (fun h s k => WhIn.keep h s k), Thing.box t0 #[.int .i64 xf, .slice p0 xn q0] 47, Thing.box (t0 + 1) #[.int .i64 j0_0, .int .i64 j0_1] 33, Thing.own (fun W => WhIn b1 t1 W (.agg #[.int .i64 f, .slice p1 n q1]) r) b1 t1 (fun h s k => WhIn.keep h s k), Thing.box t1 #[.int .i64 f, .slice p1 n q1] 47, Thing.own (fun W => WhIn b2 t2 W (.agg #[.int .i64 xf, .slice p2 xn q2]) X) b2 t2 (fun h s k => WhIn.keep h s k), Thing.box t2 #[.int .i64 xf, .slice p2 xn q2] 47, Thing.box (t2 + 1) #[.int .i64 j0_0, .int .i64 j0_1] 33] wF) := hP
  clear hcut hP Z6
  go_upto_region 13 with fail
  have dr0 : wF.cell? ⟨t1, 0, none⟩ = some (.int .i64 f) := Boxed.cell (show Boxed _ _ _ _ from Z7.out.1.2.2.2.2.2.1) 0 rfl
  have dr1 : wF.cell? ⟨t1, 1, none⟩ = some (.slice p1 n q1) := Boxed.cell (show Boxed _ _ _ _ from Z7.out.1.2.2.2.2.2.1) 1 rfl
  go_wp2_with fail
  refine (MR'.out b1 t1 _ _ (show WhIn _ _ _ _ _ from Z7.out.1.2.2.2.2.1.1)).mono ?_
  rintro e wG ⟨rfl, q⟩
  have Z8 : Hid (Lies w [Thing.box w.heap.size #[.int .i64 f, .slice a n c] 42, Thing.own (fun W => WhIn b0 t0 W (.agg #[.int .i64 xf, .slice p0 xn q0]) X) b0 t0 (fun h s k => WhIn.keep h s k), Thing.box t0 #[.int .i64 xf, .slice p0 xn q0] 47, Thing.box (t0 + 1) #[.int .i64 j0_0, .int .i64 j0_1] 33, Thing.own (fun W => WhIn b2 t2 W (.agg #[.int .i64 xf, .slice p2 xn q2]) X) b2 t2 (fun h s k => WhIn.keep h s k), Thing.box t2 #[.int .i64 xf, .slice p2 xn q2] 47, Thing.box (t2 + 1) #[.int .i64 j0_0, .int .i64 j0_1] 33] wG) := by
    have oo := OO.out
    have k0 : Lies w [Thing.box w.heap.size #[.int .i64 f, .slice a n c] 42, Thing.own (fun W => WhIn b0 t0 W (.agg #[.int .i64 xf, .slice p0 xn q0]) X) b0 t0 (fun h s k => WhIn.keep h s k), Thing.box t0 #[.int .i64 xf, .slice p0 xn q0] 47, Thing.box (t0 + 1) #[.int .i64 j0_0, .int .i64 j0_1] 33, Thing.own (fun W => WhIn b2 t2 W (.agg #[.int .i64 xf, .slice p2 xn q2]) X) b2 t2 (fun h s k => WhIn.keep h s k), Thing.box t2 #[.int .i64 xf, .slice p2 xn q2] 47, Thing.box (t2 + 1) #[.int .i64 j0_0, .int .i64 j0_1] 33] wF := ⟨⟨Z7.out.1.1, Z7.out.1.2.1, Z7.out.1.2.2.1, Z7.out.1.2.2.2.1, Z7.out.1.2.2.2.2.2.2.1, Z7.out.1.2.2.2.2.2.2.2.1, Z7.out.1.2.2.2.2.2.2.2.2.1, trivial⟩, Z7.out.2⟩
    exact k0.span q ⟨(show w.heap.size + 1 ≤ b1 ∨ t1 ≤ w.heap.size by omega), (show t0 ≤ b1 ∨ t1 ≤ b0 by omega), (show t0 + 1 ≤ b1 ∨ t1 ≤ t0 by omega), (show (t0 + 1) + 1 ≤ b1 ∨ t1 ≤ (t0 + 1) by omega), (show t2 ≤ b1 ∨ t1 ≤ b2 by omega), (show t2 + 1 ≤ b1 ∨ t1 ≤ t2 by omega), (show (t2 + 1) + 1 ≤ b1 ∨ t1 ≤ (t2 + 1) by omega), trivial⟩ (by omega)
  clear q Z7 dr0 dr1
  go_upto_region 14 with fail
  have u0 : wG.cell? ⟨t2, 0, none⟩ = some (.int .i64 xf) := Boxed.cell (show Boxed _ _ _ _ from Z8.out.1.2.2.2.2.2.1) 0 rfl
  have u1 : wG.cell? ⟨t2, 1, none⟩ = some (.slice p2 xn q2) := Boxed.cell (show Boxed _ _ _ _ from Z8.out.1.2.2.2.2.2.1) 1 rfl
  have v0 : wG.cell? ⟨t0, 0, none⟩ = some (.int .i64 xf) := Boxed.cell (show Boxed _ _ _ _ from Z8.out.1.2.2.1) 0 rfl
  have v1 : wG.cell? ⟨t0, 1, none⟩ = some (.slice p0 xn q0) := Boxed.cell (show Boxed _ _ _ _ from Z8.out.1.2.2.1) 1 rfl
  go_wp2_with fail
  refine (EX'.out _ _ _ (WhIn.at (show WhIn _ _ _ _ _ from Z8.out.1.2.2.2.2.1.1)) (WhIn.at (show WhIn _ _ _ _ _ from Z8.out.1.2.1.1))).mono ?_
  rintro e wE8 ⟨rfl, g⟩
  have Z9 : Hid (Lies w [Thing.box w.heap.size #[.int .i64 f, .slice a n c] 42, Thing.own (fun W => WhIn b0 t0 W (.agg #[.int .i64 xf, .slice p0 xn q0]) X) b0 t0 (fun h s k => WhIn.keep h s k), Thing.box t0 #[.int .i64 xf, .slice p0 xn q0] 47, Thing.box (t0 + 1) #[.int .i64 j0_0, .int .i64 j0_1] 33, Thing.own (fun W => WhIn b2 t2 W (.agg #[.int .i64 xf, .slice p2 xn q2]) X) b2 t2 (fun h s k => WhIn.keep h s k), Thing.box t2 #[.int .i64 xf, .slice p2 xn q2] 47, Thing.box (t2 + 1) #[.int .i64 j0_0, .int .i64 j0_1] 33] wE8) := Z8.out.below g
  clear g Z8 u0 u1 v0 v1
  have u0 : wE8.cell? ⟨(t2 + 1), 0, none⟩ = some (.int .i64 j0_0) := Boxed.cell (show Boxed _ _ _ _ from Z9.out.1.2.2.2.2.2.2.1) 0 rfl
  have u1 : wE8.cell? ⟨(t2 + 1), 1, none⟩ = some (.int .i64 j0_1) := Boxed.cell (show Boxed _ _ _ _ from Z9.out.1.2.2.2.2.2.2.1) 1 rfl
  have v0 : wE8.cell? ⟨(t0 + 1), 0, none⟩ = some (.int .i64 j0_0) := Boxed.cell (show Boxed _ _ _ _ from Z9.out.1.2.2.2.1) 0 rfl
  have v1 : wE8.cell? ⟨(t0 + 1), 1, none⟩ = some (.int .i64 j0_1) := Boxed.cell (show Boxed _ _ _ _ from Z9.out.1.2.2.2.1) 1 rfl
  go_wp2_with fail
  refine (EJ0'.out _).mono ?_
  rintro e wE9 ⟨rfl, g⟩
  have Z10 : Hid (Lies w [Thing.box w.heap.size #[.int .i64 f, .slice a n c] 42, Thing.own (fun W => WhIn b0 t0 W (.agg #[.int .i64 xf, .slice p0 xn q0]) X) b0 t0 (fun h s k => WhIn.keep h s k), Thing.box t0 #[.int .i64 xf, .slice p0 xn q0] 47, Thing.box (t0 + 1) #[.int .i64 j0_0, .int .i64 j0_1] 33, Thing.own (fun W => WhIn b2 t2 W (.agg #[.int .i64 xf, .slice p2 xn q2]) X) b2 t2 (fun h s k => WhIn.keep h s k), Thing.box t2 #[.int .i64 xf, .slice p2 xn q2] 47, Thing.box (t2 + 1) #[.int .i64 j0_0, .int .i64 j0_1] 33] wE9) := Z9.out.below g
  clear g Z9 u0 u1 v0 v1
  go_upto_region 17 with fail
  have u0 : wE9.cell? ⟨t2, 0, none⟩ = some (.int .i64 xf) := Boxed.cell (show Boxed _ _ _ _ from Z10.out.1.2.2.2.2.2.1) 0 rfl
  have u1 : wE9.cell? ⟨t2, 1, none⟩ = some (.slice p2 xn q2) := Boxed.cell (show Boxed _ _ _ _ from Z10.out.1.2.2.2.2.2.1) 1 rfl
  go_wp2_with fail
  refine (MX'.out b2 t2 _ _ (show WhIn _ _ _ _ _ from Z10.out.1.2.2.2.2.1.1)).mono ?_
  rintro e wJ ⟨rfl, m, q⟩
  have Z11 : Hid (Lies w [Thing.box w.heap.size #[.int .i64 f, .slice a n c] 42, Thing.own (fun W => WhIn b0 t0 W (.agg #[.int .i64 xf, .slice p0 xn q0]) X) b0 t0 (fun h s k => WhIn.keep h s k), Thing.box t0 #[.int .i64 xf, .slice p0 xn q0] 47, Thing.box (t0 + 1) #[.int .i64 j0_0, .int .i64 j0_1] 33, Thing.box t2 #[.int .i64 xf, .slice p2 xn q2] 47, Thing.box (t2 + 1) #[.int .i64 j0_0, .int .i64 j0_1] 33, Thing.own (fun W => WhIn b2 t2 W (.agg #[.int .i64 xf, .slice p2 xn q2]) Xm) b2 t2 (fun h s k => WhIn.keep h s k)] wJ) := by
    have oo := OO.out
    have k0 : Lies w [Thing.box w.heap.size #[.int .i64 f, .slice a n c] 42, Thing.own (fun W => WhIn b0 t0 W (.agg #[.int .i64 xf, .slice p0 xn q0]) X) b0 t0 (fun h s k => WhIn.keep h s k), Thing.box t0 #[.int .i64 xf, .slice p0 xn q0] 47, Thing.box (t0 + 1) #[.int .i64 j0_0, .int .i64 j0_1] 33, Thing.box t2 #[.int .i64 xf, .slice p2 xn q2] 47, Thing.box (t2 + 1) #[.int .i64 j0_0, .int .i64 j0_1] 33] wE9 := ⟨⟨Z10.out.1.1, Z10.out.1.2.1, Z10.out.1.2.2.1, Z10.out.1.2.2.2.1, Z10.out.1.2.2.2.2.2.1, Z10.out.1.2.2.2.2.2.2.1, trivial⟩, Z10.out.2⟩
    have k1 := k0.span q ⟨(show w.heap.size + 1 ≤ b2 ∨ t2 ≤ w.heap.size by omega), (show t0 ≤ b2 ∨ t2 ≤ b0 by omega), (show t0 + 1 ≤ b2 ∨ t2 ≤ t0 by omega), (show (t0 + 1) + 1 ≤ b2 ∨ t2 ≤ (t0 + 1) by omega), (show t2 + 1 ≤ b2 ∨ t2 ≤ t2 by omega), (show (t2 + 1) + 1 ≤ b2 ∨ t2 ≤ (t2 + 1) by omega), trivial⟩ (by omega)
    exact ⟨k1.1.app (us := [Thing.own (fun W => WhIn b2 t2 W (.agg #[.int .i64 xf, .slice p2 xn q2]) Xm) b2 t2 (fun h s k => WhIn.keep h s k)]) ⟨⟨m, Nat.le_trans (show t2 ≤ wE9.heap.size from Z10.out.1.2.2.2.2.1.2) q.size⟩, trivial⟩, k1.2⟩
  clear q m Z10 u0 u1
  go_upto_region 19 with fail
  have u0 : wJ.cell? ⟨t2, 0, none⟩ = some (.int .i64 xf) := Boxed.cell (show Boxed _ _ _ _ from Z11.out.1.2.2.2.2.1) 0 rfl
  have u1 : wJ.cell? ⟨t2, 1, none⟩ = some (.slice p2 xn q2) := Boxed.cell (show Boxed _ _ _ _ from Z11.out.1.2.2.2.2.1) 1 rfl
  go_wp2_with fail
  refine (HX'.out _ _ (WhIn.at (show WhIn _ _ _ _ _ from Z11.out.1.2.2.2.2.2.2.1.1))).mono ?_
  rintro e wK ⟨rfl, g⟩
  have Z12 : Hid (Lies w [Thing.box w.heap.size #[.int .i64 f, .slice a n c] 42, Thing.own (fun W => WhIn b0 t0 W (.agg #[.int .i64 xf, .slice p0 xn q0]) X) b0 t0 (fun h s k => WhIn.keep h s k), Thing.box t0 #[.int .i64 xf, .slice p0 xn q0] 47, Thing.box (t0 + 1) #[.int .i64 j0_0, .int .i64 j0_1] 33, Thing.box t2 #[.int .i64 xf, .slice p2 xn q2] 47, Thing.box (t2 + 1) #[.int .i64 j0_0, .int .i64 j0_1] 33, Thing.own (fun W => WhIn b2 t2 W (.agg #[.int .i64 xf, .slice p2 xn q2]) Xm) b2 t2 (fun h s k => WhIn.keep h s k)] wK) := Z11.out.below g
  clear g Z11 u0 u1
  go_upto_region 24 with fail
  have c0 : wK.cell? ⟨w.heap.size, 0, none⟩ = some (.int .i64 f) := Boxed.cell (show Boxed _ _ _ _ from Z12.out.1.1) 0 rfl
  have c1 : wK.cell? ⟨w.heap.size, 1, none⟩ = some (.slice a n c) := Boxed.cell (show Boxed _ _ _ _ from Z12.out.1.1) 1 rfl
  go_wp2_with fail
  refine (T'.out _ (K.out _ Z12.out.2)).mono ?_
  rintro e wAZ13 ⟨⟨pA, qA, rfl, iA⟩, g⟩
  have Z13 : Hid (Lies w [Thing.box w.heap.size #[.int .i64 f, .slice a n c] 42, Thing.own (fun W => WhIn b0 t0 W (.agg #[.int .i64 xf, .slice p0 xn q0]) X) b0 t0 (fun h s k => WhIn.keep h s k), Thing.box t0 #[.int .i64 xf, .slice p0 xn q0] 47, Thing.box (t0 + 1) #[.int .i64 j0_0, .int .i64 j0_1] 33, Thing.box t2 #[.int .i64 xf, .slice p2 xn q2] 47, Thing.box (t2 + 1) #[.int .i64 j0_0, .int .i64 j0_1] 33, Thing.own (fun W => WhIn b2 t2 W (.agg #[.int .i64 xf, .slice p2 xn q2]) Xm) b2 t2 (fun h s k => WhIn.keep h s k)] wAZ13 ∧ WhAt wAZ13 (.agg #[.int .i64 f, .slice pA n qA]) r) := ⟨Z12.out.below g, iA.at⟩
  clear g iA Z12 c0 c1
  have Z13A : Hid (Lies w [Thing.box w.heap.size #[.int .i64 f, .slice a n c] 42, Thing.own (fun W => WhIn b0 t0 W (.agg #[.int .i64 xf, .slice p0 xn q0]) X) b0 t0 (fun h s k => WhIn.keep h s k), Thing.box t0 #[.int .i64 xf, .slice p0 xn q0] 47, Thing.box (t0 + 1) #[.int .i64 j0_0, .int .i64 j0_1] 33, Thing.box t2 #[.int .i64 xf, .slice p2 xn q2] 47, Thing.box (t2 + 1) #[.int .i64 j0_0, .int .i64 j0_1] 33, Thing.own (fun W => WhIn b2 t2 W (.agg #[.int .i64 xf, .slice p2 xn q2]) Xm) b2 t2 (fun h s k => WhIn.keep h s k)] wAZ13) := Z13.out.1
  have AT : Hid (WhAt wAZ13 (.agg #[.int .i64 f, .slice pA n qA]) r) := Z13.out.2
  clear Z13
  go_wp2_with fail
  refine (D'.out _ _ AT.out).mono ?_
  rintro e wY ⟨⟨p3, q3, rfl, iY⟩, g⟩
  go_upto_region 25 with fail
  have bN : Below wY.heap.size wY ((wY.alloc (.cells #[.int .i64 xf, .slice p3 xn q3] 47)).alloc (.cells #[.int .i64 j0_0, .int .i64 j0_1] 33)) := (((Below.refl _ _).alloc (Nat.le_refl _) _).alloc (by simp) _)
  have Z14 : Hid (Lies w [Thing.box w.heap.size #[.int .i64 f, .slice a n c] 42, Thing.own (fun W => WhIn b0 t0 W (.agg #[.int .i64 xf, .slice p0 xn q0]) X) b0 t0 (fun h s k => WhIn.keep h s k), Thing.box t0 #[.int .i64 xf, .slice p0 xn q0] 47, Thing.box (t0 + 1) #[.int .i64 j0_0, .int .i64 j0_1] 33, Thing.box t2 #[.int .i64 xf, .slice p2 xn q2] 47, Thing.box (t2 + 1) #[.int .i64 j0_0, .int .i64 j0_1] 33, Thing.own (fun W => WhIn b2 t2 W (.agg #[.int .i64 xf, .slice p2 xn q2]) Xm) b2 t2 (fun h s k => WhIn.keep h s k), Thing.own (fun W => WhIn wAZ13.heap.size wY.heap.size W (.agg #[.int .i64 xf, .slice p3 xn q3]) X) wAZ13.heap.size wY.heap.size (fun h s k => WhIn.keep h s k), Thing.box wY.heap.size #[.int .i64 xf, .slice p3 xn q3] 47, Thing.box (wY.heap.size + 1) #[.int .i64 j0_0, .int .i64 j0_1] 33] ((wY.alloc (.cells #[.int .i64 xf, .slice p3 xn q3] 47)).alloc (.cells #[.int .i64 j0_0, .int .i64 j0_1] 33)) ∧ wAZ13.heap.size ≤ wY.heap.size ∧ wY.heap.size + 2 ≤ ((wY.alloc (.cells #[.int .i64 xf, .slice p3 xn q3] 47)).alloc (.cells #[.int .i64 j0_0, .int .i64 j0_1] 33)).heap.size ∧ w.heap.size + 1 ≤ wAZ13.heap.size) := by
    refine ⟨(Z13A.out.below g).more bN ⟨⟨WhIn.below iY bN, bN.size⟩, ?_, ?_, trivial⟩, g.size, by simp, by have := Boxed.under (show Boxed _ _ _ _ from Z13A.out.1.1); omega⟩
    · have := ((Boxed.new wY #[.int .i64 xf, .slice p3 xn q3] 47).more (.cells #[.int .i64 j0_0, .int .i64 j0_1] 33))
      simpa using this
    · have := (Boxed.new (wY.alloc (.cells #[.int .i64 xf, .slice p3 xn q3] 47)) #[.int .i64 j0_0, .int .i64 j0_1] 33)
      simpa using this
  clear bN g iY Z13A AT
  generalize ((wY.alloc (.cells #[.int .i64 xf, .slice p3 xn q3] 47)).alloc (.cells #[.int .i64 j0_0, .int .i64 j0_1] 33)) = w3 at Z14 ⊢
  generalize wY.heap.size = t3 at Z14 ⊢
  generalize wAZ13.heap.size = b3 at Z14
  have Z14A : Hid (Lies w [Thing.box w.heap.size #[.int .i64 f, .slice a n c] 42, Thing.own (fun W => WhIn b0 t0 W (.agg #[.int .i64 xf, .slice p0 xn q0]) X) b0 t0 (fun h s k => WhIn.keep h s k), Thing.box t0 #[.int .i64 xf, .slice p0 xn q0] 47, Thing.box (t0 + 1) #[.int .i64 j0_0, .int .i64 j0_1] 33, Thing.box t2 #[.int .i64 xf, .slice p2 xn q2] 47, Thing.box (t2 + 1) #[.int .i64 j0_0, .int .i64 j0_1] 33, Thing.own (fun W => WhIn b2 t2 W (.agg #[.int .i64 xf, .slice p2 xn q2]) Xm) b2 t2 (fun h s k => WhIn.keep h s k), Thing.own (fun W => WhIn b3 t3 W (.agg #[.int .i64 xf, .slice p3 xn q3]) X) b3 t3 (fun h s k => WhIn.keep h s k), Thing.box t3 #[.int .i64 xf, .slice p3 xn q3] 47, Thing.box (t3 + 1) #[.int .i64 j0_0, .int .i64 j0_1] 33] w3) := Z14.out.1
  have O3 : Hid (b3 ≤ t3 ∧ t3 + 2 ≤ w3.heap.size ∧ w.heap.size + 1 ≤ b3) := Z14.out.2
  clear Z14
  clear O3
  have u0 : w3.cell? ⟨t3, 0, none⟩ = some (.int .i64 xf) := Boxed.cell (show Boxed _ _ _ _ from Z14A.out.1.2.2.2.2.2.2.2.2.1) 0 rfl
  have u1 : w3.cell? ⟨t3, 1, none⟩ = some (.slice p3 xn q3) := Boxed.cell (show Boxed _ _ _ _ from Z14A.out.1.2.2.2.2.2.2.2.2.1) 1 rfl
  have v0 : w3.cell? ⟨t0, 0, none⟩ = some (.int .i64 xf) := Boxed.cell (show Boxed _ _ _ _ from Z14A.out.1.2.2.1) 0 rfl
  have v1 : w3.cell? ⟨t0, 1, none⟩ = some (.slice p0 xn q0) := Boxed.cell (show Boxed _ _ _ _ from Z14A.out.1.2.2.1) 1 rfl
  go_wp2_with fail
  refine (EX'.out _ _ _ (WhIn.at (show WhIn _ _ _ _ _ from Z14A.out.1.2.2.2.2.2.2.2.1.1)) (WhIn.at (show WhIn _ _ _ _ _ from Z14A.out.1.2.1.1))).mono ?_
  rintro e wE14 ⟨rfl, g⟩
  have Z15 : Hid (Lies w [Thing.box w.heap.size #[.int .i64 f, .slice a n c] 42, Thing.own (fun W => WhIn b0 t0 W (.agg #[.int .i64 xf, .slice p0 xn q0]) X) b0 t0 (fun h s k => WhIn.keep h s k), Thing.box t0 #[.int .i64 xf, .slice p0 xn q0] 47, Thing.box (t0 + 1) #[.int .i64 j0_0, .int .i64 j0_1] 33, Thing.box t2 #[.int .i64 xf, .slice p2 xn q2] 47, Thing.box (t2 + 1) #[.int .i64 j0_0, .int .i64 j0_1] 33, Thing.own (fun W => WhIn b2 t2 W (.agg #[.int .i64 xf, .slice p2 xn q2]) Xm) b2 t2 (fun h s k => WhIn.keep h s k), Thing.own (fun W => WhIn b3 t3 W (.agg #[.int .i64 xf, .slice p3 xn q3]) X) b3 t3 (fun h s k => WhIn.keep h s k), Thing.box t3 #[.int .i64 xf, .slice p3 xn q3] 47, Thing.box (t3 + 1) #[.int .i64 j0_0, .int .i64 j0_1] 33] wE14) := Z14A.out.below g
  clear g Z14A u0 u1 v0 v1
  have u0 : wE14.cell? ⟨(t3 + 1), 0, none⟩ = some (.int .i64 j0_0) := Boxed.cell (show Boxed _ _ _ _ from Z15.out.1.2.2.2.2.2.2.2.2.2.1) 0 rfl
  have u1 : wE14.cell? ⟨(t3 + 1), 1, none⟩ = some (.int .i64 j0_1) := Boxed.cell (show Boxed _ _ _ _ from Z15.out.1.2.2.2.2.2.2.2.2.2.1) 1 rfl
  have v0 : wE14.cell? ⟨(t0 + 1), 0, none⟩ = some (.int .i64 j0_0) := Boxed.cell (show Boxed _ _ _ _ from Z15.out.1.2.2.2.1) 0 rfl
  have v1 : wE14.cell? ⟨(t0 + 1), 1, none⟩ = some (.int .i64 j0_1) := Boxed.cell (show Boxed _ _ _ _ from Z15.out.1.2.2.2.1) 1 rfl
  go_wp2_with fail
  refine (EJ0'.out _).mono ?_
  rintro e wE15 ⟨rfl, g⟩
  have Z16 : Hid (Lies w [Thing.box w.heap.size #[.int .i64 f, .slice a n c] 42, Thing.own (fun W => WhIn b0 t0 W (.agg #[.int .i64 xf, .slice p0 xn q0]) X) b0 t0 (fun h s k => WhIn.keep h s k), Thing.box t0 #[.int .i64 xf, .slice p0 xn q0] 47, Thing.box (t0 + 1) #[.int .i64 j0_0, .int .i64 j0_1] 33, Thing.box t2 #[.int .i64 xf, .slice p2 xn q2] 47, Thing.box (t2 + 1) #[.int .i64 j0_0, .int .i64 j0_1] 33, Thing.own (fun W => WhIn b2 t2 W (.agg #[.int .i64 xf, .slice p2 xn q2]) Xm) b2 t2 (fun h s k => WhIn.keep h s k), Thing.own (fun W => WhIn b3 t3 W (.agg #[.int .i64 xf, .slice p3 xn q3]) X) b3 t3 (fun h s k => WhIn.keep h s k), Thing.box t3 #[.int .i64 xf, .slice p3 xn q3] 47, Thing.box (t3 + 1) #[.int .i64 j0_0, .int .i64 j0_1] 33] wE15) := Z15.out.below g
  clear g Z15 u0 u1 v0 v1
  go_upto_region 28 with fail
  have u0 : wE15.cell? ⟨t2, 0, none⟩ = some (.int .i64 xf) := Boxed.cell (show Boxed _ _ _ _ from Z16.out.1.2.2.2.2.1) 0 rfl
  have u1 : wE15.cell? ⟨t2, 1, none⟩ = some (.slice p2 xn q2) := Boxed.cell (show Boxed _ _ _ _ from Z16.out.1.2.2.2.2.1) 1 rfl
  go_wp2_with fail
  refine (HX'.out _ _ (WhIn.at (show WhIn _ _ _ _ _ from Z16.out.1.2.2.2.2.2.2.1.1))).mono ?_
  rintro e wQ ⟨rfl, g⟩
  have Z17 : Hid (Lies w [Thing.box w.heap.size #[.int .i64 f, .slice a n c] 42, Thing.own (fun W => WhIn b0 t0 W (.agg #[.int .i64 xf, .slice p0 xn q0]) X) b0 t0 (fun h s k => WhIn.keep h s k), Thing.box t0 #[.int .i64 xf, .slice p0 xn q0] 47, Thing.box (t0 + 1) #[.int .i64 j0_0, .int .i64 j0_1] 33, Thing.box t2 #[.int .i64 xf, .slice p2 xn q2] 47, Thing.box (t2 + 1) #[.int .i64 j0_0, .int .i64 j0_1] 33, Thing.own (fun W => WhIn b2 t2 W (.agg #[.int .i64 xf, .slice p2 xn q2]) Xm) b2 t2 (fun h s k => WhIn.keep h s k), Thing.own (fun W => WhIn b3 t3 W (.agg #[.int .i64 xf, .slice p3 xn q3]) X) b3 t3 (fun h s k => WhIn.keep h s k), Thing.box t3 #[.int .i64 xf, .slice p3 xn q3] 47, Thing.box (t3 + 1) #[.int .i64 j0_0, .int .i64 j0_1] 33] wQ) := Z16.out.below g
  clear g Z16 u0 u1
  go_wp2
  go_ret
  exact ⟨rfl, Z17.out.2⟩
end Go.Proofs.Ytgimalimfmoilaa
