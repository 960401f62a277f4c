/-
  The walk of the exact law of WheelPut, given what the program's WheelPut answers. By the verifier, by program.
-/
import Derived.Test.YtgimalimfmoilaaWhPutS
import Derived.Test.YtgimalimfmoilaaM5WhBig
import Derived.Test.YtgimalimfmoilaaM8Things
import Derived.Test.YtgimalimfmoilaaM6DzTo
import Derived.Test.YtgimalimfmoilaaStepRow
import Derived.Test.YtgimalimfmoilaaOpStep
import Derived.Test.YtgimalimfmoilaaM4RegList
import Derived.Test.YtgimalimfmoilaaM3RegGuard
import Derived.Deep.RegionLaw
import Derived.Deep.DeepCutAuto
namespace Go.Proofs.Ytgimalimfmoilaa
open Go.RowKit

set_option maxHeartbeats 12800000 in
set_option maxRecDepth 100000 in
theorem fnExactWheelPut_of (impl' : ∀ (r : Wh) (v : Value) (d : Du) (w : World), r.big ≤ 1048576 → Hid (WhAt w v r) → Calls Try.prog 28 #[v, d.val] w fun e w' => (∃ v', e = .returned (.tuple #[v', .bool (r.putB d)]) ∧ WhIn w.heap.size w'.heap.size w' v' (r.put d)) ∧ Below w.heap.size w w')
    (r : Wh) (a : Option Addr) (c : Nat) (d : Du) (w : World) (hl : (r.slots.length : Int) ≤ 9223372036854775807) (hin : Hid (∀ k, k < r.slots.length → ((dzAt r.slots k).length : Int) ≤ 9223372036854775807)) (h : Hid (DzAt w a r.slots)) :
    Calls Try.prog 7 #[r.val a c, d.val] w fun e w' => e = .returned (.bool true) ∧ Below w.heap.size w w' := by
  have S := fun (w : World) (h : Hid (DzAt w a r.slots)) => szWhs 1048576 (by omega) (by omega) r a c w hl hin h
  by_cases hbig : (1048576 : Int) - (r.big : Nat) < 0
  · rw [if_pos hbig] at S
    obtain ⟨f, ls⟩ := r
    simp only [Wh.val] at S h ⊢
    generalize ls.length = n at S hl ⊢
    obtain ⟨d0, d1⟩ := d
    simp only [Du.val]
    have S' : Hid _ := S
    clear S hbig
    have X : Hid (DzAt ((w.alloc (.cells #[.int .i64 f, .slice a n c] 42)).alloc (.cells #[.int .i64 d0, .int .i64 d1] 30)) a ls ∧ Below w.heap.size w ((w.alloc (.cells #[.int .i64 f, .slice a n c] 42)).alloc (.cells #[.int .i64 d0, .int .i64 d1] 30))) := ⟨h.out.below (((Below.refl _ _).alloc (Nat.le_refl _) _).alloc (by simp) _), (((Below.refl _ _).alloc (Nat.le_refl _) _).alloc (by simp) _)⟩
    go_enter Try.func7, Try.ntmps7
    go_wp2_with fail
    refine (S'.out _ X.out.1).mono ?_
    rintro e w1 ⟨rfl, q⟩
    have X1 : Hid (Below w.heap.size w w1) := X.out.2.trans (q.mono X.out.2.size)
    clear q
    go_wp2
    go_ret
    exact ⟨rfl, X1.out⟩
  rw [if_neg hbig] at S
  have hB : r.big ≤ 1048576 := by omega
  have T : ∀ w, Hid (DzAt w a r.slots) → Calls Try.prog 24 #[r.val a c] w fun e w' => (∃ p q, e = .returned (.agg #[.int .i64 r.step, .slice p r.slots.length q]) ∧ WhIn w.heap.size w'.heap.size w' (.agg #[.int .i64 r.step, .slice p r.slots.length q]) r) ∧ Below w.heap.size w w' := fun w h => (toWhs r a c w hB h).mono fun e w' hh => by
    obtain ⟨⟨v, rfl, hi⟩, hb⟩ := hh
    obtain ⟨p, q, rfl⟩ := WhIn.cells hi
    exact ⟨⟨p, q, rfl, hi⟩, hb⟩
  have hXB : (r.put d).big ≤ 1048576 := Wh.big_put hB
  obtain ⟨X, hXe⟩ : ∃ X, r.put d = X := ⟨_, rfl⟩
  obtain ⟨t0', ht0'⟩ : ∃ t, r.putB d = t := ⟨_, rfl⟩
  have C : ∀ v w, Hid (WhAt w v r) → Calls Try.prog 27 #[v, d.val] w fun e w' => (∃ p q, e = .returned (.tuple #[.agg #[.int .i64 X.step, .slice p X.slots.length q], .bool t0']) ∧ WhIn w.heap.size w'.heap.size w' (.agg #[.int .i64 X.step, .slice p X.slots.length q]) X) ∧ Below w.heap.size w w' := fun v w h => (specWheelPut r v d w hB h).mono fun e w' hh => by
      rw [hXe, ht0'] at hh
      obtain ⟨⟨v, rfl, hi⟩, hb⟩ := hh
      obtain ⟨p, q, rfl⟩ := WhIn.cells hi
      exact ⟨⟨p, q, rfl, hi⟩, hb⟩
  have D : ∀ v w, Hid (WhAt w v r) → Calls Try.prog 28 #[v, d.val] w fun e w' => (∃ p q, e = .returned (.tuple #[.agg #[.int .i64 X.step, .slice p X.slots.length q], .bool t0']) ∧ WhIn w.heap.size w'.heap.size w' (.agg #[.int .i64 X.step, .slice p X.slots.length q]) X) ∧ Below w.heap.size w w' := fun v w h => (impl' r v d w hB h).mono fun e w' hh => by
      rw [hXe, ht0'] at hh
      obtain ⟨⟨v, rfl, hi⟩, hb⟩ := hh
      obtain ⟨p, q, rfl⟩ := WhIn.cells hi
      exact ⟨⟨p, q, rfl, hi⟩, hb⟩
  rw [hXe] at hXB
  have ER := fun v1 v2 w h1 h2 => eqWhs v1 v2 r w hB h1 h2
  have EX := fun v1 v2 w h1 h2 => eqWhs v1 v2 X w hXB h1 h2
  have MR : ∀ b t v w, Hid (WhIn b t w v r) → Calls Try.prog 29 #[v, .int .i64 1] w fun e w' => e = .returned (.int .i64 (1 + 2 * (dzSum r.slots r.slots.length : Int))) ∧ Span b t w w' := fun b t v w h => (markWhs 1 (by omega) (by omega) b t v r w hB h).mono fun _ _ hh => ⟨hh.1, hh.2.2⟩
  have MX := fun b t v w h => markWhs 1 (by omega) (by omega) b t v X w hXB h
  have HX := fun v w h => heldWhs 1 (by omega) (by omega) v X w hXB h
  have m0 : ¬ 1 + 2 * (dzSum r.slots r.slots.length : Int) < 0 := by omega
  have m1 : ¬ 1 + 2 * (dzSum X.slots X.slots.length : Int) < 0 := by omega
  generalize 1 + 2 * (dzSum r.slots r.slots.length : Int) = kr at MR m0
  generalize 1 + 2 * (dzSum X.slots X.slots.length : Int) = kx at MX HX m1
  obtain ⟨Xm, hXm⟩ : ∃ Xm, X.mk' 1 = Xm := ⟨_, rfl⟩
  rw [hXm] at MX HX
  have TOd := fun w => toDuB d w
  have hb0 : ¬ (1048576 : Int) - (r.big : Nat) < 0 := hbig
  generalize (1048576 : Int) - (r.big : Nat) = left at S hb0
  obtain ⟨n, hn⟩ : ∃ n, r.slots.length = n := ⟨_, rfl⟩
  obtain ⟨f, hf⟩ : ∃ f, r.step = f := ⟨_, rfl⟩
  unfold Wh.val at S T ⊢
  simp only [hn, hf] at S T ⊢
  clear hn hf
  obtain ⟨xn, hxn⟩ : ∃ n, X.slots.length = n := ⟨_, rfl⟩
  obtain ⟨xf, hxf⟩ : ∃ f, X.step = f := ⟨_, rfl⟩
  simp only [hxn, hxf] at C D
  clear hxn hxf
  obtain ⟨d0, d1⟩ := d
  simp only [Du.val] at C D TOd ⊢
  have S' : Hid _ := S
  have T' : Hid _ := T
  have C' : Hid _ := C
  have D' : Hid _ := D
  have ER' : Hid _ := ER
  have EX' : Hid _ := EX
  have MR' : Hid _ := MR
  have MX' : Hid _ := MX
  have HX' : Hid _ := HX
  have TOd' : Hid _ := TOd
  clear S T C D ER EX MR MX HX TOd hbig hB hXB hXe ht0' hXm hl hin
  obtain ⟨W, hW⟩ : ∃ W, W = ((w.alloc (.cells #[.int .i64 f, .slice a n c] 42)).alloc (.cells #[.int .i64 d0, .int .i64 d1] 30)) := ⟨_, rfl⟩
  have X0 : Hid (Lies w [Thing.box w.heap.size #[.int .i64 f, .slice a n c] 42, Thing.box (w.heap.size + 1) #[.int .i64 d0, .int .i64 d1] 30] W) := by
    rw [hW]
    refine ⟨⟨?_, ?_, trivial⟩, (((Below.refl _ _).alloc (Nat.le_refl _) _).alloc (by simp) _)⟩
    · have := ((Boxed.new w #[.int .i64 f, .slice a n c] 42).more (.cells #[.int .i64 d0, .int .i64 d1] 30))
      simpa using this
    · have := (Boxed.new (w.alloc (.cells #[.int .i64 f, .slice a n c] 42)) #[.int .i64 d0, .int .i64 d1] 30)
      simpa using this
  have HW : Hid (W = _) := hW
  have K : Hid (∀ w', Below w.heap.size w w' → DzAt w' a r.slots) := fun w' g => h.out.below g
  clear h hW
  go_enter Try.func7, Try.ntmps7
  go_wp2_with fail
  rw [← HW.out]
  refine (S'.out _ (K.out _ X0.out.2)).mono ?_
  rintro e w1 ⟨rfl, q⟩
  have Z : Hid (Lies w [Thing.box w.heap.size #[.int .i64 f, .slice a n c] 42, Thing.box (w.heap.size + 1) #[.int .i64 d0, .int .i64 d1] 30] w1) := X0.out.below q
  clear q X0 S' HW
  go_upto_region 5 with fail
  go_cut [6, 7] (fun s6 s7 wc => Hid (∃ (p0 : Option Addr) (q0 b0 t0 B0 : Nat), s6 = .pointer (some ⟨B0, 0, none⟩) ∧ s7 = .bool t0' ∧ Lies w [Thing.box w.heap.size #[.int .i64 f, .slice a n c] 42, Thing.box (w.heap.size + 1) #[.int .i64 d0, .int .i64 d1] 30, Thing.own (fun W => WhIn b0 t0 W (.agg #[.int .i64 xf, .slice p0 xn q0]) X) b0 t0 (fun h s k => WhIn.keep h s k), Thing.box B0 #[.int .i64 xf, .slice p0 xn q0] 47] wc ∧ ((w1.heap.size ≤ b0 ∧ b0 ≤ t0 ∧ t0 ≤ wc.heap.size) ∧ (w1.heap.size ≤ B0 ∧ B0 < wc.heap.size) ∧ (B0 < b0 ∨ t0 ≤ B0) ∧ w.heap.size + 2 ≤ w1.heap.size)))
  case first =>
    go_wp2_with fail
    refine region_lists (G := ((Option Addr × Nat) × (Option Addr × Nat) × Nat × Nat × Nat)) (by kernel_rfl) (by kernel_rfl) (by kernel_rfl) (fun _ => 99) (fun (L : Nat → Bool) (y : ((Option Addr × Nat) × (Option Addr × Nat) × Nat × Nat × Nat)) (x : World) => (Below w1.heap.size w1 x ∧ (L 1 = true → L 4 = false → WhAt x (.agg #[.int .i64 f, .slice y.1.1 n y.1.2]) r) ∧ (L 4 = true → (WhIn y.2.2.1 y.2.2.2.1 x (.agg #[.int .i64 xf, .slice y.2.1.1 xn y.2.1.2]) X ∧ w1.heap.size ≤ y.2.2.1 ∧ y.2.2.1 ≤ y.2.2.2.1 ∧ y.2.2.2.1 ≤ x.heap.size) ∧ (L 8 = true → y.2.2.2.2 < y.2.2.1 ∨ y.2.2.2.1 ≤ y.2.2.2.2)) ∧ (L 8 = true → (w1.heap.size ≤ y.2.2.2.2 ∧ y.2.2.2.2 < x.heap.size) ∧ Boxed x y.2.2.2.2 (if L 9 = true then #[.int .i64 xf, .slice y.2.1.1 xn y.2.1.2] else #[.int .i64 0, .slice none 0 0]) 47))) (fun i (y : ((Option Addr × Nat) × (Option Addr × Nat) × Nat × Nat × Nat)) (_ : World) (y' : ((Option Addr × Nat) × (Option Addr × Nat) × Nat × Nat × Nat)) (_ : World) => (i ≠ 1 → y'.1 = y.1) ∧ (i ≠ 4 → y'.2.1 = y.2.1) ∧ (i ≠ 8 → y'.2.2.2.2 = y.2.2.2.2)) (fun i y x u => ([fun y _ u => u = .agg #[.int .i64 f, .slice a n c], fun y _ u => u = .agg #[.int .i64 f, .slice y.1.1 n y.1.2], fun y _ u => u = .agg #[.int .i64 d0, .int .i64 d1], fun y _ u => u = .agg #[.int .i64 d0, .int .i64 d1], fun y _ u => u = .tuple #[.agg #[.int .i64 xf, .slice y.2.1.1 xn y.2.1.2], .bool t0'], fun y _ u => u = .tuple #[.agg #[.int .i64 xf, .slice y.2.1.1 xn y.2.1.2], .bool t0'], fun y _ u => u = .agg #[.int .i64 xf, .slice y.2.1.1 xn y.2.1.2], fun y _ u => u = .bool t0', fun y _ u => u = .pointer (some ⟨y.2.2.2.2, 0, none⟩), fun _ _ _ => True, fun y _ u => u = .bool t0'] : List (((Option Addr × Nat) × (Option Addr × Nat) × Nat × Nat × Nat) → World → Value → Prop)).getD i (fun _ _ _ => True) y x u) ?hR ((none, 0), (none, 0), 0, 0, 0) ?h0 ?step ?last
    case hR =>
      intro i j y y' x x' u hi hj hne hu h1 h2 hp hr
      obtain ⟨r1, r2, r3⟩ := hr
      have hj' : j < 11 := hj
      have hcases : j = 0 ∨ j = 1 ∨ j = 2 ∨ j = 3 ∨ j = 4 ∨ j = 5 ∨ j = 6 ∨ j = 7 ∨ j = 8 ∨ j = 9 ∨ j = 10 := by omega
      rcases hcases with rfl | rfl | rfl | rfl | rfl | rfl | rfl | rfl | rfl | rfl | rfl
      · exact hp
      · have e := r1 (hne)
        show u = _
        rw [e]
        exact hp
      · exact hp
      · exact hp
      · have e := r2 (hne)
        show u = _
        rw [e]
        exact hp
      · have e := r2 (by rintro rfl; exact absurd h1 (by decide +kernel))
        show u = _
        rw [e]
        exact hp
      · have e := r2 (by rintro rfl; exact absurd h1 (by decide +kernel))
        show u = _
        rw [e]
        exact hp
      · exact hp
      · have e := r3 (hne)
        show u = _
        rw [e]
        exact hp
      · exact hp
      · exact hp
    case h0 => exact ⟨(Below.refl _ _).drew, (fun h => by cases h), (fun h => by cases h), fun h => by cases h⟩
    case step =>
      intro i o hi ho L a' y x hLi hwt hre hkp hI hp
      have hb := hI.1
      have LX := Z.out.below hb
      have s2 : a'.eval (.tmp 2) = .pointer (some ⟨w.heap.size, 0, none⟩) := by have h2 : a'.tmps.getD 2 undef = .pointer (some ⟨w.heap.size, 0, none⟩) := hkp.slot 2 (by kernel_rfl); simpa [Act.eval] using h2
      have s3 : a'.eval (.tmp 3) = .pointer (some ⟨(w.heap.size + 1), 0, none⟩) := by have h2 : a'.tmps.getD 3 undef = .pointer (some ⟨(w.heap.size + 1), 0, none⟩) := hkp.slot 3 (by kernel_rfl); simpa [Act.eval] using h2
      have hi' : i < 11 := hi
      have hcases : i = 0 ∨ i = 1 ∨ i = 2 ∨ i = 3 ∨ i = 4 ∨ i = 5 ∨ i = 6 ∨ i = 7 ∨ i = 8 ∨ i = 9 ∨ i = 10 := by omega
      rcases hcases with rfl | rfl | rfl | rfl | rfl | rfl | rfl | rfl | rfl | rfl | rfl
      · cases ho
        exact ⟨wanted_none rfl, wp_load_row 42 (.tmp 2) rfl w.heap.size s2 _ _ _ _ (show Boxed _ _ _ _ from LX.1.1) Try.underlying42 rfl (by kernel_rfl) ⟨_, y, rfl, ⟨fun _ => rfl, fun _ => rfl, fun _ => rfl⟩, hI, fun u hu => hu (fun h => by cases h)⟩⟩
      · cases ho
        have e0 : a'.tmps.getD 22 undef = .agg #[.int .i64 f, .slice a n c] := hp 0 (of_decide_eq_true (by kernel_rfl)) (.inr (by decide))
        have q0 : a'.tmps[22]?.getD undef = .agg #[.int .i64 f, .slice a n c] := by simpa using e0
        have nF := hre 4 (by decide +kernel)
        refine ⟨wanted_none rfl, op_callR (by simp [execOp, resolve, Deferred.ofValue, invoke, Act.eval, q0]) (T'.out x (K.out _ LX.2)) ?_⟩
        rintro e z ⟨⟨pA, qA, rfl, iA⟩, q⟩
        exact ⟨_, rfl, _, ((pA, qA), y.2), rfl, ⟨fun h => absurd rfl h, fun _ => rfl, fun _ => rfl⟩, ⟨hb.trans (q.mono hb.size), fun _ _ => iA.at, fun h => absurd (h.symm.trans nF) (by decide), fun h => ⟨⟨(hI.2.2.2 h).1.1, Nat.lt_of_lt_of_le (hI.2.2.2 h).1.2 q.size⟩, (hI.2.2.2 h).2.below (hI.2.2.2 h).1.2 q⟩⟩, fun u hu => hu (fun h => by cases h)⟩
      · cases ho
        exact ⟨wanted_none rfl, wp_load_row 30 (.tmp 3) rfl (w.heap.size + 1) s3 _ _ _ _ (show Boxed _ _ _ _ from LX.1.2.1) Try.underlying30 rfl (by kernel_rfl) ⟨_, y, rfl, ⟨fun _ => rfl, fun _ => rfl, fun _ => rfl⟩, hI, fun u hu => hu (fun h => by cases h)⟩⟩
      · cases ho
        have e2 : a'.tmps.getD 24 undef = .agg #[.int .i64 d0, .int .i64 d1] := hp 2 (of_decide_eq_true (by kernel_rfl)) (.inr (by decide))
        have q2 : a'.tmps[24]?.getD undef = .agg #[.int .i64 d0, .int .i64 d1] := by simpa using e2
        have nF := hre 4 (by decide +kernel)
        refine ⟨wanted_none rfl, op_callR (by simp [execOp, resolve, Deferred.ofValue, invoke, Act.eval, q2]) (TOd'.out x) ?_⟩
        rintro e z ⟨rfl, q⟩
        exact ⟨_, rfl, _, y, rfl, ⟨fun _ => rfl, fun _ => rfl, fun _ => rfl⟩, ⟨hb.trans (q.mono hb.size), fun h h' => (hI.2.1 h h').below q, fun h => absurd (h.symm.trans nF) (by decide), fun h => ⟨⟨(hI.2.2.2 h).1.1, Nat.lt_of_lt_of_le (hI.2.2.2 h).1.2 q.size⟩, (hI.2.2.2 h).2.below (hI.2.2.2 h).1.2 q⟩⟩, fun u hu => hu (fun h => by cases h)⟩
      · cases ho
        have e1 : a'.tmps.getD 23 undef = .agg #[.int .i64 f, .slice y.1.1 n y.1.2] := hp 1 (of_decide_eq_true (by kernel_rfl)) (.inr (by decide))
        have q1 : a'.tmps[23]?.getD undef = .agg #[.int .i64 f, .slice y.1.1 n y.1.2] := by simpa using e1
        have e3 : a'.tmps.getD 25 undef = .agg #[.int .i64 d0, .int .i64 d1] := hp 3 (of_decide_eq_true (by kernel_rfl)) (.inr (by decide))
        have q3 : a'.tmps[25]?.getD undef = .agg #[.int .i64 d0, .int .i64 d1] := by simpa using e3
        refine ⟨wanted_none rfl, op_callR (by simp [execOp, resolve, Deferred.ofValue, invoke, Act.eval, q1, q3]) (C'.out _ x (hI.2.1 (hwt 1 (of_decide_eq_true (by kernel_rfl))) hLi)) ?_⟩
        rintro e z ⟨⟨p2, q2, rfl, iY⟩, q⟩
        exact ⟨_, rfl, _, (y.1, (p2, q2), x.heap.size, z.heap.size, y.2.2.2.2), rfl, ⟨fun _ => rfl, fun h => absurd rfl h, fun _ => rfl⟩, ⟨hb.trans (q.mono hb.size), (fun _ h => by cases h), fun _ => ⟨⟨iY, hb.size, q.size, Nat.le_refl _⟩, fun h => .inl (hI.2.2.2 h).1.2⟩, fun h => ⟨⟨(hI.2.2.2 h).1.1, Nat.lt_of_lt_of_le (hI.2.2.2 h).1.2 q.size⟩, (by have h2 := (hI.2.2.2 h).2.below (hI.2.2.2 h).1.2 q; have hz : L 9 = false := hre 9 (by decide +kernel); rw [hz] at h2; show Boxed z y.2.2.2.2 (if L 9 = true then _ else _) _; rw [hz]; exact h2)⟩⟩, fun u hu => hu (fun h => by cases h)⟩
      · cases ho
        have e4 : a'.tmps.getD 26 undef = .tuple #[.agg #[.int .i64 xf, .slice y.2.1.1 xn y.2.1.2], .bool t0'] := hp 4 (of_decide_eq_true (by kernel_rfl)) (.inr (by decide))
        have q4 : a'.tmps[26]?.getD undef = .tuple #[.agg #[.int .i64 xf, .slice y.2.1.1 xn y.2.1.2], .bool t0'] := by simpa using e4
        refine ⟨wanted_none rfl, Oper.wp_mono (K := fun a'' w'' => a'' = a'.put (some 21) (.tuple #[.agg #[.int .i64 xf, .slice y.2.1.1 xn y.2.1.2], .bool t0']) ∧ w'' = x) ?_ ?_⟩
        · rintro _ _ ⟨rfl, rfl⟩
          exact ⟨_, y, rfl, ⟨fun _ => rfl, fun _ => rfl, fun _ => rfl⟩, hI, fun u hu => hu (fun h => by cases h)⟩
        · unfold Oper.wp
          simp [go_sem, q4]
      · cases ho
        have e5 : a'.tmps.getD 21 undef = .tuple #[.agg #[.int .i64 xf, .slice y.2.1.1 xn y.2.1.2], .bool t0'] := hp 5 (of_decide_eq_true (by kernel_rfl)) (.inr (by decide))
        have q5 : a'.tmps[21]?.getD undef = .tuple #[.agg #[.int .i64 xf, .slice y.2.1.1 xn y.2.1.2], .bool t0'] := by simpa using e5
        refine ⟨wanted_none rfl, Oper.wp_mono (K := fun a'' w'' => a'' = a'.put (some 27) (.agg #[.int .i64 xf, .slice y.2.1.1 xn y.2.1.2]) ∧ w'' = x) ?_ ?_⟩
        · rintro _ _ ⟨rfl, rfl⟩
          exact ⟨_, y, rfl, ⟨fun _ => rfl, fun _ => rfl, fun _ => rfl⟩, hI, fun u hu => hu (fun h => by cases h)⟩
        · unfold Oper.wp
          simp [go_sem, q5]
      · cases ho
        have e5 : a'.tmps.getD 21 undef = .tuple #[.agg #[.int .i64 xf, .slice y.2.1.1 xn y.2.1.2], .bool t0'] := hp 5 (of_decide_eq_true (by kernel_rfl)) (.inr (by decide))
        have q5 : a'.tmps[21]?.getD undef = .tuple #[.agg #[.int .i64 xf, .slice y.2.1.1 xn y.2.1.2], .bool t0'] := by simpa using e5
        refine ⟨wanted_none rfl, Oper.wp_mono (K := fun a'' w'' => a'' = a'.put (some 28) (.bool t0') ∧ w'' = x) ?_ ?_⟩
        · rintro _ _ ⟨rfl, rfl⟩
          exact ⟨_, y, rfl, ⟨fun _ => rfl, fun _ => rfl, fun _ => rfl⟩, hI, fun u hu => hu (fun h => by cases h)⟩
        · unfold Oper.wp
          simp [go_sem, q5]
      · cases ho
        have nS := hre 9 (by decide +kernel)
        have bA : Below x.heap.size x (x.alloc (.cells #[.int .i64 0, .slice none 0 0] 47)) := (Below.refl _ _).alloc (Nat.le_refl _) _
        refine ⟨wanted_none rfl, op_allocZ (z := .agg #[.int .i64 0, .slice none 0 0]) rfl (by kernel_rfl) ⟨_, (y.1, y.2.1, y.2.2.1, y.2.2.2.1, x.heap.size), rfl, ⟨fun _ => rfl, fun _ => rfl, fun h => absurd rfl h⟩, ⟨hb.trans (bA.mono hb.size), fun h h' => (hI.2.1 h h').below bA, fun h => ⟨⟨(hI.2.2.1 h).1.1.below bA, (hI.2.2.1 h).1.2.1, (hI.2.2.1 h).1.2.2.1, Nat.le_trans (hI.2.2.1 h).1.2.2.2 bA.size⟩, fun _ => .inr (hI.2.2.1 h).1.2.2.2⟩, fun _ => ⟨⟨hb.size, by simp⟩, (by show Boxed _ x.heap.size (if L 9 = true then _ else _) _; rw [show L 9 = false from nS]; exact Boxed.new _ _ _)⟩⟩, fun u hu => hu (fun h => by cases h)⟩⟩
      · cases ho
        have e8 : a'.tmps.getD 6 undef = .pointer (some ⟨y.2.2.2.2, 0, none⟩) := hp 8 (of_decide_eq_true (by kernel_rfl)) (.inr (by decide))
        have e6 : a'.tmps.getD 27 undef = .agg #[.int .i64 xf, .slice y.2.1.1 xn y.2.1.2] := hp 6 (of_decide_eq_true (by kernel_rfl)) (.inr (by decide))
        have hF : L 4 = true := hwt 4 (of_decide_eq_true (by kernel_rfl))
        have hA : L 8 = true := hwt 8 (of_decide_eq_true (by kernel_rfl))
        obtain ⟨⟨g1, g2⟩, g3⟩ := hI.2.2.2 hA
        rw [hLi] at g3
        obtain ⟨⟨k1, k2, k3, k4⟩, k5⟩ := hI.2.2.1 hF
        have k6 := k5 hA
        refine ⟨wanted_none rfl, wp_store_row 47 (.tmp 6) (.tmp 27) rfl y.2.2.2.2 #[.int .i64 xf, .slice y.2.1.1 xn y.2.1.2] (by simpa [Act.eval] using e8) (by simpa [Act.eval] using e6) _ _ g3 (by kernel_rfl) rfl (by simp [Value.oneCell']) ⟨undef, y, rfl, ⟨fun _ => rfl, fun _ => rfl, fun _ => rfl⟩, ⟨below_setRow hb g1 _, (fun _ h => absurd (hF.symm.trans h) (by decide)), fun _ => ⟨⟨k1.keep (by rw [size_setRow]; exact Nat.le_refl _) (fun k j1 j2 => setRow_other _ _ _ _ (by omega)), k2, k3, by rw [size_setRow]; exact k4⟩, fun _ => k6⟩, fun _ => ⟨⟨g1, by rw [size_setRow]; exact g2⟩, setRow_heap _ _ _ _ _ _ g3⟩⟩, fun _ _ => trivial⟩⟩
      · cases ho
        have e7 : a'.tmps.getD 28 undef = .bool t0' := hp 7 (of_decide_eq_true (by kernel_rfl)) (.inr (by decide))
        refine ⟨wanted_none rfl, op_assignZ 28 rfl ?_⟩
        rw [e7]
        exact ⟨_, y, rfl, ⟨fun _ => rfl, fun _ => rfl, fun _ => rfl⟩, hI, fun u hu => hu (fun h => by cases h)⟩
    case last =>
    intro L a' y x hall hkp hI hp
    have hA := hI.2.2.2 (hall 8 (by decide))
    have hF := hI.2.2.1 (hall 4 (by decide))
    rw [hall 9 (by decide)] at hA
    have LX := Z.out.below hI.1
    have e8 : a'.tmps.getD 6 undef = .pointer (some ⟨y.2.2.2.2, 0, none⟩) := hp 8 (by decide) (by decide)
    have e10 : a'.tmps.getD 7 undef = .bool t0' := hp 10 (by decide) (by decide)
    have Fin : Hid (∃ (p0 : Option Addr) (q0 b0 t0 B0 : Nat), a'.tmps.getD 6 undef = .pointer (some ⟨B0, 0, none⟩) ∧ a'.tmps.getD 7 undef = .bool t0' ∧ Lies w [Thing.box w.heap.size #[.int .i64 f, .slice a n c] 42, Thing.box (w.heap.size + 1) #[.int .i64 d0, .int .i64 d1] 30, Thing.own (fun W => WhIn b0 t0 W (.agg #[.int .i64 xf, .slice p0 xn q0]) X) b0 t0 (fun h s k => WhIn.keep h s k), Thing.box B0 #[.int .i64 xf, .slice p0 xn q0] 47] x ∧ ((w1.heap.size ≤ b0 ∧ b0 ≤ t0 ∧ t0 ≤ x.heap.size) ∧ (w1.heap.size ≤ B0 ∧ B0 < x.heap.size) ∧ (B0 < b0 ∨ t0 ≤ B0) ∧ w.heap.size + 2 ≤ w1.heap.size)) := ⟨y.2.1.1, y.2.1.2, y.2.2.1, y.2.2.2.1, y.2.2.2.2, e8, e10, LX.more (Below.refl _ _) ⟨⟨hF.1.1, hF.1.2.2.2⟩, hA.2, trivial⟩, ⟨hF.1.2.1, hF.1.2.2.1, hF.1.2.2.2⟩, hA.1, hF.2 (hall 8 (by decide)), (by have := Boxed.under (show Boxed _ _ _ _ from Z.out.1.2.1); omega)⟩
    have ha := hkp.pick [true, true, true, true, true, true, false, false, true, true, true, true, true, true, true, true, true, true, true, true, true, false, false, false, false, false, false, false, false, true, true, true, true, true, true, true, true, true, true, true, true, true, true, true, true, true, true, true, true, true, true, true, true, true, true, true, true, true, true, true, true, true, true, true, true, true, true, true, true, true, true, true, true, true, true, true, true, true, true, true, true, true, true, true, true, true, true, true, true, true, true, true, true, true, true, true, true, true, true, true, true, true, true, true] (by kernel_rfl)
    simp only [pickS] at ha
    clear hp hkp hI hall hA hF LX e8 e10
    generalize a'.tmps.getD 6 undef = y6 at ha Fin
    generalize a'.tmps.getD 7 undef = y7 at ha Fin
    generalize a'.tmps.getD 21 undef = y21 at ha
    generalize a'.tmps.getD 22 undef = y22 at ha
    generalize a'.tmps.getD 23 undef = y23 at ha
    generalize a'.tmps.getD 24 undef = y24 at ha
    generalize a'.tmps.getD 25 undef = y25 at ha
    generalize a'.tmps.getD 26 undef = y26 at ha
    generalize a'.tmps.getD 27 undef = y27 at ha
    generalize a'.tmps.getD 28 undef = y28 at ha
    rw [ha]
    clear ha
    go_wp2_with fail
    go_meet
    exact Fin.out
  case rest =>
  obtain ⟨p0, q0, b0, t0, B0, rfl, rfl, hZ, hO⟩ := hcut.out
  obtain ⟨w0, rfl⟩ : ∃ w, w = wc := ⟨_, rfl⟩
  have Z1 : Hid (Lies w [Thing.box w.heap.size #[.int .i64 f, .slice a n c] 42, Thing.box (w.heap.size + 1) #[.int .i64 d0, .int .i64 d1] 30, Thing.own (fun W => WhIn b0 t0 W (.agg #[.int .i64 xf, .slice p0 xn q0]) X) b0 t0 (fun h s k => WhIn.keep h s k), Thing.box B0 #[.int .i64 xf, .slice p0 xn q0] 47] w0) := hZ
  have O0 : Hid (((w1.heap.size ≤ b0 ∧ b0 ≤ t0 ∧ t0 ≤ w0.heap.size) ∧ (w1.heap.size ≤ B0 ∧ B0 < w0.heap.size) ∧ (B0 < b0 ∨ t0 ≤ B0) ∧ w.heap.size + 2 ≤ w1.heap.size)) := hO
  clear hcut hZ hO Z
  generalize w1.heap.size = sz0 at O0
  have c0 : w0.cell? ⟨w.heap.size, 0, none⟩ = some (.int .i64 f) := Boxed.cell (show Boxed _ _ _ _ from Z1.out.1.1) 0 rfl
  have c1 : w0.cell? ⟨w.heap.size, 1, none⟩ = some (.slice a n c) := Boxed.cell (show Boxed _ _ _ _ from Z1.out.1.1) 1 rfl
  go_wp2_with fail
  refine (T'.out _ (K.out _ Z1.out.2)).mono ?_
  rintro e wC ⟨⟨p1, q1, rfl, iC⟩, g⟩
  go_upto_region 7 with fail
  have bN : Below wC.heap.size wC (wC.alloc (.cells #[.int .i64 f, .slice p1 n q1] 47)) := (Below.refl _ _).alloc (Nat.le_refl _) _
  have Z2 : Hid (Lies w [Thing.box w.heap.size #[.int .i64 f, .slice a n c] 42, Thing.box (w.heap.size + 1) #[.int .i64 d0, .int .i64 d1] 30, Thing.own (fun W => WhIn b0 t0 W (.agg #[.int .i64 xf, .slice p0 xn q0]) X) b0 t0 (fun h s k => WhIn.keep h s k), Thing.box B0 #[.int .i64 xf, .slice p0 xn q0] 47, Thing.own (fun W => WhIn w0.heap.size wC.heap.size W (.agg #[.int .i64 f, .slice p1 n q1]) r) w0.heap.size wC.heap.size (fun h s k => WhIn.keep h s k), Thing.box wC.heap.size #[.int .i64 f, .slice p1 n q1] 47] (wC.alloc (.cells #[.int .i64 f, .slice p1 n q1] 47)) ∧ w0.heap.size ≤ wC.heap.size ∧ wC.heap.size + 1 ≤ (wC.alloc (.cells #[.int .i64 f, .slice p1 n q1] 47)).heap.size) := ⟨(Z1.out.below g).more bN ⟨⟨WhIn.below iC bN, bN.size⟩, Boxed.new _ _ _, trivial⟩, g.size, by simp⟩
  clear bN g iC Z1 c0 c1
  generalize (wC.alloc (.cells #[.int .i64 f, .slice p1 n q1] 47)) = w6 at Z2 ⊢
  generalize wC.heap.size = t1 at Z2 ⊢
  generalize w0.heap.size = b1 at Z2 O0
  have Z2A : Hid (Lies w [Thing.box w.heap.size #[.int .i64 f, .slice a n c] 42, Thing.box (w.heap.size + 1) #[.int .i64 d0, .int .i64 d1] 30, Thing.own (fun W => WhIn b0 t0 W (.agg #[.int .i64 xf, .slice p0 xn q0]) X) b0 t0 (fun h s k => WhIn.keep h s k), Thing.box B0 #[.int .i64 xf, .slice p0 xn q0] 47, Thing.own (fun W => WhIn b1 t1 W (.agg #[.int .i64 f, .slice p1 n q1]) r) b1 t1 (fun h s k => WhIn.keep h s k), Thing.box t1 #[.int .i64 f, .slice p1 n q1] 47] w6) := Z2.out.1
  have O1 : Hid (b1 ≤ t1 ∧ t1 + 1 ≤ w6.heap.size ∧ _) := ⟨Z2.out.2.1, Z2.out.2.2, O0.out⟩
  clear Z2 O0
  go_upto_region 7 with fail
  go_cut [9, 10] (fun s9 s10 wc => Hid (∃ (p2 : Option Addr) (q2 b2 t2 B2 : Nat), s9 = .pointer (some ⟨B2, 0, none⟩) ∧ s10 = .bool t0' ∧ Lies w [Thing.box w.heap.size #[.int .i64 f, .slice a n c] 42, Thing.box (w.heap.size + 1) #[.int .i64 d0, .int .i64 d1] 30, Thing.own (fun W => WhIn b0 t0 W (.agg #[.int .i64 xf, .slice p0 xn q0]) X) b0 t0 (fun h s k => WhIn.keep h s k), Thing.box B0 #[.int .i64 xf, .slice p0 xn q0] 47, Thing.own (fun W => WhIn b1 t1 W (.agg #[.int .i64 f, .slice p1 n q1]) r) b1 t1 (fun h s k => WhIn.keep h s k), Thing.box t1 #[.int .i64 f, .slice p1 n q1] 47, Thing.own (fun W => WhIn b2 t2 W (.agg #[.int .i64 xf, .slice p2 xn q2]) X) b2 t2 (fun h s k => WhIn.keep h s k), Thing.box B2 #[.int .i64 xf, .slice p2 xn q2] 47] wc ∧ ((w6.heap.size ≤ b2 ∧ b2 ≤ t2 ∧ t2 ≤ wc.heap.size) ∧ (w6.heap.size ≤ B2 ∧ B2 < wc.heap.size) ∧ (B2 < b2 ∨ t2 ≤ B2) ∧ w.heap.size + 2 ≤ w6.heap.size)))
  case first =>
    go_wp2_with fail
    refine region_lists (G := ((Option Addr × Nat) × (Option Addr × Nat) × Nat × Nat × Nat)) (by kernel_rfl) (by kernel_rfl) (by kernel_rfl) (fun _ => 99) (fun (L : Nat → Bool) (y : ((Option Addr × Nat) × (Option Addr × Nat) × Nat × Nat × Nat)) (x : World) => (Below w6.heap.size w6 x ∧ (false = true → L 3 = false → WhAt x (.agg #[.int .i64 f, .slice y.1.1 n y.1.2]) r) ∧ (L 3 = true → (WhIn y.2.2.1 y.2.2.2.1 x (.agg #[.int .i64 xf, .slice y.2.1.1 xn y.2.1.2]) X ∧ w6.heap.size ≤ y.2.2.1 ∧ y.2.2.1 ≤ y.2.2.2.1 ∧ y.2.2.2.1 ≤ x.heap.size) ∧ (L 7 = true → y.2.2.2.2 < y.2.2.1 ∨ y.2.2.2.1 ≤ y.2.2.2.2)) ∧ (L 7 = true → (w6.heap.size ≤ y.2.2.2.2 ∧ y.2.2.2.2 < x.heap.size) ∧ Boxed x y.2.2.2.2 (if L 8 = true then #[.int .i64 xf, .slice y.2.1.1 xn y.2.1.2] else #[.int .i64 0, .slice none 0 0]) 47))) (fun i (y : ((Option Addr × Nat) × (Option Addr × Nat) × Nat × Nat × Nat)) (_ : World) (y' : ((Option Addr × Nat) × (Option Addr × Nat) × Nat × Nat × Nat)) (_ : World) => True ∧ (i ≠ 3 → y'.2.1 = y.2.1) ∧ (i ≠ 7 → y'.2.2.2.2 = y.2.2.2.2)) (fun i y x u => ([fun y _ u => u = .agg #[.int .i64 f, .slice p1 n q1], fun y _ u => u = .agg #[.int .i64 d0, .int .i64 d1], fun y _ u => u = .agg #[.int .i64 d0, .int .i64 d1], fun y _ u => u = .tuple #[.agg #[.int .i64 xf, .slice y.2.1.1 xn y.2.1.2], .bool t0'], fun y _ u => u = .tuple #[.agg #[.int .i64 xf, .slice y.2.1.1 xn y.2.1.2], .bool t0'], fun y _ u => u = .agg #[.int .i64 xf, .slice y.2.1.1 xn y.2.1.2], fun y _ u => u = .bool t0', fun y _ u => u = .pointer (some ⟨y.2.2.2.2, 0, none⟩), fun _ _ _ => True, fun y _ u => u = .bool t0'] : List (((Option Addr × Nat) × (Option Addr × Nat) × Nat × Nat × Nat) → World → Value → Prop)).getD i (fun _ _ _ => True) y x u) ?hR ((none, 0), (none, 0), 0, 0, 0) ?h0 ?step ?last
    case hR =>
      intro i j y y' x x' u hi hj hne hu h1 h2 hp hr
      obtain ⟨r1, r2, r3⟩ := hr
      have hj' : j < 10 := hj
      have hcases : j = 0 ∨ j = 1 ∨ j = 2 ∨ j = 3 ∨ j = 4 ∨ j = 5 ∨ j = 6 ∨ j = 7 ∨ j = 8 ∨ j = 9 := by omega
      rcases hcases with rfl | rfl | rfl | rfl | rfl | rfl | rfl | rfl | rfl | rfl
      · exact hp
      · exact hp
      · exact hp
      · have e := r2 (hne)
        show u = _
        rw [e]
        exact hp
      · have e := r2 (by rintro rfl; exact absurd h1 (by decide +kernel))
        show u = _
        rw [e]
        exact hp
      · have e := r2 (by rintro rfl; exact absurd h1 (by decide +kernel))
        show u = _
        rw [e]
        exact hp
      · exact hp
      · have e := r3 (hne)
        show u = _
        rw [e]
        exact hp
      · exact hp
      · exact hp
    case h0 => exact ⟨(Below.refl _ _).drew, (fun h => by cases h), (fun h => by cases h), fun h => by cases h⟩
    case step =>
      intro i o hi ho L a' y x hLi hwt hre hkp hI hp
      have hb := hI.1
      have LX := Z2A.out.below hb
      have s3 : a'.eval (.tmp 3) = .pointer (some ⟨(w.heap.size + 1), 0, none⟩) := by have h2 : a'.tmps.getD 3 undef = .pointer (some ⟨(w.heap.size + 1), 0, none⟩) := hkp.slot 3 (by kernel_rfl); simpa [Act.eval] using h2
      have s8 : a'.eval (.tmp 8) = .pointer (some ⟨t1, 0, none⟩) := by have h2 : a'.tmps.getD 8 undef = .pointer (some ⟨t1, 0, none⟩) := hkp.slot 8 (by kernel_rfl); simpa [Act.eval] using h2
      have hi' : i < 10 := hi
      have hcases : i = 0 ∨ i = 1 ∨ i = 2 ∨ i = 3 ∨ i = 4 ∨ i = 5 ∨ i = 6 ∨ i = 7 ∨ i = 8 ∨ i = 9 := by omega
      rcases hcases with rfl | rfl | rfl | rfl | rfl | rfl | rfl | rfl | rfl | rfl
      · cases ho
        exact ⟨wanted_none rfl, wp_load_row 47 (.tmp 8) rfl t1 s8 _ _ _ _ (show Boxed _ _ _ _ from LX.1.2.2.2.2.2.1) Try.underlying47 rfl (by kernel_rfl) ⟨_, y, rfl, ⟨trivial, fun _ => rfl, fun _ => rfl⟩, hI, fun u hu => hu (fun h => by cases h)⟩⟩
      · cases ho
        exact ⟨wanted_none rfl, wp_load_row 30 (.tmp 3) rfl (w.heap.size + 1) s3 _ _ _ _ (show Boxed _ _ _ _ from LX.1.2.1) Try.underlying30 rfl (by kernel_rfl) ⟨_, y, rfl, ⟨trivial, fun _ => rfl, fun _ => rfl⟩, hI, fun u hu => hu (fun h => by cases h)⟩⟩
      · cases ho
        have e1 : a'.tmps.getD 33 undef = .agg #[.int .i64 d0, .int .i64 d1] := hp 1 (of_decide_eq_true (by kernel_rfl)) (.inr (by decide))
        have q1 : a'.tmps[33]?.getD undef = .agg #[.int .i64 d0, .int .i64 d1] := by simpa using e1
        have nF := hre 3 (by decide +kernel)
        refine ⟨wanted_none rfl, op_callR (by simp [execOp, resolve, Deferred.ofValue, invoke, Act.eval, q1]) (TOd'.out x) ?_⟩
        rintro e z ⟨rfl, q⟩
        exact ⟨_, rfl, _, y, rfl, ⟨trivial, fun _ => rfl, fun _ => rfl⟩, ⟨hb.trans (q.mono hb.size), fun h h' => (hI.2.1 h h').below q, fun h => absurd (h.symm.trans nF) (by decide), fun h => ⟨⟨(hI.2.2.2 h).1.1, Nat.lt_of_lt_of_le (hI.2.2.2 h).1.2 q.size⟩, (hI.2.2.2 h).2.below (hI.2.2.2 h).1.2 q⟩⟩, fun u hu => hu (fun h => by cases h)⟩
      · cases ho
        have e0 : a'.tmps.getD 32 undef = .agg #[.int .i64 f, .slice p1 n q1] := hp 0 (of_decide_eq_true (by kernel_rfl)) (.inr (by decide))
        have q0 : a'.tmps[32]?.getD undef = .agg #[.int .i64 f, .slice p1 n q1] := by simpa using e0
        have e2 : a'.tmps.getD 34 undef = .agg #[.int .i64 d0, .int .i64 d1] := hp 2 (of_decide_eq_true (by kernel_rfl)) (.inr (by decide))
        have q2 : a'.tmps[34]?.getD undef = .agg #[.int .i64 d0, .int .i64 d1] := by simpa using e2
        refine ⟨wanted_none rfl, op_callR (by simp [execOp, resolve, Deferred.ofValue, invoke, Act.eval, q0, q2]) (D'.out _ x (WhIn.at (show WhIn _ _ _ _ _ from LX.1.2.2.2.2.1.1))) ?_⟩
        rintro e z ⟨⟨p2, q2, rfl, iY⟩, q⟩
        exact ⟨_, rfl, _, (y.1, (p2, q2), x.heap.size, z.heap.size, y.2.2.2.2), rfl, ⟨trivial, fun h => absurd rfl h, fun _ => rfl⟩, ⟨hb.trans (q.mono hb.size), (fun _ h => by cases h), fun _ => ⟨⟨iY, hb.size, q.size, Nat.le_refl _⟩, fun h => .inl (hI.2.2.2 h).1.2⟩, fun h => ⟨⟨(hI.2.2.2 h).1.1, Nat.lt_of_lt_of_le (hI.2.2.2 h).1.2 q.size⟩, (by have h2 := (hI.2.2.2 h).2.below (hI.2.2.2 h).1.2 q; have hz : L 8 = false := hre 8 (by decide +kernel); rw [hz] at h2; show Boxed z y.2.2.2.2 (if L 8 = true then _ else _) _; rw [hz]; exact h2)⟩⟩, fun u hu => hu (fun h => by cases h)⟩
      · cases ho
        have e3 : a'.tmps.getD 35 undef = .tuple #[.agg #[.int .i64 xf, .slice y.2.1.1 xn y.2.1.2], .bool t0'] := hp 3 (of_decide_eq_true (by kernel_rfl)) (.inr (by decide))
        have q3 : a'.tmps[35]?.getD undef = .tuple #[.agg #[.int .i64 xf, .slice y.2.1.1 xn y.2.1.2], .bool t0'] := by simpa using e3
        refine ⟨wanted_none rfl, Oper.wp_mono (K := fun a'' w'' => a'' = a'.put (some 31) (.tuple #[.agg #[.int .i64 xf, .slice y.2.1.1 xn y.2.1.2], .bool t0']) ∧ w'' = x) ?_ ?_⟩
        · rintro _ _ ⟨rfl, rfl⟩
          exact ⟨_, y, rfl, ⟨trivial, fun _ => rfl, fun _ => rfl⟩, hI, fun u hu => hu (fun h => by cases h)⟩
        · unfold Oper.wp
          simp [go_sem, q3]
      · cases ho
        have e4 : a'.tmps.getD 31 undef = .tuple #[.agg #[.int .i64 xf, .slice y.2.1.1 xn y.2.1.2], .bool t0'] := hp 4 (of_decide_eq_true (by kernel_rfl)) (.inr (by decide))
        have q4 : a'.tmps[31]?.getD undef = .tuple #[.agg #[.int .i64 xf, .slice y.2.1.1 xn y.2.1.2], .bool t0'] := by simpa using e4
        refine ⟨wanted_none rfl, Oper.wp_mono (K := fun a'' w'' => a'' = a'.put (some 36) (.agg #[.int .i64 xf, .slice y.2.1.1 xn y.2.1.2]) ∧ w'' = x) ?_ ?_⟩
        · rintro _ _ ⟨rfl, rfl⟩
          exact ⟨_, y, rfl, ⟨trivial, fun _ => rfl, fun _ => rfl⟩, hI, fun u hu => hu (fun h => by cases h)⟩
        · unfold Oper.wp
          simp [go_sem, q4]
      · cases ho
        have e4 : a'.tmps.getD 31 undef = .tuple #[.agg #[.int .i64 xf, .slice y.2.1.1 xn y.2.1.2], .bool t0'] := hp 4 (of_decide_eq_true (by kernel_rfl)) (.inr (by decide))
        have q4 : a'.tmps[31]?.getD undef = .tuple #[.agg #[.int .i64 xf, .slice y.2.1.1 xn y.2.1.2], .bool t0'] := by simpa using e4
        refine ⟨wanted_none rfl, Oper.wp_mono (K := fun a'' w'' => a'' = a'.put (some 37) (.bool t0') ∧ w'' = x) ?_ ?_⟩
        · rintro _ _ ⟨rfl, rfl⟩
          exact ⟨_, y, rfl, ⟨trivial, fun _ => rfl, fun _ => rfl⟩, hI, fun u hu => hu (fun h => by cases h)⟩
        · unfold Oper.wp
          simp [go_sem, q4]
      · cases ho
        have nS := hre 8 (by decide +kernel)
        have bA : Below x.heap.size x (x.alloc (.cells #[.int .i64 0, .slice none 0 0] 47)) := (Below.refl _ _).alloc (Nat.le_refl _) _
        refine ⟨wanted_none rfl, op_allocZ (z := .agg #[.int .i64 0, .slice none 0 0]) rfl (by kernel_rfl) ⟨_, (y.1, y.2.1, y.2.2.1, y.2.2.2.1, x.heap.size), rfl, ⟨trivial, fun _ => rfl, fun h => absurd rfl h⟩, ⟨hb.trans (bA.mono hb.size), fun h h' => (hI.2.1 h h').below bA, fun h => ⟨⟨(hI.2.2.1 h).1.1.below bA, (hI.2.2.1 h).1.2.1, (hI.2.2.1 h).1.2.2.1, Nat.le_trans (hI.2.2.1 h).1.2.2.2 bA.size⟩, fun _ => .inr (hI.2.2.1 h).1.2.2.2⟩, fun _ => ⟨⟨hb.size, by simp⟩, (by show Boxed _ x.heap.size (if L 8 = true then _ else _) _; rw [show L 8 = false from nS]; exact Boxed.new _ _ _)⟩⟩, fun u hu => hu (fun h => by cases h)⟩⟩
      · cases ho
        have e7 : a'.tmps.getD 9 undef = .pointer (some ⟨y.2.2.2.2, 0, none⟩) := hp 7 (of_decide_eq_true (by kernel_rfl)) (.inr (by decide))
        have e5 : a'.tmps.getD 36 undef = .agg #[.int .i64 xf, .slice y.2.1.1 xn y.2.1.2] := hp 5 (of_decide_eq_true (by kernel_rfl)) (.inr (by decide))
        have hF : L 3 = true := hwt 3 (of_decide_eq_true (by kernel_rfl))
        have hA : L 7 = true := hwt 7 (of_decide_eq_true (by kernel_rfl))
        obtain ⟨⟨g1, g2⟩, g3⟩ := hI.2.2.2 hA
        rw [hLi] at g3
        obtain ⟨⟨k1, k2, k3, k4⟩, k5⟩ := hI.2.2.1 hF
        have k6 := k5 hA
        refine ⟨wanted_none rfl, wp_store_row 47 (.tmp 9) (.tmp 36) rfl y.2.2.2.2 #[.int .i64 xf, .slice y.2.1.1 xn y.2.1.2] (by simpa [Act.eval] using e7) (by simpa [Act.eval] using e5) _ _ g3 (by kernel_rfl) rfl (by simp [Value.oneCell']) ⟨undef, y, rfl, ⟨trivial, fun _ => rfl, fun _ => rfl⟩, ⟨below_setRow hb g1 _, (fun _ h => absurd (hF.symm.trans h) (by decide)), fun _ => ⟨⟨k1.keep (by rw [size_setRow]; exact Nat.le_refl _) (fun k j1 j2 => setRow_other _ _ _ _ (by omega)), k2, k3, by rw [size_setRow]; exact k4⟩, fun _ => k6⟩, fun _ => ⟨⟨g1, by rw [size_setRow]; exact g2⟩, setRow_heap _ _ _ _ _ _ g3⟩⟩, fun _ _ => trivial⟩⟩
      · cases ho
        have e6 : a'.tmps.getD 37 undef = .bool t0' := hp 6 (of_decide_eq_true (by kernel_rfl)) (.inr (by decide))
        refine ⟨wanted_none rfl, op_assignZ 37 rfl ?_⟩
        rw [e6]
        exact ⟨_, y, rfl, ⟨trivial, fun _ => rfl, fun _ => rfl⟩, hI, fun u hu => hu (fun h => by cases h)⟩
    case last =>
    intro L a' y x hall hkp hI hp
    have hA := hI.2.2.2 (hall 7 (by decide))
    have hF := hI.2.2.1 (hall 3 (by decide))
    rw [hall 8 (by decide)] at hA
    have LX := Z2A.out.below hI.1
    have e7 : a'.tmps.getD 9 undef = .pointer (some ⟨y.2.2.2.2, 0, none⟩) := hp 7 (by decide) (by decide)
    have e9 : a'.tmps.getD 10 undef = .bool t0' := hp 9 (by decide) (by decide)
    have Fin : Hid (∃ (p2 : Option Addr) (q2 b2 t2 B2 : Nat), a'.tmps.getD 9 undef = .pointer (some ⟨B2, 0, none⟩) ∧ a'.tmps.getD 10 undef = .bool t0' ∧ Lies w [Thing.box w.heap.size #[.int .i64 f, .slice a n c] 42, Thing.box (w.heap.size + 1) #[.int .i64 d0, .int .i64 d1] 30, Thing.own (fun W => WhIn b0 t0 W (.agg #[.int .i64 xf, .slice p0 xn q0]) X) b0 t0 (fun h s k => WhIn.keep h s k), Thing.box B0 #[.int .i64 xf, .slice p0 xn q0] 47, Thing.own (fun W => WhIn b1 t1 W (.agg #[.int .i64 f, .slice p1 n q1]) r) b1 t1 (fun h s k => WhIn.keep h s k), Thing.box t1 #[.int .i64 f, .slice p1 n q1] 47, Thing.own (fun W => WhIn b2 t2 W (.agg #[.int .i64 xf, .slice p2 xn q2]) X) b2 t2 (fun h s k => WhIn.keep h s k), Thing.box B2 #[.int .i64 xf, .slice p2 xn q2] 47] x ∧ ((w6.heap.size ≤ b2 ∧ b2 ≤ t2 ∧ t2 ≤ x.heap.size) ∧ (w6.heap.size ≤ B2 ∧ B2 < x.heap.size) ∧ (B2 < b2 ∨ t2 ≤ B2) ∧ w.heap.size + 2 ≤ w6.heap.size)) := ⟨y.2.1.1, y.2.1.2, y.2.2.1, y.2.2.2.1, y.2.2.2.2, e7, e9, LX.more (Below.refl _ _) ⟨⟨hF.1.1, hF.1.2.2.2⟩, hA.2, trivial⟩, ⟨hF.1.2.1, hF.1.2.2.1, hF.1.2.2.2⟩, hA.1, hF.2 (hall 7 (by decide)), (by have := Boxed.under (show Boxed _ _ _ _ from Z2A.out.1.2.1); omega)⟩
    have ha := hkp.pick [true, true, true, true, true, true, true, true, true, false, false, true, true, true, true, true, true, true, true, true, true, true, true, true, true, true, true, true, true, true, true, false, false, false, false, false, false, false, true, true, true, true, true, true, true, true, true, true, true, true, true, true, true, true, true, true, true, true, true, true, true, true, true, true, true, true, true, true, true, true, true, true, true, true, true, true, true, true, true, true, true, true, true, true, true, true, true, true, true, true, true, true, true, true, true, true, true, true, true, true, true, true, true, true] (by kernel_rfl)
    simp only [pickS] at ha
    clear hp hkp hI hall hA hF LX e7 e9
    generalize a'.tmps.getD 9 undef = y9 at ha Fin
    generalize a'.tmps.getD 10 undef = y10 at ha Fin
    generalize a'.tmps.getD 31 undef = y31 at ha
    generalize a'.tmps.getD 32 undef = y32 at ha
    generalize a'.tmps.getD 33 undef = y33 at ha
    generalize a'.tmps.getD 34 undef = y34 at ha
    generalize a'.tmps.getD 35 undef = y35 at ha
    generalize a'.tmps.getD 36 undef = y36 at ha
    generalize a'.tmps.getD 37 undef = y37 at ha
    rw [ha]
    clear ha
    go_wp2_with fail
    go_meet
    exact Fin.out
  case rest =>
  obtain ⟨p2, q2, b2, t2, B2, rfl, rfl, hZ, hO⟩ := hcut.out
  obtain ⟨w2, rfl⟩ : ∃ w, w = wc := ⟨_, rfl⟩
  have Z3 : Hid (Lies w [Thing.box w.heap.size #[.int .i64 f, .slice a n c] 42, Thing.box (w.heap.size + 1) #[.int .i64 d0, .int .i64 d1] 30, Thing.own (fun W => WhIn b0 t0 W (.agg #[.int .i64 xf, .slice p0 xn q0]) X) b0 t0 (fun h s k => WhIn.keep h s k), Thing.box B0 #[.int .i64 xf, .slice p0 xn q0] 47, Thing.own (fun W => WhIn b1 t1 W (.agg #[.int .i64 f, .slice p1 n q1]) r) b1 t1 (fun h s k => WhIn.keep h s k), Thing.box t1 #[.int .i64 f, .slice p1 n q1] 47, Thing.own (fun W => WhIn b2 t2 W (.agg #[.int .i64 xf, .slice p2 xn q2]) X) b2 t2 (fun h s k => WhIn.keep h s k), Thing.box B2 #[.int .i64 xf, .slice p2 xn q2] 47] w2) := hZ
  have O2 : Hid (((w6.heap.size ≤ b2 ∧ b2 ≤ t2 ∧ t2 ≤ w2.heap.size) ∧ (w6.heap.size ≤ B2 ∧ B2 < w2.heap.size) ∧ (B2 < b2 ∨ t2 ≤ B2) ∧ w.heap.size + 2 ≤ w6.heap.size)) := hO
  clear hcut hZ hO Z2A
  generalize w6.heap.size = sz2 at O2 O1
  have OO : Hid (_ ∧ _) := ⟨O1.out, O2.out⟩
  clear O1 O2
  have u0 : w2.cell? ⟨B2, 0, none⟩ = some (.int .i64 xf) := Boxed.cell (show Boxed _ _ _ _ from Z3.out.1.2.2.2.2.2.2.2.1) 0 rfl
  have u1 : w2.cell? ⟨B2, 1, none⟩ = some (.slice p2 xn q2) := Boxed.cell (show Boxed _ _ _ _ from Z3.out.1.2.2.2.2.2.2.2.1) 1 rfl
  have v0 : w2.cell? ⟨B0, 0, none⟩ = some (.int .i64 xf) := Boxed.cell (show Boxed _ _ _ _ from Z3.out.1.2.2.2.1) 0 rfl
  have v1 : w2.cell? ⟨B0, 1, none⟩ = some (.slice p0 xn q0) := Boxed.cell (show Boxed _ _ _ _ from Z3.out.1.2.2.2.1) 1 rfl
  go_wp2_with fail
  refine (EX'.out _ _ _ (WhIn.at (show WhIn _ _ _ _ _ from Z3.out.1.2.2.2.2.2.2.1.1)) (WhIn.at (show WhIn _ _ _ _ _ from Z3.out.1.2.2.1.1))).mono ?_
  rintro e wE3 ⟨rfl, g⟩
  have Z4 : Hid (Lies w [Thing.box w.heap.size #[.int .i64 f, .slice a n c] 42, Thing.box (w.heap.size + 1) #[.int .i64 d0, .int .i64 d1] 30, Thing.own (fun W => WhIn b0 t0 W (.agg #[.int .i64 xf, .slice p0 xn q0]) X) b0 t0 (fun h s k => WhIn.keep h s k), Thing.box B0 #[.int .i64 xf, .slice p0 xn q0] 47, Thing.own (fun W => WhIn b1 t1 W (.agg #[.int .i64 f, .slice p1 n q1]) r) b1 t1 (fun h s k => WhIn.keep h s k), Thing.box t1 #[.int .i64 f, .slice p1 n q1] 47, Thing.own (fun W => WhIn b2 t2 W (.agg #[.int .i64 xf, .slice p2 xn q2]) X) b2 t2 (fun h s k => WhIn.keep h s k), Thing.box B2 #[.int .i64 xf, .slice p2 xn q2] 47] wE3) := Z3.out.below g
  clear g Z3 u0 u1 v0 v1
  go_upto_region 10 with fail
  go_cut [51] (fun s wc => Hid (s = .bool false ∧ Lies w [Thing.box w.heap.size #[.int .i64 f, .slice a n c] 42, Thing.box (w.heap.size + 1) #[.int .i64 d0, .int .i64 d1] 30, Thing.own (fun W => WhIn b0 t0 W (.agg #[.int .i64 xf, .slice p0 xn q0]) X) b0 t0 (fun h s k => WhIn.keep h s k), Thing.box B0 #[.int .i64 xf, .slice p0 xn q0] 47, Thing.own (fun W => WhIn b1 t1 W (.agg #[.int .i64 f, .slice p1 n q1]) r) b1 t1 (fun h s k => WhIn.keep h s k), Thing.box t1 #[.int .i64 f, .slice p1 n q1] 47, Thing.own (fun W => WhIn b2 t2 W (.agg #[.int .i64 xf, .slice p2 xn q2]) X) b2 t2 (fun h s k => WhIn.keep h s k), Thing.box B2 #[.int .i64 xf, .slice p2 xn q2] 47] wc))
  case first =>
    have c0 : wE3.cell? ⟨w.heap.size, 0, none⟩ = some (.int .i64 f) := Boxed.cell (show Boxed _ _ _ _ from Z4.out.1.1) 0 rfl
    have c1 : wE3.cell? ⟨w.heap.size, 1, none⟩ = some (.slice a n c) := Boxed.cell (show Boxed _ _ _ _ from Z4.out.1.1) 1 rfl
    have dr0 : wE3.cell? ⟨t1, 0, none⟩ = some (.int .i64 f) := Boxed.cell (show Boxed _ _ _ _ from Z4.out.1.2.2.2.2.2.1) 0 rfl
    have dr1 : wE3.cell? ⟨t1, 1, none⟩ = some (.slice p1 n q1) := Boxed.cell (show Boxed _ _ _ _ from Z4.out.1.2.2.2.2.2.1) 1 rfl
    go_wp2_with fail
    go_region_law (first | (refine stepCall rfl 24 rfl #[.agg #[.int .i64 f, .slice a n c]] (by kernel_rfl) (T'.out wE3.drew (K.out _ Z4.out.2.drew)) ?_; rintro e wE ⟨⟨pE, qE, rfl, iE⟩, q⟩; have q' : Below wE3.heap.size wE3 wE := (Below.refl _ wE3).drew.trans q; have ZE : Hid (Lies w [Thing.box w.heap.size #[.int .i64 f, .slice a n c] 42, Thing.box (w.heap.size + 1) #[.int .i64 d0, .int .i64 d1] 30, Thing.own (fun W => WhIn b0 t0 W (.agg #[.int .i64 xf, .slice p0 xn q0]) X) b0 t0 (fun h s k => WhIn.keep h s k), Thing.box B0 #[.int .i64 xf, .slice p0 xn q0] 47, Thing.own (fun W => WhIn b1 t1 W (.agg #[.int .i64 f, .slice p1 n q1]) r) b1 t1 (fun h s k => WhIn.keep h s k), Thing.box t1 #[.int .i64 f, .slice p1 n q1] 47, Thing.own (fun W => WhIn b2 t2 W (.agg #[.int .i64 xf, .slice p2 xn q2]) X) b2 t2 (fun h s k => WhIn.keep h s k), Thing.box B2 #[.int .i64 xf, .slice p2 xn q2] 47] wE) := Z4.out.below q'; have AE : Hid (WhAt wE (.agg #[.int .i64 f, .slice pE n qE]) r) := iE.at; have dE0 : wE.cell? ⟨t1, 0, none⟩ = some (.int .i64 f) := Boxed.cell (show Boxed _ _ _ _ from ZE.out.1.2.2.2.2.2.1) 0 rfl; have dE1 : wE.cell? ⟨t1, 1, none⟩ = some (.slice p1 n q1) := Boxed.cell (show Boxed _ _ _ _ from ZE.out.1.2.2.2.2.2.1) 1 rfl; clear q q' iE; refine ⟨_, rfl, ?_⟩) | (refine stepCall rfl 26 rfl #[.agg #[.int .i64 f, .slice p1 n q1], .agg #[.int .i64 f, .slice pE n qE]] (by kernel_rfl) (ER'.out _ _ wE (WhIn.at (show WhIn _ _ _ _ _ from ZE.out.1.2.2.2.2.1.1)) AE.out) ?_; rintro e wF ⟨rfl, q⟩; have ZF : Hid (Lies w [Thing.box w.heap.size #[.int .i64 f, .slice a n c] 42, Thing.box (w.heap.size + 1) #[.int .i64 d0, .int .i64 d1] 30, Thing.own (fun W => WhIn b0 t0 W (.agg #[.int .i64 xf, .slice p0 xn q0]) X) b0 t0 (fun h s k => WhIn.keep h s k), Thing.box B0 #[.int .i64 xf, .slice p0 xn q0] 47, Thing.own (fun W => WhIn b1 t1 W (.agg #[.int .i64 f, .slice p1 n q1]) r) b1 t1 (fun h s k => WhIn.keep h s k), Thing.box t1 #[.int .i64 f, .slice p1 n q1] 47, Thing.own (fun W => WhIn b2 t2 W (.agg #[.int .i64 xf, .slice p2 xn q2]) X) b2 t2 (fun h s k => WhIn.keep h s k), Thing.box B2 #[.int .i64 xf, .slice p2 xn q2] 47] wF) := ZE.out.below q; clear q; refine ⟨_, rfl, ?_⟩))
    all_goals (go_wp2_with fail; go_meet; exact ⟨rfl, ZF.out⟩)
  case rest =>
  obtain ⟨rfl, hP⟩ := hcut.out
  obtain ⟨wF, rfl⟩ : ∃ wF, wF = wc := ⟨_, rfl⟩
  have Z5 : Hid (Lies w [Thing.box w.heap.size #[.int .i64 f, .slice a n c] 42, Thing.box (w.heap.size + 1) #[.int .i64 d0, .int .i64 d1] 30, Thing.own (fun W => WhIn b0 t0 W (.agg #[.int .i64 xf, .slice p0 xn q0]) X) b0 t0 (fun h s k => WhIn.keep h s k), Thing.box B0 #[.int .i64 xf, .slice p0 xn q0] 47, Thing.own (fun W => WhIn b1 t1 W (.agg #[.int .i64 f, .slice p1 n q1]) r) b1 t1 (fun h s k => WhIn.keep h s k), Thing.box t1 #[.int .i64 f, .slice p1 n q1] 47, Thing.own (fun W => WhIn b2 t2 W (.agg #[.int .i64 xf, .slice p2 xn q2]) X) b2 t2 (fun h s k => WhIn.keep h s k), Thing.box B2 #[.int .i64 xf, .slice p2 xn q2] 47] wF) := hP
  clear hcut hP Z4
  go_upto_region 13 with fail
  have dr0 : wF.cell? ⟨t1, 0, none⟩ = some (.int .i64 f) := Boxed.cell (show Boxed _ _ _ _ from Z5.out.1.2.2.2.2.2.1) 0 rfl
  have dr1 : wF.cell? ⟨t1, 1, none⟩ = some (.slice p1 n q1) := Boxed.cell (show Boxed _ _ _ _ from Z5.out.1.2.2.2.2.2.1) 1 rfl
  go_wp2_with fail
  refine (MR'.out b1 t1 _ _ (show WhIn _ _ _ _ _ from Z5.out.1.2.2.2.2.1.1)).mono ?_
  rintro e wG ⟨rfl, q⟩
  have Z6 : Hid (Lies w [Thing.box w.heap.size #[.int .i64 f, .slice a n c] 42, Thing.box (w.heap.size + 1) #[.int .i64 d0, .int .i64 d1] 30, Thing.own (fun W => WhIn b0 t0 W (.agg #[.int .i64 xf, .slice p0 xn q0]) X) b0 t0 (fun h s k => WhIn.keep h s k), Thing.box B0 #[.int .i64 xf, .slice p0 xn q0] 47, Thing.own (fun W => WhIn b2 t2 W (.agg #[.int .i64 xf, .slice p2 xn q2]) X) b2 t2 (fun h s k => WhIn.keep h s k), Thing.box B2 #[.int .i64 xf, .slice p2 xn q2] 47] wG) := by
    have oo := OO.out
    have k0 : Lies w [Thing.box w.heap.size #[.int .i64 f, .slice a n c] 42, Thing.box (w.heap.size + 1) #[.int .i64 d0, .int .i64 d1] 30, Thing.own (fun W => WhIn b0 t0 W (.agg #[.int .i64 xf, .slice p0 xn q0]) X) b0 t0 (fun h s k => WhIn.keep h s k), Thing.box B0 #[.int .i64 xf, .slice p0 xn q0] 47, Thing.own (fun W => WhIn b2 t2 W (.agg #[.int .i64 xf, .slice p2 xn q2]) X) b2 t2 (fun h s k => WhIn.keep h s k), Thing.box B2 #[.int .i64 xf, .slice p2 xn q2] 47] wF := ⟨⟨Z5.out.1.1, Z5.out.1.2.1, Z5.out.1.2.2.1, Z5.out.1.2.2.2.1, Z5.out.1.2.2.2.2.2.2.1, Z5.out.1.2.2.2.2.2.2.2.1, trivial⟩, Z5.out.2⟩
    exact k0.span q ⟨(show w.heap.size + 1 ≤ b1 ∨ t1 ≤ w.heap.size by omega), (show (w.heap.size + 1) + 1 ≤ b1 ∨ t1 ≤ (w.heap.size + 1) by omega), (show t0 ≤ b1 ∨ t1 ≤ b0 by omega), (show B0 + 1 ≤ b1 ∨ t1 ≤ B0 by omega), (show t2 ≤ b1 ∨ t1 ≤ b2 by omega), (show B2 + 1 ≤ b1 ∨ t1 ≤ B2 by omega), trivial⟩ (by omega)
  clear q Z5 dr0 dr1
  go_upto_region 14 with fail
  have u0 : wG.cell? ⟨B2, 0, none⟩ = some (.int .i64 xf) := Boxed.cell (show Boxed _ _ _ _ from Z6.out.1.2.2.2.2.2.1) 0 rfl
  have u1 : wG.cell? ⟨B2, 1, none⟩ = some (.slice p2 xn q2) := Boxed.cell (show Boxed _ _ _ _ from Z6.out.1.2.2.2.2.2.1) 1 rfl
  have v0 : wG.cell? ⟨B0, 0, none⟩ = some (.int .i64 xf) := Boxed.cell (show Boxed _ _ _ _ from Z6.out.1.2.2.2.1) 0 rfl
  have v1 : wG.cell? ⟨B0, 1, none⟩ = some (.slice p0 xn q0) := Boxed.cell (show Boxed _ _ _ _ from Z6.out.1.2.2.2.1) 1 rfl
  go_wp2_with fail
  refine (EX'.out _ _ _ (WhIn.at (show WhIn _ _ _ _ _ from Z6.out.1.2.2.2.2.1.1)) (WhIn.at (show WhIn _ _ _ _ _ from Z6.out.1.2.2.1.1))).mono ?_
  rintro e wE6 ⟨rfl, g⟩
  have Z7 : Hid (Lies w [Thing.box w.heap.size #[.int .i64 f, .slice a n c] 42, Thing.box (w.heap.size + 1) #[.int .i64 d0, .int .i64 d1] 30, Thing.own (fun W => WhIn b0 t0 W (.agg #[.int .i64 xf, .slice p0 xn q0]) X) b0 t0 (fun h s k => WhIn.keep h s k), Thing.box B0 #[.int .i64 xf, .slice p0 xn q0] 47, Thing.own (fun W => WhIn b2 t2 W (.agg #[.int .i64 xf, .slice p2 xn q2]) X) b2 t2 (fun h s k => WhIn.keep h s k), Thing.box B2 #[.int .i64 xf, .slice p2 xn q2] 47] wE6) := Z6.out.below g
  clear g Z6 u0 u1 v0 v1
  go_upto_region 17 with fail
  have u0 : wE6.cell? ⟨B2, 0, none⟩ = some (.int .i64 xf) := Boxed.cell (show Boxed _ _ _ _ from Z7.out.1.2.2.2.2.2.1) 0 rfl
  have u1 : wE6.cell? ⟨B2, 1, none⟩ = some (.slice p2 xn q2) := Boxed.cell (show Boxed _ _ _ _ from Z7.out.1.2.2.2.2.2.1) 1 rfl
  go_wp2_with fail
  refine (MX'.out b2 t2 _ _ (show WhIn _ _ _ _ _ from Z7.out.1.2.2.2.2.1.1)).mono ?_
  rintro e wJ ⟨rfl, m, q⟩
  have Z8 : Hid (Lies w [Thing.box w.heap.size #[.int .i64 f, .slice a n c] 42, Thing.box (w.heap.size + 1) #[.int .i64 d0, .int .i64 d1] 30, Thing.own (fun W => WhIn b0 t0 W (.agg #[.int .i64 xf, .slice p0 xn q0]) X) b0 t0 (fun h s k => WhIn.keep h s k), Thing.box B0 #[.int .i64 xf, .slice p0 xn q0] 47, Thing.box B2 #[.int .i64 xf, .slice p2 xn q2] 47, Thing.own (fun W => WhIn b2 t2 W (.agg #[.int .i64 xf, .slice p2 xn q2]) Xm) b2 t2 (fun h s k => WhIn.keep h s k)] wJ) := by
    have oo := OO.out
    have k0 : Lies w [Thing.box w.heap.size #[.int .i64 f, .slice a n c] 42, Thing.box (w.heap.size + 1) #[.int .i64 d0, .int .i64 d1] 30, Thing.own (fun W => WhIn b0 t0 W (.agg #[.int .i64 xf, .slice p0 xn q0]) X) b0 t0 (fun h s k => WhIn.keep h s k), Thing.box B0 #[.int .i64 xf, .slice p0 xn q0] 47, Thing.box B2 #[.int .i64 xf, .slice p2 xn q2] 47] wE6 := ⟨⟨Z7.out.1.1, Z7.out.1.2.1, Z7.out.1.2.2.1, Z7.out.1.2.2.2.1, Z7.out.1.2.2.2.2.2.1, trivial⟩, Z7.out.2⟩
    have k1 := k0.span q ⟨(show w.heap.size + 1 ≤ b2 ∨ t2 ≤ w.heap.size by omega), (show (w.heap.size + 1) + 1 ≤ b2 ∨ t2 ≤ (w.heap.size + 1) by omega), (show t0 ≤ b2 ∨ t2 ≤ b0 by omega), (show B0 + 1 ≤ b2 ∨ t2 ≤ B0 by omega), (show B2 + 1 ≤ b2 ∨ t2 ≤ B2 by omega), trivial⟩ (by omega)
    exact ⟨k1.1.app (us := [Thing.own (fun W => WhIn b2 t2 W (.agg #[.int .i64 xf, .slice p2 xn q2]) Xm) b2 t2 (fun h s k => WhIn.keep h s k)]) ⟨⟨m, Nat.le_trans (show t2 ≤ wE6.heap.size from Z7.out.1.2.2.2.2.1.2) q.size⟩, trivial⟩, k1.2⟩
  clear q m Z7 u0 u1
  go_upto_region 19 with fail
  have u0 : wJ.cell? ⟨B2, 0, none⟩ = some (.int .i64 xf) := Boxed.cell (show Boxed _ _ _ _ from Z8.out.1.2.2.2.2.1) 0 rfl
  have u1 : wJ.cell? ⟨B2, 1, none⟩ = some (.slice p2 xn q2) := Boxed.cell (show Boxed _ _ _ _ from Z8.out.1.2.2.2.2.1) 1 rfl
  go_wp2_with fail
  refine (HX'.out _ _ (WhIn.at (show WhIn _ _ _ _ _ from Z8.out.1.2.2.2.2.2.1.1))).mono ?_
  rintro e wK ⟨rfl, g⟩
  have Z9 : Hid (Lies w [Thing.box w.heap.size #[.int .i64 f, .slice a n c] 42, Thing.box (w.heap.size + 1) #[.int .i64 d0, .int .i64 d1] 30, Thing.own (fun W => WhIn b0 t0 W (.agg #[.int .i64 xf, .slice p0 xn q0]) X) b0 t0 (fun h s k => WhIn.keep h s k), Thing.box B0 #[.int .i64 xf, .slice p0 xn q0] 47, Thing.box B2 #[.int .i64 xf, .slice p2 xn q2] 47, Thing.own (fun W => WhIn b2 t2 W (.agg #[.int .i64 xf, .slice p2 xn q2]) Xm) b2 t2 (fun h s k => WhIn.keep h s k)] wK) := Z8.out.below g
  clear g Z8 u0 u1
  go_upto_region 24 with fail
  go_upto_region 24 with fail
  go_cut [14, 15] (fun s14 s15 wc => Hid (∃ (p3 : Option Addr) (q3 b3 t3 B3 : Nat), s14 = .pointer (some ⟨B3, 0, none⟩) ∧ s15 = .bool t0' ∧ Lies w [Thing.box w.heap.size #[.int .i64 f, .slice a n c] 42, Thing.box (w.heap.size + 1) #[.int .i64 d0, .int .i64 d1] 30, Thing.own (fun W => WhIn b0 t0 W (.agg #[.int .i64 xf, .slice p0 xn q0]) X) b0 t0 (fun h s k => WhIn.keep h s k), Thing.box B0 #[.int .i64 xf, .slice p0 xn q0] 47, Thing.box B2 #[.int .i64 xf, .slice p2 xn q2] 47, Thing.own (fun W => WhIn b2 t2 W (.agg #[.int .i64 xf, .slice p2 xn q2]) Xm) b2 t2 (fun h s k => WhIn.keep h s k), Thing.own (fun W => WhIn b3 t3 W (.agg #[.int .i64 xf, .slice p3 xn q3]) X) b3 t3 (fun h s k => WhIn.keep h s k), Thing.box B3 #[.int .i64 xf, .slice p3 xn q3] 47] wc ∧ ((wK.heap.size ≤ b3 ∧ b3 ≤ t3 ∧ t3 ≤ wc.heap.size) ∧ (wK.heap.size ≤ B3 ∧ B3 < wc.heap.size) ∧ (B3 < b3 ∨ t3 ≤ B3) ∧ w.heap.size + 2 ≤ wK.heap.size)))
  case first =>
    go_wp2_with fail
    refine region_lists (G := ((Option Addr × Nat) × (Option Addr × Nat) × Nat × Nat × Nat)) (by kernel_rfl) (by kernel_rfl) (by kernel_rfl) (fun _ => 99) (fun (L : Nat → Bool) (y : ((Option Addr × Nat) × (Option Addr × Nat) × Nat × Nat × Nat)) (x : World) => (Below wK.heap.size wK x ∧ (L 1 = true → L 4 = false → WhAt x (.agg #[.int .i64 f, .slice y.1.1 n y.1.2]) r) ∧ (L 4 = true → (WhIn y.2.2.1 y.2.2.2.1 x (.agg #[.int .i64 xf, .slice y.2.1.1 xn y.2.1.2]) X ∧ wK.heap.size ≤ y.2.2.1 ∧ y.2.2.1 ≤ y.2.2.2.1 ∧ y.2.2.2.1 ≤ x.heap.size) ∧ (L 8 = true → y.2.2.2.2 < y.2.2.1 ∨ y.2.2.2.1 ≤ y.2.2.2.2)) ∧ (L 8 = true → (wK.heap.size ≤ y.2.2.2.2 ∧ y.2.2.2.2 < x.heap.size) ∧ Boxed x y.2.2.2.2 (if L 9 = true then #[.int .i64 xf, .slice y.2.1.1 xn y.2.1.2] else #[.int .i64 0, .slice none 0 0]) 47))) (fun i (y : ((Option Addr × Nat) × (Option Addr × Nat) × Nat × Nat × Nat)) (_ : World) (y' : ((Option Addr × Nat) × (Option Addr × Nat) × Nat × Nat × Nat)) (_ : World) => (i ≠ 1 → y'.1 = y.1) ∧ (i ≠ 4 → y'.2.1 = y.2.1) ∧ (i ≠ 8 → y'.2.2.2.2 = y.2.2.2.2)) (fun i y x u => ([fun y _ u => u = .agg #[.int .i64 f, .slice a n c], fun y _ u => u = .agg #[.int .i64 f, .slice y.1.1 n y.1.2], fun y _ u => u = .agg #[.int .i64 d0, .int .i64 d1], fun y _ u => u = .agg #[.int .i64 d0, .int .i64 d1], fun y _ u => u = .tuple #[.agg #[.int .i64 xf, .slice y.2.1.1 xn y.2.1.2], .bool t0'], fun y _ u => u = .tuple #[.agg #[.int .i64 xf, .slice y.2.1.1 xn y.2.1.2], .bool t0'], fun y _ u => u = .agg #[.int .i64 xf, .slice y.2.1.1 xn y.2.1.2], fun y _ u => u = .bool t0', fun y _ u => u = .pointer (some ⟨y.2.2.2.2, 0, none⟩), fun _ _ _ => True, fun y _ u => u = .bool t0'] : List (((Option Addr × Nat) × (Option Addr × Nat) × Nat × Nat × Nat) → World → Value → Prop)).getD i (fun _ _ _ => True) y x u) ?hR ((none, 0), (none, 0), 0, 0, 0) ?h0 ?step ?last
    case hR =>
      intro i j y y' x x' u hi hj hne hu h1 h2 hp hr
      obtain ⟨r1, r2, r3⟩ := hr
      have hj' : j < 11 := hj
      have hcases : j = 0 ∨ j = 1 ∨ j = 2 ∨ j = 3 ∨ j = 4 ∨ j = 5 ∨ j = 6 ∨ j = 7 ∨ j = 8 ∨ j = 9 ∨ j = 10 := by omega
      rcases hcases with rfl | rfl | rfl | rfl | rfl | rfl | rfl | rfl | rfl | rfl | rfl
      · exact hp
      · have e := r1 (hne)
        show u = _
        rw [e]
        exact hp
      · exact hp
      · exact hp
      · have e := r2 (hne)
        show u = _
        rw [e]
        exact hp
      · have e := r2 (by rintro rfl; exact absurd h1 (by decide +kernel))
        show u = _
        rw [e]
        exact hp
      · have e := r2 (by rintro rfl; exact absurd h1 (by decide +kernel))
        show u = _
        rw [e]
        exact hp
      · exact hp
      · have e := r3 (hne)
        show u = _
        rw [e]
        exact hp
      · exact hp
      · exact hp
    case h0 => exact ⟨(Below.refl _ _).drew, (fun h => by cases h), (fun h => by cases h), fun h => by cases h⟩
    case step =>
      intro i o hi ho L a' y x hLi hwt hre hkp hI hp
      have hb := hI.1
      have LX := Z9.out.below hb
      have s2 : a'.eval (.tmp 2) = .pointer (some ⟨w.heap.size, 0, none⟩) := by have h2 : a'.tmps.getD 2 undef = .pointer (some ⟨w.heap.size, 0, none⟩) := hkp.slot 2 (by kernel_rfl); simpa [Act.eval] using h2
      have s3 : a'.eval (.tmp 3) = .pointer (some ⟨(w.heap.size + 1), 0, none⟩) := by have h2 : a'.tmps.getD 3 undef = .pointer (some ⟨(w.heap.size + 1), 0, none⟩) := hkp.slot 3 (by kernel_rfl); simpa [Act.eval] using h2
      have hi' : i < 11 := hi
      have hcases : i = 0 ∨ i = 1 ∨ i = 2 ∨ i = 3 ∨ i = 4 ∨ i = 5 ∨ i = 6 ∨ i = 7 ∨ i = 8 ∨ i = 9 ∨ i = 10 := by omega
      rcases hcases with rfl | rfl | rfl | rfl | rfl | rfl | rfl | rfl | rfl | rfl | rfl
      · cases ho
        exact ⟨wanted_none rfl, wp_load_row 42 (.tmp 2) rfl w.heap.size s2 _ _ _ _ (show Boxed _ _ _ _ from LX.1.1) Try.underlying42 rfl (by kernel_rfl) ⟨_, y, rfl, ⟨fun _ => rfl, fun _ => rfl, fun _ => rfl⟩, hI, fun u hu => hu (fun h => by cases h)⟩⟩
      · cases ho
        have e0 : a'.tmps.getD 80 undef = .agg #[.int .i64 f, .slice a n c] := hp 0 (of_decide_eq_true (by kernel_rfl)) (.inr (by decide))
        have q0 : a'.tmps[80]?.getD undef = .agg #[.int .i64 f, .slice a n c] := by simpa using e0
        have nF := hre 4 (by decide +kernel)
        refine ⟨wanted_none rfl, op_callR (by simp [execOp, resolve, Deferred.ofValue, invoke, Act.eval, q0]) (T'.out x (K.out _ LX.2)) ?_⟩
        rintro e z ⟨⟨pA, qA, rfl, iA⟩, q⟩
        exact ⟨_, rfl, _, ((pA, qA), y.2), rfl, ⟨fun h => absurd rfl h, fun _ => rfl, fun _ => rfl⟩, ⟨hb.trans (q.mono hb.size), fun _ _ => iA.at, fun h => absurd (h.symm.trans nF) (by decide), fun h => ⟨⟨(hI.2.2.2 h).1.1, Nat.lt_of_lt_of_le (hI.2.2.2 h).1.2 q.size⟩, (hI.2.2.2 h).2.below (hI.2.2.2 h).1.2 q⟩⟩, fun u hu => hu (fun h => by cases h)⟩
      · cases ho
        exact ⟨wanted_none rfl, wp_load_row 30 (.tmp 3) rfl (w.heap.size + 1) s3 _ _ _ _ (show Boxed _ _ _ _ from LX.1.2.1) Try.underlying30 rfl (by kernel_rfl) ⟨_, y, rfl, ⟨fun _ => rfl, fun _ => rfl, fun _ => rfl⟩, hI, fun u hu => hu (fun h => by cases h)⟩⟩
      · cases ho
        have e2 : a'.tmps.getD 82 undef = .agg #[.int .i64 d0, .int .i64 d1] := hp 2 (of_decide_eq_true (by kernel_rfl)) (.inr (by decide))
        have q2 : a'.tmps[82]?.getD undef = .agg #[.int .i64 d0, .int .i64 d1] := by simpa using e2
        have nF := hre 4 (by decide +kernel)
        refine ⟨wanted_none rfl, op_callR (by simp [execOp, resolve, Deferred.ofValue, invoke, Act.eval, q2]) (TOd'.out x) ?_⟩
        rintro e z ⟨rfl, q⟩
        exact ⟨_, rfl, _, y, rfl, ⟨fun _ => rfl, fun _ => rfl, fun _ => rfl⟩, ⟨hb.trans (q.mono hb.size), fun h h' => (hI.2.1 h h').below q, fun h => absurd (h.symm.trans nF) (by decide), fun h => ⟨⟨(hI.2.2.2 h).1.1, Nat.lt_of_lt_of_le (hI.2.2.2 h).1.2 q.size⟩, (hI.2.2.2 h).2.below (hI.2.2.2 h).1.2 q⟩⟩, fun u hu => hu (fun h => by cases h)⟩
      · cases ho
        have e1 : a'.tmps.getD 81 undef = .agg #[.int .i64 f, .slice y.1.1 n y.1.2] := hp 1 (of_decide_eq_true (by kernel_rfl)) (.inr (by decide))
        have q1 : a'.tmps[81]?.getD undef = .agg #[.int .i64 f, .slice y.1.1 n y.1.2] := by simpa using e1
        have e3 : a'.tmps.getD 83 undef = .agg #[.int .i64 d0, .int .i64 d1] := hp 3 (of_decide_eq_true (by kernel_rfl)) (.inr (by decide))
        have q3 : a'.tmps[83]?.getD undef = .agg #[.int .i64 d0, .int .i64 d1] := by simpa using e3
        refine ⟨wanted_none rfl, op_callR (by simp [execOp, resolve, Deferred.ofValue, invoke, Act.eval, q1, q3]) (D'.out _ x (hI.2.1 (hwt 1 (of_decide_eq_true (by kernel_rfl))) hLi)) ?_⟩
        rintro e z ⟨⟨p2, q2, rfl, iY⟩, q⟩
        exact ⟨_, rfl, _, (y.1, (p2, q2), x.heap.size, z.heap.size, y.2.2.2.2), rfl, ⟨fun _ => rfl, fun h => absurd rfl h, fun _ => rfl⟩, ⟨hb.trans (q.mono hb.size), (fun _ h => by cases h), fun _ => ⟨⟨iY, hb.size, q.size, Nat.le_refl _⟩, fun h => .inl (hI.2.2.2 h).1.2⟩, fun h => ⟨⟨(hI.2.2.2 h).1.1, Nat.lt_of_lt_of_le (hI.2.2.2 h).1.2 q.size⟩, (by have h2 := (hI.2.2.2 h).2.below (hI.2.2.2 h).1.2 q; have hz : L 9 = false := hre 9 (by decide +kernel); rw [hz] at h2; show Boxed z y.2.2.2.2 (if L 9 = true then _ else _) _; rw [hz]; exact h2)⟩⟩, fun u hu => hu (fun h => by cases h)⟩
      · cases ho
        have e4 : a'.tmps.getD 84 undef = .tuple #[.agg #[.int .i64 xf, .slice y.2.1.1 xn y.2.1.2], .bool t0'] := hp 4 (of_decide_eq_true (by kernel_rfl)) (.inr (by decide))
        have q4 : a'.tmps[84]?.getD undef = .tuple #[.agg #[.int .i64 xf, .slice y.2.1.1 xn y.2.1.2], .bool t0'] := by simpa using e4
        refine ⟨wanted_none rfl, Oper.wp_mono (K := fun a'' w'' => a'' = a'.put (some 79) (.tuple #[.agg #[.int .i64 xf, .slice y.2.1.1 xn y.2.1.2], .bool t0']) ∧ w'' = x) ?_ ?_⟩
        · rintro _ _ ⟨rfl, rfl⟩
          exact ⟨_, y, rfl, ⟨fun _ => rfl, fun _ => rfl, fun _ => rfl⟩, hI, fun u hu => hu (fun h => by cases h)⟩
        · unfold Oper.wp
          simp [go_sem, q4]
      · cases ho
        have e5 : a'.tmps.getD 79 undef = .tuple #[.agg #[.int .i64 xf, .slice y.2.1.1 xn y.2.1.2], .bool t0'] := hp 5 (of_decide_eq_true (by kernel_rfl)) (.inr (by decide))
        have q5 : a'.tmps[79]?.getD undef = .tuple #[.agg #[.int .i64 xf, .slice y.2.1.1 xn y.2.1.2], .bool t0'] := by simpa using e5
        refine ⟨wanted_none rfl, Oper.wp_mono (K := fun a'' w'' => a'' = a'.put (some 85) (.agg #[.int .i64 xf, .slice y.2.1.1 xn y.2.1.2]) ∧ w'' = x) ?_ ?_⟩
        · rintro _ _ ⟨rfl, rfl⟩
          exact ⟨_, y, rfl, ⟨fun _ => rfl, fun _ => rfl, fun _ => rfl⟩, hI, fun u hu => hu (fun h => by cases h)⟩
        · unfold Oper.wp
          simp [go_sem, q5]
      · cases ho
        have e5 : a'.tmps.getD 79 undef = .tuple #[.agg #[.int .i64 xf, .slice y.2.1.1 xn y.2.1.2], .bool t0'] := hp 5 (of_decide_eq_true (by kernel_rfl)) (.inr (by decide))
        have q5 : a'.tmps[79]?.getD undef = .tuple #[.agg #[.int .i64 xf, .slice y.2.1.1 xn y.2.1.2], .bool t0'] := by simpa using e5
        refine ⟨wanted_none rfl, Oper.wp_mono (K := fun a'' w'' => a'' = a'.put (some 86) (.bool t0') ∧ w'' = x) ?_ ?_⟩
        · rintro _ _ ⟨rfl, rfl⟩
          exact ⟨_, y, rfl, ⟨fun _ => rfl, fun _ => rfl, fun _ => rfl⟩, hI, fun u hu => hu (fun h => by cases h)⟩
        · unfold Oper.wp
          simp [go_sem, q5]
      · cases ho
        have nS := hre 9 (by decide +kernel)
        have bA : Below x.heap.size x (x.alloc (.cells #[.int .i64 0, .slice none 0 0] 47)) := (Below.refl _ _).alloc (Nat.le_refl _) _
        refine ⟨wanted_none rfl, op_allocZ (z := .agg #[.int .i64 0, .slice none 0 0]) rfl (by kernel_rfl) ⟨_, (y.1, y.2.1, y.2.2.1, y.2.2.2.1, x.heap.size), rfl, ⟨fun _ => rfl, fun _ => rfl, fun h => absurd rfl h⟩, ⟨hb.trans (bA.mono hb.size), fun h h' => (hI.2.1 h h').below bA, fun h => ⟨⟨(hI.2.2.1 h).1.1.below bA, (hI.2.2.1 h).1.2.1, (hI.2.2.1 h).1.2.2.1, Nat.le_trans (hI.2.2.1 h).1.2.2.2 bA.size⟩, fun _ => .inr (hI.2.2.1 h).1.2.2.2⟩, fun _ => ⟨⟨hb.size, by simp⟩, (by show Boxed _ x.heap.size (if L 9 = true then _ else _) _; rw [show L 9 = false from nS]; exact Boxed.new _ _ _)⟩⟩, fun u hu => hu (fun h => by cases h)⟩⟩
      · cases ho
        have e8 : a'.tmps.getD 14 undef = .pointer (some ⟨y.2.2.2.2, 0, none⟩) := hp 8 (of_decide_eq_true (by kernel_rfl)) (.inr (by decide))
        have e6 : a'.tmps.getD 85 undef = .agg #[.int .i64 xf, .slice y.2.1.1 xn y.2.1.2] := hp 6 (of_decide_eq_true (by kernel_rfl)) (.inr (by decide))
        have hF : L 4 = true := hwt 4 (of_decide_eq_true (by kernel_rfl))
        have hA : L 8 = true := hwt 8 (of_decide_eq_true (by kernel_rfl))
        obtain ⟨⟨g1, g2⟩, g3⟩ := hI.2.2.2 hA
        rw [hLi] at g3
        obtain ⟨⟨k1, k2, k3, k4⟩, k5⟩ := hI.2.2.1 hF
        have k6 := k5 hA
        refine ⟨wanted_none rfl, wp_store_row 47 (.tmp 14) (.tmp 85) rfl y.2.2.2.2 #[.int .i64 xf, .slice y.2.1.1 xn y.2.1.2] (by simpa [Act.eval] using e8) (by simpa [Act.eval] using e6) _ _ g3 (by kernel_rfl) rfl (by simp [Value.oneCell']) ⟨undef, y, rfl, ⟨fun _ => rfl, fun _ => rfl, fun _ => rfl⟩, ⟨below_setRow hb g1 _, (fun _ h => absurd (hF.symm.trans h) (by decide)), fun _ => ⟨⟨k1.keep (by rw [size_setRow]; exact Nat.le_refl _) (fun k j1 j2 => setRow_other _ _ _ _ (by omega)), k2, k3, by rw [size_setRow]; exact k4⟩, fun _ => k6⟩, fun _ => ⟨⟨g1, by rw [size_setRow]; exact g2⟩, setRow_heap _ _ _ _ _ _ g3⟩⟩, fun _ _ => trivial⟩⟩
      · cases ho
        have e7 : a'.tmps.getD 86 undef = .bool t0' := hp 7 (of_decide_eq_true (by kernel_rfl)) (.inr (by decide))
        refine ⟨wanted_none rfl, op_assignZ 86 rfl ?_⟩
        rw [e7]
        exact ⟨_, y, rfl, ⟨fun _ => rfl, fun _ => rfl, fun _ => rfl⟩, hI, fun u hu => hu (fun h => by cases h)⟩
    case last =>
    intro L a' y x hall hkp hI hp
    have hA := hI.2.2.2 (hall 8 (by decide))
    have hF := hI.2.2.1 (hall 4 (by decide))
    rw [hall 9 (by decide)] at hA
    have LX := Z9.out.below hI.1
    have e8 : a'.tmps.getD 14 undef = .pointer (some ⟨y.2.2.2.2, 0, none⟩) := hp 8 (by decide) (by decide)
    have e10 : a'.tmps.getD 15 undef = .bool t0' := hp 10 (by decide) (by decide)
    have Fin : Hid (∃ (p3 : Option Addr) (q3 b3 t3 B3 : Nat), a'.tmps.getD 14 undef = .pointer (some ⟨B3, 0, none⟩) ∧ a'.tmps.getD 15 undef = .bool t0' ∧ Lies w [Thing.box w.heap.size #[.int .i64 f, .slice a n c] 42, Thing.box (w.heap.size + 1) #[.int .i64 d0, .int .i64 d1] 30, Thing.own (fun W => WhIn b0 t0 W (.agg #[.int .i64 xf, .slice p0 xn q0]) X) b0 t0 (fun h s k => WhIn.keep h s k), Thing.box B0 #[.int .i64 xf, .slice p0 xn q0] 47, Thing.box B2 #[.int .i64 xf, .slice p2 xn q2] 47, Thing.own (fun W => WhIn b2 t2 W (.agg #[.int .i64 xf, .slice p2 xn q2]) Xm) b2 t2 (fun h s k => WhIn.keep h s k), Thing.own (fun W => WhIn b3 t3 W (.agg #[.int .i64 xf, .slice p3 xn q3]) X) b3 t3 (fun h s k => WhIn.keep h s k), Thing.box B3 #[.int .i64 xf, .slice p3 xn q3] 47] x ∧ ((wK.heap.size ≤ b3 ∧ b3 ≤ t3 ∧ t3 ≤ x.heap.size) ∧ (wK.heap.size ≤ B3 ∧ B3 < x.heap.size) ∧ (B3 < b3 ∨ t3 ≤ B3) ∧ w.heap.size + 2 ≤ wK.heap.size)) := ⟨y.2.1.1, y.2.1.2, y.2.2.1, y.2.2.2.1, y.2.2.2.2, e8, e10, LX.more (Below.refl _ _) ⟨⟨hF.1.1, hF.1.2.2.2⟩, hA.2, trivial⟩, ⟨hF.1.2.1, hF.1.2.2.1, hF.1.2.2.2⟩, hA.1, hF.2 (hall 8 (by decide)), (by have := Boxed.under (show Boxed _ _ _ _ from Z9.out.1.2.1); omega)⟩
    have ha := hkp.pick [true, true, true, true, true, true, true, true, true, true, true, true, true, true, false, false, true, true, true, true, true, true, true, true, true, true, true, true, true, true, true, true, true, true, true, true, true, true, true, true, true, true, true, true, true, true, true, true, true, true, true, true, true, true, true, true, true, true, true, true, true, true, true, true, true, true, true, true, true, true, true, true, true, true, true, true, true, true, true, false, false, false, false, false, false, false, false, true, true, true, true, true, true, true, true, true, true, true, true, true, true, true, true, true] (by kernel_rfl)
    simp only [pickS] at ha
    clear hp hkp hI hall hA hF LX e8 e10
    generalize a'.tmps.getD 14 undef = y14 at ha Fin
    generalize a'.tmps.getD 15 undef = y15 at ha Fin
    generalize a'.tmps.getD 79 undef = y79 at ha
    generalize a'.tmps.getD 80 undef = y80 at ha
    generalize a'.tmps.getD 81 undef = y81 at ha
    generalize a'.tmps.getD 82 undef = y82 at ha
    generalize a'.tmps.getD 83 undef = y83 at ha
    generalize a'.tmps.getD 84 undef = y84 at ha
    generalize a'.tmps.getD 85 undef = y85 at ha
    generalize a'.tmps.getD 86 undef = y86 at ha
    rw [ha]
    clear ha
    go_wp2_with fail
    go_meet
    exact Fin.out
  case rest =>
  obtain ⟨p3, q3, b3, t3, B3, rfl, rfl, hZ, hO⟩ := hcut.out
  obtain ⟨w3, rfl⟩ : ∃ w, w = wc := ⟨_, rfl⟩
  have Z10 : Hid (Lies w [Thing.box w.heap.size #[.int .i64 f, .slice a n c] 42, Thing.box (w.heap.size + 1) #[.int .i64 d0, .int .i64 d1] 30, Thing.own (fun W => WhIn b0 t0 W (.agg #[.int .i64 xf, .slice p0 xn q0]) X) b0 t0 (fun h s k => WhIn.keep h s k), Thing.box B0 #[.int .i64 xf, .slice p0 xn q0] 47, Thing.box B2 #[.int .i64 xf, .slice p2 xn q2] 47, Thing.own (fun W => WhIn b2 t2 W (.agg #[.int .i64 xf, .slice p2 xn q2]) Xm) b2 t2 (fun h s k => WhIn.keep h s k), Thing.own (fun W => WhIn b3 t3 W (.agg #[.int .i64 xf, .slice p3 xn q3]) X) b3 t3 (fun h s k => WhIn.keep h s k), Thing.box B3 #[.int .i64 xf, .slice p3 xn q3] 47] w3) := hZ
  have O3 : Hid (((wK.heap.size ≤ b3 ∧ b3 ≤ t3 ∧ t3 ≤ w3.heap.size) ∧ (wK.heap.size ≤ B3 ∧ B3 < w3.heap.size) ∧ (B3 < b3 ∨ t3 ≤ B3) ∧ w.heap.size + 2 ≤ wK.heap.size)) := hO
  clear hcut hZ hO Z9
  generalize wK.heap.size = sz3 at O3
  clear O3
  have u0 : w3.cell? ⟨B3, 0, none⟩ = some (.int .i64 xf) := Boxed.cell (show Boxed _ _ _ _ from Z10.out.1.2.2.2.2.2.2.2.1) 0 rfl
  have u1 : w3.cell? ⟨B3, 1, none⟩ = some (.slice p3 xn q3) := Boxed.cell (show Boxed _ _ _ _ from Z10.out.1.2.2.2.2.2.2.2.1) 1 rfl
  have v0 : w3.cell? ⟨B0, 0, none⟩ = some (.int .i64 xf) := Boxed.cell (show Boxed _ _ _ _ from Z10.out.1.2.2.2.1) 0 rfl
  have v1 : w3.cell? ⟨B0, 1, none⟩ = some (.slice p0 xn q0) := Boxed.cell (show Boxed _ _ _ _ from Z10.out.1.2.2.2.1) 1 rfl
  go_wp2_with fail
  refine (EX'.out _ _ _ (WhIn.at (show WhIn _ _ _ _ _ from Z10.out.1.2.2.2.2.2.2.1.1)) (WhIn.at (show WhIn _ _ _ _ _ from Z10.out.1.2.2.1.1))).mono ?_
  rintro e wE10 ⟨rfl, g⟩
  have Z11 : Hid (Lies w [Thing.box w.heap.size #[.int .i64 f, .slice a n c] 42, Thing.box (w.heap.size + 1) #[.int .i64 d0, .int .i64 d1] 30, Thing.own (fun W => WhIn b0 t0 W (.agg #[.int .i64 xf, .slice p0 xn q0]) X) b0 t0 (fun h s k => WhIn.keep h s k), Thing.box B0 #[.int .i64 xf, .slice p0 xn q0] 47, Thing.box B2 #[.int .i64 xf, .slice p2 xn q2] 47, Thing.own (fun W => WhIn b2 t2 W (.agg #[.int .i64 xf, .slice p2 xn q2]) Xm) b2 t2 (fun h s k => WhIn.keep h s k), Thing.own (fun W => WhIn b3 t3 W (.agg #[.int .i64 xf, .slice p3 xn q3]) X) b3 t3 (fun h s k => WhIn.keep h s k), Thing.box B3 #[.int .i64 xf, .slice p3 xn q3] 47] wE10) := Z10.out.below g
  clear g Z10 u0 u1 v0 v1
  go_upto_region 28 with fail
  have u0 : wE10.cell? ⟨B2, 0, none⟩ = some (.int .i64 xf) := Boxed.cell (show Boxed _ _ _ _ from Z11.out.1.2.2.2.2.1) 0 rfl
  have u1 : wE10.cell? ⟨B2, 1, none⟩ = some (.slice p2 xn q2) := Boxed.cell (show Boxed _ _ _ _ from Z11.out.1.2.2.2.2.1) 1 rfl
  go_wp2_with fail
  refine (HX'.out _ _ (WhIn.at (show WhIn _ _ _ _ _ from Z11.out.1.2.2.2.2.2.1.1))).mono ?_
  rintro e wQ ⟨rfl, g⟩
  have Z12 : Hid (Lies w [Thing.box w.heap.size #[.int .i64 f, .slice a n c] 42, Thing.box (w.heap.size + 1) #[.int .i64 d0, .int .i64 d1] 30, Thing.own (fun W => WhIn b0 t0 W (.agg #[.int .i64 xf, .slice p0 xn q0]) X) b0 t0 (fun h s k => WhIn.keep h s k), Thing.box B0 #[.int .i64 xf, .slice p0 xn q0] 47, Thing.box B2 #[.int .i64 xf, .slice p2 xn q2] 47, Thing.own (fun W => WhIn b2 t2 W (.agg #[.int .i64 xf, .slice p2 xn q2]) Xm) b2 t2 (fun h s k => WhIn.keep h s k), Thing.own (fun W => WhIn b3 t3 W (.agg #[.int .i64 xf, .slice p3 xn q3]) X) b3 t3 (fun h s k => WhIn.keep h s k), Thing.box B3 #[.int .i64 xf, .slice p3 xn q3] 47] wQ) := Z11.out.below g
  clear g Z11 u0 u1
  go_wp2
  go_ret
  exact ⟨rfl, Z12.out.2⟩
end Go.Proofs.Ytgimalimfmoilaa
