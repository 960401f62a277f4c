import Derived.Test.YtaojbmhodpffiaaGreatQ23GtOkS
import Derived.Test.YtaojbmhodpffiaaGreatQ34GtTo
import Derived.Test.YtaojbmhodpffiaaGreatQ35GtEq
import Derived.Test.YtaojbmhodpffiaaGreatQ33GtSz
import Derived.Test.YtaojbmhodpffiaaGreatQ27GtOwn
import Derived.Test.YtaojbmhodpffiaaGreatQ28GtZero
import Derived.Test.YtaojbmhodpffiaaGreatQ36LoadG
import Derived.Test.YtaojbmhodpffiaaGreatQ8GtPlain
import Derived.Test.YtaojbmhodpffiaaGreatQ15StepRow
import Derived.Test.YtaojbmhodpffiaaGreatQ37RegList
import Derived.Deep.RegionLaw
import Derived.Deep.DeepCutAuto
/-
  The model's GateOk, of any value that holds a gate. By the verifier.
-/
namespace Go.Proofs.YtaojbmhodpffiaaGreat
open Go.RowKit

theorem specGateOkV (g : Gt) (v : Value) (w : World) (hB : g.big ≤ 1048576) (h : Hid (GtAt w v g)) :
    Calls Tryz.prog 7 #[v] w fun e w' => e = .returned (.bool g.ok) ∧ Below w.heap.size w w' := by
  obtain ⟨x, rfl, hG⟩ := h.out
  exact specGateOk g x w hB hG
end Go.Proofs.YtaojbmhodpffiaaGreat

/-
  The walk of the exact law of GateOk, given what the program's GateOk answers. By the verifier, by program.
-/
namespace Go.Proofs.YtaojbmhodpffiaaGreat
open Go.RowKit

set_option maxHeartbeats 12800000 in
set_option maxRecDepth 100000 in
theorem fnExactGateOk_of (impl' : ∀ (g : Gt) (v : Value) (w : World), g.big ≤ 1048576 → Hid (GtAt w v g) → Calls Tryz.prog 9 #[v] w fun e w' => e = .returned (.bool (g.ok)) ∧ Below w.heap.size w w')
    (g : Gt) (x : Ga) (w : World) (hl : GtLen g) (h : Hid (GtV w x g)) :
    Calls Tryz.prog 3 #[g.val x] w fun e w' => e = .returned (.bool true) ∧ Below w.heap.size w w' := by
  have S := fun (w : World) (h : Hid (GtV w x g)) => szGts 1048576 (by omega) (by omega) g x w hl h
  have hcs : (g.cells x).size = 14 ∧ (g.cells x).all (·.oneCell') = true := ⟨Gt.cells_size g x, Gt.cells_one g x⟩
  by_cases hbig : (1048576 : Int) - (g.big : Nat) < 0
  · rw [if_pos hbig] at S
    unfold Gt.val at S ⊢
    have K : Hid (∀ w', Below w.heap.size w w' → GtV w' x g) := fun w' q => h.out.below q
    generalize g.cells x = cs at S hcs ⊢
    have S' : Hid _ := S
    obtain ⟨W, hW⟩ : ∃ W, W = w.alloc (.cells cs 36) := ⟨_, rfl⟩
    have X0 : Hid (Lies w [Thing.box w.heap.size cs 36] W) := by
      rw [hW]
      exact ⟨⟨Boxed.new _ _ _, trivial⟩, (Below.refl _ _).alloc (Nat.le_refl _) _⟩
    have HW : Hid (W = _) := hW
    have Hcs : Hid _ := hcs
    clear S hW hcs h hbig
    go_enter Tryz.func3, Tryz.ntmps3
    go_upto_region 2 with fail
    rw [← HW.out]
    clear HW
    go_wp2_with (refine wpList_load_row rfl 36 (.tmp 1) rfl w.heap.size rfl _ _ _ _ (show Boxed _ _ _ _ from X0.out.1.1) Tryz.underlying36 rfl (by rw [Hcs.out.1]; kernel_rfl) ?_)
    refine (S'.out _ (K.out _ X0.out.2)).mono ?_
    rintro e w1 ⟨rfl, q⟩
    have X1 : Hid (Below w.heap.size w w1) := X0.out.2.trans (q.mono X0.out.2.size)
    clear q
    go_wp2
    go_ret
    exact ⟨rfl, X1.out⟩
  rw [if_neg hbig] at S
  have hB : g.big ≤ 1048576 := by omega
  have TT : ∀ w, Hid (GtV w x g) → Calls Tryz.prog 8 #[g.val x] w fun e w' => (∃ c : Array Value, e = .returned (.agg c) ∧ (c.size = 14 ∧ c.all (·.oneCell') = true) ∧ GtIn w.heap.size w'.heap.size w' (.agg c) g) ∧ Below w.heap.size w w' := fun w h => (toGts g x w hB h).mono fun e w' hh => by
    obtain ⟨⟨v, rfl, hi⟩, hb⟩ := hh
    obtain ⟨x', rfl⟩ := hi.cells
    exact ⟨⟨_, rfl, ⟨Gt.cells_size g x', Gt.cells_one g x'⟩, hi⟩, hb⟩
  obtain ⟨u0, hu0⟩ : ∃ u, g.ok = u := ⟨_, rfl⟩
  have C : ∀ v w, Hid (GtAt w v g) → Calls Tryz.prog 7 #[v] w fun e w' => e = .returned (.bool (u0)) ∧ Below w.heap.size w w' := fun v w h => by
    rw [← hu0]
    exact specGateOkV g v w hB h
  have D : ∀ v w, Hid (GtAt w v g) → Calls Tryz.prog 9 #[v] w fun e w' => e = .returned (.bool (u0)) ∧ Below w.heap.size w w' := fun v w h => by
    rw [← hu0]
    exact impl' g v w hB h
  have ER := fun v1 v2 w h1 h2 => eqGts v1 v2 g w hB h1 h2
  have hb0 : ¬ (1048576 : Int) - (g.big : Nat) < 0 := hbig
  generalize (1048576 : Int) - (g.big : Nat) = left at S hb0
  have K : Hid (∀ w', Below w.heap.size w w' → GtV w' x g) := fun w' q => h.out.below q
  unfold Gt.val at S TT ⊢
  generalize g.cells x = cs at S TT hcs ⊢
  have S' : Hid _ := S
  have TT' : Hid _ := TT
  have C' : Hid _ := C
  have D' : Hid _ := D
  have ER' : Hid _ := ER
  obtain ⟨W, hW⟩ : ∃ W, W = w.alloc (.cells cs 36) := ⟨_, rfl⟩
  have X0 : Hid (Lies w [Thing.box w.heap.size cs 36] W) := by
    rw [hW]
    exact ⟨⟨Boxed.new _ _ _, trivial⟩, (Below.refl _ _).alloc (Nat.le_refl _) _⟩
  have HW : Hid (W = _) := hW
  have Hcs : Hid _ := hcs
  clear S TT C D ER hbig hB hu0 hl h hcs hW
  go_enter Tryz.func3, Tryz.ntmps3
  go_upto_region 2 with fail
  rw [← HW.out]
  clear HW
  go_wp2_with (refine wpList_load_row rfl 36 (.tmp 1) rfl w.heap.size rfl _ _ _ _ (show Boxed _ _ _ _ from X0.out.1.1) Tryz.underlying36 rfl (by rw [Hcs.out.1]; kernel_rfl) ?_)
  refine (S'.out _ (K.out _ X0.out.2)).mono ?_
  rintro e w1 ⟨rfl, q⟩
  have Z1 : Hid (Lies w [Thing.box w.heap.size cs 36] w1) := X0.out.below q
  clear q X0 S'
  go_upto_region 5 with fail
  go_wp2_with (refine wpList_load_row rfl 36 (.tmp 1) rfl w.heap.size rfl _ _ _ _ (show Boxed _ _ _ _ from Z1.out.1.1) Tryz.underlying36 rfl (by rw [Hcs.out.1]; kernel_rfl) ?_)
  refine (TT'.out _ (K.out _ Z1.out.2)).mono ?_
  rintro e wAZ2 ⟨⟨cA, rfl, -, iA⟩, q⟩
  have Z2 : Hid (Lies w [Thing.box w.heap.size cs 36] wAZ2) := Z1.out.below q
  have AT : Hid (GtAt wAZ2 (.agg cA) g) := iA.at
  clear q iA Z1
  go_wp2_with fail
  refine (C'.out _ _ AT).mono ?_
  rintro e wS ⟨rfl, q⟩
  have Z3 : Hid (Lies w [Thing.box w.heap.size cs 36] wS) := Z2.out.below q
  clear q Z2 AT C'
  go_upto_region 6 with fail
  go_wp2_with (refine wpList_load_row rfl 36 (.tmp 1) rfl w.heap.size rfl _ _ _ _ (show Boxed _ _ _ _ from Z3.out.1.1) Tryz.underlying36 rfl (by rw [Hcs.out.1]; kernel_rfl) ?_)
  refine (TT'.out _ (K.out _ Z3.out.2)).mono ?_
  rintro e wY ⟨⟨cx, rfl, hc, iY⟩, q⟩
  have Hcx : Hid (cx.size = 14 ∧ cx.all (·.oneCell') = true) := hc
  clear hc
  have N : Hid (Boxed (wY.alloc (.cells #[.int .i64 0, .int .i64 0, .int .i64 0, .slice none 0 0, .slice none 0 0, .slice none 0 0, .slice none 0 0, .int .i64 0, .slice none 0 0, .slice none 0 0, .int .i64 0, .slice none 0 0, .int .i64 0, .int .i64 0] 51)) wY.heap.size #[.int .i64 0, .int .i64 0, .int .i64 0, .slice none 0 0, .slice none 0 0, .slice none 0 0, .slice none 0 0, .int .i64 0, .slice none 0 0, .slice none 0 0, .int .i64 0, .slice none 0 0, .int .i64 0, .int .i64 0] 51) := Boxed.new _ _ _
  go_upto_region 7 with (refine wpList_store_row rfl 51 (.tmp 5) (.tmp 16) rfl wY.heap.size cx rfl rfl _ _ N.out (by rw [Hcx.out.1]; kernel_rfl) (by rw [Hcx.out.1]; rfl) Hcx.out.2 ?_)
  try simp only [Act.put]
  have bN : Below wY.heap.size wY ((wY.alloc (.cells #[.int .i64 0, .int .i64 0, .int .i64 0, .slice none 0 0, .slice none 0 0, .slice none 0 0, .slice none 0 0, .int .i64 0, .slice none 0 0, .slice none 0 0, .int .i64 0, .slice none 0 0, .int .i64 0, .int .i64 0] 51)).setRow wY.heap.size cx) := below_setRow ((Below.refl _ _).alloc (Nat.le_refl _) _) (Nat.le_refl _) _
  have Z4 : Hid (Lies w [Thing.box w.heap.size cs 36, Thing.own (fun W => GtIn wS.heap.size wY.heap.size W (.agg cx) g) wS.heap.size wY.heap.size (fun h s k => GtIn.keep h s k), Thing.box wY.heap.size cx 51] ((wY.alloc (.cells #[.int .i64 0, .int .i64 0, .int .i64 0, .slice none 0 0, .slice none 0 0, .slice none 0 0, .slice none 0 0, .int .i64 0, .slice none 0 0, .slice none 0 0, .int .i64 0, .slice none 0 0, .int .i64 0, .int .i64 0] 51)).setRow wY.heap.size cx) ∧ wS.heap.size ≤ wY.heap.size ∧ wY.heap.size + 1 ≤ ((wY.alloc (.cells #[.int .i64 0, .int .i64 0, .int .i64 0, .slice none 0 0, .slice none 0 0, .slice none 0 0, .slice none 0 0, .int .i64 0, .slice none 0 0, .slice none 0 0, .int .i64 0, .slice none 0 0, .int .i64 0, .int .i64 0] 51)).setRow wY.heap.size cx).heap.size ∧ w.heap.size + 1 ≤ wS.heap.size) := ⟨(Z3.out.below q).more bN ⟨⟨GtIn.below iY bN, bN.size⟩, setRow_heap _ _ _ _ _ _ N.out, trivial⟩, q.size, by rw [size_setRow]; simp, Boxed.under (show Boxed _ w.heap.size _ _ from Z3.out.1.1)⟩
  clear bN q iY N Z3
  generalize ((wY.alloc (.cells #[.int .i64 0, .int .i64 0, .int .i64 0, .slice none 0 0, .slice none 0 0, .slice none 0 0, .slice none 0 0, .int .i64 0, .slice none 0 0, .slice none 0 0, .int .i64 0, .slice none 0 0, .int .i64 0, .int .i64 0] 51)).setRow wY.heap.size cx) = wx at Z4 ⊢
  generalize wY.heap.size = tx at Z4 ⊢
  generalize wS.heap.size = bx at Z4
  have Z4A : Hid (Lies w [Thing.box w.heap.size cs 36, Thing.own (fun W => GtIn bx tx W (.agg cx) g) bx tx (fun h s k => GtIn.keep h s k), Thing.box tx cx 51] wx) := Z4.out.1
  have Ox : Hid (bx ≤ tx ∧ tx + 1 ≤ wx.heap.size ∧ w.heap.size + 1 ≤ bx) := Z4.out.2
  clear Z4
  go_wp2_with (refine wpList_load_row rfl 51 (.tmp 5) rfl tx rfl _ _ _ _ (show Boxed _ _ _ _ from Z4A.out.1.2.2.1) Tryz.underlying51 rfl (by rw [Hcx.out.1]; kernel_rfl) ?_)
  refine (D'.out _ _ (GtIn.at (show GtIn _ _ _ _ _ from Z4A.out.1.2.1.1))).mono ?_
  rintro e wI ⟨rfl, q⟩
  have Z5 : Hid (Lies w [Thing.box w.heap.size cs 36, Thing.own (fun W => GtIn bx tx W (.agg cx) g) bx tx (fun h s k => GtIn.keep h s k), Thing.box tx cx 51] wI) := Z4A.out.below q
  clear q Z4A D'
  go_upto_region 10 with fail
  go_cut [26] (fun s wc => Hid (s = .bool false ∧ Lies w [Thing.box w.heap.size cs 36, Thing.own (fun W => GtIn bx tx W (.agg cx) g) bx tx (fun h s k => GtIn.keep h s k), Thing.box tx cx 51] wc))
  case first =>
    go_wp2_with fail
    refine region_lists (G := Array Value) (by kernel_rfl) (by kernel_rfl) (by kernel_rfl) (fun _ => 99) (fun (_ : Nat → Bool) (_ : Array Value) (x : World) => Below wI.heap.size wI x) (fun i (y : Array Value) x y' x' => (i ≠ 2 → y' = y) ∧ Below x.heap.size x x') (fun kk y x u => ([fun _ _ u => u = .agg cx, fun _ _ u => u = .agg cs, fun (y : Array Value) x u => u = .agg y ∧ GtAt x (.agg y) g, fun _ _ u => u = .bool true, fun _ _ u => u = .bool false] : List (Array Value → World → Value → Prop)).getD kk (fun _ _ _ => True) y x u) ?hR #[] ?h0 ?step ?last
    case hR =>
      intro i' j' y y' x x' u hi1 hj1 hne hu h1 h2 hp hr
      have hj' : j' < 5 := hj1
      have hcases : j' = 0 ∨ j' = 1 ∨ j' = 2 ∨ j' = 3 ∨ j' = 4 := by omega
      rcases hcases with rfl | rfl | rfl | rfl | rfl
      · exact hp
      · exact hp
      · obtain ⟨e, r⟩ := hp
        have ey := hr.1 hne
        subst ey
        exact ⟨e, r.below hr.2⟩
      · exact hp
      · exact hp
    case h0 => exact (Below.refl _ _).drew
    case step =>
      intro q o hq ho L a y x hLi hwt hre hkp hI hp
      have LX := Z5.out.below hI
      have sx : a.eval (.tmp 5) = .pointer (some ⟨tx, 0, none⟩) := by have h2 : a.tmps.getD 5 undef = .pointer (some ⟨tx, 0, none⟩) := hkp.slot 5 (by kernel_rfl); simpa [Act.eval] using h2
      have sp : a.eval (.tmp 1) = .pointer (some ⟨w.heap.size, 0, none⟩) := by have h2 : a.tmps.getD 1 undef = .pointer (some ⟨w.heap.size, 0, none⟩) := hkp.slot 1 (by kernel_rfl); simpa [Act.eval] using h2
      have hq' : q < 5 := hq
      have hcases : q = 0 ∨ q = 1 ∨ q = 2 ∨ q = 3 ∨ q = 4 := by omega
      rcases hcases with rfl | rfl | rfl | rfl | rfl
      · cases ho
        exact ⟨wanted_none rfl, wp_load_row 51 (.tmp 5) rfl tx sx _ _ _ _ (show Boxed _ _ _ _ from LX.1.2.2.1) Tryz.underlying51 rfl (by rw [Hcx.out.1]; kernel_rfl) ⟨_, y, rfl, ⟨fun _ => rfl, Below.refl _ _⟩, hI, fun u hu => hu (fun h => by cases h)⟩⟩
      · cases ho
        exact ⟨wanted_none rfl, wp_load_row 36 (.tmp 1) rfl w.heap.size sp _ _ _ _ (show Boxed _ _ _ _ from LX.1.1) Tryz.underlying36 rfl (by rw [Hcs.out.1]; kernel_rfl) ⟨_, y, rfl, ⟨fun _ => rfl, Below.refl _ _⟩, hI, fun u hu => hu (fun h => by cases h)⟩⟩
      · cases ho
        have e1 : a.tmps.getD 23 undef = .agg cs := hp 1 (of_decide_eq_true (by kernel_rfl)) (.inr (by decide))
        have q1 : a.tmps[23]?.getD undef = .agg cs := by simpa using e1
        refine ⟨wanted_none rfl, op_callR (by simp [execOp, resolve, Deferred.ofValue, invoke, Act.eval, q1]) (TT'.out x (K.out _ LX.2)) ?_⟩
        rintro e z ⟨⟨cA, rfl, -, iA⟩, qb⟩
        exact ⟨_, rfl, _, cA, rfl, ⟨fun h => absurd rfl h, qb⟩, hI.trans (qb.mono hI.size), fun u hu => ⟨hu (fun h => by cases h), iA.at⟩⟩
      · cases ho
        have e0 : a.tmps.getD 22 undef = .agg cx := hp 0 (of_decide_eq_true (by kernel_rfl)) (.inr (by decide))
        have q0 : a.tmps[22]?.getD undef = .agg cx := by simpa using e0
        have e2 : a.tmps.getD 24 undef = .agg y := (hp 2 (of_decide_eq_true (by kernel_rfl)) (.inr (by decide))).1
        have q2 : a.tmps[24]?.getD undef = .agg y := by simpa using e2
        have at2 : GtAt x (.agg y) g := (hp 2 (of_decide_eq_true (by kernel_rfl)) (.inr (by decide))).2
        refine ⟨wanted_none rfl, op_callR (by simp [execOp, resolve, Deferred.ofValue, invoke, Act.eval, q0, q2]) (ER'.out _ _ x (GtIn.at (show GtIn _ _ _ _ _ from LX.1.2.1.1)) at2) ?_⟩
        rintro e z ⟨rfl, qb⟩
        exact ⟨_, rfl, _, y, rfl, ⟨fun _ => rfl, qb⟩, hI.trans (qb.mono hI.size), fun u hu => hu (fun h => by cases h)⟩
      · cases ho
        have e3 : a.tmps.getD 25 undef = .bool true := hp 3 (of_decide_eq_true (by kernel_rfl)) (.inr (by decide))
        have q3 : a.tmps[25]?.getD undef = .bool true := by simpa using e3
        refine ⟨wanted_none rfl, Oper.wp_mono (K := fun a'' w'' => a'' = a.put (some 26) (.bool false) ∧ w'' = x) ?_ ?_⟩
        · rintro _ _ ⟨rfl, rfl⟩
          exact ⟨_, y, rfl, ⟨fun _ => rfl, Below.refl _ _⟩, hI, fun u hu => hu (fun h => by cases h)⟩
        · unfold Oper.wp
          simp [go_sem, q3]
    case last =>
    intro L a y x hall hkp hI hp
    have e4 : a.tmps.getD 26 undef = .bool false := hp 4 (by decide) (by decide)
    have Fin : Hid (a.tmps.getD 26 undef = .bool false ∧ Lies w [Thing.box w.heap.size cs 36, Thing.own (fun W => GtIn bx tx W (.agg cx) g) bx tx (fun h s k => GtIn.keep h s k), Thing.box tx cx 51] x) := ⟨e4, Z5.out.below hI⟩
    have ha := hkp.pick [true, true, true, true, true, true, true, true, true, true, true, true, true, true, true, true, true, true, true, true, true, true, false, false, false, false, false] (by kernel_rfl)
    simp only [pickS] at ha
    clear hp hkp hI hall e4
    generalize a.tmps.getD 22 undef = y22 at ha
    generalize a.tmps.getD 23 undef = y23 at ha
    generalize a.tmps.getD 24 undef = y24 at ha
    generalize a.tmps.getD 25 undef = y25 at ha
    generalize a.tmps.getD 26 undef = y26 at ha Fin
    rw [ha]
    clear ha
    go_wp2_with fail
    go_meet
    exact Fin.out
  case rest =>
  obtain ⟨rfl, hP⟩ := hcut.out
  obtain ⟨wF, rfl⟩ : ∃ wF, wF = wc := ⟨_, rfl⟩
  have Z6 : Hid (Lies w [Thing.box w.heap.size cs 36, Thing.own (fun W => GtIn bx tx W (.agg cx) g) bx tx (fun h s k => GtIn.keep h s k), Thing.box tx cx 51] wF) := hP
  clear hcut hP Z5
  go_wp2
  go_ret
  exact ⟨rfl, Z6.out.2⟩
end Go.Proofs.YtaojbmhodpffiaaGreat
