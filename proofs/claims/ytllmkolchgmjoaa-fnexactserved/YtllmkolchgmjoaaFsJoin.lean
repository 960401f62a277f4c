/-
  The walks of the program's rows and payers that make new lists: with, rest, first, full, price, joined. By the verifier.
-/
import Derived.Test.YtllmkolchgmjoaaIntWith
import Derived.Test.YtllmkolchgmjoaaFsBegI
import Derived.Test.YtllmkolchgmjoaaM6IntOwn
import Derived.Test.YtllmkolchgmjoaaFwFlow
import Derived.Deep.RegionWith
import Derived.BigQuiet
namespace Go.Proofs.Ytllmkolchgmjoaa
open Go.RowKit

/-- Three cells of a block put. -/
theorem Boxed.put3 {w : World} {B : Nat} {x y z : Value} {t : TypeId} (h : Boxed w B #[x, y, z] t) (a b c : Value) : Boxed (((w.setCell ⟨B, 0, none⟩ a).setCell ⟨B, 1, none⟩ b).setCell ⟨B, 2, none⟩ c) B #[a, b, c] t := by
  have := ((h.put 0 a).put 1 b).put 2 c
  simpa using this
theorem set3_other (w : World) (B y : Nat) (i j k : Nat) (a b c : Value) (h : y ≠ B) : (((w.setCell ⟨B, i, none⟩ a).setCell ⟨B, j, none⟩ b).setCell ⟨B, k, none⟩ c).heap[y]? = w.heap[y]? := by
  rw [Below.heap_setCell _ _ _ _ (by exact h), Below.heap_setCell _ _ _ _ (by exact h), Below.heap_setCell _ _ _ _ (by exact h)]

theorem implFull (a : Option Addr) (n cap : Nat) (w : World) :
    Calls Try.prog 51 #[.slice a n cap] w fun e w' => e = .returned (.bool (decide ((n : Int) = 40))) ∧ w' = w := by
  by_cases hn : (n : Int) = 40
  · rw [decide_eq_true hn]
    go_enter Try.func51, Try.ntmps51
    go_wp2
    go_ret
    exact ⟨by first | rfl | (simp; omega), rfl⟩
  · rw [decide_eq_false hn]
    go_enter Try.func51, Try.ntmps51
    go_wp2
    go_ret
    exact ⟨by first | rfl | (simp; omega), rfl⟩
theorem implWith (a : Option Addr) (c : Nat) (L : List Int) (y : Int) (w : World) (hT : L.length ≤ 1048576) (hc : L.length ≤ c) (hn : a = none → c = 0) (h : Hid (IntsAt w a L)) :
    Calls Try.prog 69 #[.slice a L.length c, .int .i64 y] w fun e w' => (∃ v, e = .returned v ∧ IRow w.heap.size w' v (L ++ [y])) ∧ Below w.heap.size w w' := by
  have C := fun (_ : Nat) => implLastN a c L y w hT hc hn h
  generalize L.length = n at C ⊢
  have C' : Hid _ := C
  clear C h hT hc hn
  go_enter Try.func69, Try.ntmps69
  go_wp2_with fail
  refine (C'.out 0).mono ?_
  rintro e w' ⟨⟨v, rfl, q1⟩, q2⟩
  have R : Hid (IRow w.heap.size w' v (L ++ [y]) ∧ Below w.heap.size w w') := ⟨q1, q2⟩
  clear q1 q2
  go_wp2
  go_ret
  exact ⟨⟨_, rfl, R.out.1⟩, R.out.2⟩

set_option maxHeartbeats 3200000 in
set_option maxRecDepth 100000 in
theorem implJoined (x : Fw) (a : Option Addr) (c : Nat) (size now : Int) (w : World) (hT : x.sizes.length ≤ 1048576) (hc : x.sizes.length ≤ c) (hn : a = none → c = 0) (h : IntsAt w a x.sizes) :
    Calls Try.prog 52 #[x.pay a c, .int .i64 size, .int .i64 now] w fun e w' => (∃ v, e = .returned (.agg #[.int .i64 x.weight, .int .i64 (x.more now size).finish, v]) ∧ IRow w.heap.size w' v (x.sizes ++ [size])) ∧ Below w.heap.size w w' := by
  have C := fun w h => implWith a c x.sizes size w hT hc hn h
  have D := fun w => implEmpty a x.sizes.length c w
  have E := fun w => implBeg x a c now w
  have Hm : Hid ((x.more now size).finish = if x.sizes.length = 0 then max x.finish now else x.finish) := rfl
  have Hx : Hid (max now x.finish = max x.finish now) := by show max now x.finish = max x.finish now; omega
  have HI : Hid (∀ w', Below w.heap.size w w' → IntsAt w' a x.sizes) := fun w' g => h.below g
  have Sh : Hid (∀ {b : Nat} {w : World} {v : Value}, IRow b w v (x.sizes ++ [size]) → ∃ p q, v = .slice p (x.sizes.length + 1) q) := fun h => by
    obtain ⟨p, q, e⟩ := IRow.shape h
    exact ⟨p, q, by rw [e]; simp⟩
  generalize (x.more now size).finish = m at Hm ⊢
  generalize max now x.finish = mx at E Hx
  obtain ⟨t, u, fl⟩ := x
  simp only [Fw.pay] at C D E Hm Hx HI Sh ⊢
  generalize fl.length = n at C D E Hm Sh ⊢
  have C' : Hid _ := C
  have D' : Hid _ := D
  have E' : Hid _ := E
  clear C D E h hT hc hn
  obtain ⟨W0, hW0⟩ : ∃ W0, W0 = (w.alloc (.cells #[.slice a n c, .int .i64 t, .int .i64 u] 55)).alloc (.cells #[.int .i64 0, .int .i64 0, .slice none 0 0] 36) := ⟨_, rfl⟩
  have X : Hid (Boxed W0 w.heap.size #[.slice a n c, .int .i64 t, .int .i64 u] 55 ∧ Boxed W0 (w.heap.size + 1) #[.int .i64 0, .int .i64 0, .slice none 0 0] 36 ∧ Below w.heap.size w W0) := by
    rw [hW0]
    refine ⟨(Boxed.new w _ _).more _, ?_, ((Below.refl _ _).alloc (Nat.le_refl _) _).alloc (by simp) _⟩
    have := Boxed.new (w.alloc (.cells #[.slice a n c, .int .i64 t, .int .i64 u] 55)) #[.int .i64 0, .int .i64 0, .slice none 0 0] 36
    simpa using this
  have HW : Hid (W0 = _) := hW0
  clear hW0
  have c0 : W0.cell? ⟨w.heap.size, 0, none⟩ = some (.slice a n c) := X.out.1.cell 0 rfl
  have c1 : W0.cell? ⟨w.heap.size, 1, none⟩ = some (.int .i64 t) := X.out.1.cell 1 rfl
  have c2 : W0.cell? ⟨w.heap.size, 2, none⟩ = some (.int .i64 u) := X.out.1.cell 2 rfl
  go_enter Try.func52, Try.ntmps52
  go_upto_region 1 with fail
  rw [← HW.out]
  clear HW
  go_wp2_with fail
  refine (D'.out _).mono ?_
  rintro e W ⟨rfl, hW⟩
  obtain rfl := hW.symm
  clear hW D'
  have rest : Hid (∀ w1, Below W0.heap.size W0 w1 → Boxed w1 w.heap.size #[.slice a n c, .int .i64 t, .int .i64 u] 55 ∧ Boxed w1 (w.heap.size + 1) #[.int .i64 0, .int .i64 0, .slice none 0 0] 36 ∧ Below w.heap.size w w1 ∧ IntsAt w1.drew a fl) := fun w1 g => by
    have b := X.out.2.2.trans (g.mono X.out.2.2.size)
    exact ⟨X.out.1.below X.out.1.under g, X.out.2.1.below X.out.2.1.under g, b, HI.out _ b.drew⟩
  by_cases hz : (n : Int) = 0
  · rw [decide_eq_true hz]
    have e1 : m = mx := by rw [Hm.out, if_pos (by omega), Hx.out]
    subst e1
    clear hz Hm Hx
    go_wp2_with fail
    refine (E'.out _).mono ?_
    rintro e w1 ⟨rfl, q⟩
    have Y : Hid _ := rest.out w1 q
    clear q E' c0 c1 c2
    have c0 : w1.cell? ⟨w.heap.size, 0, none⟩ = some (.slice a n c) := Y.out.1.cell 0 rfl
    have c1 : w1.cell? ⟨w.heap.size, 1, none⟩ = some (.int .i64 t) := Y.out.1.cell 1 rfl
    have c2 : w1.cell? ⟨w.heap.size, 2, none⟩ = some (.int .i64 u) := Y.out.1.cell 2 rfl
    go_upto_region 4 with fail
    go_region_with (go_at_call 69; refine (C'.out w1.drew Y.out.2.2.2).mono ?_; rintro e w2 ⟨⟨v, rfl, q1⟩, q2⟩; obtain ⟨p, q, ev⟩ := Sh.out q1; subst ev; have Z : Hid (Boxed w2 (w.heap.size + 1) #[.int .i64 0, .int .i64 0, .slice none 0 0] 36 ∧ IRow w.heap.size w2 (.slice p (n + 1) q) (fl ++ [size]) ∧ IRow w1.heap.size w2 (.slice p (n + 1) q) (fl ++ [size]) ∧ Below w.heap.size w w2 ∧ w.heap.size + 1 < w1.heap.size) := ⟨Boxed.below (w := w1.drew) Y.out.2.1 Y.out.2.1.under q2, q1.mono Y.out.2.2.1.size, q1, Y.out.2.2.1.drew.trans (q2.mono Y.out.2.2.1.size), Y.out.2.1.under⟩; have B2 : Hid (Boxed w2 w.heap.size #[.slice a n c, .int .i64 t, .int .i64 u] 55) := Boxed.below (w := w1.drew) Y.out.1 Y.out.1.under q2; have c1 : w2.cell? ⟨w.heap.size, 1, none⟩ = some (.int .i64 t) := B2.out.cell 1 rfl; have y0 : w2.cell? ⟨w.heap.size + 1, 0, none⟩ = some (.int .i64 0) := Z.out.1.cell 0 rfl; have y1 : w2.cell? ⟨w.heap.size + 1, 1, none⟩ = some (.int .i64 0) := Z.out.1.cell 1 rfl; have y2 : w2.cell? ⟨w.heap.size + 1, 2, none⟩ = some (.slice none 0 0) := Z.out.1.cell 2 rfl; have i0 := Z.out.1.ice 0; have i1 := Z.out.1.ice 1; have i2 := Z.out.1.ice 2; clear q1 q2)
    all_goals (
      have F : Hid (Boxed (((w2.setCell ⟨w.heap.size + 1, 0, none⟩ (.int .i64 t)).setCell ⟨w.heap.size + 1, 1, none⟩ (.int .i64 m)).setCell ⟨w.heap.size + 1, 2, none⟩ (.slice p (n + 1) q)) (w.heap.size + 1) #[.int .i64 t, .int .i64 m, .slice p (n + 1) q] 36 ∧ IRow w.heap.size (((w2.setCell ⟨w.heap.size + 1, 0, none⟩ (.int .i64 t)).setCell ⟨w.heap.size + 1, 1, none⟩ (.int .i64 m)).setCell ⟨w.heap.size + 1, 2, none⟩ (.slice p (n + 1) q)) (.slice p (n + 1) q) (fl ++ [size]) ∧ Below w.heap.size w (((w2.setCell ⟨w.heap.size + 1, 0, none⟩ (.int .i64 t)).setCell ⟨w.heap.size + 1, 1, none⟩ (.int .i64 m)).setCell ⟨w.heap.size + 1, 2, none⟩ (.slice p (n + 1) q))) := ⟨Z.out.1.put3 _ _ _, IRow.mono (fwrows_carry Z.out.2.2.1 fun y hy _ => set3_other _ _ _ _ _ _ _ _ _ (by have := (Z.out.2.2.1.lt y hy).1; have := Z.out.2.2.2.2; omega)) (by have := Z.out.2.2.2.2; omega), ((Z.out.2.2.2.1.setCell (by show w.heap.size ≤ w.heap.size + 1; omega) _).setCell (by show w.heap.size ≤ w.heap.size + 1; omega) _).setCell (by show w.heap.size ≤ w.heap.size + 1; omega) _⟩
      clear Z y0 y1 y2 i0 i1 i2
      generalize (((w2.setCell ⟨w.heap.size + 1, 0, none⟩ (.int .i64 t)).setCell ⟨w.heap.size + 1, 1, none⟩ (.int .i64 m)).setCell ⟨w.heap.size + 1, 2, none⟩ (.slice p (n + 1) q)) = Y at F ⊢
      go_wp2_with fail
      exact bodyPost_ret (results_cell_row Try.results52 _ _ (w.heap.size + 1) _ _ _ _ rfl F.out.1 Try.underlying36 rfl (by kernel_rfl)) rfl ⟨⟨_, rfl, F.out.2.1⟩, F.out.2.2⟩)
  · rw [decide_eq_false hz]
    have e1 : m = u := by rw [Hm.out, if_neg (by omega)]
    subst e1
    clear hz Hm Hx E'
    obtain ⟨w1, hw1⟩ : ∃ w1, w1 = W0 := ⟨_, rfl⟩
    have Y : Hid _ := rest.out w1 (by rw [hw1]; exact Below.refl _ _)
    subst hw1
    go_upto_region 4 with fail
    go_region_with (go_at_call 69; refine (C'.out w1.drew Y.out.2.2.2).mono ?_; rintro e w2 ⟨⟨v, rfl, q1⟩, q2⟩; obtain ⟨p, q, ev⟩ := Sh.out q1; subst ev; have Z : Hid (Boxed w2 (w.heap.size + 1) #[.int .i64 0, .int .i64 0, .slice none 0 0] 36 ∧ IRow w.heap.size w2 (.slice p (n + 1) q) (fl ++ [size]) ∧ IRow w1.heap.size w2 (.slice p (n + 1) q) (fl ++ [size]) ∧ Below w.heap.size w w2 ∧ w.heap.size + 1 < w1.heap.size) := ⟨Boxed.below (w := w1.drew) Y.out.2.1 Y.out.2.1.under q2, q1.mono Y.out.2.2.1.size, q1, Y.out.2.2.1.drew.trans (q2.mono Y.out.2.2.1.size), Y.out.2.1.under⟩; have B2 : Hid (Boxed w2 w.heap.size #[.slice a n c, .int .i64 t, .int .i64 m] 55) := Boxed.below (w := w1.drew) Y.out.1 Y.out.1.under q2; have c1 : w2.cell? ⟨w.heap.size, 1, none⟩ = some (.int .i64 t) := B2.out.cell 1 rfl; have y0 : w2.cell? ⟨w.heap.size + 1, 0, none⟩ = some (.int .i64 0) := Z.out.1.cell 0 rfl; have y1 : w2.cell? ⟨w.heap.size + 1, 1, none⟩ = some (.int .i64 0) := Z.out.1.cell 1 rfl; have y2 : w2.cell? ⟨w.heap.size + 1, 2, none⟩ = some (.slice none 0 0) := Z.out.1.cell 2 rfl; have i0 := Z.out.1.ice 0; have i1 := Z.out.1.ice 1; have i2 := Z.out.1.ice 2; clear q1 q2)
    all_goals (
      have F : Hid (Boxed (((w2.setCell ⟨w.heap.size + 1, 0, none⟩ (.int .i64 t)).setCell ⟨w.heap.size + 1, 1, none⟩ (.int .i64 m)).setCell ⟨w.heap.size + 1, 2, none⟩ (.slice p (n + 1) q)) (w.heap.size + 1) #[.int .i64 t, .int .i64 m, .slice p (n + 1) q] 36 ∧ IRow w.heap.size (((w2.setCell ⟨w.heap.size + 1, 0, none⟩ (.int .i64 t)).setCell ⟨w.heap.size + 1, 1, none⟩ (.int .i64 m)).setCell ⟨w.heap.size + 1, 2, none⟩ (.slice p (n + 1) q)) (.slice p (n + 1) q) (fl ++ [size]) ∧ Below w.heap.size w (((w2.setCell ⟨w.heap.size + 1, 0, none⟩ (.int .i64 t)).setCell ⟨w.heap.size + 1, 1, none⟩ (.int .i64 m)).setCell ⟨w.heap.size + 1, 2, none⟩ (.slice p (n + 1) q))) := ⟨Z.out.1.put3 _ _ _, IRow.mono (fwrows_carry Z.out.2.2.1 fun y hy _ => set3_other _ _ _ _ _ _ _ _ _ (by have := (Z.out.2.2.1.lt y hy).1; have := Z.out.2.2.2.2; omega)) (by have := Z.out.2.2.2.2; omega), ((Z.out.2.2.2.1.setCell (by show w.heap.size ≤ w.heap.size + 1; omega) _).setCell (by show w.heap.size ≤ w.heap.size + 1; omega) _).setCell (by show w.heap.size ≤ w.heap.size + 1; omega) _⟩
      clear Z y0 y1 y2 i0 i1 i2
      generalize (((w2.setCell ⟨w.heap.size + 1, 0, none⟩ (.int .i64 t)).setCell ⟨w.heap.size + 1, 1, none⟩ (.int .i64 m)).setCell ⟨w.heap.size + 1, 2, none⟩ (.slice p (n + 1) q)) = Y at F ⊢
      go_wp2_with fail
      exact bodyPost_ret (results_cell_row Try.results52 _ _ (w.heap.size + 1) _ _ _ _ rfl F.out.1 Try.underlying36 rfl (by kernel_rfl)) rfl ⟨⟨_, rfl, F.out.2.1⟩, F.out.2.2⟩)
end Go.Proofs.Ytllmkolchgmjoaa
