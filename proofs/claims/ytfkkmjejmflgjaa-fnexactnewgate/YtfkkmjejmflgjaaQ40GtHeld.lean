/-
  Numbers looked for in a gate. By the verifier, by program.
-/
import Derived.Test.YtfkkmjejmflgjaaQ37GtMk
import Derived.Test.YtfkkmjejmflgjaaQ2SsV
import Derived.WalkKit
import Derived.RegionTactic
namespace Go.Proofs.Ytfkkmjejmflgjaa
open Go.RowKit

set_option maxHeartbeats 6400000 in
set_option maxRecDepth 100000 in
theorem heldGts (s : Int) (s0 : 0 ≤ s) (s1 : s ≤ 274877906944) (v : Value) (g : Gt) (w : World) (hB : g.big ≤ 1048576) (H : Hid (GtAt w v (g.mk' s))) :
    Calls Try.prog 16 #[v, .int .i64 s] w fun e w' => e = .returned (.int .i64 (g.k7 s)) ∧ Below w.heap.size w w' := by
  obtain ⟨x, rfl, hG⟩ := H.out
  obtain ⟨z1, z2, z3, z4, z5, z6, z7⟩ := Gt.small hB
  obtain ⟨y1, y2, y3, y4, y5, y6, y7⟩ := Gt.ks hB s0 s1
  have M1 : Hid (∀ W, GtV W x (g.mk' s) → Calls Try.prog 38 #[(.slice x.a1 g.routes.length x.c1), .int .i64 s] W fun e w' => e = .returned (.int .i64 (g.k1 s)) ∧ Below W.heap.size W w') := fun W h => by
    have e : (Value.slice x.a1 g.routes.length x.c1) = .slice x.a1 (rtMkS s g.routes).length x.c1 := by rw [rtMkS_length]
    rw [e]
    exact heldRtS s s0 (by omega) _ g.routes W z1 h.routes
  have M2 : Hid (∀ W, GtV W x (g.mk' s) → Calls Try.prog 39 #[(.slice x.a2 g.rules.length x.c2), .int .i64 (g.k1 s)] W fun e w' => e = .returned (.int .i64 (g.k2 s)) ∧ Below W.heap.size W w') := fun W h => by
    have e : (Value.slice x.a2 g.rules.length x.c2) = .slice x.a2 (ruMkS (g.k1 s) g.rules).length x.c2 := by rw [ruMkS_length]
    rw [e]
    exact heldRuS (g.k1 s) y1.1 y1.2 _ g.rules W z2 h.rules
  have M3 : Hid (∀ W, GtV W x (g.mk' s) → Calls Try.prog 40 #[(.slice x.a3 g.tree.length x.c3), .int .i64 (g.k2 s)] W fun e w' => e = .returned (.int .i64 (g.k3 s)) ∧ Below W.heap.size W w') := fun W h => by
    have e : (Value.slice x.a3 g.tree.length x.c3) = .slice x.a3 (ndMkS (g.k2 s) g.tree).length x.c3 := by rw [ndMkS_length]
    rw [e]
    exact heldNdS (g.k2 s) y2.1 y2.2 _ g.tree W z3 h.tree
  have M4 : Hid (∀ W, GtV W x (g.mk' s) → Calls Try.prog 41 #[(.slice x.a4 g.leaves.length x.c4), .int .i64 (g.k3 s)] W fun e w' => e = .returned (.int .i64 (g.k4 s)) ∧ Below W.heap.size W w') := fun W h => by
    have e : (Value.slice x.a4 g.leaves.length x.c4) = .slice x.a4 (intMkS (g.k3 s) g.leaves).length x.c4 := by rw [intMkS_length]
    rw [e]
    exact heldIntS (g.k3 s) y3.1 y3.2 _ g.leaves W z4 h.leaves
  have M5 : Hid (∀ W, GtV W x (g.mk' s) → Calls Try.prog 42 #[(g.rows.val x.a5 x.c5), .int .i64 (g.k4 s)] W fun e w' => e = .returned (.int .i64 (g.k5 s)) ∧ Below W.heap.size W w') := fun W h => by
    have e : g.rows.val x.a5 x.c5 = (Rw.mk' (g.k4 s) g.rows).val x.a5 x.c5 := by { unfold Rw.val; rw [rw_mk_len]; rfl }
    rw [e]
    exact heldRws (g.k4 s) y4.1 y4.2 _ g.rows W z5 h.rows
  have M6 : Hid (∀ W, GtV W x (g.mk' s) → Calls Try.prog 43 #[(.slice x.a6 g.steers.length x.c6), .int .i64 (g.k5 s)] W fun e w' => e = .returned (.int .i64 (g.k6 s)) ∧ Below W.heap.size W w') := fun W h => by
    have e : (Value.slice x.a6 g.steers.length x.c6) = .slice x.a6 (srMkS (g.k5 s) g.steers).length x.c6 := by rw [srMkS_length]
    rw [e]
    exact heldSrS (g.k5 s) y5.1 y5.2 _ g.steers W z6 h.steers
  have M7 : Hid (∀ W, GtV W x (g.mk' s) → Calls Try.prog 44 #[(g.fair.val x.a7 x.c7), .int .i64 (g.k6 s)] W fun e w' => e = .returned (.int .i64 (g.k7 s)) ∧ Below W.heap.size W w') := fun W h => by
    have e : g.fair.val x.a7 x.c7 = (Fs.mk' (g.k6 s) g.fair).val x.a7 x.c7 := by { unfold Fs.val; rw [fs_mk_len]; rfl }
    rw [e]
    exact heldFss (g.k6 s) y6.1 y6.2 _ g.fair W z7 h.fair
  have G0 : Hid (GtV w x (g.mk' s)) := hG
  rw [Gt.mk_val]
  have q1 : ¬ g.k1 s < 0 := by omega
  have q2 : ¬ g.k2 s < 0 := by omega
  have q3 : ¬ g.k3 s < 0 := by omega
  have q4 : ¬ g.k4 s < 0 := by omega
  have q5 : ¬ g.k5 s < 0 := by omega
  have q6 : ¬ g.k6 s < 0 := by omega
  have q7 : ¬ g.k7 s < 0 := by omega
  clear H hG hB z1 z2 z3 z4 z5 z6 z7 y1 y2 y3 y4 y5 y6 y7 s0 s1
  generalize g.mk' s = gm at M1 M2 M3 M4 M5 M6 M7 G0
  generalize g.k1 s = K1 at M1 q1 M2
  generalize g.k2 s = K2 at M2 q2 M3
  generalize g.k3 s = K3 at M3 q3 M4
  generalize g.k4 s = K4 at M4 q4 M5
  generalize g.k5 s = K5 at M5 q5 M6
  generalize g.k6 s = K6 at M6 q6 M7
  generalize g.k7 s = K7 at M7 q7 ⊢
  have q1' : decide (K1 < 0) = false := decide_eq_false q1
  have q2' : decide (K2 < 0) = false := decide_eq_false q2
  have q3' : decide (K3 < 0) = false := decide_eq_false q3
  have q4' : decide (K4 < 0) = false := decide_eq_false q4
  have q5' : decide (K5 < 0) = false := decide_eq_false q5
  have q6' : decide (K6 < 0) = false := decide_eq_false q6
  have q7' : decide (K7 < 0) = false := decide_eq_false q7
  obtain ⟨x1, d1, x2, d2, x3, d3, x4, d4, x5, d5, x6, d6, x7, d7⟩ := x
  obtain ⟨⟨kd, ex, le⟩, rts, rus, tr, lv, ⟨mo, li⟩, st, ⟨nw, fl⟩, nx, dr⟩ := g
  simp only [Gt.val, Gt.cells, Rw.val, Fs.val] at M1 M2 M3 M4 M5 M6 M7 ⊢
  generalize rts.length = n1 at M1 ⊢
  generalize rus.length = n2 at M2 ⊢
  generalize tr.length = n3 at M3 ⊢
  generalize lv.length = n4 at M4 ⊢
  generalize li.length = n5 at M5 ⊢
  generalize st.length = n6 at M6 ⊢
  generalize fl.length = n7 at M7 ⊢
  obtain ⟨A, hAq⟩ : ∃ A, A = w.heap.size := ⟨_, rfl⟩
  obtain ⟨W0, hW⟩ : ∃ W, W = w.alloc (.cells #[.int .i64 kd, .int .i64 ex, .int .i64 le, .slice x1 n1 d1, .slice x2 n2 d2, .slice x3 n3 d3, .slice x4 n4 d4, .int .i64 mo, .slice x5 n5 d5, .slice x6 n6 d6, .int .i64 nw, .slice x7 n7 d7, .int .i64 nx, .int .i64 dr] 39) := ⟨_, rfl⟩
  have Z0 : Hid (Boxed W0 A #[.int .i64 kd, .int .i64 ex, .int .i64 le, .slice x1 n1 d1, .slice x2 n2 d2, .slice x3 n3 d3, .slice x4 n4 d4, .int .i64 mo, .slice x5 n5 d5, .slice x6 n6 d6, .int .i64 nw, .slice x7 n7 d7, .int .i64 nx, .int .i64 dr] 39 ∧ GtV W0 ⟨x1, d1, x2, d2, x3, d3, x4, d4, x5, d5, x6, d6, x7, d7⟩ gm ∧ Below w.heap.size w W0) := by
    have bw : Below w.heap.size w W0 := by rw [hW]; exact (Below.refl _ _).alloc (Nat.le_refl _) _
    exact ⟨by rw [hW, hAq]; exact Boxed.new _ _ _, G0.out.below bw, bw⟩
  have HW : Hid (W0 = _) := hW
  have HA : Hid (A = _) := hAq
  clear hW hAq G0
  go_enter Try.func16, Try.ntmps16
  go_upto_region 1 with fail
  rw [← HW.out, ← HA.out]
  clear HW HA
  have c3 : W0.cell? ⟨A, 3, none⟩ = some (.slice x1 n1 d1) := Z0.out.1.cell 3 rfl
  go_wp2_with fail
  refine (M1.out _ Z0.out.2.1).mono ?_
  rintro e W1 ⟨rfl, r⟩
  have Z1 : Hid (Boxed W1 A #[.int .i64 kd, .int .i64 ex, .int .i64 le, .slice x1 n1 d1, .slice x2 n2 d2, .slice x3 n3 d3, .slice x4 n4 d4, .int .i64 mo, .slice x5 n5 d5, .slice x6 n6 d6, .int .i64 nw, .slice x7 n7 d7, .int .i64 nx, .int .i64 dr] 39 ∧ GtV W1 ⟨x1, d1, x2, d2, x3, d3, x4, d4, x5, d5, x6, d6, x7, d7⟩ gm ∧ Below w.heap.size w W1) := ⟨Z0.out.1.below Z0.out.1.under r, Z0.out.2.1.below r, Z0.out.2.2.trans (r.mono Z0.out.2.2.size)⟩
  clear r c3 Z0 M1
  have c4 : W1.cell? ⟨A, 4, none⟩ = some (.slice x2 n2 d2) := Z1.out.1.cell 4 rfl
  go_wp2_with fail
  refine (M2.out _ Z1.out.2.1).mono ?_
  rintro e W2 ⟨rfl, r⟩
  have Z2 : Hid (Boxed W2 A #[.int .i64 kd, .int .i64 ex, .int .i64 le, .slice x1 n1 d1, .slice x2 n2 d2, .slice x3 n3 d3, .slice x4 n4 d4, .int .i64 mo, .slice x5 n5 d5, .slice x6 n6 d6, .int .i64 nw, .slice x7 n7 d7, .int .i64 nx, .int .i64 dr] 39 ∧ GtV W2 ⟨x1, d1, x2, d2, x3, d3, x4, d4, x5, d5, x6, d6, x7, d7⟩ gm ∧ Below w.heap.size w W2) := ⟨Z1.out.1.below Z1.out.1.under r, Z1.out.2.1.below r, Z1.out.2.2.trans (r.mono Z1.out.2.2.size)⟩
  clear r c4 Z1 M2
  have c5 : W2.cell? ⟨A, 5, none⟩ = some (.slice x3 n3 d3) := Z2.out.1.cell 5 rfl
  go_wp2_with fail
  refine (M3.out _ Z2.out.2.1).mono ?_
  rintro e W3 ⟨rfl, r⟩
  have Z3 : Hid (Boxed W3 A #[.int .i64 kd, .int .i64 ex, .int .i64 le, .slice x1 n1 d1, .slice x2 n2 d2, .slice x3 n3 d3, .slice x4 n4 d4, .int .i64 mo, .slice x5 n5 d5, .slice x6 n6 d6, .int .i64 nw, .slice x7 n7 d7, .int .i64 nx, .int .i64 dr] 39 ∧ GtV W3 ⟨x1, d1, x2, d2, x3, d3, x4, d4, x5, d5, x6, d6, x7, d7⟩ gm ∧ Below w.heap.size w W3) := ⟨Z2.out.1.below Z2.out.1.under r, Z2.out.2.1.below r, Z2.out.2.2.trans (r.mono Z2.out.2.2.size)⟩
  clear r c5 Z2 M3
  have c6 : W3.cell? ⟨A, 6, none⟩ = some (.slice x4 n4 d4) := Z3.out.1.cell 6 rfl
  go_wp2_with fail
  refine (M4.out _ Z3.out.2.1).mono ?_
  rintro e W4 ⟨rfl, r⟩
  have Z4 : Hid (Boxed W4 A #[.int .i64 kd, .int .i64 ex, .int .i64 le, .slice x1 n1 d1, .slice x2 n2 d2, .slice x3 n3 d3, .slice x4 n4 d4, .int .i64 mo, .slice x5 n5 d5, .slice x6 n6 d6, .int .i64 nw, .slice x7 n7 d7, .int .i64 nx, .int .i64 dr] 39 ∧ GtV W4 ⟨x1, d1, x2, d2, x3, d3, x4, d4, x5, d5, x6, d6, x7, d7⟩ gm ∧ Below w.heap.size w W4) := ⟨Z3.out.1.below Z3.out.1.under r, Z3.out.2.1.below r, Z3.out.2.2.trans (r.mono Z3.out.2.2.size)⟩
  clear r c6 Z3 M4
  have c7 : W4.cell? ⟨A, 7, none⟩ = some (.int .i64 mo) := Z4.out.1.cell 7 rfl
  have c8 : W4.cell? ⟨A, 8, none⟩ = some (.slice x5 n5 d5) := Z4.out.1.cell 8 rfl
  go_wp2_with fail
  refine (M5.out _ Z4.out.2.1).mono ?_
  rintro e W5 ⟨rfl, r⟩
  have Z5 : Hid (Boxed W5 A #[.int .i64 kd, .int .i64 ex, .int .i64 le, .slice x1 n1 d1, .slice x2 n2 d2, .slice x3 n3 d3, .slice x4 n4 d4, .int .i64 mo, .slice x5 n5 d5, .slice x6 n6 d6, .int .i64 nw, .slice x7 n7 d7, .int .i64 nx, .int .i64 dr] 39 ∧ GtV W5 ⟨x1, d1, x2, d2, x3, d3, x4, d4, x5, d5, x6, d6, x7, d7⟩ gm ∧ Below w.heap.size w W5) := ⟨Z4.out.1.below Z4.out.1.under r, Z4.out.2.1.below r, Z4.out.2.2.trans (r.mono Z4.out.2.2.size)⟩
  clear r c7 c8 Z4 M5
  have c9 : W5.cell? ⟨A, 9, none⟩ = some (.slice x6 n6 d6) := Z5.out.1.cell 9 rfl
  go_wp2_with fail
  refine (M6.out _ Z5.out.2.1).mono ?_
  rintro e W6 ⟨rfl, r⟩
  have Z6 : Hid (Boxed W6 A #[.int .i64 kd, .int .i64 ex, .int .i64 le, .slice x1 n1 d1, .slice x2 n2 d2, .slice x3 n3 d3, .slice x4 n4 d4, .int .i64 mo, .slice x5 n5 d5, .slice x6 n6 d6, .int .i64 nw, .slice x7 n7 d7, .int .i64 nx, .int .i64 dr] 39 ∧ GtV W6 ⟨x1, d1, x2, d2, x3, d3, x4, d4, x5, d5, x6, d6, x7, d7⟩ gm ∧ Below w.heap.size w W6) := ⟨Z5.out.1.below Z5.out.1.under r, Z5.out.2.1.below r, Z5.out.2.2.trans (r.mono Z5.out.2.2.size)⟩
  clear r c9 Z5 M6
  have c10 : W6.cell? ⟨A, 10, none⟩ = some (.int .i64 nw) := Z6.out.1.cell 10 rfl
  have c11 : W6.cell? ⟨A, 11, none⟩ = some (.slice x7 n7 d7) := Z6.out.1.cell 11 rfl
  go_wp2_with fail
  refine (M7.out _ Z6.out.2.1).mono ?_
  rintro e W7 ⟨rfl, r⟩
  have Z7 : Hid (Boxed W7 A #[.int .i64 kd, .int .i64 ex, .int .i64 le, .slice x1 n1 d1, .slice x2 n2 d2, .slice x3 n3 d3, .slice x4 n4 d4, .int .i64 mo, .slice x5 n5 d5, .slice x6 n6 d6, .int .i64 nw, .slice x7 n7 d7, .int .i64 nx, .int .i64 dr] 39 ∧ GtV W7 ⟨x1, d1, x2, d2, x3, d3, x4, d4, x5, d5, x6, d6, x7, d7⟩ gm ∧ Below w.heap.size w W7) := ⟨Z6.out.1.below Z6.out.1.under r, Z6.out.2.1.below r, Z6.out.2.2.trans (r.mono Z6.out.2.2.size)⟩
  clear r c10 c11 Z6 M7
  go_wp2
  go_ret
  exact ⟨rfl, Z7.out.2.2⟩
end Go.Proofs.Ytfkkmjejmflgjaa
