import Derived.Test.YtkocbfikcjgigaaGreatM7RegAll
import Derived.Handy
import Derived.Test.YtkocbfikcjgigaaGreatM0DuOrd
import Derived.Test.YtkocbfikcjgigaaGreatBoxed
import Derived.Sort.Grow
import Derived.Deep.Draws
/-
  The walks of cmp.Compare and cmp.Or. By the verifier.
-/
namespace Go.Proofs.YtkocbfikcjgigaaGreat
open Go.RowKit

/-- -1, 0 or 1. -/
def cmpV (a b : Int) : Int := if a < b then -1 else if b < a then 1 else 0
theorem implCompare (a b : Int) (w : World) :
    Calls Tryz.prog 93 #[.int .i64 a, .int .i64 b] w fun e w' => e = .returned (.int .i64 (cmpV a b)) ∧ w' = w := by
  unfold cmpV
  by_cases h : a < b
  · rw [if_pos h]
    go_enter Tryz.func93, Tryz.ntmps93
    go_wp2_with (go_at_call 99; go_in)
    go_ret
    exact ⟨rfl, rfl⟩
  · rw [if_neg h]
    by_cases h2 : b < a
    · rw [if_pos h2]
      go_enter Tryz.func93, Tryz.ntmps93
      go_wp2_with (go_at_call 99; go_in)
      go_ret
      exact ⟨rfl, rfl⟩
    · rw [if_neg h2]
      go_enter Tryz.func93, Tryz.ntmps93
      go_wp2_with (go_at_call 99; go_in)
      go_ret
      exact ⟨rfl, rfl⟩

theorem implOr (x y : Int) (w : World) (B : Nat) (c0 : w.cell? ⟨B, 0, none⟩ = some (.int .i64 x)) (c1 : w.cell? ⟨B, 1, none⟩ = some (.int .i64 y)) :
    Calls Tryz.prog 92 #[.slice (some ⟨B, 0, none⟩) 2 2] w fun e w' => e = .returned (.int .i64 (if x = 0 then y else x)) ∧ w' = w := by
  by_cases hx : x = 0
  · rw [if_pos hx]
    subst hx
    by_cases hy : y = 0
    · subst hy
      go_enter Tryz.func92, Tryz.ntmps92
      go_wp2
      go_rounds 3
      all_goals (go_ret; exact ⟨rfl, rfl⟩)
    · go_enter Tryz.func92, Tryz.ntmps92
      go_wp2
      go_rounds 2
      all_goals (go_ret; exact ⟨rfl, rfl⟩)
  · rw [if_neg hx]
    go_enter Tryz.func92, Tryz.ntmps92
    go_wp2
    go_rounds 1
    all_goals (go_ret; exact ⟨rfl, rfl⟩)

theorem op_call {P : Program} {o : Oper} {a : Act} {w : World} {K : Act → World → Prop} {Q : Exit → Act → World → Prop} {f : FuncId} {args : Array Value} (hrun : (execOp a.eval o).run P w = .ok (.enter f args) w) {v : Value}
    (hc : Calls P f args w fun e w' => e = .returned v ∧ w' = w) (h : K (a.put o.dst v) w) : o.wp P a w K Q := by
  unfold Oper.wp
  rw [hrun, Oper.upon_enter]
  refine hc.mono fun e w' hh => ?_
  obtain ⟨rfl, rfl⟩ := hh
  exact h
end Go.Proofs.YtkocbfikcjgigaaGreat

/-
  The walk of the order of dues, the program's own; the world behind it, to the block. By the verifier.
-/
namespace Go.Proofs.YtkocbfikcjgigaaGreat
open Go.RowKit

/-- Blocks were laid and orders drawn, nothing else. -/
def Grw (w w' : World) : Prop := ∃ q os, w' = Go.Sort.grow (w.drewN q) os
section
variable {w w1 w2 : World}
theorem Grw.refl (w : World) : Grw w w := ⟨0, #[], by rw [Go.Sort.grow_empty]; rfl⟩
theorem Grw.drew (h : Grw w w1) : Grw w w1.drew := by
  obtain ⟨q, os, rfl⟩ := h
  exact ⟨q + 1, os, rfl⟩
theorem Grw.alloc (h : Grw w w1) (o : Obj) : Grw w (w1.alloc o) := by
  obtain ⟨q, os, rfl⟩ := h
  exact ⟨q, os ++ #[o], by rw [Go.Sort.alloc_eq_grow, Go.Sort.grow_grow]⟩
theorem Grw.trans (h : Grw w w1) (g : Grw w1 w2) : Grw w w2 := by
  obtain ⟨q, os, rfl⟩ := h
  obtain ⟨q', os', rfl⟩ := g
  refine ⟨q + q', os ++ os', ?_⟩
  rw [← Go.Sort.grow_grow]
  show Go.Sort.grow (Go.Sort.grow ((w.drewN q).drewN q') os) os' = _
  have : (w.drewN q).drewN q' = w.drewN (q + q') := by unfold World.drewN; simp [Nat.add_assoc]
  rw [this]
theorem Grw.below (h : Grw w w1) : Below w.heap.size w w1 := by
  obtain ⟨q, os, rfl⟩ := h
  exact ⟨rfl, rfl, rfl, by rw [Go.Sort.size_grow]; exact Nat.le_add_right _ _, fun k hk => Go.Sort.heap_grow_old (w.drewN q) os hk⟩
end
/-- Less than nought where the one goes ahead. -/
def duOrdV (a b : Du) : Int := if cmpV a.time b.time = 0 then cmpV a.id b.id else cmpV a.time b.time
theorem duOrd_lt (a b : Du) : duOrdV a b < 0 ↔ a.lt b := by
  unfold duOrdV Du.lt cmpV
  (repeat' split) <;> omega
theorem duOrd_eq (a b : Du) : duOrdV a b = 0 ↔ a = b := by
  obtain ⟨t, i⟩ := a
  obtain ⟨u, j⟩ := b
  rw [Du.mk.injEq]
  show (if cmpV t u = 0 then cmpV i j else cmpV t u) = 0 ↔ _
  unfold cmpV
  (repeat' split) <;> constructor <;> intro h <;> omega
theorem duOrd_in (a b : Du) : -1 ≤ duOrdV a b ∧ duOrdV a b ≤ 1 := by
  unfold duOrdV cmpV
  (repeat' split) <;> omega

/-- What is known of each operation's value. -/
def duOrdPr (B : Nat) (n1 n2 b1 b2 x y z : Int) : Nat → World → Value → Prop := fun i w v =>
  if i = 0 then v = .pointer (some ⟨B, 0, none⟩) else if i = 1 then v = .int .i64 n1 else if i = 2 then v = .pointer (some ⟨B + 1, 0, none⟩) else if i = 3 then v = .int .i64 n2 else if i = 4 then v = .int .i64 x
  else if i = 5 then v = .pointer (some ⟨B, 1, none⟩) else if i = 6 then v = .int .i64 b1 else if i = 7 then v = .pointer (some ⟨B + 1, 1, none⟩) else if i = 8 then v = .int .i64 b2 else if i = 9 then v = .int .i64 y
  else if i = 10 then ∃ b, v = .slice (some ⟨b, 0, none⟩) 2 2 ∧ b < w.heap.size ∧ w.cell? ⟨b, 0, none⟩ = some (.int .i64 x) ∧ w.cell? ⟨b, 1, none⟩ = some (.int .i64 y)
  else v = .int .i64 z
theorem duOrdPr_keep {B : Nat} {n1 n2 b1 b2 x y z : Int} (i : Nat) (w w' : World) (v : Value) (h : duOrdPr B n1 n2 b1 b2 x y z i w v) (g : Grw w w') : duOrdPr B n1 n2 b1 b2 x y z i w' v := by
  have k := g.below
  unfold duOrdPr at *
  by_cases h10 : i = 10
  · subst h10
    simp only [Nat.reduceEqDiff, if_false, if_true] at h ⊢
    obtain ⟨b, e, hb, c0, c1⟩ := h
    exact ⟨b, e, Nat.lt_of_lt_of_le hb k.size, by rw [k.cell (p := ⟨b, 0, none⟩) hb]; exact c0, by rw [k.cell (p := ⟨b, 1, none⟩) hb]; exact c1⟩
  · simp only [h10, if_false] at h ⊢
    exact h

set_option maxHeartbeats 2000000 in
set_option maxRecDepth 100000 in
theorem implOrderG (a b : Du) (w : World) :
    Calls Tryz.prog 79 #[a.val, b.val] w fun e w' => e = .returned (.int .i64 (duOrdV a b)) ∧ Grw w w' := by
  unfold duOrdV Du.val
  obtain ⟨ai, ap⟩ := a
  obtain ⟨bi, bp⟩ := b
  simp only []
  have C := fun w => implCompare ai bi w
  have D := fun w => implCompare ap bp w
  have O := fun w b c0 c1 => implOr (cmpV ai bi) (cmpV ap bp) w b c0 c1
  generalize cmpV ai bi = x at C O ⊢
  generalize cmpV ap bp = y at D O ⊢
  generalize (if x = 0 then y else x) = z at O ⊢
  go_enter Tryz.func79, Tryz.ntmps79
  go_wp2_with fail
  rename_i Q1 K1 hK1
  obtain ⟨W, hW⟩ : ∃ W, W = ((w.alloc (.cells #[.int .i64 ai, .int .i64 ap] 33)).alloc (.cells #[.int .i64 bi, .int .i64 bp] 33)) := ⟨_, rfl⟩
  have cA0 : W.cell? ⟨w.heap.size, 0, none⟩ = some (.int .i64 ai) := by rw [hW]; simp
  have cA1 : W.cell? ⟨w.heap.size, 1, none⟩ = some (.int .i64 ap) := by rw [hW]; simp
  have cB0 : W.cell? ⟨w.heap.size + 1, 0, none⟩ = some (.int .i64 bi) := by rw [hW]; simp
  have cB1 : W.cell? ⟨w.heap.size + 1, 1, none⟩ = some (.int .i64 bp) := by rw [hW]; simp
  have hS : w.heap.size + 2 = W.heap.size := by rw [hW]; simp
  have hBW : Grw w W := by rw [hW]; exact ((Grw.refl _).alloc _).alloc _
  rw [← hW]
  clear hW
  refine region_draws (by kernel_rfl) (by kernel_rfl) (by kernel_rfl) (by kernel_rfl) (fun w' => Grw W w') (fun x y => Grw x y) (duOrdPr w.heap.size ai bi ap bp x y z) duOrdPr_keep ?h0 ?step ?last
  case h0 => exact (Grw.refl _).drew
  case step =>
    intro i o hi ho a w2 hk hG hp
    have hI := hG.below
    have t2 : a.tmps.getD 2 undef = .pointer (some ⟨w.heap.size, 0, none⟩) := hk.slot 2 (by kernel_rfl)
    have t3 : a.tmps.getD 3 undef = .pointer (some ⟨w.heap.size + 1, 0, none⟩) := hk.slot 3 (by kernel_rfl)
    have t2' : a.tmps[2]?.getD undef = .pointer (some ⟨w.heap.size, 0, none⟩) := by simpa using t2
    have t3' : a.tmps[3]?.getD undef = .pointer (some ⟨w.heap.size + 1, 0, none⟩) := by simpa using t3
    have dA0 : w2.cell? ⟨w.heap.size, 0, none⟩ = some (.int .i64 ai) := by rw [hI.cell (p := ⟨w.heap.size, 0, none⟩) (by show w.heap.size < _; omega)]; exact cA0
    have dA1 : w2.cell? ⟨w.heap.size, 1, none⟩ = some (.int .i64 ap) := by rw [hI.cell (p := ⟨w.heap.size, 1, none⟩) (by show w.heap.size < _; omega)]; exact cA1
    have dB0 : w2.cell? ⟨w.heap.size + 1, 0, none⟩ = some (.int .i64 bi) := by rw [hI.cell (p := ⟨w.heap.size + 1, 0, none⟩) (by show w.heap.size + 1 < _; omega)]; exact cB0
    have dB1 : w2.cell? ⟨w.heap.size + 1, 1, none⟩ = some (.int .i64 bp) := by rw [hI.cell (p := ⟨w.heap.size + 1, 1, none⟩) (by show w.heap.size + 1 < _; omega)]; exact cB1
    clear hI
    have hcases : i = 0 ∨ i = 1 ∨ i = 2 ∨ i = 3 ∨ i = 4 ∨ i = 5 ∨ i = 6 ∨ i = 7 ∨ i = 8 ∨ i = 9 ∨ i = 10 ∨ i = 11 := by
      have : i + 1 < 13 := hi
      omega
    rcases hcases with rfl | rfl | rfl | rfl | rfl | rfl | rfl | rfl | rfl | rfl | rfl | rfl
    · cases ho
      refine ⟨rfl, ?_⟩
      unfold Oper.wp
      simp [go_sem, t2']
      exact ⟨_, rfl, Grw.refl _, hG, rfl⟩
    · cases ho
      have e : a.tmps[5]?.getD undef = .pointer (some ⟨w.heap.size, 0, none⟩) := by simpa [duOrdPr] using hp ⟨0, .data⟩ 5 (by simp) rfl rfl
      refine ⟨rfl, ?_⟩
      unfold Oper.wp
      simp [go_sem, e, dA0]
      exact ⟨_, rfl, Grw.refl _, hG, rfl⟩
    · cases ho
      refine ⟨rfl, ?_⟩
      unfold Oper.wp
      simp [go_sem, t3']
      exact ⟨_, rfl, Grw.refl _, hG, rfl⟩
    · cases ho
      have e : a.tmps[7]?.getD undef = .pointer (some ⟨w.heap.size + 1, 0, none⟩) := by simpa [duOrdPr] using hp ⟨2, .data⟩ 7 (by simp) rfl rfl
      refine ⟨rfl, ?_⟩
      unfold Oper.wp
      simp [go_sem, e, dB0]
      exact ⟨_, rfl, Grw.refl _, hG, rfl⟩
    · cases ho
      have e1 : a.tmps[6]?.getD undef = .int .i64 ai := by simpa [duOrdPr] using hp ⟨1, .data⟩ 6 (by simp) rfl rfl
      have e2 : a.tmps[8]?.getD undef = .int .i64 bi := by simpa [duOrdPr] using hp ⟨3, .data⟩ 8 (by simp) rfl rfl
      exact ⟨rfl, op_call (by simp [execOp, resolve, Deferred.ofValue, invoke, Act.eval, e1, e2]) (C _) ⟨_, rfl, Grw.refl _, hG, rfl⟩⟩
    · cases ho
      refine ⟨rfl, ?_⟩
      unfold Oper.wp
      simp [go_sem, t2']
      exact ⟨_, rfl, Grw.refl _, hG, rfl⟩
    · cases ho
      have e : a.tmps[10]?.getD undef = .pointer (some ⟨w.heap.size, 1, none⟩) := by simpa [duOrdPr] using hp ⟨5, .data⟩ 10 (by simp) rfl rfl
      refine ⟨rfl, ?_⟩
      unfold Oper.wp
      simp [go_sem, e, dA1]
      exact ⟨_, rfl, Grw.refl _, hG, rfl⟩
    · cases ho
      refine ⟨rfl, ?_⟩
      unfold Oper.wp
      simp [go_sem, t3']
      exact ⟨_, rfl, Grw.refl _, hG, rfl⟩
    · cases ho
      have e : a.tmps[12]?.getD undef = .pointer (some ⟨w.heap.size + 1, 1, none⟩) := by simpa [duOrdPr] using hp ⟨7, .data⟩ 12 (by simp) rfl rfl
      refine ⟨rfl, ?_⟩
      unfold Oper.wp
      simp [go_sem, e, dB1]
      exact ⟨_, rfl, Grw.refl _, hG, rfl⟩
    · cases ho
      have e1 : a.tmps[11]?.getD undef = .int .i64 ap := by simpa [duOrdPr] using hp ⟨6, .data⟩ 11 (by simp) rfl rfl
      have e2 : a.tmps[13]?.getD undef = .int .i64 bp := by simpa [duOrdPr] using hp ⟨8, .data⟩ 13 (by simp) rfl rfl
      exact ⟨rfl, op_call (by simp [execOp, resolve, Deferred.ofValue, invoke, Act.eval, e1, e2]) (D _) ⟨_, rfl, Grw.refl _, hG, rfl⟩⟩
    · cases ho
      have e1 : a.tmps[9]?.getD undef = .int .i64 x := by simpa [duOrdPr] using hp ⟨4, .data⟩ 9 (by simp) rfl rfl
      have e2 : a.tmps[14]?.getD undef = .int .i64 y := by simpa [duOrdPr] using hp ⟨9, .data⟩ 14 (by simp) rfl rfl
      refine ⟨rfl, ?_⟩
      unfold Oper.wp
      simp [go_sem, e1, e2]
      exact ⟨_, rfl, (Grw.refl _).alloc _, hG.alloc _, w2.heap.size, rfl, by simp, by simp, by simp⟩
    · cases ho
      obtain ⟨b, e, hb, c0, c1⟩ := hp ⟨10, .data⟩ 15 (by simp) rfl rfl
      have e' : a.tmps[15]?.getD undef = .slice (some ⟨b, 0, none⟩) 2 2 := by simpa using e
      exact ⟨rfl, op_call (by simp [execOp, resolve, Deferred.ofValue, invoke, Act.eval, e']) (O _ _ c0 c1) ⟨_, rfl, Grw.refl _, hG, rfl⟩⟩
  case last =>
    intro o ho a w2 hk hI hp
    cases ho
    have e : a.tmps[16]?.getD undef = .int .i64 z := by simpa [duOrdPr] using hp 11 16 (by decide) rfl
    refine ⟨rfl, ?_⟩
    unfold Oper.wp
    simp [go_sem, e]
    refine hK1 _ _ ?_
    clear hp
    go_wp2
    have hsz : a.tmps.size = 17 := hk.size
    have hv : (a.tmps.setIfInBounds 4 (.int .i64 z)).getD 4 undef = .int .i64 z := by
      rw [Array.getD_eq_getD_getElem?, Array.getElem?_setIfInBounds, if_pos rfl, if_pos (by omega)]
      rfl
    refine bodyPost_ret (results_tmp rfl _ _ _) hk.defers ⟨?_, hBW.trans hI⟩
    show Ending.returned ((a.tmps.setIfInBounds 4 (.int .i64 z)).getD 4 undef) = _
    rw [hv]
theorem implOrder (a b : Du) (w : World) :
    Calls Tryz.prog 79 #[a.val, b.val] w fun e w' => e = .returned (.int .i64 (duOrdV a b)) ∧ Below w.heap.size w w' :=
  (implOrderG a b w).mono fun _ _ h => ⟨h.1, h.2.below⟩
/-- The method expression enters it. -/
theorem orderMeth (v : Value) (w : World) : (Go.method 251 33 v "loop.example/g00316/impl.order").run Tryz.prog w = .ok (79, v) w := by kernel_rfl
end Go.Proofs.YtkocbfikcjgigaaGreat
