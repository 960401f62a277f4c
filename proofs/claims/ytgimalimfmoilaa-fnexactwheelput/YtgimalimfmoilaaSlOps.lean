/-
  Single operations on lists of dues in a wheel's slots; what is left when one slot's list is put. By the verifier.
-/
import Derived.Test.YtgimalimfmoilaaDzGrow
import Derived.Test.YtgimalimfmoilaaDuWhere
import Derived.Test.YtgimalimfmoilaaM2WhFn
import Derived.Test.YtgimalimfmoilaaBoxed
import Derived.Test.YtgimalimfmoilaaStepRow
import Derived.Test.YtgimalimfmoilaaM4RegList
import Derived.Test.YtgimalimfmoilaaM3RegGuard
import Derived.Test.YtgimalimfmoilaaOpAsg
import Derived.Test.YtgimalimfmoilaaM1NumIn
namespace Go.Proofs.Ytgimalimfmoilaa
open Go.RowKit

theorem op_valY {P : Program} {o : Oper} {a : Act} {w w' : World} {K : Act → World → Prop} {Q : Exit → Act → World → Prop} {v : Value} (hr : (execOp a.eval o).run P w = .ok (.value v) w') (h : K (a.put o.dst v) w') : o.wp P a w K Q := by
  unfold Oper.wp
  rw [hr]
  exact h
theorem op_skipY {P : Program} {o : Oper} {a : Act} {w w' : World} {K : Act → World → Prop} {Q : Exit → Act → World → Prop} (hr : (execOp a.eval o).run P w = .ok .skip w') (h : K (a.put o.dst undef) w') : o.wp P a w K Q := by
  unfold Oper.wp
  rw [hr]
  exact h
theorem op_moveY {P : Program} {o : Oper} {a : Act} {w : World} {K : Act → World → Prop} {Q : Exit → Act → World → Prop} (t : Tmp) (ho : o.op = .move (.tmp t)) (h : K (a.put o.dst (a.tmps.getD t undef)) w) : o.wp P a w K Q := by
  unfold Oper.wp
  simp [execOp, ho, Act.eval, Oper.upon]
  simpa using h
theorem op_nilY {P : Program} {o : Oper} {a : Act} {w : World} {K : Act → World → Prop} {Q : Exit → Act → World → Prop} (t : Tmp) (ho : o.op = .nilCheck (.tmp t)) {p : Addr} (hx : a.tmps.getD t undef = .pointer (some p)) (h : K (a.put o.dst (.pointer (some p))) w) : o.wp P a w K Q := by
  refine op_valY (v := .pointer (some p)) (w' := w) ?_ h
  simp only [execOp, ho]
  rw [show a.eval (.tmp t) = _ from hx]
  rfl
theorem rowLoadAt {w : World} {p : Addr} {ad : Option Addr} {n c : Nat} (c0 : w.cell? p = some (.slice ad n c)) : (Instr.loadAt 25 (.pointer (some p))).run Try.prog w = .ok (.slice ad n c) w := by
  simp [go_sem, Instr.loadAt, Instr.sureAddr, c0]
theorem op_loadRowY {o : Oper} {a : Act} {w : World} {K : Act → World → Prop} {Q : Exit → Act → World → Prop} (t : Tmp) (ho : o.op = .load 25 (.tmp t)) {p : Addr} {ad : Option Addr} {n c : Nat} (hx : a.tmps.getD t undef = .pointer (some p)) (c0 : w.cell? p = some (.slice ad n c)) (h : K (a.put o.dst (.slice ad n c)) w) : o.wp Try.prog a w K Q := by
  refine op_valY (v := .slice ad n c) (w' := w) ?_ h
  simp only [execOp, ho]
  rw [Sem.run_bind, show a.eval (.tmp t) = _ from hx, rowLoadAt c0]
  rfl
theorem dueLoadAt {w : World} {g o : Nat} {x y : Int} (c0 : w.cell? ⟨g, o, none⟩ = some (.int .i64 x)) (c1 : w.cell? ⟨g, o + 1, none⟩ = some (.int .i64 y)) : (Instr.loadAt 33 (.pointer (some ⟨g, o, none⟩))).run Try.prog w = .ok (.agg #[.int .i64 x, .int .i64 y]) w := by
  simp [go_sem, Instr.loadAt, Instr.sureAddr, c0, c1]
theorem op_loadDueY {o : Oper} {a : Act} {w : World} {K : Act → World → Prop} {Q : Exit → Act → World → Prop} (x : Tmp) (ho : o.op = .load 33 (.tmp x)) {g k : Nat} {t i : Int} (hx : a.tmps.getD x undef = .pointer (some ⟨g, k, none⟩)) (c0 : w.cell? ⟨g, k, none⟩ = some (.int .i64 t)) (c1 : w.cell? ⟨g, k + 1, none⟩ = some (.int .i64 i)) (h : K (a.put o.dst (.agg #[.int .i64 t, .int .i64 i])) w) : o.wp Try.prog a w K Q := by
  refine op_valY (v := .agg #[.int .i64 t, .int .i64 i]) (w' := w) ?_ h
  simp only [execOp, ho]
  rw [Sem.run_bind, show a.eval (.tmp x) = _ from hx, dueLoadAt c0 c1]
  rfl
theorem duBuildY (x y : Int) (w : World) : (Instr.buildSlice 25 1 #[(0, .agg #[.int .i64 x, .int .i64 y])]).run Try.prog w = .ok (.slice (some ⟨w.heap.size, 0, none⟩) 1 1) (w.alloc (.cells #[.int .i64 x, .int .i64 y] 33)) := by
  simp [go_sem, Instr.buildSlice]
theorem op_buildDuY {o : Oper} {a : Act} {w : World} {K : Act → World → Prop} {Q : Exit → Act → World → Prop} (t : Tmp) (ho : o.op = .buildSlice 25 1 #[(0, .tmp t)]) {x y : Int} (hx : a.tmps.getD t undef = .agg #[.int .i64 x, .int .i64 y]) (h : K (a.put o.dst (.slice (some ⟨w.heap.size, 0, none⟩) 1 1)) (w.alloc (.cells #[.int .i64 x, .int .i64 y] 33))) : o.wp Try.prog a w K Q := by
  refine op_valY (v := .slice (some ⟨w.heap.size, 0, none⟩) 1 1) ?_ h
  simp only [execOp, ho, List.map_toArray, List.map_cons, List.map_nil]
  rw [Sem.run_bind, show a.eval (.tmp t) = _ from hx, duBuildY]
  rfl
theorem rowStoreAt {w : World} {p : Addr} {z : Value} {ad : Option Addr} (n c : Nat) (c0 : w.cell? p = some z) (f0 : w.frozen? p = false) : (Instr.storeAt 25 (.pointer (some p)) (.slice ad n c)).run Try.prog w = .ok () (w.setCell p (.slice ad n c)) := by
  simp [go_sem, Instr.storeAt, Instr.sureAddr, c0, f0]
theorem op_storeRowY {o : Oper} {a : Act} {w : World} {K : Act → World → Prop} {Q : Exit → Act → World → Prop} (t s : Tmp) (ho : o.op = .store 25 (.tmp t) (.tmp s)) {p : Addr} {z : Value} {ad : Option Addr} {n c : Nat} (hx : a.tmps.getD t undef = .pointer (some p)) (hy : a.tmps.getD s undef = .slice ad n c) (c0 : w.cell? p = some z) (f0 : w.frozen? p = false) (h : K (a.put o.dst undef) (w.setCell p (.slice ad n c))) : o.wp Try.prog a w K Q := by
  refine op_skipY ?_ h
  simp only [execOp, ho]
  rw [Sem.run_bind, show a.eval (.tmp t) = _ from hx, show a.eval (.tmp s) = _ from hy, rowStoreAt n c c0 f0]
  rfl
/-- A variable that holds no due lies where no list of dues lies. -/
theorem box_row {w : World} {P b : Nat} {cs : Array Value} {t : TypeId} {v : Value} {l : List Du} (h1 : Boxed w P cs t) (h2 : DuRow b w v l) (ht : t ≠ 33) : v.ownBlock ≠ some P := by
  intro e
  rcases h2.2 with ⟨rfl, _⟩ | ⟨g2, cap2, cur, rfl, _, qq, _⟩
  · cases e
  · have e2 : g2 = P := by cases e; rfl
    subst e2
    unfold Boxed at h1
    rw [h1] at qq
    simp only [Option.some.injEq, Obj.cells.injEq] at qq
    exact ht qq.2.1
/-- Lists in a wheel of the call's own; in a variable. -/
structure WvV (base P : Nat) (f : Int) (g cap : Nat) (vs : List Value) (ls : List (List Du)) (w : World) : Prop where
  box : Boxed w P #[.int .i64 f, .slice (some ⟨g, 0, none⟩) 8 cap] 47
  mem : DzG base (.slice (some ⟨g, 0, none⟩) 8 cap) vs ls w
  up : base ≤ w.heap.size
  eight : ls.length = 8
section
variable {base P : Nat} {f : Int} {g cap : Nat} {vs : List Value} {ls : List (List Du)} {w w' : World}
theorem WvV.below (h : WvV base P f g cap vs ls w) (q : Below w.heap.size w w') : WvV base P f g cap vs ls w' := ⟨h.box.below h.box.under q, h.mem.below q, Nat.le_trans h.up q.size, h.eight⟩
theorem WvV.ne (h : WvV base P f g cap vs ls w) : P ≠ g := by
  intro e
  subst e
  have h1 := h.box
  rcases h.mem.outer.2 with ⟨e, _⟩ | ⟨g', cap, cur, e, _, hg', _⟩
  · cases e
  · injection e with e1
    cases e1
    unfold Boxed at h1
    rw [h1] at hg'
    simp only [Option.some.injEq, Obj.cells.injEq] at hg'
    exact absurd hg'.2.1 (by decide)
theorem WvV.lt (h : WvV base P f g cap vs ls w) : base ≤ g ∧ g < w.heap.size := World.ownsRow.lt h.mem.outer g rfl
theorem WvV.row (h : WvV base P f g cap vs ls w) {j : Nat} (hj : j < 8) : DuRow base w (dzV vs j) (dzAt ls j) := h.mem.row j (by rw [h.eight]; exact hj)
theorem WvV.cell (h : WvV base P f g cap vs ls w) {j : Nat} (hj : j < 8) : w.cell? ⟨g, j, none⟩ = some (dzV vs j) := by
  have q := h.mem.outer.cells (g := g) rfl j (dzV vs j) (by have := h.mem.len; have := h.eight; unfold dzV; rw [List.getElem?_eq_getElem (by omega)]; rfl)
  rwa [show (⟨g, 0, none⟩ : Addr).add j = ⟨g, j, none⟩ by by_cases h0 : j = 0 <;> simp [Addr.add, h0]] at q
theorem WvV.ice (h : WvV base P f g cap vs ls w) (j : Nat) : w.frozen? ⟨g, j, none⟩ = false := by
  have := h.mem.outer
  rw [h.eight] at this
  exact World.ownsRow.frozenAt this j
/-- One list put: the list's value u is its old memory or new. -/
theorem WvV.put (h : WvV base P f g cap vs ls w) {j : Nat} (hj : j < 8) {u : Value} {l : List Du} {wx : World} (hu : DuRow base wx u l) (hs : w.heap.size ≤ wx.heap.size)
    (g2 : ∀ k, (dzV vs j).ownBlock ≠ some k → k < w.heap.size → wx.heap[k]? = w.heap[k]?) (hw : ∀ k, u.ownBlock = some k → (dzV vs j).ownBlock = some k ∨ w.heap.size ≤ k) :
    WvV base P f g cap (vs.set j u) (ls.set j l) (wx.setCell ⟨g, j, none⟩ u) := by
  refine ⟨?_, ?_, ?_, by rw [List.length_set]; exact h.eight⟩
  · refine (Below.heap_setCell _ _ _ _ h.ne).trans ?_
    rw [g2 P (box_row h.box (h.row hj) (by decide)) h.box.under]
    exact h.box
  · exact h.mem.set (by rw [h.eight]; exact hj) hu g2 hw (by rw [h.eight])
  · have := h.up
    simpa using Nat.le_trans this hs
end
end Go.Proofs.Ytgimalimfmoilaa
