import Derived.Test.YtkocbfikcjgigaaGreatM4DzGrow
import Derived.Test.YtkocbfikcjgigaaGreatDuWhere
import Derived.Test.YtkocbfikcjgigaaGreatM5WhFn
import Derived.Test.YtkocbfikcjgigaaGreatBoxed
import Derived.Test.YtkocbfikcjgigaaGreatM6WhCopyS
import Derived.Test.YtkocbfikcjgigaaGreatM9RegList
import Derived.Test.YtkocbfikcjgigaaGreatM8RegGuard
import Derived.Test.YtkocbfikcjgigaaGreatOpAsg
import Derived.Test.YtkocbfikcjgigaaGreatM1DuFn
import Derived.Test.YtkocbfikcjgigaaGreatM18DuIns
/-
  Single operations on lists of dues in a wheel's slots; what is left when one slot's list is put. By the verifier.
-/
namespace Go.Proofs.YtkocbfikcjgigaaGreat
open Go.RowKit

theorem op_valY {P : Program} {o : Oper} {a : Act} {w w' : World} {K : Act → World → Prop} {Q : Exit → Act → World → Prop} {v : Value} (hr : (execOp a.eval o).run P w = .ok (.value v) w') (h : K (a.put o.dst v) w') : o.wp P a w K Q := by
  unfold Oper.wp
  rw [hr]
  exact h
theorem op_skipY {P : Program} {o : Oper} {a : Act} {w w' : World} {K : Act → World → Prop} {Q : Exit → Act → World → Prop} (hr : (execOp a.eval o).run P w = .ok .skip w') (h : K (a.put o.dst undef) w') : o.wp P a w K Q := by
  unfold Oper.wp
  rw [hr]
  exact h
theorem op_moveY {P : Program} {o : Oper} {a : Act} {w : World} {K : Act → World → Prop} {Q : Exit → Act → World → Prop} (t : Tmp) (ho : o.op = .move (.tmp t)) (h : K (a.put o.dst (a.tmps.getD t undef)) w) : o.wp P a w K Q := by
  unfold Oper.wp
  simp [execOp, ho, Act.eval, Oper.upon]
  simpa using h
theorem op_nilY {P : Program} {o : Oper} {a : Act} {w : World} {K : Act → World → Prop} {Q : Exit → Act → World → Prop} (t : Tmp) (ho : o.op = .nilCheck (.tmp t)) {p : Addr} (hx : a.tmps.getD t undef = .pointer (some p)) (h : K (a.put o.dst (.pointer (some p))) w) : o.wp P a w K Q := by
  refine op_valY (v := .pointer (some p)) (w' := w) ?_ h
  simp only [execOp, ho]
  rw [show a.eval (.tmp t) = _ from hx]
  rfl
theorem rowLoadAt {w : World} {p : Addr} {ad : Option Addr} {n c : Nat} (c0 : w.cell? p = some (.slice ad n c)) : (Instr.loadAt 24 (.pointer (some p))).run Tryz.prog w = .ok (.slice ad n c) w := by
  simp [go_sem, Instr.loadAt, Instr.sureAddr, c0]
theorem op_loadRowY {o : Oper} {a : Act} {w : World} {K : Act → World → Prop} {Q : Exit → Act → World → Prop} (t : Tmp) (ho : o.op = .load 24 (.tmp t)) {p : Addr} {ad : Option Addr} {n c : Nat} (hx : a.tmps.getD t undef = .pointer (some p)) (c0 : w.cell? p = some (.slice ad n c)) (h : K (a.put o.dst (.slice ad n c)) w) : o.wp Tryz.prog a w K Q := by
  refine op_valY (v := .slice ad n c) (w' := w) ?_ h
  simp only [execOp, ho]
  rw [Sem.run_bind, show a.eval (.tmp t) = _ from hx, rowLoadAt c0]
  rfl
theorem dueLoadAt {w : World} {g o : Nat} {x y : Int} (c0 : w.cell? ⟨g, o, none⟩ = some (.int .i64 x)) (c1 : w.cell? ⟨g, o + 1, none⟩ = some (.int .i64 y)) : (Instr.loadAt 33 (.pointer (some ⟨g, o, none⟩))).run Tryz.prog w = .ok (.agg #[.int .i64 x, .int .i64 y]) w := by
  simp [go_sem, Instr.loadAt, Instr.sureAddr, c0, c1]
theorem op_loadDueY {o : Oper} {a : Act} {w : World} {K : Act → World → Prop} {Q : Exit → Act → World → Prop} (x : Tmp) (ho : o.op = .load 33 (.tmp x)) {g k : Nat} {t i : Int} (hx : a.tmps.getD x undef = .pointer (some ⟨g, k, none⟩)) (c0 : w.cell? ⟨g, k, none⟩ = some (.int .i64 t)) (c1 : w.cell? ⟨g, k + 1, none⟩ = some (.int .i64 i)) (h : K (a.put o.dst (.agg #[.int .i64 t, .int .i64 i])) w) : o.wp Tryz.prog a w K Q := by
  refine op_valY (v := .agg #[.int .i64 t, .int .i64 i]) (w' := w) ?_ h
  simp only [execOp, ho]
  rw [Sem.run_bind, show a.eval (.tmp x) = _ from hx, dueLoadAt c0 c1]
  rfl
theorem duBuildY (x y : Int) (w : World) : (Instr.buildSlice 24 1 #[(0, .agg #[.int .i64 x, .int .i64 y])]).run Tryz.prog w = .ok (.slice (some ⟨w.heap.size, 0, none⟩) 1 1) (w.alloc (.cells #[.int .i64 x, .int .i64 y] 33)) := by
  simp [go_sem, Instr.buildSlice]
theorem op_buildDuY {o : Oper} {a : Act} {w : World} {K : Act → World → Prop} {Q : Exit → Act → World → Prop} (t : Tmp) (ho : o.op = .buildSlice 24 1 #[(0, .tmp t)]) {x y : Int} (hx : a.tmps.getD t undef = .agg #[.int .i64 x, .int .i64 y]) (h : K (a.put o.dst (.slice (some ⟨w.heap.size, 0, none⟩) 1 1)) (w.alloc (.cells #[.int .i64 x, .int .i64 y] 33))) : o.wp Tryz.prog a w K Q := by
  refine op_valY (v := .slice (some ⟨w.heap.size, 0, none⟩) 1 1) ?_ h
  simp only [execOp, ho, List.map_toArray, List.map_cons, List.map_nil]
  rw [Sem.run_bind, show a.eval (.tmp t) = _ from hx, duBuildY]
  rfl
theorem rowStoreAt {w : World} {p : Addr} {z : Value} {ad : Option Addr} (n c : Nat) (c0 : w.cell? p = some z) (f0 : w.frozen? p = false) : (Instr.storeAt 24 (.pointer (some p)) (.slice ad n c)).run Tryz.prog w = .ok () (w.setCell p (.slice ad n c)) := by
  simp [go_sem, Instr.storeAt, Instr.sureAddr, c0, f0]
theorem op_storeRowY {o : Oper} {a : Act} {w : World} {K : Act → World → Prop} {Q : Exit → Act → World → Prop} (t s : Tmp) (ho : o.op = .store 24 (.tmp t) (.tmp s)) {p : Addr} {z : Value} {ad : Option Addr} {n c : Nat} (hx : a.tmps.getD t undef = .pointer (some p)) (hy : a.tmps.getD s undef = .slice ad n c) (c0 : w.cell? p = some z) (f0 : w.frozen? p = false) (h : K (a.put o.dst undef) (w.setCell p (.slice ad n c))) : o.wp Tryz.prog a w K Q := by
  refine op_skipY ?_ h
  simp only [execOp, ho]
  rw [Sem.run_bind, show a.eval (.tmp t) = _ from hx, show a.eval (.tmp s) = _ from hy, rowStoreAt n c c0 f0]
  rfl
/-- A variable that holds no due lies where no list of dues lies. -/
theorem box_row {w : World} {P b : Nat} {cs : Array Value} {t : TypeId} {v : Value} {l : List Du} (h1 : Boxed w P cs t) (h2 : DuRow b w v l) (ht : t ≠ 33) : v.ownBlock ≠ some P := by
  intro e
  rcases h2.2 with ⟨rfl, _⟩ | ⟨g2, cap2, cur, rfl, _, qq, _⟩
  · cases e
  · have e2 : g2 = P := by cases e; rfl
    subst e2
    unfold Boxed at h1
    rw [h1] at qq
    simp only [Option.some.injEq, Obj.cells.injEq] at qq
    exact ht qq.2.1
/-- Lists in a wheel of the call's own; in a variable. -/
structure WvV (base P : Nat) (f : Int) (g cap : Nat) (vs : List Value) (ls : List (List Du)) (w : World) : Prop where
  box : Boxed w P #[.int .i64 f, .slice (some ⟨g, 0, none⟩) 8 cap] 29
  mem : DzG base (.slice (some ⟨g, 0, none⟩) 8 cap) vs ls w
  up : base ≤ w.heap.size
  eight : ls.length = 8
section
variable {base P : Nat} {f : Int} {g cap : Nat} {vs : List Value} {ls : List (List Du)} {w w' : World}
theorem WvV.below (h : WvV base P f g cap vs ls w) (q : Below w.heap.size w w') : WvV base P f g cap vs ls w' := ⟨h.box.below h.box.under q, h.mem.below q, Nat.le_trans h.up q.size, h.eight⟩
theorem WvV.ne (h : WvV base P f g cap vs ls w) : P ≠ g := by
  intro e
  subst e
  have h1 := h.box
  rcases h.mem.outer.2 with ⟨e, _⟩ | ⟨g', cap, cur, e, _, hg', _⟩
  · cases e
  · injection e with e1
    cases e1
    unfold Boxed at h1
    rw [h1] at hg'
    simp only [Option.some.injEq, Obj.cells.injEq] at hg'
    exact absurd hg'.2.1 (by decide)
theorem WvV.lt (h : WvV base P f g cap vs ls w) : base ≤ g ∧ g < w.heap.size := World.ownsRow.lt h.mem.outer g rfl
theorem WvV.row (h : WvV base P f g cap vs ls w) {j : Nat} (hj : j < 8) : DuRow base w (dzV vs j) (dzAt ls j) := h.mem.row j (by rw [h.eight]; exact hj)
theorem WvV.cell (h : WvV base P f g cap vs ls w) {j : Nat} (hj : j < 8) : w.cell? ⟨g, j, none⟩ = some (dzV vs j) := by
  have q := h.mem.outer.cells (g := g) rfl j (dzV vs j) (by have := h.mem.len; have := h.eight; unfold dzV; rw [List.getElem?_eq_getElem (by omega)]; rfl)
  rwa [show (⟨g, 0, none⟩ : Addr).add j = ⟨g, j, none⟩ by by_cases h0 : j = 0 <;> simp [Addr.add, h0]] at q
theorem WvV.ice (h : WvV base P f g cap vs ls w) (j : Nat) : w.frozen? ⟨g, j, none⟩ = false := by
  have := h.mem.outer
  rw [h.eight] at this
  exact World.ownsRow.frozenAt this j
/-- One list put: the list's value u is its old memory or new. -/
theorem WvV.put (h : WvV base P f g cap vs ls w) {j : Nat} (hj : j < 8) {u : Value} {l : List Du} {wx : World} (hu : DuRow base wx u l) (hs : w.heap.size ≤ wx.heap.size)
    (g2 : ∀ k, (dzV vs j).ownBlock ≠ some k → k < w.heap.size → wx.heap[k]? = w.heap[k]?) (hw : ∀ k, u.ownBlock = some k → (dzV vs j).ownBlock = some k ∨ w.heap.size ≤ k) :
    WvV base P f g cap (vs.set j u) (ls.set j l) (wx.setCell ⟨g, j, none⟩ u) := by
  refine ⟨?_, ?_, ?_, by rw [List.length_set]; exact h.eight⟩
  · refine (Below.heap_setCell _ _ _ _ h.ne).trans ?_
    rw [g2 P (box_row h.box (h.row hj) (by decide)) h.box.under]
    exact h.box
  · exact h.mem.set (by rw [h.eight]; exact hj) hu g2 hw (by rw [h.eight])
  · have := h.up
    simpa using Nat.le_trans this hs
end
end Go.Proofs.YtkocbfikcjgigaaGreat

/-
  The first due of a slot cut off in place; which slot it is. By the verifier.
-/
namespace Go.Proofs.YtkocbfikcjgigaaGreat
open Go.RowKit

theorem take_prog {r : Wh} {l : List Du} (h : r.ok = true) (hp : l.Perm r.slots.flatten) (hs : Sorted l) (h0 : 0 < l.length) :
    r.takeB = true ∧ duAt l 0 = r.takeD ∧ (duAt l 0).ok = true ∧ ∃ j : Nat, j < 8 ∧ slot r.step (duAt l 0) = (j : Int) ∧ 0 < (dzAt r.slots j).length ∧ r.take = ⟨r.step, r.slots.set j ((dzAt r.slots j).drop 1)⟩ := by
  obtain ⟨h1, hsl, h3, h4⟩ := Wh.ok_is.1 h
  have hmem : duAt l 0 ∈ l := by rw [duAt_lt h0]; exact List.getElem_mem h0
  rcases Wh.first_is h with ⟨-, e⟩ | ⟨b, e, hb, hh, hm⟩
  · rw [e] at hp
    rw [hp.eq_nil] at h0
    simp at h0
  have hB : r.takeB = true := by unfold Wh.takeB; rw [h, e]; simp
  have hD : r.takeD = slHd r.slots b := by unfold Wh.takeD; rw [if_pos hB, e]; rfl
  have hlen : 0 < (dzAt r.slots b).length := by unfold slHas at hh; exact of_decide_eq_true hh
  have hin : slHd r.slots b ∈ dzAt r.slots b := by unfold slHd; rw [duAt_lt hlen]; exact List.getElem_mem hlen
  have hfl : slHd r.slots b ∈ r.slots.flatten := mem_flat.2 ⟨b, by rw [hsl.len]; exact hb, hin⟩
  have hmin : ∀ x ∈ l, ¬ x.lt (duAt l 0) := fun x hx => by
    obtain ⟨i, hi, e⟩ := List.mem_iff_getElem.1 hx
    by_cases hi0 : i = 0
    · subst hi0
      rw [← e, duAt_lt h0]
      exact Du.lt_irrefl _
    · have := hs 0 i (by omega) hi
      rw [duAt_lt hi, e] at this
      exact this
  have ed : duAt l 0 = slHd r.slots b := first_same hp hmem hfl hmin hm
  refine ⟨hB, by rw [hD]; exact ed, h4 _ (hp.subset hmem), b, hb, ?_, hlen, ?_⟩
  · rw [ed]
    exact hsl.at' b hb _ hin
  · have e1 : r.take = r.less := by unfold Wh.take; rw [if_pos h, if_pos (by rw [e]; omega)]
    rw [e1]
    unfold Wh.less
    rw [e]
    rfl
theorem take_nil {r : Wh} (h : r.ok = true) (h0 : r.slots.flatten.length = 0) : r.takeB = false ∧ r.takeD = ⟨0, 0⟩ ∧ r.take = r := by
  have e0 : r.slots.flatten = [] := List.eq_nil_of_length_eq_zero h0
  have hf : ¬ 0 ≤ r.first := by
    rcases Wh.first_is h with ⟨e, -⟩ | ⟨b, e, hb, hh, hm⟩
    · rw [e]; decide
    · exfalso
      have hlen : 0 < (dzAt r.slots b).length := by unfold slHas at hh; exact of_decide_eq_true hh
      have : duAt (dzAt r.slots b) 0 ∈ r.slots.flatten := mem_flat.2 ⟨b, by rw [(Wh.ok_is.1 h).2.1.len]; exact hb, by rw [duAt_lt hlen]; exact List.getElem_mem hlen⟩
      rw [e0] at this
      cases this
  have hB : r.takeB = false := by unfold Wh.takeB; rw [h]; simp [hf]
  refine ⟨hB, ?_, ?_⟩
  · unfold Wh.takeD; rw [hB]; rfl
  · unfold Wh.take; rw [if_pos h, if_neg hf]
theorem take_bad {r : Wh} (h : r.ok = false) : r.takeB = false ∧ r.takeD = ⟨0, 0⟩ ∧ r.take = ⟨0, []⟩ := by
  have hB : r.takeB = false := by unfold Wh.takeB; rw [h]; rfl
  refine ⟨hB, ?_, ?_⟩
  · unfold Wh.takeD; rw [hB]; rfl
  · unfold Wh.take; rw [h]; rfl
/-- The list without its first, where it lies. -/
def cutV (x m : Nat) : Value := if m = 0 then .slice (some ⟨x, 0, none⟩) 0 0 else .slice (some ⟨x, 2, none⟩) m m
theorem cutV_hits {x m k o : Nat} {n c : Nat} (h : Hits (cutV x m) (m * 2) k o) : Hits (.slice (some ⟨x, 0, none⟩) n c) ((m + 1) * 2) k o := by
  obtain ⟨off, n', c', e, h1, h2⟩ := h
  unfold cutV at e
  by_cases h0 : m = 0
  · subst h0
    omega
  · rw [if_neg h0] at e
    cases e
    exact ⟨0, n, c, rfl, by omega, by omega⟩
theorem cut_in {b t x m : Nat} {w : World} {l : List Du} (h : DuIn b t w (.slice (some ⟨x, 0, none⟩) (m + 1) (m + 1)) l) (hl : l.length = m + 1) : DuIn b t w (cutV x m) (l.drop 1) := by
  unfold DuIn at h ⊢
  rw [hl] at h
  have hd : (l.drop 1).length = m := by rw [List.length_drop, hl]; rfl
  rw [hd]
  unfold cutV
  by_cases h0 : m = 0
  · subst h0
    rw [if_pos rfl, List.eq_nil_of_length_eq_zero hd]
    exact SlIn.nil _ _ _ _ _ _
  · rw [if_neg h0]
    obtain ⟨a, cap, e, hx⟩ := h
    cases e
    refine ⟨_, _, rfl, fun _ => ?_⟩
    obtain ⟨g, off, e1, h1, h2, h3, h4⟩ := hx (ducells_ne (by omega))
    cases e1
    refine ⟨x, 2, rfl, h1, h2, h3, fun j hj => ?_⟩
    match l, hl with
    | d :: t, _ =>
      have e : ducells (d :: t) = [.int .i64 d.time, .int .i64 d.id] ++ ducells t := by simp [ducells, Du.cells]
      have e2 : (d :: t).drop 1 = t := rfl
      rw [e2] at hj ⊢
      have := h4 (2 + j) (by rw [e, List.length_append]; simp; omega)
      rw [e] at this
      rw [List.getElem?_append_right (by simp)] at this
      simpa using this
/-- One list of a wheel's, cut in place. -/
theorem WvV.cut {base P : Nat} {f : Int} {g cap : Nat} {vs : List Value} {ls : List (List Du)} {w : World} (h : WvV base P f g cap vs ls w) {j : Nat} (hj : j < 8) {x m : Nat} (hv : dzV vs j = .slice (some ⟨x, 0, none⟩) (m + 1) (m + 1)) (hl : (dzAt ls j).length = m + 1) :
    DzV base w.heap.size (w.setCell ⟨g, j, none⟩ (cutV x m)) (.slice (some ⟨g, 0, none⟩) 8 cap) (vs.set j (cutV x m)) (ls.set j ((dzAt ls j).drop 1)) := by
  have D := h.mem.done
  have h8 := h.eight
  have hlen := h.mem.len
  have hjl : j < ls.length := by omega
  have hs : (w.setCell ⟨g, j, none⟩ (cutV x m)).heap.size = w.heap.size := by simp
  have ei : ∀ i, i ≠ j → dzV (vs.set j (cutV x m)) i = dzV vs i ∧ dzAt (ls.set j ((dzAt ls j).drop 1)) i = dzAt ls i := fun i hi => ⟨by unfold dzV; rw [List.getElem?_set_ne (fun q => hi q.symm)], by unfold dzAt; rw [List.getElem?_set_ne (fun q => hi q.symm)]⟩
  have ej : dzV (vs.set j (cutV x m)) j = cutV x m ∧ dzAt (ls.set j ((dzAt ls j).drop 1)) j = (dzAt ls j).drop 1 := ⟨by unfold dzV; rw [List.getElem?_set_self (by omega)]; rfl, by rw [dzAt_lt (by rw [List.length_set]; exact hjl), List.getElem_set_self]⟩
  have hd : ((dzAt ls j).drop 1).length = m := by rw [List.length_drop, hl]; rfl
  have keep : ∀ k, k ≠ g → (w.setCell ⟨g, j, none⟩ (cutV x m)).heap[k]? = w.heap[k]? := fun k hk => Below.heap_setCell _ _ _ _ hk
  have row' : ∀ i, i < ls.length → DuIn base w.heap.size (w.setCell ⟨g, j, none⟩ (cutV x m)) (dzV vs i) (dzAt ls i) := fun i hi => by
    have hr := h.mem.row i hi
    refine DuIn.of_row (hr.carry fun k hk _ => keep k ?_) (fun k hk => (hr.lt k hk).2) (by rw [hs]; exact Nat.le_refl _)
    rintro rfl
    exact rows_unlike h.mem.outer hr dzTypes k rfl hk
  have hh : ∀ i k o, i < ls.length → Hits (dzV (vs.set j (cutV x m)) i) ((dzAt (ls.set j ((dzAt ls j).drop 1)) i).length * 2) k o → Hits (dzV vs i) ((dzAt ls i).length * 2) k o := fun i k o hi q => by
    by_cases e : i = j
    · subst e
      rw [ej.1, ej.2, hd] at q
      rw [hv, hl]
      exact cutV_hits q
    · rw [(ei i e).1, (ei i e).2] at q
      exact q
  refine ⟨?_, by rw [List.length_set, List.length_set]; exact hlen, fun i hi => ?_, fun i hi => ?_, fun i i' k o hi hi' hne q1 q2 => ?_, fun i k o hi q1 q2 => ?_⟩
  · have ho := D.outer
    rw [h8] at ho
    have := ho.put j (by omega) (cutV x m)
    rw [Nat.zero_add] at this
    rw [List.length_set, h8]
    exact this
  · rw [List.length_set] at hi
    by_cases e : i = j
    · subst e
      rw [ej.1, ej.2]
      have := row' i hi
      rw [hv] at this
      exact cut_in this hl
    · rw [(ei i e).1, (ei i e).2]
      exact row' i hi
  · rw [List.length_set] at hi
    by_cases e : i = j
    · subst e
      rw [ej.1, ej.2, hd]
      unfold cutV
      by_cases h0 : m = 0
      · subst h0
        exact ⟨_, 0, if_pos rfl, Nat.le_refl _, fun _ => rfl⟩
      · exact ⟨_, m, if_neg h0, Nat.le_refl _, fun q => by cases q⟩
    · rw [(ei i e).1, (ei i e).2]
      exact D.cap i hi
  · rw [List.length_set] at hi hi'
    exact D.apart i i' k o hi hi' hne (hh i k o hi q1) (hh i' k o hi' q2)
  · rw [List.length_set] at hi
    rw [List.length_set] at q2
    have q2' : Hits (.slice (some ⟨g, 0, none⟩) 8 cap) ls.length k o := q2
    exact D.free i k o hi (hh i k o hi q1) q2'
end Go.Proofs.YtkocbfikcjgigaaGreat
