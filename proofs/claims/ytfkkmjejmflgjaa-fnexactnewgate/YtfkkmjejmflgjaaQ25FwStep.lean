import Derived.Test.YtfkkmjejmflgjaaQ5FwPlain
import Derived.Test.YtfkkmjejmflgjaaQ20FwGrow
/-
  One number of a list, or of a record, put (Flow). By the verifier, by program.
-/
namespace Go.Proofs.Ytfkkmjejmflgjaa
open Go.RowKit

section
variable {b t : Nat} {w : World} {v : Value} {rs : List Fwr} {l : List Fw}
theorem FwV.put (h : FwV b t w v rs l) {j i : Nat} (hj : j < l.length) (hi : i < (fwAt l j).sizes.length) {x off c : Nat} (e : (fwrAt rs j).hd = .slice (some ⟨x, off, none⟩) (fwAt l j).sizes.length c) (z : Int) :
    FwV b t (w.setCell ⟨x, off + i, none⟩ (.int .i64 z)) v rs (l.set j ⟨(fwAt l j).weight, (fwAt l j).finish, (fwAt l j).sizes.set i z⟩) := by
  have hr := h.row j hj
  unfold IntIn at hr
  rw [e] at hr
  have hp := SlIn.put hr i (by simpa using hi) (.int .i64 z)
  refine h.list hj rfl rfl (by simp) ?_ ?_
  · unfold IntIn
    rw [e, List.length_set, List.map_set]
    exact hp
  · refine (turn_set _ _ _ _).wide ?_
    rintro k o ⟨rfl, rfl⟩
    rw [e]
    exact ⟨off, _, c, rfl, by omega, by omega⟩

end
end Go.Proofs.Ytfkkmjejmflgjaa

/-
  Flows of the call's own: a number or a list of one put. By the verifier.
-/
namespace Go.Proofs.Ytfkkmjejmflgjaa
open Go.RowKit

section
variable {base g cap : Nat} {v u : Value} {rs : List Fwr} {l : List Fw} {wr wx : World} {j : Nat}
theorem fwset0 (rs : List Fwr) (j : Nat) (hj : j < rs.length) (z : Int) : (fwcells rs).set (j * 3) (.int .i64 z) = fwcells (rs.set j ⟨z, (fwrAt rs j).finish, (fwrAt rs j).hd⟩) := by
  rw [← fwcells_set rs j ⟨z, (fwrAt rs j).finish, (fwrAt rs j).hd⟩]
  have hg := fwcells_get rs j (by omega)
  have hcl := fwcells_length rs
  apply List.ext_getElem?
  intro i
  simp only [List.getElem?_set]
  repeat' split
  all_goals first | rfl | (exfalso; omega) | skip
  all_goals (try subst_vars)
  all_goals first | rfl | (exfalso; simp only [List.length_set] at *; omega) | (simp only [hg]; done) | (rw [hg.1]) | (rw [hg.2.1]) | (rw [hg.2.2])
theorem fwset1 (rs : List Fwr) (j : Nat) (hj : j < rs.length) (z : Int) : (fwcells rs).set (j * 3 + 1) (.int .i64 z) = fwcells (rs.set j ⟨(fwrAt rs j).weight, z, (fwrAt rs j).hd⟩) := by
  rw [← fwcells_set rs j ⟨(fwrAt rs j).weight, z, (fwrAt rs j).hd⟩]
  have hg := fwcells_get rs j (by omega)
  have hcl := fwcells_length rs
  apply List.ext_getElem?
  intro i
  simp only [List.getElem?_set]
  repeat' split
  all_goals first | rfl | (exfalso; omega) | skip
  all_goals (try subst_vars)
  all_goals first | rfl | (exfalso; simp only [List.length_set] at *; omega) | (simp only [hg]; done) | (rw [hg.1]) | (rw [hg.2.1]) | (rw [hg.2.2])
theorem fwset2 (rs : List Fwr) (j : Nat) (hj : j < rs.length) (u : Value) : (fwcells rs).set (j * 3 + 2) u = fwcells (rs.set j ⟨(fwrAt rs j).weight, (fwrAt rs j).finish, u⟩) := by
  rw [← fwcells_set rs j ⟨(fwrAt rs j).weight, (fwrAt rs j).finish, u⟩]
  have hg := fwcells_get rs j (by omega)
  have hcl := fwcells_length rs
  apply List.ext_getElem?
  intro i
  simp only [List.getElem?_set]
  repeat' split
  all_goals first | rfl | (exfalso; omega) | skip
  all_goals (try subst_vars)
  all_goals first | rfl | (exfalso; simp only [List.length_set] at *; omega) | (simp only [hg]; done) | (rw [hg.1]) | (rw [hg.2.1]) | (rw [hg.2.2])
/-- Where the records lie. -/
theorem FwG.place (h : FwG base v rs l wr) (hj : j < l.length) : ∃ g cap, v = .slice (some ⟨g, 0, none⟩) l.length cap ∧ base ≤ g ∧ g < wr.heap.size := by
  rcases h.outer.2 with ⟨_, e⟩ | ⟨g, cap, cur, e, hb, hg, _⟩
  · omega
  · exact ⟨g, cap, e, hb, heapLt hg⟩
/-- The cells of one. -/
theorem FwG.cells (h : FwG base (.slice (some ⟨g, 0, none⟩) l.length cap) rs l wr) (hj : j < l.length) :
    wr.cell? ⟨g, j * 3, none⟩ = some (.int .i64 (fwAt l j).weight) ∧ wr.cell? ⟨g, j * 3 + 1, none⟩ = some (.int .i64 (fwAt l j).finish) ∧ wr.cell? ⟨g, j * 3 + 2, none⟩ = some (fwrAt rs j).hd ∧ ∀ o, wr.frozen? ⟨g, o, none⟩ = false := by
  have hl := h.len
  obtain ⟨e0, e1, e2⟩ := fwcells_get rs j (by omega)
  obtain ⟨n0, n1⟩ := h.num j hj
  refine ⟨?_, ?_, ?_, fun o => h.outer.frozenAt o⟩
  · rw [h.outer.cellAt _ (by omega), e0, n0]
  · rw [h.outer.cellAt _ (by omega), e1, n1]
  · rw [h.outer.cellAt _ (by omega), e2]
/-- A row lies in no block of the records. -/
theorem FwG.off (h : FwG base (.slice (some ⟨g, 0, none⟩) l.length cap) rs l wr) {b2 : Nat} {L : List Int} (hu : IRow b2 wr u L) : u.ownBlock ≠ some g :=
  fwrows_unlike h.outer hu fwTypes g rfl
theorem FwG.finish (h : FwG base (.slice (some ⟨g, 0, none⟩) l.length cap) rs l wr) (hj : j < l.length) (z : Int) :
    FwG base (.slice (some ⟨g, 0, none⟩) l.length cap) (rs.set j ⟨(fwrAt rs j).weight, z, (fwrAt rs j).hd⟩) (l.set j ⟨(fwAt l j).weight, z, (fwAt l j).sizes⟩) (wr.setCell ⟨g, j * 3 + 1, none⟩ (.int .i64 z)) := by
  have hl := h.len
  have e1 : ∀ i, (fwrAt (rs.set j ⟨(fwrAt rs j).weight, z, (fwrAt rs j).hd⟩) i).hd = (fwrAt rs i).hd := fun i => by
    by_cases hij : i = j
    · subst hij; rw [fwrAt_set (by omega)]
    · rw [fwrAt_other hij]
  have e2 : ∀ i, (fwAt (l.set j ⟨(fwAt l j).weight, z, (fwAt l j).sizes⟩) i).sizes = (fwAt l i).sizes := fun i => by
    by_cases hij : i = j
    · subst hij; rw [fwAt_set hj]
    · rw [fwAt_other hij]
  refine ⟨?_, by rw [List.length_set, List.length_set, hl], fun i hi => ?_, fun i hi => ?_, fun i k x hi hk hne => ?_⟩
  · have := h.outer.stored (j * 3 + 1) (.int .i64 z)
    rw [fwset1 rs j (by omega) z] at this
    rw [List.length_set]
    exact this.1
  · rw [List.length_set] at hi
    by_cases hij : i = j
    · subst hij; rw [fwrAt_set (by omega), fwAt_set hj]; exact ⟨(h.num i hj).1, rfl⟩
    · rw [fwrAt_other hij, fwAt_other hij]; exact h.num i hi
  · rw [List.length_set] at hi
    rw [e1, e2]
    have hr := h.row i hi
    exact fwrows_carry hr fun k hk _ => Below.heap_setCell _ _ _ _ (fun e => h.off hr (by rw [hk, e]))
  · rw [List.length_set] at hi hk
    rw [e1, e1]
    exact h.apart i k x hi hk hne
theorem FwG.weight (h : FwG base (.slice (some ⟨g, 0, none⟩) l.length cap) rs l wr) (hj : j < l.length) (z : Int) :
    FwG base (.slice (some ⟨g, 0, none⟩) l.length cap) (rs.set j ⟨z, (fwrAt rs j).finish, (fwrAt rs j).hd⟩) (l.set j ⟨z, (fwAt l j).finish, (fwAt l j).sizes⟩) (wr.setCell ⟨g, j * 3, none⟩ (.int .i64 z)) := by
  have hl := h.len
  have e1 : ∀ i, (fwrAt (rs.set j ⟨z, (fwrAt rs j).finish, (fwrAt rs j).hd⟩) i).hd = (fwrAt rs i).hd := fun i => by
    by_cases hij : i = j
    · subst hij; rw [fwrAt_set (by omega)]
    · rw [fwrAt_other hij]
  have e2 : ∀ i, (fwAt (l.set j ⟨z, (fwAt l j).finish, (fwAt l j).sizes⟩) i).sizes = (fwAt l i).sizes := fun i => by
    by_cases hij : i = j
    · subst hij; rw [fwAt_set hj]
    · rw [fwAt_other hij]
  refine ⟨?_, by rw [List.length_set, List.length_set, hl], fun i hi => ?_, fun i hi => ?_, fun i k x hi hk hne => ?_⟩
  · have := h.outer.stored (j * 3) (.int .i64 z)
    rw [fwset0 rs j (by omega) z] at this
    rw [List.length_set]
    exact this.1
  · rw [List.length_set] at hi
    by_cases hij : i = j
    · subst hij; rw [fwrAt_set (by omega), fwAt_set hj]; exact ⟨rfl, (h.num i hj).2⟩
    · rw [fwrAt_other hij, fwAt_other hij]; exact h.num i hi
  · rw [List.length_set] at hi
    rw [e1, e2]
    have hr := h.row i hi
    exact fwrows_carry hr fun k hk _ => Below.heap_setCell _ _ _ _ (fun e => h.off hr (by rw [hk, e]))
  · rw [List.length_set] at hi hk
    rw [e1, e1]
    exact h.apart i k x hi hk hne
/-- The list of one is another: as the old one grew, or a new one. -/
theorem FwG.sizes (h : FwG base (.slice (some ⟨g, 0, none⟩) l.length cap) rs l wr) (hj : j < l.length) {sz : List Int} (hu : IRow base wx u sz)
    (g1 : ∀ k, k < wr.heap.size → (fwrAt rs j).hd.ownBlock ≠ some k → wx.heap[k]? = wr.heap[k]?)
    (hn : ∀ k, u.ownBlock = some k → (fwrAt rs j).hd.ownBlock = some k ∨ wr.heap.size ≤ k) :
    FwG base (.slice (some ⟨g, 0, none⟩) l.length cap) (rs.set j ⟨(fwrAt rs j).weight, (fwrAt rs j).finish, u⟩) (l.set j ⟨(fwAt l j).weight, (fwAt l j).finish, sz⟩) (wx.setCell ⟨g, j * 3 + 2, none⟩ u) := by
  have hl := h.len
  have ho : wx.ownsRow base 55 3 (.slice (some ⟨g, 0, none⟩) l.length cap) l.length (fwcells rs) := fwrows_carry h.outer fun k hk hlt => by
    cases hk
    exact g1 _ hlt (h.off (h.row j hj))
  have hu' : u.ownBlock ≠ some g := fwrows_unlike ho hu fwTypes g rfl
  refine ⟨?_, by rw [List.length_set, List.length_set, hl], fun i hi => ?_, fun i hi => ?_, fun i k x hi hk hne h1 h2 => ?_⟩
  · have := ho.stored (j * 3 + 2) u
    rw [fwset2 rs j (by omega) u] at this
    rw [List.length_set]
    exact this.1
  · rw [List.length_set] at hi
    by_cases hij : i = j
    · subst hij; rw [fwrAt_set (by omega), fwAt_set hj]; exact h.num i hj
    · rw [fwrAt_other hij, fwAt_other hij]; exact h.num i hi
  · rw [List.length_set] at hi
    by_cases hij : i = j
    · subst hij
      rw [fwrAt_set (by omega), fwAt_set hj]
      exact fwrows_carry hu fun k hk _ => Below.heap_setCell _ _ _ _ (fun e => hu' (by rw [hk, e]))
    · rw [fwrAt_other hij, fwAt_other hij]
      have hr := h.row i hi
      refine fwrows_carry hr fun k hk hlt => ?_
      rw [Below.heap_setCell _ _ _ _ (fun e => h.off hr (by rw [hk, e]))]
      exact g1 k hlt (fun q => h.apart j i k hj hi (fun e => hij e.symm) q hk)
  · rw [List.length_set] at hi hk
    by_cases hij : i = j
    · subst hij
      rw [fwrAt_set (by omega)] at h1
      rw [fwrAt_other (fun e => hne e.symm)] at h2
      rcases hn x h1 with q | q
      · exact h.apart i k x hi hk hne q h2
      · have := ((h.row k hk).lt x h2).2
        omega
    · rw [fwrAt_other hij] at h1
      by_cases hkj : k = j
      · subst hkj
        rw [fwrAt_set (by omega)] at h2
        rcases hn x h2 with q | q
        · exact h.apart i k x hi hk hne h1 q
        · have := ((h.row i hi).lt x h1).2
          omega
      · rw [fwrAt_other hkj] at h2
        exact h.apart i k x hi hk hne h1 h2
end
end Go.Proofs.Ytfkkmjejmflgjaa

/-
  Numbers behind a list of numbers, a flow behind flows: as steps of a walk in order. By the verifier.
-/
namespace Go.Proofs.Ytfkkmjejmflgjaa
open Go.RowKit

theorem fw_row_one {ops : Array Oper} {rest : List Oper} {o : Oper} {a : Act} {Q : Exit → Act → World → Prop} {w : World} (hgd : o.guard = none) (s x : Operand)
    (ho : o.op = .call { callee := .builtin .append, args := #[s, x], argTypes := #[35, 35] })
    (base : Nat) (v : Value) (k : Nat) (rs : List Fwr) (r : Fwr) (hu : r.hd.oneCell' = true) (hs : a.eval s = v) (hrow : w.ownsRow base 55 3 v k (fwcells rs)) {n : Nat} (hx : a.eval x = .slice (some ⟨n, 0, none⟩) 1 1) (hn : Boxed w n r.cells.toArray 55)
    (hlen : k ≤ 1048576) (hb : base ≤ w.heap.size)
    (h : ∀ v' w', w'.ownsRow base 55 3 v' (k + 1) (fwcells (rs ++ [r])) → Below base w w' → (∀ k, v.ownBlock ≠ some k → k < w.heap.size → w'.heap[k]? = w.heap[k]?) → wpList Try.prog ops Q rest (a.put o.dst v') w') : wpList Try.prog ops Q (o :: rest) a w :=
  wpList_plain hgd fun _ hK => fw_op_at s x ho base v k rs r hu hs hrow hx hn hlen hb (fun v' w' h1 h2 h3 => hK _ _ (h v' w' h1 h2 h3))
end Go.Proofs.Ytfkkmjejmflgjaa
