/-
  A list of records with a list (Flow) that is laid one by one, each list a row of the call's own. By the verifier, by program.
-/
import Derived.Test.YtllmkolchgmjoaaFwGrow
import Derived.Test.YtllmkolchgmjoaaFwBlk
namespace Go.Proofs.Ytllmkolchgmjoaa
open Go.RowKit

/-- So many of the records laid already, each one's list behind the records (block G). -/
structure FwL (ls : List Fw) (len G k : Nat) (rs : List Fwr) (wr : World) : Prop where
  outer : wr.ownsRow G 36 3 (.slice (some ⟨G, 0, none⟩) len len) len (fwcells (rs ++ List.replicate (len - k) (Fwr.mk 0 0 (.slice none 0 0))))
  len : rs.length = k
  num : ∀ i, i < k → (fwrAt rs i).weight = (fwAt ls i).weight ∧ (fwrAt rs i).finish = (fwAt ls i).finish
  row : ∀ i, i < k → IRow (G + 1) wr (fwrAt rs i).hd (fwAt ls i).sizes
  apart : ∀ i j x, i < k → j < k → i ≠ j → (fwrAt rs i).hd.ownBlock = some x → (fwrAt rs j).hd.ownBlock ≠ some x
section
variable {ls : List Fw} {len G k : Nat} {rs : List Fwr} {wr wd : World} {u : Value}
theorem FwL.below (h : FwL ls len G k rs wr) (gr : Below wr.heap.size wr wd) : FwL ls len G k rs wd :=
  ⟨fwrows_carry h.outer fun x _ hx => gr.block x hx, h.len, h.num, fun i hi => fwrows_carry (h.row i hi) fun x _ hx => gr.block x hx, h.apart⟩
theorem FwL.add (h : FwL ls len G k rs wr) (hk : k < len) (gr : Below wr.heap.size wr wd) (hu : IRow wr.heap.size wd u (fwAt ls k).sizes) :
    FwL ls len G (k + 1) (rs ++ [⟨(fwAt ls k).weight, (fwAt ls k).finish, u⟩]) (((wd.setCell ⟨G, k * 3, none⟩ (.int .i64 (fwAt ls k).weight)).setCell ⟨G, k * 3 + 1, none⟩ (.int .i64 (fwAt ls k).finish)).setCell ⟨G, k * 3 + 2, none⟩ u) := by
  have hb := h.below gr
  have hG : G < wr.heap.size := (World.ownsRow.lt h.outer G rfl).2
  have hl := h.len
  have oth : ∀ y, y ≠ G → (((wd.setCell ⟨G, k * 3, none⟩ (.int .i64 (fwAt ls k).weight)).setCell ⟨G, k * 3 + 1, none⟩ (.int .i64 (fwAt ls k).finish)).setCell ⟨G, k * 3 + 2, none⟩ u).heap[y]? = wd.heap[y]? := fun y hy => by
    rw [Below.heap_setCell _ _ _ _ (by exact hy), Below.heap_setCell _ _ _ _ (by exact hy), Below.heap_setCell _ _ _ _ (by exact hy)]
  refine ⟨?_, by simp [hl], fun i hi => ?_, fun i hi => ?_, fun i j x hi hj hne h1 h2 => ?_⟩
  · have h0 := hb.outer
    have h0 := (h0.stored (k * 3) (.int .i64 (fwAt ls k).weight)).1
    have h0 := (h0.stored (k * 3 + 1) (.int .i64 (fwAt ls k).finish)).1
    have h0 := (h0.stored (k * 3 + 2) u).1
    have hs := fwcells_set (rs ++ List.replicate (len - k) (Fwr.mk 0 0 (.slice none 0 0))) k ⟨(fwAt ls k).weight, (fwAt ls k).finish, u⟩
    simp only at hs
    rw [hs] at h0
    have e : (rs ++ List.replicate (len - k) (Fwr.mk 0 0 (.slice none 0 0))).set k ⟨(fwAt ls k).weight, (fwAt ls k).finish, u⟩ = (rs ++ [⟨(fwAt ls k).weight, (fwAt ls k).finish, u⟩]) ++ List.replicate (len - (k + 1)) (Fwr.mk 0 0 (.slice none 0 0)) := by
      obtain ⟨n, hn⟩ : ∃ n, len - k = n + 1 := ⟨len - k - 1, by omega⟩
      rw [hn, show len - (k + 1) = n by omega, List.replicate_succ, List.set_append_right _ _ (by omega), hl, Nat.sub_self, List.set_cons_zero]
      simp
    rw [e] at h0
    exact h0
  · by_cases e : i = k
    · subst e
      rw [← hl, fwrAt_new, hl]
      try exact ⟨rfl, rfl⟩
    · rw [fwrAt_old (by omega)]
      exact h.num i (by omega)
  · by_cases e : i = k
    · subst e
      rw [← hl, fwrAt_new, hl]
      exact IRow.mono (fwrows_carry hu fun y hy hlt => oth y (by have := (hu.lt y hy).1; omega)) (by omega)
    · rw [fwrAt_old (by omega)]
      refine fwrows_carry (hb.row i (by omega)) fun y hy _ => oth y ?_
      have := ((hb.row i (by omega)).lt y hy).1
      omega
  · have old : ∀ i, i < k → (fwrAt rs i).hd.ownBlock = some x → u.ownBlock ≠ some x := fun i hi a1 a2 => by
      have b1 := ((h.row i hi).lt x a1).2
      have b2 := (hu.lt x a2).1
      omega
    have new : fwrAt (rs ++ [⟨(fwAt ls k).weight, (fwAt ls k).finish, u⟩]) k = ⟨(fwAt ls k).weight, (fwAt ls k).finish, u⟩ := by rw [← hl, fwrAt_new]
    by_cases ei : i = k
    · subst ei
      rw [new] at h1
      rw [fwrAt_old (by omega)] at h2
      exact old j (by omega) h2 h1
    · rw [fwrAt_old (by omega)] at h1
      by_cases ej : j = k
      · subst ej
        rw [new] at h2
        exact old i (by omega) h1 h2
      · rw [fwrAt_old (by omega)] at h2
        exact h.apart i j x (by omega) (by omega) hne h1 h2
theorem FwL.grow (h : FwL ls len G len rs wr) (hl : ls.length = len) : FwG G (.slice (some ⟨G, 0, none⟩) len len) rs ls wr := by
  subst hl
  have ho := h.outer
  rw [Nat.sub_self, List.replicate_zero, List.append_nil] at ho
  exact ⟨ho, h.len, h.num, fun i hi => IRow.mono (h.row i hi) (by omega), h.apart⟩
/-- Laid anew, none yet. -/
theorem FwL.new (ls : List Fw) (len : Nat) (w : World) (hT : len ≤ 1048576) : FwL ls len w.heap.size 0 [] (w.alloc (.cells (madeCells #[.int .i64 0, .int .i64 0, .slice none 0 0] (len * 3)) 36)) := by
  have := World.ownsRow_lit (size := 3) (e := 36) (base := w.heap.size) w (madeCells #[.int .i64 0, .int .i64 0, .slice none 0 0] (len * 3)) len (Nat.le_refl _) (by unfold maxLen; omega) (by rw [size_madeCells])
  rw [fwMade] at this
  exact ⟨by simpa using this, rfl, fun i hi => by omega, fun i hi => by omega, fun i j x hi => by omega⟩
/-- The cells of the next one are there. -/
theorem FwL.cell (h : FwL ls len G k rs wr) (hk : k < len) {j : Nat} (hj : j < 3) : (∃ y, wr.cell? ⟨G, k * 3 + j, none⟩ = some y) ∧ wr.frozen? ⟨G, k * 3 + j, none⟩ = false := by
  have hcl := fwcells_length (rs ++ List.replicate (len - k) (Fwr.mk 0 0 (.slice none 0 0)))
  have hlr := h.len
  simp only [List.length_append, List.length_replicate] at hcl
  refine ⟨?_, h.outer.frozenAt (k * 3 + j)⟩
  rw [h.outer.cellAt (k * 3 + j) (by omega)]
  exact ⟨_, List.getElem?_eq_getElem (by omega)⟩
end
end Go.Proofs.Ytllmkolchgmjoaa
