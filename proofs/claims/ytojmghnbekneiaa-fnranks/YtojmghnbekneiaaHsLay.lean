/-
  A list of records with a list (Host) that is laid one by one, each list a row of the call's own. By the verifier, by program.
-/
import Derived.Test.YtojmghnbekneiaaHsGrow
import Derived.Test.YtojmghnbekneiaaHsBlk
namespace Go.Proofs.Ytojmghnbekneiaa
open Go.RowKit

/-- So many of the records laid already, each one's list behind the records (block G). -/
structure HsL (ls : List Hs) (len G k : Nat) (rs : List Hsr) (wr : World) : Prop where
  outer : wr.ownsRow G 35 2 (.slice (some ⟨G, 0, none⟩) len len) len (hscells (rs ++ List.replicate (len - k) (Hsr.mk 0 (.slice none 0 0))))
  len : rs.length = k
  num : ∀ i, i < k → (hsrAt rs i).turn = (hsAt ls i).turn
  row : ∀ i, i < k → IRow (G + 1) wr (hsrAt rs i).hd (hsAt ls i).flows
  apart : ∀ i j x, i < k → j < k → i ≠ j → (hsrAt rs i).hd.ownBlock = some x → (hsrAt rs j).hd.ownBlock ≠ some x
section
variable {ls : List Hs} {len G k : Nat} {rs : List Hsr} {wr wd : World} {u : Value}
theorem HsL.below (h : HsL ls len G k rs wr) (gr : Below wr.heap.size wr wd) : HsL ls len G k rs wd :=
  ⟨hsrows_carry h.outer fun x _ hx => gr.block x hx, h.len, h.num, fun i hi => hsrows_carry (h.row i hi) fun x _ hx => gr.block x hx, h.apart⟩
theorem HsL.add (h : HsL ls len G k rs wr) (hk : k < len) (gr : Below wr.heap.size wr wd) (hu : IRow wr.heap.size wd u (hsAt ls k).flows) :
    HsL ls len G (k + 1) (rs ++ [⟨(hsAt ls k).turn, u⟩]) ((wd.setCell ⟨G, k * 2, none⟩ (.int .i64 (hsAt ls k).turn)).setCell ⟨G, k * 2 + 1, none⟩ u) := by
  have hb := h.below gr
  have hG : G < wr.heap.size := (World.ownsRow.lt h.outer G rfl).2
  have hl := h.len
  have oth : ∀ y, y ≠ G → ((wd.setCell ⟨G, k * 2, none⟩ (.int .i64 (hsAt ls k).turn)).setCell ⟨G, k * 2 + 1, none⟩ u).heap[y]? = wd.heap[y]? := fun y hy => by
    rw [Below.heap_setCell _ _ _ _ (by exact hy), Below.heap_setCell _ _ _ _ (by exact hy)]
  refine ⟨?_, by simp [hl], fun i hi => ?_, fun i hi => ?_, fun i j x hi hj hne h1 h2 => ?_⟩
  · have h0 := hb.outer
    have h0 := (h0.stored (k * 2) (.int .i64 (hsAt ls k).turn)).1
    have h0 := (h0.stored (k * 2 + 1) u).1
    have hs := hscells_set (rs ++ List.replicate (len - k) (Hsr.mk 0 (.slice none 0 0))) k ⟨(hsAt ls k).turn, u⟩
    simp only at hs
    rw [hs] at h0
    have e : (rs ++ List.replicate (len - k) (Hsr.mk 0 (.slice none 0 0))).set k ⟨(hsAt ls k).turn, u⟩ = (rs ++ [⟨(hsAt ls k).turn, u⟩]) ++ List.replicate (len - (k + 1)) (Hsr.mk 0 (.slice none 0 0)) := by
      obtain ⟨n, hn⟩ : ∃ n, len - k = n + 1 := ⟨len - k - 1, by omega⟩
      rw [hn, show len - (k + 1) = n by omega, List.replicate_succ, List.set_append_right _ _ (by omega), hl, Nat.sub_self, List.set_cons_zero]
      simp
    rw [e] at h0
    exact h0
  · by_cases e : i = k
    · subst e
      rw [← hl, hsrAt_new, hl]
      try exact ⟨rfl⟩
    · rw [hsrAt_old (by omega)]
      exact h.num i (by omega)
  · by_cases e : i = k
    · subst e
      rw [← hl, hsrAt_new, hl]
      exact IRow.mono (hsrows_carry hu fun y hy hlt => oth y (by have := (hu.lt y hy).1; omega)) (by omega)
    · rw [hsrAt_old (by omega)]
      refine hsrows_carry (hb.row i (by omega)) fun y hy _ => oth y ?_
      have := ((hb.row i (by omega)).lt y hy).1
      omega
  · have old : ∀ i, i < k → (hsrAt rs i).hd.ownBlock = some x → u.ownBlock ≠ some x := fun i hi a1 a2 => by
      have b1 := ((h.row i hi).lt x a1).2
      have b2 := (hu.lt x a2).1
      omega
    have new : hsrAt (rs ++ [⟨(hsAt ls k).turn, u⟩]) k = ⟨(hsAt ls k).turn, u⟩ := by rw [← hl, hsrAt_new]
    by_cases ei : i = k
    · subst ei
      rw [new] at h1
      rw [hsrAt_old (by omega)] at h2
      exact old j (by omega) h2 h1
    · rw [hsrAt_old (by omega)] at h1
      by_cases ej : j = k
      · subst ej
        rw [new] at h2
        exact old i (by omega) h1 h2
      · rw [hsrAt_old (by omega)] at h2
        exact h.apart i j x (by omega) (by omega) hne h1 h2
theorem HsL.grow (h : HsL ls len G len rs wr) (hl : ls.length = len) : HsG G (.slice (some ⟨G, 0, none⟩) len len) rs ls wr := by
  subst hl
  have ho := h.outer
  rw [Nat.sub_self, List.replicate_zero, List.append_nil] at ho
  exact ⟨ho, h.len, h.num, fun i hi => IRow.mono (h.row i hi) (by omega), h.apart⟩
/-- Laid anew, none yet. -/
theorem HsL.new (ls : List Hs) (len : Nat) (w : World) (hT : len ≤ 1048576) : HsL ls len w.heap.size 0 [] (w.alloc (.cells (madeCells #[.int .i64 0, .slice none 0 0] (len * 2)) 35)) := by
  have := World.ownsRow_lit (size := 2) (e := 35) (base := w.heap.size) w (madeCells #[.int .i64 0, .slice none 0 0] (len * 2)) len (Nat.le_refl _) (by unfold maxLen; omega) (by rw [size_madeCells])
  rw [hsMade] at this
  exact ⟨by simpa using this, rfl, fun i hi => by omega, fun i hi => by omega, fun i j x hi => by omega⟩
/-- The cells of the next one are there. -/
theorem HsL.cell (h : HsL ls len G k rs wr) (hk : k < len) {j : Nat} (hj : j < 2) : (∃ y, wr.cell? ⟨G, k * 2 + j, none⟩ = some y) ∧ wr.frozen? ⟨G, k * 2 + j, none⟩ = false := by
  have hcl := hscells_length (rs ++ List.replicate (len - k) (Hsr.mk 0 (.slice none 0 0)))
  have hlr := h.len
  simp only [List.length_append, List.length_replicate] at hcl
  refine ⟨?_, h.outer.frozenAt (k * 2 + j)⟩
  rw [h.outer.cellAt (k * 2 + j) (by omega)]
  exact ⟨_, List.getElem?_eq_getElem (by omega)⟩
end
end Go.Proofs.Ytojmghnbekneiaa
