/-
  A flow put whole among flows of the call's own, its list a new one. By the verifier.
-/
import Derived.Test.YtllmkolchgmjoaaM3FwStep
namespace Go.Proofs.Ytllmkolchgmjoaa
open Go.RowKit

theorem FwG.flow {base g cap : Nat} {u : Value} {rs : List Fwr} {l : List Fw} {wr W : World} {j : Nat} (h : FwG base (.slice (some ⟨g, 0, none⟩) l.length cap) rs l wr) (hj : j < l.length) (gr : Below wr.heap.size wr W) {r : Fw} (hu : IRow wr.heap.size W u r.sizes) (hb : base ≤ wr.heap.size) :
    FwG base (.slice (some ⟨g, 0, none⟩) l.length cap) (rs.set j ⟨r.weight, r.finish, u⟩) (l.set j r) (((W.setCell ⟨g, j * 3, none⟩ (.int .i64 r.weight)).setCell ⟨g, j * 3 + 1, none⟩ (.int .i64 r.finish)).setCell ⟨g, j * 3 + 2, none⟩ u) := by
  have hW := h.below gr
  have hl := h.len
  have hg : g < wr.heap.size := (World.ownsRow.lt h.outer g rfl).2
  have oth : ∀ y, y ≠ g → (((W.setCell ⟨g, j * 3, none⟩ (.int .i64 r.weight)).setCell ⟨g, j * 3 + 1, none⟩ (.int .i64 r.finish)).setCell ⟨g, j * 3 + 2, none⟩ u).heap[y]? = W.heap[y]? := fun y hy => by
    rw [Below.heap_setCell _ _ _ _ (by exact hy), Below.heap_setCell _ _ _ _ (by exact hy), Below.heap_setCell _ _ _ _ (by exact hy)]
  have new : fwrAt (rs.set j ⟨r.weight, r.finish, u⟩) j = ⟨r.weight, r.finish, u⟩ := fwrAt_set (by omega)
  refine ⟨?_, by simp [hl], fun i hi => ?_, fun i hi => ?_, fun i k x hi hk hne h1 h2 => ?_⟩
  · have h0 := hW.outer
    have h0 := (h0.stored (j * 3) (.int .i64 r.weight)).1
    have h0 := (h0.stored (j * 3 + 1) (.int .i64 r.finish)).1
    have h0 := (h0.stored (j * 3 + 2) u).1
    have hs := fwcells_set rs j ⟨r.weight, r.finish, u⟩
    simp only at hs
    rw [hs] at h0
    rw [List.length_set]
    exact h0
  · rw [List.length_set] at hi
    by_cases hij : i = j
    · subst hij; rw [new, fwAt_set hj]; exact ⟨rfl, rfl⟩
    · rw [fwrAt_other hij, fwAt_other hij]; exact h.num i hi
  · rw [List.length_set] at hi
    by_cases hij : i = j
    · subst hij
      rw [new, fwAt_set hj]
      exact IRow.mono (fwrows_carry hu fun y hy _ => oth y (by have := (hu.lt y hy).1; omega)) hb
    · rw [fwrAt_other hij, fwAt_other hij]
      have hr := hW.row i hi
      exact fwrows_carry hr fun y hy _ => oth y fun e => hW.off hr (by rw [hy, e])
  · rw [List.length_set] at hi hk
    have old : ∀ i, i < l.length → (fwrAt rs i).hd.ownBlock = some x → u.ownBlock ≠ some x := fun i hi a1 a2 => by
      have b1 := ((h.row i hi).lt x a1).2
      have b2 := (hu.lt x a2).1
      omega
    by_cases ei : i = j
    · subst ei
      rw [new] at h1
      rw [fwrAt_other (fun e => hne e.symm)] at h2
      exact old k hk h2 h1
    · rw [fwrAt_other ei] at h1
      by_cases ek : k = j
      · subst ek
        rw [new] at h2
        exact old i hi h1 h2
      · rw [fwrAt_other ek] at h2
        exact h.apart i k x hi hk hne h1 h2
end Go.Proofs.Ytllmkolchgmjoaa
