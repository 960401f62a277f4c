/-
  What stays when the cursor draws, and when what stands beside it. By the verifier.
-/
import Derived.Test.YtllmkolchgmjoaaDraw
import Derived.Test.YtllmkolchgmjoaaBoxed
import Derived.Test.YtllmkolchgmjoaaFrPlain
namespace Go.Proofs.Ytllmkolchgmjoaa
open Go.RowKit

theorem Cur.ne {W : World} {bc : Nat} {a : Option Addr} {len cap : Nat} {w : World} (c : Cur W bc a len cap w) : w.heap.size ≠ bc := by
  have hl := c.sl
  rintro rfl
  simp [World.cell?] at hl
theorem Cur.lt {W : World} {bc : Nat} {a : Option Addr} {len cap : Nat} {w : World} (c : Cur W bc a len cap w) : bc < w.heap.size := by
  have hl := c.sl
  apply Classical.byContradiction
  intro hn
  simp [World.cell?, Array.getElem?_eq_none (Nat.le_of_not_lt hn)] at hl
/-- A table that was laid ahead of a draw is read behind it. -/
theorem tab {bc : Nat} {w w2 : World} (zs : List Int) (cs : Array Value) (t : TypeId) (h : cs = (zs.map (Value.int .i64)).toArray) (hne : w.heap.size ≠ bc) (k : Keep bc (w.alloc (.cells cs t)) w2) (j : Nat) (hj : j < zs.length) :
    w2.cell? ⟨w.heap.size, j, none⟩ = some (.int .i64 (zs[j]?.getD 0)) := by
  rw [k.cell hne (by simp)]
  obtain ⟨b, off, e, _, hc⟩ := ints_new w t zs cs w.heap.size rfl h j hj
  cases e
  simpa using hc
theorem tab_in (zs : List Int) (lo hi : Int) (h : zs.all (inB lo hi) = true) (j : Nat) (hj : j < zs.length) : lo ≤ zs[j]?.getD 0 ∧ zs[j]?.getD 0 ≤ hi := by
  rw [List.all_eq_true] at h
  rw [List.getElem?_eq_getElem hj]
  exact inB_true.1 (h _ (List.getElem_mem hj))

/-- The cursor stays when a list behind it grows. -/
theorem Cur.below {W : World} {bc : Nat} {a : Option Addr} {len cap : Nat} {w w' : World} (c : Cur W bc a len cap w) {b : Nat} (hb : bc < b) (g : Below b w w') : Cur W bc a len cap w' := by
  have e : ∀ off, w'.cell? ⟨bc, off, none⟩ = w.cell? ⟨bc, off, none⟩ := fun off => World.cell?_of_block (w := w) (g.block bc hb)
  have f : ∀ off, w'.frozen? ⟨bc, off, none⟩ = w.frozen? ⟨bc, off, none⟩ := fun off => World.frozen?_of_block (w := w) (g.block bc hb)
  exact ⟨c.lo, by rw [e]; exact c.sl, by rw [e]; exact c.ix, by rw [e]; exact c.hh, by rw [f]; exact c.f1, by rw [f]; exact c.f2, c.bel.trans (g.mono (by have := c.lo; omega))⟩

theorem Boxed.keep {bc B : Nat} {w w' : World} {cs : Array Value} {t : TypeId} (h : Boxed w B cs t) (hne : B ≠ bc) (k : Keep bc w w') : Boxed w' B cs t := by
  unfold Boxed; rw [k.block B hne h.under]; exact h
/-- The cursor stays where another block of the call's own is turned. -/
theorem Cur.other {W : World} {bc B : Nat} {a : Option Addr} {len cap : Nat} {w w' : World} (c : Cur W bc a len cap w) (hne : B ≠ bc) (ho : ∀ k, k ≠ B → w'.heap[k]? = w.heap[k]?) (g : Below W.heap.size w w') : Cur W bc a len cap w' := by
  have e : ∀ off, w'.cell? ⟨bc, off, none⟩ = w.cell? ⟨bc, off, none⟩ := fun off => World.cell?_of_block (w := w) (ho bc (fun e => hne e.symm))
  have f : ∀ off, w'.frozen? ⟨bc, off, none⟩ = w.frozen? ⟨bc, off, none⟩ := fun off => World.frozen?_of_block (w := w) (ho bc (fun e => hne e.symm))
  refine ⟨c.lo, by rw [e]; exact c.sl, by rw [e]; exact c.ix, by rw [e]; exact c.hh, by rw [f]; exact c.f1, by rw [f]; exact c.f2, c.bel.trans g⟩
end Go.Proofs.Ytllmkolchgmjoaa
