/-
  A struct's block as one fact: a field put, all fields put. By the verifier.
-/
import Derived.Test.YteegbmgkjmpkhaaFrHead
import Derived.Laws.Rows
import Derived.Laws.Tables
namespace Go.Proofs.Yteegbmgkjmpkhaa
open Go.RowKit

theorem heapLt {w : World} {k : Nat} {o : Obj} (h : w.heap[k]? = some o) : k < w.heap.size := (Array.getElem?_eq_some_iff.1 h).1
theorem Boxed.under {w : World} {k : Nat} {cs : Array Value} {t : TypeId} (x : Boxed w k cs t) : k < w.heap.size := heapLt x
theorem Boxed.put {w : World} {k : Nat} {cs : Array Value} {t : TypeId} (x : Boxed w k cs t) (j : Nat) (v : Value) : Boxed (w.setCell ⟨k, j, none⟩ v) k (cs.setIfInBounds j v) t := by
  unfold Boxed at *
  simp only [World.setCell, Array.getElem?_modify, if_true, x, Option.map_some]
  rfl
theorem Boxed.far {w : World} {k b : Nat} {cs : Array Value} {t : TypeId} (x : Boxed w k cs t) (h : k ≠ b) (j : Nat) (v : Value) : Boxed (w.setCell ⟨b, j, none⟩ v) k cs t := by
  unfold Boxed at *
  rw [Below.heap_setCell _ _ _ _ h]; exact x
theorem Boxed.ice {w : World} {B : Nat} {cs : Array Value} {t : TypeId} (h : Boxed w B cs t) (j : Nat) : w.frozen? ⟨B, j, none⟩ = false := by
  unfold Boxed at h
  simp [World.frozen?, h]
theorem Boxed.more {w : World} {B : Nat} {cs : Array Value} {t : TypeId} (h : Boxed w B cs t) (o : Obj) : Boxed (w.alloc o) B cs t := by
  unfold Boxed at *
  rw [Below.heap_alloc _ _ _ (heapLt h)]; exact h
/-- A frame's eleven cells are one cell each. -/
theorem frameOne (b c d e f g h i j : Int) (s : Option Addr) (l cap : Nat) (x : ByteArray) : (#[Value.int .i64 b, .int .i64 c, .slice s l cap, .int .i64 d, .int .i64 e, .int .i64 f, .int .i64 g, .int .i64 h, .int .i64 i, .int .i64 j, .string x] : Array Value).all (·.oneCell') = true := by
  simp [Value.oneCell']
end Go.Proofs.Yteegbmgkjmpkhaa
