/-
  A list of numbers made: make([]int64, n). By the verifier.
-/
import Derived.Test.YtllmkolchgmjoaaM0IntLie
import Derived.Laws.MakeOwn
namespace Go.Proofs.Ytllmkolchgmjoaa
open Go.RowKit

theorem mkInts_cells (m : Nat) : (madeCells #[Value.int .i64 0] (m * 1)).toList = (List.replicate m (0 : Int)).map (Value.int .i64) := by
  apply List.ext_getElem?
  intro i
  by_cases hi : i < m
  · simp [madeCells, hi, Nat.mod_one]
  · rw [List.getElem?_eq_none (by simp [madeCells]; omega), List.getElem?_eq_none (by simp; omega)]
theorem mkInts_run (n : Nat) (hn : n ≤ 1048576) (wx : World) : (Instr.makeSlice 34 (.int .i64 (n : Int)) (.int .i64 (n : Int))).run Try.prog wx = .ok (.slice (some ⟨wx.heap.size, 0, none⟩) n n) (wx.alloc (.cells (madeCells #[.int .i64 0] (n * 1)) 2)) := by
  obtain ⟨i0, hi, hz0, hz1, hz2⟩ := info_parts info2'
  have := run_make (P := Try.prog) wx 34 2 i0 (.int .i64 0) Try.underlying34 hi hz0 .i64 .i64 n n (by omega) (by omega) (by rw [hz2]; omega) (by omega)
  rw [this, hz1]; simp [Value.cells]
theorem mkInts_row (w : World) (n : Nat) (hn : n ≤ 1048576) : IRow w.heap.size (w.alloc (.cells (madeCells #[.int .i64 0] (n * 1)) 2)) (.slice (some ⟨w.heap.size, 0, none⟩) n n) (List.replicate n 0) := by
  have := World.ownsRow_lit (size := 1) (e := 2) (base := w.heap.size) w (madeCells #[.int .i64 0] (n * 1)) n (Nat.le_refl _) (by unfold maxLen; omega) (by rw [size_madeCells])
  rw [mkInts_cells] at this
  unfold IRow
  rw [List.length_replicate]
  exact this
end Go.Proofs.Ytllmkolchgmjoaa
