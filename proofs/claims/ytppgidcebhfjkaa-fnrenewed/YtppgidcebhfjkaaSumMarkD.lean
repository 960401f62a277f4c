/-
  Marking as plain data. By the verifier.
-/
import Derived.Test.YtppgidcebhfjkaaSumOf
import Derived.Test.YtppgidcebhfjkaaFrClone
import Derived.Deep.RegionWith
import Derived.Laws.CopyOwn
namespace Go.Proofs.Ytppgidcebhfjkaa
open Go.RowKit

def Fr.withMark (f : Fr) (m : Int) : Fr := { f with mark := m }
theorem Fr.withMark_ok {f : Fr} {m : Int} (h : f.ok = true) (hm : inB 0 3 m = true) : (f.withMark m).ok = true := by
  rw [Fr.ok_true] at *
  obtain ⟨h1, h2, h3, h4, h5, h6, h7, h8, h9, h10, h11, h12⟩ := h
  exact ⟨h1, h2, h3, h4, h5, h6, h7, h8, inB_true.1 hm, h10, h11, h12⟩
theorem Fr.ok_tags {f : Fr} (h : f.ok = true) : f.tags.length ≤ 2 ∧ f.body.size ≤ 1500 := ⟨(Fr.ok_true.1 h).2.2.1, (Fr.ok_true.1 h).2.2.2.2.2.2.2.2.2.2.1⟩
/-- Marked anew. -/
def Fr.marked (f : Fr) (m : Int) : Fr := { f with mark := m, sum := (f.withMark m).sumOf }
/-- Can it be marked so? -/
def good (f : Fr) (m : Int) : Bool := f.ok && inB 0 3 m && decide (f.sum = f.sumOf)
/-- Marked, whatever it is asked of. -/
def markedOr (f : Fr) (m : Int) : Fr × Bool := if good f m then (f.marked m, true) else (noFr, false)
theorem markedOr_no {f : Fr} {m : Int} (h : good f m = false) : markedOr f m = (noFr, false) := by unfold markedOr; rw [h]; rfl
theorem markedOr_yes {f : Fr} {m : Int} (h : good f m = true) : markedOr f m = (f.marked m, true) := by unfold markedOr; rw [h]; rfl
/-- What a call leaves. -/
def MPost (R : Fr × Bool) (w : World) (e : Ending) (w' : World) : Prop :=
  ∃ a' cap', e = .returned (.tuple #[R.1.val a' cap', .bool R.2]) ∧ IRow w.heap.size w' (.slice a' R.1.tags.length cap') R.1.tags ∧ Below w.heap.size w w'
theorem mEnd {fn : Func} (hres : fn.results = #[.cell 4 29, .tmp 5]) {w : World} {B : Nat} {cs : Array Value} {code : Value} {tmps : Array Value} (hg : w.heap[B]? = some (.cells cs 29 (0, 0))) (h2 : tmps.getD 4 undef = .pointer (some ⟨B, 0, none⟩)) (h3 : tmps.getD 5 undef = code) (hi : (Try.prog.info? 29).map (·.size) = some cs.size) :
    (results fn tmps).run Try.prog w = .ok (.tuple #[.agg cs, code]) w := by
  rw [results_cell_tmp hres, h2, h3]
  simp [asAddr, run_loadVar_row w B _ 29 cs (0, 0) _ hg Try.underlying29 rfl hi, Result.andThen]
end Go.Proofs.Ytppgidcebhfjkaa
