/-
  A record of a number and a list (Wheel) as plain data: cells that hold it, memory of the call's own. By the verifier, by program.
-/
import Derived.Test.YtgimalimfmoilaaM0DzPlain
namespace Go.Proofs.Ytgimalimfmoilaa
open Go.RowKit

structure Wh where
  step : Int
  slots : List (List Du)
/-- As a value. -/
def Wh.val (r : Wh) (a : Option Addr) (c : Nat) : Value := .agg #[.int .i64 r.step, .slice a r.slots.length c]
/-- A value that holds it. -/
def WhAt (w : World) (v : Value) (r : Wh) : Prop := ∃ a c, v = r.val a c ∧ DzAt w a r.slots
/-- A value that holds it in memory from b up to t. -/
def WhIn (b t : Nat) (w : World) (v : Value) (r : Wh) : Prop := ∃ a c, v = r.val a c ∧ DzIn b t w (.slice a r.slots.length c) r.slots
/-- How much it is. -/
def Wh.big (r : Wh) : Nat := r.slots.length + dzSum r.slots r.slots.length
section
variable {b t : Nat} {w w' : World} {v : Value} {r : Wh}
theorem WhIn.at (h : WhIn b t w v r) : WhAt w v r := by
  obtain ⟨a, c, e, h⟩ := h
  exact ⟨a, c, e, h.at⟩
theorem WhAt.below (h : WhAt w v r) (g : Below w.heap.size w w') : WhAt w' v r := by
  obtain ⟨a, c, e, h⟩ := h
  exact ⟨a, c, e, h.below g⟩
theorem WhIn.below (h : WhIn b t w v r) (g : Below w.heap.size w w') : WhIn b t w' v r := by
  obtain ⟨a, c, e, h⟩ := h
  exact ⟨a, c, e, h.below g⟩
theorem WhIn.keep (h : WhIn b t w v r) (hs : w.heap.size ≤ w'.heap.size) (hk : ∀ k, b ≤ k → k < t → w'.heap[k]? = w.heap[k]?) : WhIn b t w' v r := by
  obtain ⟨a, c, e, h⟩ := h
  exact ⟨a, c, e, h.keep hs hk⟩
theorem WhIn.wide {b' t' : Nat} (h : WhIn b t w v r) (hb : b' ≤ b) (ht : t ≤ t') (hs : t' ≤ w.heap.size) : WhIn b' t' w v r := by
  obtain ⟨a, c, e, h⟩ := h
  exact ⟨a, c, e, h.wide hb ht hs⟩
end
theorem Wh.small {r : Wh} (h : r.big ≤ 1048576) : r.slots.length ≤ 1048576 ∧ dzSum r.slots r.slots.length ≤ 1048576 ∧ ∀ k, k < r.slots.length → (dzAt r.slots k).length ≤ 1048576 := by
  unfold Wh.big at h
  refine ⟨by omega, by omega, fun k hk => ?_⟩
  have := dzSum_one hk
  omega
end Go.Proofs.Ytgimalimfmoilaa
