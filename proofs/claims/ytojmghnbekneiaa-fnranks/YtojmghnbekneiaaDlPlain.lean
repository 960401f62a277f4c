/-
  A record of a number and a list (Deal) as plain data: cells that hold it, memory of the call's own. By the verifier, by program.
-/
import Derived.Test.YtojmghnbekneiaaHsPlain
namespace Go.Proofs.Ytojmghnbekneiaa
open Go.RowKit

structure Dl where
  turn : Int
  hosts : List Hs
/-- As a value. -/
def Dl.val (r : Dl) (a : Option Addr) (c : Nat) : Value := .agg #[.int .i64 r.turn, .slice a r.hosts.length c]
/-- A value that holds it. -/
def DlAt (w : World) (v : Value) (r : Dl) : Prop := ∃ a c, v = r.val a c ∧ HssAt w a r.hosts
/-- A value that holds it in memory from b up to t. -/
def DlIn (b t : Nat) (w : World) (v : Value) (r : Dl) : Prop := ∃ a c, v = r.val a c ∧ HssIn b t w (.slice a r.hosts.length c) r.hosts
/-- How much it is. -/
def Dl.big (r : Dl) : Nat := r.hosts.length + hsSum r.hosts r.hosts.length
section
variable {b t : Nat} {w w' : World} {v : Value} {r : Dl}
theorem DlIn.at (h : DlIn b t w v r) : DlAt w v r := by
  obtain ⟨a, c, e, h⟩ := h
  exact ⟨a, c, e, h.at⟩
theorem DlAt.below (h : DlAt w v r) (g : Below w.heap.size w w') : DlAt w' v r := by
  obtain ⟨a, c, e, h⟩ := h
  exact ⟨a, c, e, h.below g⟩
theorem DlIn.below (h : DlIn b t w v r) (g : Below w.heap.size w w') : DlIn b t w' v r := by
  obtain ⟨a, c, e, h⟩ := h
  exact ⟨a, c, e, h.below g⟩
theorem DlIn.keep (h : DlIn b t w v r) (hs : w.heap.size ≤ w'.heap.size) (hk : ∀ k, b ≤ k → k < t → w'.heap[k]? = w.heap[k]?) : DlIn b t w' v r := by
  obtain ⟨a, c, e, h⟩ := h
  exact ⟨a, c, e, h.keep hs hk⟩
theorem DlIn.wide {b' t' : Nat} (h : DlIn b t w v r) (hb : b' ≤ b) (ht : t ≤ t') (hs : t' ≤ w.heap.size) : DlIn b' t' w v r := by
  obtain ⟨a, c, e, h⟩ := h
  exact ⟨a, c, e, h.wide hb ht hs⟩
end
theorem Dl.small {r : Dl} (h : r.big ≤ 1048576) : r.hosts.length ≤ 1048576 ∧ hsSum r.hosts r.hosts.length ≤ 1048576 ∧ ∀ k, k < r.hosts.length → (hsAt r.hosts k).flows.length ≤ 1048576 := by
  unfold Dl.big at h
  refine ⟨by omega, by omega, fun k hk => ?_⟩
  have := hsSum_one hk
  omega
end Go.Proofs.Ytojmghnbekneiaa
