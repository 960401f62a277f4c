/-
  A record of a number and a list (Fairness) as plain data: cells that hold it, memory of the call's own. By the verifier, by program.
-/
import Derived.Test.YtllmkolchgmjoaaFwPlain
namespace Go.Proofs.Ytllmkolchgmjoaa
open Go.RowKit

structure Fs where
  now : Int
  flows : List Fw
/-- As a value. -/
def Fs.val (r : Fs) (a : Option Addr) (c : Nat) : Value := .agg #[.int .i64 r.now, .slice a r.flows.length c]
/-- A value that holds it. -/
def FsAt (w : World) (v : Value) (r : Fs) : Prop := ∃ a c, v = r.val a c ∧ FwsAt w a r.flows
/-- A value that holds it in memory from b up to t. -/
def FsIn (b t : Nat) (w : World) (v : Value) (r : Fs) : Prop := ∃ a c, v = r.val a c ∧ FwsIn b t w (.slice a r.flows.length c) r.flows
/-- How much it is. -/
def Fs.big (r : Fs) : Nat := r.flows.length + fwSum r.flows r.flows.length
section
variable {b t : Nat} {w w' : World} {v : Value} {r : Fs}
theorem FsIn.at (h : FsIn b t w v r) : FsAt w v r := by
  obtain ⟨a, c, e, h⟩ := h
  exact ⟨a, c, e, h.at⟩
theorem FsAt.below (h : FsAt w v r) (g : Below w.heap.size w w') : FsAt w' v r := by
  obtain ⟨a, c, e, h⟩ := h
  exact ⟨a, c, e, h.below g⟩
theorem FsIn.below (h : FsIn b t w v r) (g : Below w.heap.size w w') : FsIn b t w' v r := by
  obtain ⟨a, c, e, h⟩ := h
  exact ⟨a, c, e, h.below g⟩
theorem FsIn.keep (h : FsIn b t w v r) (hs : w.heap.size ≤ w'.heap.size) (hk : ∀ k, b ≤ k → k < t → w'.heap[k]? = w.heap[k]?) : FsIn b t w' v r := by
  obtain ⟨a, c, e, h⟩ := h
  exact ⟨a, c, e, h.keep hs hk⟩
theorem FsIn.wide {b' t' : Nat} (h : FsIn b t w v r) (hb : b' ≤ b) (ht : t ≤ t') (hs : t' ≤ w.heap.size) : FsIn b' t' w v r := by
  obtain ⟨a, c, e, h⟩ := h
  exact ⟨a, c, e, h.wide hb ht hs⟩
end
theorem Fs.small {r : Fs} (h : r.big ≤ 1048576) : r.flows.length ≤ 1048576 ∧ fwSum r.flows r.flows.length ≤ 1048576 ∧ ∀ k, k < r.flows.length → (fwAt r.flows k).sizes.length ≤ 1048576 := by
  unfold Fs.big at h
  refine ⟨by omega, by omega, fun k hk => ?_⟩
  have := fwSum_one hk
  omega
end Go.Proofs.Ytllmkolchgmjoaa
