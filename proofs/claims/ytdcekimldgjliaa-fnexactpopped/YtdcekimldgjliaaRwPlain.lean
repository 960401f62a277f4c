/-
  A record of a number and a list (Rows) as plain data: cells that hold it, memory of the call's own. By the verifier, by program.
-/
import Derived.Test.YtdcekimldgjliaaM0IzPlain
namespace Go.Proofs.Ytdcekimldgjliaa
open Go.RowKit

structure Rw where
  most : Int
  lists : List (List It)
/-- As a value. -/
def Rw.val (r : Rw) (a : Option Addr) (c : Nat) : Value := .agg #[.int .i64 r.most, .slice a r.lists.length c]
/-- A value that holds it. -/
def RwAt (w : World) (v : Value) (r : Rw) : Prop := ∃ a c, v = r.val a c ∧ IzAt w a r.lists
/-- A value that holds it in memory from b up to t. -/
def RwIn (b t : Nat) (w : World) (v : Value) (r : Rw) : Prop := ∃ a c, v = r.val a c ∧ IzIn b t w (.slice a r.lists.length c) r.lists
/-- How much it is. -/
def Rw.big (r : Rw) : Nat := r.lists.length + izSum r.lists r.lists.length
section
variable {b t : Nat} {w w' : World} {v : Value} {r : Rw}
theorem RwIn.at (h : RwIn b t w v r) : RwAt w v r := by
  obtain ⟨a, c, e, h⟩ := h
  exact ⟨a, c, e, h.at⟩
theorem RwAt.below (h : RwAt w v r) (g : Below w.heap.size w w') : RwAt w' v r := by
  obtain ⟨a, c, e, h⟩ := h
  exact ⟨a, c, e, h.below g⟩
theorem RwIn.below (h : RwIn b t w v r) (g : Below w.heap.size w w') : RwIn b t w' v r := by
  obtain ⟨a, c, e, h⟩ := h
  exact ⟨a, c, e, h.below g⟩
theorem RwIn.keep (h : RwIn b t w v r) (hs : w.heap.size ≤ w'.heap.size) (hk : ∀ k, b ≤ k → k < t → w'.heap[k]? = w.heap[k]?) : RwIn b t w' v r := by
  obtain ⟨a, c, e, h⟩ := h
  exact ⟨a, c, e, h.keep hs hk⟩
theorem RwIn.wide {b' t' : Nat} (h : RwIn b t w v r) (hb : b' ≤ b) (ht : t ≤ t') (hs : t' ≤ w.heap.size) : RwIn b' t' w v r := by
  obtain ⟨a, c, e, h⟩ := h
  exact ⟨a, c, e, h.wide hb ht hs⟩
end
theorem Rw.small {r : Rw} (h : r.big ≤ 1048576) : r.lists.length ≤ 1048576 ∧ izSum r.lists r.lists.length ≤ 1048576 ∧ ∀ k, k < r.lists.length → (izAt r.lists k).length ≤ 1048576 := by
  unfold Rw.big at h
  refine ⟨by omega, by omega, fun k hk => ?_⟩
  have := izSum_one hk
  omega
end Go.Proofs.Ytdcekimldgjliaa
