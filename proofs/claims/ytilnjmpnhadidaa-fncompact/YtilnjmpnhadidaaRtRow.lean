/-
  Lists of routes of the call's own; copies of a list. By the verifier.
-/
import Derived.Test.YtilnjmpnhadidaaM1
import Derived.Laws.AppendOwn
import Derived.Laws.OwnMore
import Derived.Laws.MakeOwn
namespace Go.Proofs.Ytilnjmpnhadidaa
open Go.RowKit

theorem heap_lt {w : World} {k : Nat} {o : Obj} (h : w.heap[k]? = some o) : k < w.heap.size := (Array.getElem?_eq_some_iff.1 h).1
/-- The cells of a list. -/
def rcells (l : List Rt) : List Value := l.flatMap Rt.cells
theorem rcells_nil : rcells [] = [] := rfl
theorem rcells_cons (r : Rt) (l : List Rt) : rcells (r :: l) = .int .i64 r.net :: .int .i64 r.bits :: .int .i64 r.hop :: rcells l := rfl
theorem rcells_append (a b : List Rt) : rcells (a ++ b) = rcells a ++ rcells b := by simp [rcells]
theorem rcells_length (l : List Rt) : (rcells l).length = l.length * 3 := by
  induction l with
  | nil => rfl
  | cons r l ih => rw [rcells_cons]; simp [ih]; omega
theorem rcells_get (l : List Rt) (k : Nat) (hk : k < l.length) : (rcells l)[k * 3]? = some (.int .i64 (rtAt l k).net) ∧ (rcells l)[k * 3 + 1]? = some (.int .i64 (rtAt l k).bits) ∧ (rcells l)[k * 3 + 2]? = some (.int .i64 (rtAt l k).hop) := by
  induction l generalizing k with
  | nil => simp at hk
  | cons r l ih =>
    cases k with
    | zero => simp [rcells_cons, rtAt]
    | succ k =>
      have := ih k (by simpa using hk)
      rw [show (k + 1) * 3 = k * 3 + 3 by omega]
      simpa [rcells_cons, rtAt] using this
theorem rcells_one (l : List Rt) : ∀ u ∈ rcells l, u.oneCell' = true := by
  intro u hu
  induction l with
  | nil => simp [rcells] at hu
  | cons r l ih =>
    rw [rcells_cons] at hu
    simp only [List.mem_cons] at hu
    rcases hu with rfl | rfl | rfl | hu
    · rfl
    · rfl
    · rfl
    · exact ih hu
theorem rcells_set (l : List Rt) (k : Nat) (r : Rt) : (((rcells l).set (k * 3) (.int .i64 r.net)).set (k * 3 + 1) (.int .i64 r.bits)).set (k * 3 + 2) (.int .i64 r.hop) = rcells (l.set k r) := by
  induction l generalizing k with
  | nil => simp [rcells]
  | cons x l ih =>
    cases k with
    | zero => simp [rcells_cons]
    | succ k =>
      rw [show (k + 1) * 3 = k * 3 + 3 by omega, List.set_cons_succ, rcells_cons, rcells_cons, ← ih k]
      rfl

/-- A list of routes of the call's own. -/
def RRow (base : Nat) (w : World) (v : Value) (l : List Rt) : Prop := w.ownsRow base 53 3 v l.length (rcells l)
theorem RRow.carry {base : Nat} {w w' : World} {v : Value} {l : List Rt} (h : RRow base w v l) (g : ∀ k, v.ownBlock = some k → k < w.heap.size → w'.heap[k]? = w.heap[k]?) : RRow base w' v l := by
  refine ⟨h.1, h.2.imp id ?_⟩
  rintro ⟨g0, cap, cur, h1, h2, h3, h4⟩
  exact ⟨g0, cap, cur, h1, h2, by rw [g g0 (by rw [h1]; rfl) (heap_lt h3)]; exact h3, h4⟩
theorem RRow.below {base n : Nat} {w w' : World} {v : Value} {l : List Rt} (h : RRow base w v l) (hn : ∀ k, v.ownBlock = some k → k < n) (g : Below n w w') : RRow base w' v l :=
  h.carry fun k hk _ => g.block k (hn k hk)
theorem RRow.shape {base : Nat} {w : World} {v : Value} {l : List Rt} (h : RRow base w v l) : ∃ a cap, v = .slice a l.length cap := by
  rcases h.2 with ⟨rfl, hn⟩ | ⟨g, cap, cur, rfl, _⟩
  · rw [hn]; exact ⟨none, 0, rfl⟩
  · exact ⟨_, _, rfl⟩
theorem RRow.lt {base : Nat} {w : World} {v : Value} {l : List Rt} (h : RRow base w v l) : ∀ k, v.ownBlock = some k → base ≤ k ∧ k < w.heap.size := World.ownsRow.lt h
theorem RRow.alloc {base : Nat} {w : World} {v : Value} {l : List Rt} (h : RRow base w v l) (o : Obj) : RRow base (w.alloc o) v l := World.ownsRow.alloc h o
theorem RRow.mono {base base' : Nat} {w : World} {v : Value} {l : List Rt} (h : RRow base w v l) (hb : base' ≤ base) : RRow base' w v l := ⟨h.1, h.2.imp id fun ⟨g, cap, cur, h1, h2, h3⟩ => ⟨g, cap, cur, h1, Nat.le_trans hb h2, h3⟩⟩
theorem RRow.at {base : Nat} {w : World} {a : Option Addr} {cap : Nat} {l : List Rt} (h : RRow base w (.slice a l.length cap) l) : RtsAt w a l := by
  intro k hk
  rcases h.2 with ⟨_, hn⟩ | ⟨g, cap', cur, e, h2, h3, h4⟩
  · omega
  · obtain ⟨rfl, _, rfl⟩ : a = some ⟨g, 0, none⟩ ∧ True ∧ cap = cap' := by simpa using e
    have hc := World.ownsRow.cellAt (show w.ownsRow base 53 3 (.slice (some ⟨g, 0, none⟩) l.length cap) l.length _ from h)
    obtain ⟨e0, e1, e2⟩ := rcells_get l k hk
    exact ⟨g, 0, rfl, heap_lt h3, by rw [Nat.zero_add, hc _ (by omega), e0], by rw [Nat.zero_add, hc _ (by omega), e1], by rw [Nat.zero_add, hc _ (by omega), e2]⟩
/-- One of them put. -/
theorem RRow.put {base : Nat} {w : World} {g cap n : Nat} {l : List Rt} (h : w.ownsRow base 53 3 (.slice (some ⟨g, 0, none⟩) n cap) n (rcells l)) (k : Nat) (r : Rt) :
    (((w.setCell ⟨g, k * 3, none⟩ (.int .i64 r.net)).setCell ⟨g, k * 3 + 1, none⟩ (.int .i64 r.bits)).setCell ⟨g, k * 3 + 2, none⟩ (.int .i64 r.hop)).ownsRow base 53 3 (.slice (some ⟨g, 0, none⟩) n cap) n (rcells (l.set k r)) := by
  have h1 := (h.stored (k * 3) (.int .i64 r.net)).1
  have h2 := (h1.stored (k * 3 + 1) (.int .i64 r.bits)).1
  have h3 := (h2.stored (k * 3 + 2) (.int .i64 r.hop)).1
  rw [rcells_set] at h3
  exact h3
end Go.Proofs.Ytilnjmpnhadidaa
