/-
  A record of 5 numbers (Node) as plain data, and cells that hold a list of them. By the verifier, by program.
-/
import Derived.RowKit3
import Derived.Below
import Derived.Laws.AppendOwn
import Derived.Laws.OwnMore
import Derived.Laws.MakeOwn
import Derived.Test.YtfkkmjejmflgjaaRows
import Derived.Test.YtfkkmjejmflgjaaQ0SrPlain
namespace Go.Proofs.Ytfkkmjejmflgjaa
open Go.RowKit

structure Nd where
  up : Int
  pz : Pz
/-- As a value. -/
def Nd.val (r : Nd) : Value := .agg #[.int .i64 r.up, .int .i64 r.pz.rate, .int .i64 r.pz.burst, .int .i64 r.pz.level, .int .i64 r.pz.tm]
/-- Its cells. -/
def Nd.cells (r : Nd) : List Value := [.int .i64 r.up, .int .i64 r.pz.rate, .int .i64 r.pz.burst, .int .i64 r.pz.level, .int .i64 r.pz.tm]
/-- The one at a place. -/
def ndAt (l : List Nd) (k : Nat) : Nd := l[k]?.getD ⟨0, 0, 0, 0, 0⟩
theorem ndAt_lt {l : List Nd} {k : Nat} (h : k < l.length) : ndAt l k = l[k] := by simp [ndAt, List.getElem?_eq_getElem h]
/-- Cells that hold these. -/
def NdsAt (w : World) (a : Option Addr) (l : List Nd) : Prop :=
  ∀ k, k < l.length → ∃ b off, a = some ⟨b, off, none⟩ ∧ b < w.heap.size ∧ w.cell? ⟨b, off + k * 5, none⟩ = some (.int .i64 (ndAt l k).up) ∧ w.cell? ⟨b, off + k * 5 + 1, none⟩ = some (.int .i64 (ndAt l k).pz.rate) ∧ w.cell? ⟨b, off + k * 5 + 2, none⟩ = some (.int .i64 (ndAt l k).pz.burst) ∧ w.cell? ⟨b, off + k * 5 + 3, none⟩ = some (.int .i64 (ndAt l k).pz.level) ∧ w.cell? ⟨b, off + k * 5 + 4, none⟩ = some (.int .i64 (ndAt l k).pz.tm)
theorem NdsAt.below {w w' : World} {a : Option Addr} {l : List Nd} (h : NdsAt w a l) (g : Below w.heap.size w w') : NdsAt w' a l := by
  intro k hk
  obtain ⟨b, off, e, hb, c0, c1, c2, c3, c4⟩ := h k hk
  exact ⟨b, off, e, Nat.lt_of_lt_of_le hb g.size, by rw [g.cell (p := ⟨b, off + k * 5, none⟩) hb]; exact c0, by rw [g.cell (p := ⟨b, off + k * 5 + 1, none⟩) hb]; exact c1, by rw [g.cell (p := ⟨b, off + k * 5 + 2, none⟩) hb]; exact c2, by rw [g.cell (p := ⟨b, off + k * 5 + 3, none⟩) hb]; exact c3, by rw [g.cell (p := ⟨b, off + k * 5 + 4, none⟩) hb]; exact c4⟩
theorem NdsAt.alloc {w : World} {a : Option Addr} {l : List Nd} (h : NdsAt w a l) (o : Obj) : NdsAt (w.alloc o) a l :=
  h.below ((Below.refl _ _).alloc (Nat.le_refl _) _)
theorem NdsAt.drew {w : World} {a : Option Addr} {l : List Nd} (h : NdsAt w a l) : NdsAt w.drew a l := h.below (Below.refl _ _).drew
theorem NdsAt.nil (w : World) (a : Option Addr) : NdsAt w a [] := by intro k hk; simp at hk
theorem NdsAt.empty {w : World} {l : List Nd} (h : NdsAt w none l) : l = [] := by
  cases l with
  | nil => rfl
  | cons z zs => obtain ⟨b, off, e, _⟩ := h 0 (by simp); cases e
theorem NdsAt.cells {w : World} {b off k : Nat} {l : List Nd} (h : NdsAt w (some ⟨b, off, none⟩) l) (hk : k < l.length) : w.cell? ⟨b, off + k * 5, none⟩ = some (.int .i64 (ndAt l k).up) ∧ w.cell? ⟨b, off + k * 5 + 1, none⟩ = some (.int .i64 (ndAt l k).pz.rate) ∧ w.cell? ⟨b, off + k * 5 + 2, none⟩ = some (.int .i64 (ndAt l k).pz.burst) ∧ w.cell? ⟨b, off + k * 5 + 3, none⟩ = some (.int .i64 (ndAt l k).pz.level) ∧ w.cell? ⟨b, off + k * 5 + 4, none⟩ = some (.int .i64 (ndAt l k).pz.tm) := by
  obtain ⟨b', off', e, _, c⟩ := h k hk
  cases e
  exact c
/-- The cells of a list. -/
def ndcells (l : List Nd) : List Value := l.flatMap Nd.cells
theorem ndcells_cons (r : Nd) (l : List Nd) : ndcells (r :: l) = .int .i64 r.up :: .int .i64 r.pz.rate :: .int .i64 r.pz.burst :: .int .i64 r.pz.level :: .int .i64 r.pz.tm :: ndcells l := rfl
theorem ndcells_length (l : List Nd) : (ndcells l).length = l.length * 5 := by
  induction l with
  | nil => rfl
  | cons r l ih => rw [ndcells_cons]; simp [ih]; omega
theorem ndcells_get (l : List Nd) (k : Nat) (hk : k < l.length) : (ndcells l)[k * 5]? = some (.int .i64 (ndAt l k).up) ∧ (ndcells l)[k * 5 + 1]? = some (.int .i64 (ndAt l k).pz.rate) ∧ (ndcells l)[k * 5 + 2]? = some (.int .i64 (ndAt l k).pz.burst) ∧ (ndcells l)[k * 5 + 3]? = some (.int .i64 (ndAt l k).pz.level) ∧ (ndcells l)[k * 5 + 4]? = some (.int .i64 (ndAt l k).pz.tm) := by
  induction l generalizing k with
  | nil => simp at hk
  | cons r l ih =>
    cases k with
    | zero => simp [ndcells_cons, ndAt]
    | succ k =>
      have := ih k (by simpa using hk)
      rw [show (k + 1) * 5 = k * 5 + 5 by omega]
      simpa [ndcells_cons, ndAt] using this
theorem ndcells_one (l : List Nd) : ∀ u ∈ ndcells l, u.oneCell' = true := by
  intro u hu
  induction l with
  | nil => simp [ndcells] at hu
  | cons r l ih =>
    rw [ndcells_cons] at hu
    simp only [List.mem_cons] at hu
    rcases hu with rfl | rfl | rfl | rfl | rfl | hu
    · rfl
    · rfl
    · rfl
    · rfl
    · rfl
    · exact ih hu
theorem ndcells_set (l : List Nd) (k : Nat) (r : Nd) : (((((ndcells l).set (k * 5) (.int .i64 r.up)).set (k * 5 + 1) (.int .i64 r.pz.rate)).set (k * 5 + 2) (.int .i64 r.pz.burst)).set (k * 5 + 3) (.int .i64 r.pz.level)).set (k * 5 + 4) (.int .i64 r.pz.tm) = ndcells (l.set k r) := by
  induction l generalizing k with
  | nil => simp [ndcells]
  | cons x l ih =>
    cases k with
    | zero => simp [ndcells_cons]
    | succ k =>
      rw [show (k + 1) * 5 = k * 5 + 5 by omega, List.set_cons_succ, ndcells_cons, ndcells_cons, ← ih k]
      rfl
/-- A list of the call's own. -/
def NdRow (base : Nat) (w : World) (v : Value) (l : List Nd) : Prop := w.ownsRow base 60 5 v l.length (ndcells l)
theorem NdRow.carry {base : Nat} {w w' : World} {v : Value} {l : List Nd} (h : NdRow base w v l) (g : ∀ k, v.ownBlock = some k → k < w.heap.size → w'.heap[k]? = w.heap[k]?) : NdRow base w' v l := by
  refine ⟨h.1, h.2.imp id ?_⟩
  rintro ⟨g0, cap, cur, h1, h2, h3, h4⟩
  exact ⟨g0, cap, cur, h1, h2, by rw [g g0 (by rw [h1]; rfl) (Array.getElem?_eq_some_iff.1 h3).1]; exact h3, h4⟩
theorem NdRow.below {base n : Nat} {w w' : World} {v : Value} {l : List Nd} (h : NdRow base w v l) (hn : ∀ k, v.ownBlock = some k → k < n) (g : Below n w w') : NdRow base w' v l :=
  h.carry fun k hk _ => g.block k (hn k hk)
theorem NdRow.shape {base : Nat} {w : World} {v : Value} {l : List Nd} (h : NdRow base w v l) : ∃ a cap, v = .slice a l.length cap := by
  rcases h.2 with ⟨rfl, hn⟩ | ⟨g, cap, cur, rfl, _⟩
  · rw [hn]; exact ⟨none, 0, rfl⟩
  · exact ⟨_, _, rfl⟩
theorem NdRow.cap {base : Nat} {w : World} {a : Option Addr} {c : Nat} {l : List Nd} (h : NdRow base w (.slice a l.length c) l) : l.length ≤ c := by
  rcases h.2 with ⟨e, hn⟩ | ⟨g', c', cur, e, _, _, h4, _⟩
  · omega
  · cases e; exact h4
theorem NdRow.nilCap {base : Nat} {w : World} {a : Option Addr} {c : Nat} {l : List Nd} (h : NdRow base w (.slice a l.length c) l) : a = none → c = 0 := by
  intro ha
  subst ha
  rcases h.2 with ⟨e, hn⟩ | ⟨g', c', cur, e, _⟩
  · simpa using (Value.slice.inj e).2.2
  · cases e
theorem NdRow.lt {base : Nat} {w : World} {v : Value} {l : List Nd} (h : NdRow base w v l) : ∀ k, v.ownBlock = some k → base ≤ k ∧ k < w.heap.size := World.ownsRow.lt h
theorem NdRow.alloc {base : Nat} {w : World} {v : Value} {l : List Nd} (h : NdRow base w v l) (o : Obj) : NdRow base (w.alloc o) v l := World.ownsRow.alloc h o
theorem NdRow.drew {base : Nat} {w : World} {v : Value} {l : List Nd} (h : NdRow base w v l) : NdRow base w.drew v l := h
theorem NdRow.mono {base base' : Nat} {w : World} {v : Value} {l : List Nd} (h : NdRow base w v l) (hb : base' ≤ base) : NdRow base' w v l := ⟨h.1, h.2.imp id fun ⟨g, cap, cur, h1, h2, h3⟩ => ⟨g, cap, cur, h1, Nat.le_trans hb h2, h3⟩⟩
theorem NdRow.at {base : Nat} {w : World} {a : Option Addr} {cap : Nat} {l : List Nd} (h : NdRow base w (.slice a l.length cap) l) : NdsAt w a l := by
  intro k hk
  rcases h.2 with ⟨_, hn⟩ | ⟨g, cap', cur, e, h2, h3, h4⟩
  · omega
  · obtain ⟨rfl, _, rfl⟩ : a = some ⟨g, 0, none⟩ ∧ True ∧ cap = cap' := by simpa using e
    have hc := World.ownsRow.cellAt (show w.ownsRow base 60 5 (.slice (some ⟨g, 0, none⟩) l.length cap) l.length _ from h)
    obtain ⟨e0, e1, e2, e3, e4⟩ := ndcells_get l k hk
    exact ⟨g, 0, rfl, (Array.getElem?_eq_some_iff.1 h3).1, by rw [Nat.zero_add, hc _ (by omega), e0], by rw [Nat.zero_add, hc _ (by omega), e1], by rw [Nat.zero_add, hc _ (by omega), e2], by rw [Nat.zero_add, hc _ (by omega), e3], by rw [Nat.zero_add, hc _ (by omega), e4]⟩
/-- One of them put. -/
theorem NdRow.put {base : Nat} {w : World} {g cap n : Nat} {l : List Nd} (h : w.ownsRow base 60 5 (.slice (some ⟨g, 0, none⟩) n cap) n (ndcells l)) (k : Nat) (r : Nd) :
    (((((w.setCell ⟨g, k * 5, none⟩ (.int .i64 r.up)).setCell ⟨g, k * 5 + 1, none⟩ (.int .i64 r.pz.rate)).setCell ⟨g, k * 5 + 2, none⟩ (.int .i64 r.pz.burst)).setCell ⟨g, k * 5 + 3, none⟩ (.int .i64 r.pz.level)).setCell ⟨g, k * 5 + 4, none⟩ (.int .i64 r.pz.tm)).ownsRow base 60 5 (.slice (some ⟨g, 0, none⟩) n cap) n (ndcells (l.set k r)) := by
  have h1 := (h.stored (k * 5) (.int .i64 r.up)).1
  have h2 := (h1.stored (k * 5 + 1) (.int .i64 r.pz.rate)).1
  have h3 := (h2.stored (k * 5 + 2) (.int .i64 r.pz.burst)).1
  have h4 := (h3.stored (k * 5 + 3) (.int .i64 r.pz.level)).1
  have h5 := (h4.stored (k * 5 + 4) (.int .i64 r.pz.tm)).1
  rw [ndcells_set] at h5
  exact h5
theorem ndInfo : (Try.prog.info? 60).map (fun i => (i.zero, i.size, i.bytes)) = some (some (.agg #[.int .i64 0, .int .i64 0, .int .i64 0, .int .i64 0, .int .i64 0]), 5, 40) := by kernel_rfl
theorem ndMade (n : Nat) : (madeCells #[Value.int .i64 0, .int .i64 0, .int .i64 0, .int .i64 0, .int .i64 0] (n * 5)).toList = ndcells (List.replicate n ⟨0, 0, 0, 0, 0⟩) := by
  apply List.ext_getElem?
  intro i
  by_cases hi : i < n * 5
  · obtain ⟨k, j, rfl, hj⟩ : ∃ k j, i = k * 5 + j ∧ j < 5 := ⟨i / 5, i % 5, by omega, Nat.mod_lt _ (by omega)⟩
    have hk : k < n := by omega
    obtain ⟨e0, e1, e2, e3, e4⟩ := ndcells_get (List.replicate n ⟨0, 0, 0, 0, 0⟩) k (by simpa using hk)
    have hz : ndAt (List.replicate n ⟨0, 0, 0, 0, 0⟩) k = ⟨0, 0, 0, 0, 0⟩ := by simp [ndAt, hk]
    rw [hz] at e0 e1 e2 e3 e4
    have hm : (k * 5 + j) % 5 = j := by omega
    have hL : (madeCells #[Value.int .i64 0, .int .i64 0, .int .i64 0, .int .i64 0, .int .i64 0] (n * 5)).toList[k * 5 + j]? = some (.int .i64 0) := by
      simp [madeCells, hi, hm]
      match j, hj with
      | 0, _ => rfl
      | 1, _ => rfl
      | 2, _ => rfl
      | 3, _ => rfl
      | 4, _ => rfl
    rw [hL]
    match j, hj with
    | 0, _ => exact e0.symm
    | 1, _ => exact e1.symm
    | 2, _ => exact e2.symm
    | 3, _ => exact e3.symm
    | 4, _ => exact e4.symm
  · rw [List.getElem?_eq_none (by simp [madeCells]; omega), List.getElem?_eq_none (by rw [ndcells_length]; simp; omega)]
theorem ndTakeSet (l : List Nd) (n k : Nat) (hn : l.length = n) (hk : k < n) : (l.take k ++ List.replicate (n - k) (⟨0, 0, 0, 0, 0⟩ : Nd)).set k (ndAt l k) = l.take (k + 1) ++ List.replicate (n - (k + 1)) ⟨0, 0, 0, 0, 0⟩ := by
  subst hn
  rw [List.set_append_right _ _ (by simp; omega), List.take_succ_eq_append_getElem hk, ndAt_lt hk]
  simp only [List.length_take, Nat.min_eq_left (Nat.le_of_lt hk), Nat.sub_self]
  obtain ⟨m, hm⟩ : ∃ m, l.length - k = m + 1 := ⟨l.length - k - 1, by omega⟩
  rw [hm, show l.length - (k + 1) = m by omega, List.replicate_succ, List.set_cons_zero]
  simp only [List.append_assoc, List.cons_append, List.nil_append]
theorem ndOnes (v0 v1 v2 v3 v4 : Int) : (#[Value.int .i64 v0, Value.int .i64 v1, Value.int .i64 v2, Value.int .i64 v3, Value.int .i64 v4] : Array Value).all (·.oneCell') = true := by simp [Value.oneCell']
end Go.Proofs.Ytfkkmjejmflgjaa
