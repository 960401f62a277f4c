/-
  A record of 3 numbers (Item) as plain data, and cells that hold a list of them. By the verifier, by program.
-/
import Derived.RowKit3
import Derived.Below
import Derived.Laws.AppendOwn
import Derived.Laws.OwnMore
import Derived.Laws.MakeOwn
import Derived.Test.YtdcekimldgjliaaRows
namespace Go.Proofs.Ytdcekimldgjliaa
open Go.RowKit

structure It where
  id : Int
  size : Int
  tm : Int
/-- As a value. -/
def It.val (r : It) : Value := .agg #[.int .i64 r.id, .int .i64 r.size, .int .i64 r.tm]
/-- Its cells. -/
def It.cells (r : It) : List Value := [.int .i64 r.id, .int .i64 r.size, .int .i64 r.tm]
/-- The one at a place. -/
def itAt (l : List It) (k : Nat) : It := l[k]?.getD ⟨0, 0, 0⟩
theorem itAt_lt {l : List It} {k : Nat} (h : k < l.length) : itAt l k = l[k] := by simp [itAt, List.getElem?_eq_getElem h]
/-- Cells that hold these. -/
def ItsAt (w : World) (a : Option Addr) (l : List It) : Prop :=
  ∀ k, k < l.length → ∃ b off, a = some ⟨b, off, none⟩ ∧ b < w.heap.size ∧ w.cell? ⟨b, off + k * 3, none⟩ = some (.int .i64 (itAt l k).id) ∧ w.cell? ⟨b, off + k * 3 + 1, none⟩ = some (.int .i64 (itAt l k).size) ∧ w.cell? ⟨b, off + k * 3 + 2, none⟩ = some (.int .i64 (itAt l k).tm)
theorem ItsAt.below {w w' : World} {a : Option Addr} {l : List It} (h : ItsAt w a l) (g : Below w.heap.size w w') : ItsAt w' a l := by
  intro k hk
  obtain ⟨b, off, e, hb, c0, c1, c2⟩ := h k hk
  exact ⟨b, off, e, Nat.lt_of_lt_of_le hb g.size, by rw [g.cell (p := ⟨b, off + k * 3, none⟩) hb]; exact c0, by rw [g.cell (p := ⟨b, off + k * 3 + 1, none⟩) hb]; exact c1, by rw [g.cell (p := ⟨b, off + k * 3 + 2, none⟩) hb]; exact c2⟩
theorem ItsAt.alloc {w : World} {a : Option Addr} {l : List It} (h : ItsAt w a l) (o : Obj) : ItsAt (w.alloc o) a l :=
  h.below ((Below.refl _ _).alloc (Nat.le_refl _) _)
theorem ItsAt.drew {w : World} {a : Option Addr} {l : List It} (h : ItsAt w a l) : ItsAt w.drew a l := h.below (Below.refl _ _).drew
theorem ItsAt.nil (w : World) (a : Option Addr) : ItsAt w a [] := by intro k hk; simp at hk
theorem ItsAt.empty {w : World} {l : List It} (h : ItsAt w none l) : l = [] := by
  cases l with
  | nil => rfl
  | cons z zs => obtain ⟨b, off, e, _⟩ := h 0 (by simp); cases e
theorem ItsAt.cells {w : World} {b off k : Nat} {l : List It} (h : ItsAt w (some ⟨b, off, none⟩) l) (hk : k < l.length) : w.cell? ⟨b, off + k * 3, none⟩ = some (.int .i64 (itAt l k).id) ∧ w.cell? ⟨b, off + k * 3 + 1, none⟩ = some (.int .i64 (itAt l k).size) ∧ w.cell? ⟨b, off + k * 3 + 2, none⟩ = some (.int .i64 (itAt l k).tm) := by
  obtain ⟨b', off', e, _, c⟩ := h k hk
  cases e
  exact c
/-- The cells of a list. -/
def itcells (l : List It) : List Value := l.flatMap It.cells
theorem itcells_nil : itcells [] = [] := rfl
theorem itcells_cons (r : It) (l : List It) : itcells (r :: l) = .int .i64 r.id :: .int .i64 r.size :: .int .i64 r.tm :: itcells l := rfl
theorem itcells_append (a b : List It) : itcells (a ++ b) = itcells a ++ itcells b := by simp [itcells]
theorem itcells_length (l : List It) : (itcells l).length = l.length * 3 := by
  induction l with
  | nil => rfl
  | cons r l ih => rw [itcells_cons]; simp [ih]; omega
theorem itcells_get (l : List It) (k : Nat) (hk : k < l.length) : (itcells l)[k * 3]? = some (.int .i64 (itAt l k).id) ∧ (itcells l)[k * 3 + 1]? = some (.int .i64 (itAt l k).size) ∧ (itcells l)[k * 3 + 2]? = some (.int .i64 (itAt l k).tm) := by
  induction l generalizing k with
  | nil => simp at hk
  | cons r l ih =>
    cases k with
    | zero => simp [itcells_cons, itAt]
    | succ k =>
      have := ih k (by simpa using hk)
      rw [show (k + 1) * 3 = k * 3 + 3 by omega]
      simpa [itcells_cons, itAt] using this
theorem itcells_one (l : List It) : ∀ u ∈ itcells l, u.oneCell' = true := by
  intro u hu
  induction l with
  | nil => simp [itcells] at hu
  | cons r l ih =>
    rw [itcells_cons] at hu
    simp only [List.mem_cons] at hu
    rcases hu with rfl | rfl | rfl | hu
    · rfl
    · rfl
    · rfl
    · exact ih hu
theorem itcells_set (l : List It) (k : Nat) (r : It) : (((itcells l).set (k * 3) (.int .i64 r.id)).set (k * 3 + 1) (.int .i64 r.size)).set (k * 3 + 2) (.int .i64 r.tm) = itcells (l.set k r) := by
  induction l generalizing k with
  | nil => simp [itcells]
  | cons x l ih =>
    cases k with
    | zero => simp [itcells_cons]
    | succ k =>
      rw [show (k + 1) * 3 = k * 3 + 3 by omega, List.set_cons_succ, itcells_cons, itcells_cons, ← ih k]
      rfl
/-- A list of the call's own. -/
def ItRow (base : Nat) (w : World) (v : Value) (l : List It) : Prop := w.ownsRow base 37 3 v l.length (itcells l)
theorem ItRow.carry {base : Nat} {w w' : World} {v : Value} {l : List It} (h : ItRow base w v l) (g : ∀ k, v.ownBlock = some k → k < w.heap.size → w'.heap[k]? = w.heap[k]?) : ItRow base w' v l := by
  refine ⟨h.1, h.2.imp id ?_⟩
  rintro ⟨g0, cap, cur, h1, h2, h3, h4⟩
  exact ⟨g0, cap, cur, h1, h2, by rw [g g0 (by rw [h1]; rfl) (Array.getElem?_eq_some_iff.1 h3).1]; exact h3, h4⟩
theorem ItRow.below {base n : Nat} {w w' : World} {v : Value} {l : List It} (h : ItRow base w v l) (hn : ∀ k, v.ownBlock = some k → k < n) (g : Below n w w') : ItRow base w' v l :=
  h.carry fun k hk _ => g.block k (hn k hk)
theorem ItRow.shape {base : Nat} {w : World} {v : Value} {l : List It} (h : ItRow base w v l) : ∃ a cap, v = .slice a l.length cap := by
  rcases h.2 with ⟨rfl, hn⟩ | ⟨g, cap, cur, rfl, _⟩
  · rw [hn]; exact ⟨none, 0, rfl⟩
  · exact ⟨_, _, rfl⟩
theorem ItRow.cap {base : Nat} {w : World} {a : Option Addr} {c : Nat} {l : List It} (h : ItRow base w (.slice a l.length c) l) : l.length ≤ c := by
  rcases h.2 with ⟨e, hn⟩ | ⟨g', c', cur, e, _, _, h4, _⟩
  · omega
  · cases e; exact h4
theorem ItRow.nilCap {base : Nat} {w : World} {a : Option Addr} {c : Nat} {l : List It} (h : ItRow base w (.slice a l.length c) l) : a = none → c = 0 := by
  intro ha
  subst ha
  rcases h.2 with ⟨e, hn⟩ | ⟨g', c', cur, e, _⟩
  · simpa using (Value.slice.inj e).2.2
  · cases e
theorem ItRow.lt {base : Nat} {w : World} {v : Value} {l : List It} (h : ItRow base w v l) : ∀ k, v.ownBlock = some k → base ≤ k ∧ k < w.heap.size := World.ownsRow.lt h
theorem ItRow.alloc {base : Nat} {w : World} {v : Value} {l : List It} (h : ItRow base w v l) (o : Obj) : ItRow base (w.alloc o) v l := World.ownsRow.alloc h o
theorem ItRow.drew {base : Nat} {w : World} {v : Value} {l : List It} (h : ItRow base w v l) : ItRow base w.drew v l := h
theorem ItRow.mono {base base' : Nat} {w : World} {v : Value} {l : List It} (h : ItRow base w v l) (hb : base' ≤ base) : ItRow base' w v l := ⟨h.1, h.2.imp id fun ⟨g, cap, cur, h1, h2, h3⟩ => ⟨g, cap, cur, h1, Nat.le_trans hb h2, h3⟩⟩
theorem ItRow.at {base : Nat} {w : World} {a : Option Addr} {cap : Nat} {l : List It} (h : ItRow base w (.slice a l.length cap) l) : ItsAt w a l := by
  intro k hk
  rcases h.2 with ⟨_, hn⟩ | ⟨g, cap', cur, e, h2, h3, h4⟩
  · omega
  · obtain ⟨rfl, _, rfl⟩ : a = some ⟨g, 0, none⟩ ∧ True ∧ cap = cap' := by simpa using e
    have hc := World.ownsRow.cellAt (show w.ownsRow base 37 3 (.slice (some ⟨g, 0, none⟩) l.length cap) l.length _ from h)
    obtain ⟨e0, e1, e2⟩ := itcells_get l k hk
    exact ⟨g, 0, rfl, (Array.getElem?_eq_some_iff.1 h3).1, by rw [Nat.zero_add, hc _ (by omega), e0], by rw [Nat.zero_add, hc _ (by omega), e1], by rw [Nat.zero_add, hc _ (by omega), e2]⟩
/-- One of them put. -/
theorem ItRow.put {base : Nat} {w : World} {g cap n : Nat} {l : List It} (h : w.ownsRow base 37 3 (.slice (some ⟨g, 0, none⟩) n cap) n (itcells l)) (k : Nat) (r : It) :
    (((w.setCell ⟨g, k * 3, none⟩ (.int .i64 r.id)).setCell ⟨g, k * 3 + 1, none⟩ (.int .i64 r.size)).setCell ⟨g, k * 3 + 2, none⟩ (.int .i64 r.tm)).ownsRow base 37 3 (.slice (some ⟨g, 0, none⟩) n cap) n (itcells (l.set k r)) := by
  have h1 := (h.stored (k * 3) (.int .i64 r.id)).1
  have h2 := (h1.stored (k * 3 + 1) (.int .i64 r.size)).1
  have h3 := (h2.stored (k * 3 + 2) (.int .i64 r.tm)).1
  rw [itcells_set] at h3
  exact h3
theorem itInfo : (Try.prog.info? 37).map (fun i => (i.zero, i.size, i.bytes)) = some (some (.agg #[.int .i64 0, .int .i64 0, .int .i64 0]), 3, 24) := by kernel_rfl
theorem itMade (n : Nat) : (madeCells #[Value.int .i64 0, .int .i64 0, .int .i64 0] (n * 3)).toList = itcells (List.replicate n ⟨0, 0, 0⟩) := by
  apply List.ext_getElem?
  intro i
  by_cases hi : i < n * 3
  · obtain ⟨k, j, rfl, hj⟩ : ∃ k j, i = k * 3 + j ∧ j < 3 := ⟨i / 3, i % 3, by omega, Nat.mod_lt _ (by omega)⟩
    have hk : k < n := by omega
    obtain ⟨e0, e1, e2⟩ := itcells_get (List.replicate n ⟨0, 0, 0⟩) k (by simpa using hk)
    have hz : itAt (List.replicate n ⟨0, 0, 0⟩) k = ⟨0, 0, 0⟩ := by simp [itAt, hk]
    rw [hz] at e0 e1 e2
    have hm : (k * 3 + j) % 3 = j := by omega
    have hL : (madeCells #[Value.int .i64 0, .int .i64 0, .int .i64 0] (n * 3)).toList[k * 3 + j]? = some (.int .i64 0) := by
      simp [madeCells, hi, hm]
      match j, hj with
      | 0, _ => rfl
      | 1, _ => rfl
      | 2, _ => rfl
    rw [hL]
    match j, hj with
    | 0, _ => exact e0.symm
    | 1, _ => exact e1.symm
    | 2, _ => exact e2.symm
  · rw [List.getElem?_eq_none (by simp [madeCells]; omega), List.getElem?_eq_none (by rw [itcells_length]; simp; omega)]
theorem itTakeSet (l : List It) (n k : Nat) (hn : l.length = n) (hk : k < n) : (l.take k ++ List.replicate (n - k) (⟨0, 0, 0⟩ : It)).set k (itAt l k) = l.take (k + 1) ++ List.replicate (n - (k + 1)) ⟨0, 0, 0⟩ := by
  subst hn
  rw [List.set_append_right _ _ (by simp; omega), List.take_succ_eq_append_getElem hk, itAt_lt hk]
  simp only [List.length_take, Nat.min_eq_left (Nat.le_of_lt hk), Nat.sub_self]
  obtain ⟨m, hm⟩ : ∃ m, l.length - k = m + 1 := ⟨l.length - k - 1, by omega⟩
  rw [hm, show l.length - (k + 1) = m by omega, List.replicate_succ, List.set_cons_zero]
  simp only [List.append_assoc, List.cons_append, List.nil_append]
end Go.Proofs.Ytdcekimldgjliaa
