/-
  A record of 2 numbers (Due) as plain data, and cells that hold a list of them. By the verifier, by program.
-/
import Derived.RowKit3
import Derived.Below
import Derived.Laws.AppendOwn
import Derived.Laws.OwnMore
import Derived.Laws.MakeOwn
import Derived.Test.YtgimalimfmoilaaRows
namespace Go.Proofs.Ytgimalimfmoilaa
open Go.RowKit

structure Du where
  time : Int
  id : Int
/-- As a value. -/
def Du.val (r : Du) : Value := .agg #[.int .i64 r.time, .int .i64 r.id]
/-- Its cells. -/
def Du.cells (r : Du) : List Value := [.int .i64 r.time, .int .i64 r.id]
/-- The one at a place. -/
def duAt (l : List Du) (k : Nat) : Du := l[k]?.getD ⟨0, 0⟩
theorem duAt_lt {l : List Du} {k : Nat} (h : k < l.length) : duAt l k = l[k] := by simp [duAt, List.getElem?_eq_getElem h]
/-- Cells that hold these. -/
def DusAt (w : World) (a : Option Addr) (l : List Du) : Prop :=
  ∀ k, k < l.length → ∃ b off, a = some ⟨b, off, none⟩ ∧ b < w.heap.size ∧ w.cell? ⟨b, off + k * 2, none⟩ = some (.int .i64 (duAt l k).time) ∧ w.cell? ⟨b, off + k * 2 + 1, none⟩ = some (.int .i64 (duAt l k).id)
theorem DusAt.below {w w' : World} {a : Option Addr} {l : List Du} (h : DusAt w a l) (g : Below w.heap.size w w') : DusAt w' a l := by
  intro k hk
  obtain ⟨b, off, e, hb, c0, c1⟩ := h k hk
  exact ⟨b, off, e, Nat.lt_of_lt_of_le hb g.size, by rw [g.cell (p := ⟨b, off + k * 2, none⟩) hb]; exact c0, by rw [g.cell (p := ⟨b, off + k * 2 + 1, none⟩) hb]; exact c1⟩
theorem DusAt.alloc {w : World} {a : Option Addr} {l : List Du} (h : DusAt w a l) (o : Obj) : DusAt (w.alloc o) a l :=
  h.below ((Below.refl _ _).alloc (Nat.le_refl _) _)
theorem DusAt.drew {w : World} {a : Option Addr} {l : List Du} (h : DusAt w a l) : DusAt w.drew a l := h.below (Below.refl _ _).drew
theorem DusAt.nil (w : World) (a : Option Addr) : DusAt w a [] := by intro k hk; simp at hk
theorem DusAt.empty {w : World} {l : List Du} (h : DusAt w none l) : l = [] := by
  cases l with
  | nil => rfl
  | cons z zs => obtain ⟨b, off, e, _⟩ := h 0 (by simp); cases e
theorem DusAt.cells {w : World} {b off k : Nat} {l : List Du} (h : DusAt w (some ⟨b, off, none⟩) l) (hk : k < l.length) : w.cell? ⟨b, off + k * 2, none⟩ = some (.int .i64 (duAt l k).time) ∧ w.cell? ⟨b, off + k * 2 + 1, none⟩ = some (.int .i64 (duAt l k).id) := by
  obtain ⟨b', off', e, _, c⟩ := h k hk
  cases e
  exact c
/-- The cells of a list. -/
def ducells (l : List Du) : List Value := l.flatMap Du.cells
theorem ducells_nil : ducells [] = [] := rfl
theorem ducells_cons (r : Du) (l : List Du) : ducells (r :: l) = .int .i64 r.time :: .int .i64 r.id :: ducells l := rfl
theorem ducells_append (a b : List Du) : ducells (a ++ b) = ducells a ++ ducells b := by simp [ducells]
theorem ducells_length (l : List Du) : (ducells l).length = l.length * 2 := by
  induction l with
  | nil => rfl
  | cons r l ih => rw [ducells_cons]; simp [ih]; omega
theorem ducells_get (l : List Du) (k : Nat) (hk : k < l.length) : (ducells l)[k * 2]? = some (.int .i64 (duAt l k).time) ∧ (ducells l)[k * 2 + 1]? = some (.int .i64 (duAt l k).id) := by
  induction l generalizing k with
  | nil => simp at hk
  | cons r l ih =>
    cases k with
    | zero => simp [ducells_cons, duAt]
    | succ k =>
      have := ih k (by simpa using hk)
      rw [show (k + 1) * 2 = k * 2 + 2 by omega]
      simpa [ducells_cons, duAt] using this
theorem ducells_one (l : List Du) : ∀ u ∈ ducells l, u.oneCell' = true := by
  intro u hu
  induction l with
  | nil => simp [ducells] at hu
  | cons r l ih =>
    rw [ducells_cons] at hu
    simp only [List.mem_cons] at hu
    rcases hu with rfl | rfl | hu
    · rfl
    · rfl
    · exact ih hu
theorem ducells_set (l : List Du) (k : Nat) (r : Du) : ((ducells l).set (k * 2) (.int .i64 r.time)).set (k * 2 + 1) (.int .i64 r.id) = ducells (l.set k r) := by
  induction l generalizing k with
  | nil => simp [ducells]
  | cons x l ih =>
    cases k with
    | zero => simp [ducells_cons]
    | succ k =>
      rw [show (k + 1) * 2 = k * 2 + 2 by omega, List.set_cons_succ, ducells_cons, ducells_cons, ← ih k]
      rfl
/-- A list of the call's own. -/
def DuRow (base : Nat) (w : World) (v : Value) (l : List Du) : Prop := w.ownsRow base 33 2 v l.length (ducells l)
theorem DuRow.carry {base : Nat} {w w' : World} {v : Value} {l : List Du} (h : DuRow base w v l) (g : ∀ k, v.ownBlock = some k → k < w.heap.size → w'.heap[k]? = w.heap[k]?) : DuRow base w' v l := by
  refine ⟨h.1, h.2.imp id ?_⟩
  rintro ⟨g0, cap, cur, h1, h2, h3, h4⟩
  exact ⟨g0, cap, cur, h1, h2, by rw [g g0 (by rw [h1]; rfl) (Array.getElem?_eq_some_iff.1 h3).1]; exact h3, h4⟩
theorem DuRow.below {base n : Nat} {w w' : World} {v : Value} {l : List Du} (h : DuRow base w v l) (hn : ∀ k, v.ownBlock = some k → k < n) (g : Below n w w') : DuRow base w' v l :=
  h.carry fun k hk _ => g.block k (hn k hk)
theorem DuRow.shape {base : Nat} {w : World} {v : Value} {l : List Du} (h : DuRow base w v l) : ∃ a cap, v = .slice a l.length cap := by
  rcases h.2 with ⟨rfl, hn⟩ | ⟨g, cap, cur, rfl, _⟩
  · rw [hn]; exact ⟨none, 0, rfl⟩
  · exact ⟨_, _, rfl⟩
theorem DuRow.cap {base : Nat} {w : World} {a : Option Addr} {c : Nat} {l : List Du} (h : DuRow base w (.slice a l.length c) l) : l.length ≤ c := by
  rcases h.2 with ⟨e, hn⟩ | ⟨g', c', cur, e, _, _, h4, _⟩
  · omega
  · cases e; exact h4
theorem DuRow.nilCap {base : Nat} {w : World} {a : Option Addr} {c : Nat} {l : List Du} (h : DuRow base w (.slice a l.length c) l) : a = none → c = 0 := by
  intro ha
  subst ha
  rcases h.2 with ⟨e, hn⟩ | ⟨g', c', cur, e, _⟩
  · simpa using (Value.slice.inj e).2.2
  · cases e
theorem DuRow.lt {base : Nat} {w : World} {v : Value} {l : List Du} (h : DuRow base w v l) : ∀ k, v.ownBlock = some k → base ≤ k ∧ k < w.heap.size := World.ownsRow.lt h
theorem DuRow.alloc {base : Nat} {w : World} {v : Value} {l : List Du} (h : DuRow base w v l) (o : Obj) : DuRow base (w.alloc o) v l := World.ownsRow.alloc h o
theorem DuRow.drew {base : Nat} {w : World} {v : Value} {l : List Du} (h : DuRow base w v l) : DuRow base w.drew v l := h
theorem DuRow.mono {base base' : Nat} {w : World} {v : Value} {l : List Du} (h : DuRow base w v l) (hb : base' ≤ base) : DuRow base' w v l := ⟨h.1, h.2.imp id fun ⟨g, cap, cur, h1, h2, h3⟩ => ⟨g, cap, cur, h1, Nat.le_trans hb h2, h3⟩⟩
theorem DuRow.at {base : Nat} {w : World} {a : Option Addr} {cap : Nat} {l : List Du} (h : DuRow base w (.slice a l.length cap) l) : DusAt w a l := by
  intro k hk
  rcases h.2 with ⟨_, hn⟩ | ⟨g, cap', cur, e, h2, h3, h4⟩
  · omega
  · obtain ⟨rfl, _, rfl⟩ : a = some ⟨g, 0, none⟩ ∧ True ∧ cap = cap' := by simpa using e
    have hc := World.ownsRow.cellAt (show w.ownsRow base 33 2 (.slice (some ⟨g, 0, none⟩) l.length cap) l.length _ from h)
    obtain ⟨e0, e1⟩ := ducells_get l k hk
    exact ⟨g, 0, rfl, (Array.getElem?_eq_some_iff.1 h3).1, by rw [Nat.zero_add, hc _ (by omega), e0], by rw [Nat.zero_add, hc _ (by omega), e1]⟩
/-- One of them put. -/
theorem DuRow.put {base : Nat} {w : World} {g cap n : Nat} {l : List Du} (h : w.ownsRow base 33 2 (.slice (some ⟨g, 0, none⟩) n cap) n (ducells l)) (k : Nat) (r : Du) :
    ((w.setCell ⟨g, k * 2, none⟩ (.int .i64 r.time)).setCell ⟨g, k * 2 + 1, none⟩ (.int .i64 r.id)).ownsRow base 33 2 (.slice (some ⟨g, 0, none⟩) n cap) n (ducells (l.set k r)) := by
  have h1 := (h.stored (k * 2) (.int .i64 r.time)).1
  have h2 := (h1.stored (k * 2 + 1) (.int .i64 r.id)).1
  rw [ducells_set] at h2
  exact h2
theorem duInfo : (Try.prog.info? 33).map (fun i => (i.zero, i.size, i.bytes)) = some (some (.agg #[.int .i64 0, .int .i64 0]), 2, 16) := by kernel_rfl
theorem duMade (n : Nat) : (madeCells #[Value.int .i64 0, .int .i64 0] (n * 2)).toList = ducells (List.replicate n ⟨0, 0⟩) := by
  apply List.ext_getElem?
  intro i
  by_cases hi : i < n * 2
  · obtain ⟨k, j, rfl, hj⟩ : ∃ k j, i = k * 2 + j ∧ j < 2 := ⟨i / 2, i % 2, by omega, Nat.mod_lt _ (by omega)⟩
    have hk : k < n := by omega
    obtain ⟨e0, e1⟩ := ducells_get (List.replicate n ⟨0, 0⟩) k (by simpa using hk)
    have hz : duAt (List.replicate n ⟨0, 0⟩) k = ⟨0, 0⟩ := by simp [duAt, hk]
    rw [hz] at e0 e1
    have hm : (k * 2 + j) % 2 = j := by omega
    have hL : (madeCells #[Value.int .i64 0, .int .i64 0] (n * 2)).toList[k * 2 + j]? = some (.int .i64 0) := by
      simp [madeCells, hi, hm]
      match j, hj with
      | 0, _ => rfl
      | 1, _ => rfl
    rw [hL]
    match j, hj with
    | 0, _ => exact e0.symm
    | 1, _ => exact e1.symm
  · rw [List.getElem?_eq_none (by simp [madeCells]; omega), List.getElem?_eq_none (by rw [ducells_length]; simp; omega)]
theorem duTakeSet (l : List Du) (n k : Nat) (hn : l.length = n) (hk : k < n) : (l.take k ++ List.replicate (n - k) (⟨0, 0⟩ : Du)).set k (duAt l k) = l.take (k + 1) ++ List.replicate (n - (k + 1)) ⟨0, 0⟩ := by
  subst hn
  rw [List.set_append_right _ _ (by simp; omega), List.take_succ_eq_append_getElem hk, duAt_lt hk]
  simp only [List.length_take, Nat.min_eq_left (Nat.le_of_lt hk), Nat.sub_self]
  obtain ⟨m, hm⟩ : ∃ m, l.length - k = m + 1 := ⟨l.length - k - 1, by omega⟩
  rw [hm, show l.length - (k + 1) = m by omega, List.replicate_succ, List.set_cons_zero]
  simp only [List.append_assoc, List.cons_append, List.nil_append]
end Go.Proofs.Ytgimalimfmoilaa
