import Derived.RowKit3
import Derived.Below
import Derived.Laws.AppendOwn
import Derived.Laws.OwnMore
import Derived.Laws.MakeOwn
import Derived.Test.YtfkkmjejmflgjaaRows
import Derived.Test.YtfkkmjejmflgjaaQ2SsV
/-
  A record of 10 numbers (Rule) as plain data, and cells that hold a list of them. By the verifier, by program.
-/
namespace Go.Proofs.Ytfkkmjejmflgjaa
open Go.RowKit

structure Ru where
  id : Int
  prio : Int
  snet : Int
  sbits : Int
  dnet : Int
  dbits : Int
  proto : Int
  low : Int
  high : Int
  cls : Int
/-- As a value. -/
def Ru.val (r : Ru) : Value := .agg #[.int .i64 r.id, .int .i64 r.prio, .int .i64 r.snet, .int .i64 r.sbits, .int .i64 r.dnet, .int .i64 r.dbits, .int .i64 r.proto, .int .i64 r.low, .int .i64 r.high, .int .i64 r.cls]
/-- Its cells. -/
def Ru.cells (r : Ru) : List Value := [.int .i64 r.id, .int .i64 r.prio, .int .i64 r.snet, .int .i64 r.sbits, .int .i64 r.dnet, .int .i64 r.dbits, .int .i64 r.proto, .int .i64 r.low, .int .i64 r.high, .int .i64 r.cls]
/-- The one at a place. -/
def ruAt (l : List Ru) (k : Nat) : Ru := l[k]?.getD ⟨0, 0, 0, 0, 0, 0, 0, 0, 0, 0⟩
/-- Cells that hold these. -/
def RusAt (w : World) (a : Option Addr) (l : List Ru) : Prop :=
  ∀ k, k < l.length → ∃ b off, a = some ⟨b, off, none⟩ ∧ b < w.heap.size ∧ w.cell? ⟨b, off + k * 10, none⟩ = some (.int .i64 (ruAt l k).id) ∧ w.cell? ⟨b, off + k * 10 + 1, none⟩ = some (.int .i64 (ruAt l k).prio) ∧ w.cell? ⟨b, off + k * 10 + 2, none⟩ = some (.int .i64 (ruAt l k).snet) ∧ w.cell? ⟨b, off + k * 10 + 3, none⟩ = some (.int .i64 (ruAt l k).sbits) ∧ w.cell? ⟨b, off + k * 10 + 4, none⟩ = some (.int .i64 (ruAt l k).dnet) ∧ w.cell? ⟨b, off + k * 10 + 5, none⟩ = some (.int .i64 (ruAt l k).dbits) ∧ w.cell? ⟨b, off + k * 10 + 6, none⟩ = some (.int .i64 (ruAt l k).proto) ∧ w.cell? ⟨b, off + k * 10 + 7, none⟩ = some (.int .i64 (ruAt l k).low) ∧ w.cell? ⟨b, off + k * 10 + 8, none⟩ = some (.int .i64 (ruAt l k).high) ∧ w.cell? ⟨b, off + k * 10 + 9, none⟩ = some (.int .i64 (ruAt l k).cls)
theorem RusAt.below {w w' : World} {a : Option Addr} {l : List Ru} (h : RusAt w a l) (g : Below w.heap.size w w') : RusAt w' a l := by
  intro k hk
  obtain ⟨b, off, e, hb, c0, c1, c2, c3, c4, c5, c6, c7, c8, c9⟩ := h k hk
  exact ⟨b, off, e, Nat.lt_of_lt_of_le hb g.size, by rw [g.cell (p := ⟨b, off + k * 10, none⟩) hb]; exact c0, by rw [g.cell (p := ⟨b, off + k * 10 + 1, none⟩) hb]; exact c1, by rw [g.cell (p := ⟨b, off + k * 10 + 2, none⟩) hb]; exact c2, by rw [g.cell (p := ⟨b, off + k * 10 + 3, none⟩) hb]; exact c3, by rw [g.cell (p := ⟨b, off + k * 10 + 4, none⟩) hb]; exact c4, by rw [g.cell (p := ⟨b, off + k * 10 + 5, none⟩) hb]; exact c5, by rw [g.cell (p := ⟨b, off + k * 10 + 6, none⟩) hb]; exact c6, by rw [g.cell (p := ⟨b, off + k * 10 + 7, none⟩) hb]; exact c7, by rw [g.cell (p := ⟨b, off + k * 10 + 8, none⟩) hb]; exact c8, by rw [g.cell (p := ⟨b, off + k * 10 + 9, none⟩) hb]; exact c9⟩
theorem RusAt.alloc {w : World} {a : Option Addr} {l : List Ru} (h : RusAt w a l) (o : Obj) : RusAt (w.alloc o) a l :=
  h.below ((Below.refl _ _).alloc (Nat.le_refl _) _)
theorem RusAt.drew {w : World} {a : Option Addr} {l : List Ru} (h : RusAt w a l) : RusAt w.drew a l := h.below (Below.refl _ _).drew
theorem RusAt.nil (w : World) (a : Option Addr) : RusAt w a [] := by intro k hk; simp at hk
theorem RusAt.empty {w : World} {l : List Ru} (h : RusAt w none l) : l = [] := by
  cases l with
  | nil => rfl
  | cons z zs => obtain ⟨b, off, e, _⟩ := h 0 (by simp); cases e
theorem RusAt.cells {w : World} {b off k : Nat} {l : List Ru} (h : RusAt w (some ⟨b, off, none⟩) l) (hk : k < l.length) : w.cell? ⟨b, off + k * 10, none⟩ = some (.int .i64 (ruAt l k).id) ∧ w.cell? ⟨b, off + k * 10 + 1, none⟩ = some (.int .i64 (ruAt l k).prio) ∧ w.cell? ⟨b, off + k * 10 + 2, none⟩ = some (.int .i64 (ruAt l k).snet) ∧ w.cell? ⟨b, off + k * 10 + 3, none⟩ = some (.int .i64 (ruAt l k).sbits) ∧ w.cell? ⟨b, off + k * 10 + 4, none⟩ = some (.int .i64 (ruAt l k).dnet) ∧ w.cell? ⟨b, off + k * 10 + 5, none⟩ = some (.int .i64 (ruAt l k).dbits) ∧ w.cell? ⟨b, off + k * 10 + 6, none⟩ = some (.int .i64 (ruAt l k).proto) ∧ w.cell? ⟨b, off + k * 10 + 7, none⟩ = some (.int .i64 (ruAt l k).low) ∧ w.cell? ⟨b, off + k * 10 + 8, none⟩ = some (.int .i64 (ruAt l k).high) ∧ w.cell? ⟨b, off + k * 10 + 9, none⟩ = some (.int .i64 (ruAt l k).cls) := by
  obtain ⟨b', off', e, _, c⟩ := h k hk
  cases e
  exact c
/-- The cells of a list. -/
def rucells (l : List Ru) : List Value := l.flatMap Ru.cells
theorem rucells_cons (r : Ru) (l : List Ru) : rucells (r :: l) = .int .i64 r.id :: .int .i64 r.prio :: .int .i64 r.snet :: .int .i64 r.sbits :: .int .i64 r.dnet :: .int .i64 r.dbits :: .int .i64 r.proto :: .int .i64 r.low :: .int .i64 r.high :: .int .i64 r.cls :: rucells l := rfl
theorem rucells_length (l : List Ru) : (rucells l).length = l.length * 10 := by
  induction l with
  | nil => rfl
  | cons r l ih => rw [rucells_cons]; simp [ih]; omega
theorem rucells_get (l : List Ru) (k : Nat) (hk : k < l.length) : (rucells l)[k * 10]? = some (.int .i64 (ruAt l k).id) ∧ (rucells l)[k * 10 + 1]? = some (.int .i64 (ruAt l k).prio) ∧ (rucells l)[k * 10 + 2]? = some (.int .i64 (ruAt l k).snet) ∧ (rucells l)[k * 10 + 3]? = some (.int .i64 (ruAt l k).sbits) ∧ (rucells l)[k * 10 + 4]? = some (.int .i64 (ruAt l k).dnet) ∧ (rucells l)[k * 10 + 5]? = some (.int .i64 (ruAt l k).dbits) ∧ (rucells l)[k * 10 + 6]? = some (.int .i64 (ruAt l k).proto) ∧ (rucells l)[k * 10 + 7]? = some (.int .i64 (ruAt l k).low) ∧ (rucells l)[k * 10 + 8]? = some (.int .i64 (ruAt l k).high) ∧ (rucells l)[k * 10 + 9]? = some (.int .i64 (ruAt l k).cls) := by
  induction l generalizing k with
  | nil => simp at hk
  | cons r l ih =>
    cases k with
    | zero => simp [rucells_cons, ruAt]
    | succ k =>
      have := ih k (by simpa using hk)
      rw [show (k + 1) * 10 = k * 10 + 10 by omega]
      simpa [rucells_cons, ruAt] using this
theorem rucells_set (l : List Ru) (k : Nat) (r : Ru) : ((((((((((rucells l).set (k * 10) (.int .i64 r.id)).set (k * 10 + 1) (.int .i64 r.prio)).set (k * 10 + 2) (.int .i64 r.snet)).set (k * 10 + 3) (.int .i64 r.sbits)).set (k * 10 + 4) (.int .i64 r.dnet)).set (k * 10 + 5) (.int .i64 r.dbits)).set (k * 10 + 6) (.int .i64 r.proto)).set (k * 10 + 7) (.int .i64 r.low)).set (k * 10 + 8) (.int .i64 r.high)).set (k * 10 + 9) (.int .i64 r.cls) = rucells (l.set k r) := by
  induction l generalizing k with
  | nil => simp [rucells]
  | cons x l ih =>
    cases k with
    | zero => simp [rucells_cons]
    | succ k =>
      rw [show (k + 1) * 10 = k * 10 + 10 by omega, List.set_cons_succ, rucells_cons, rucells_cons, ← ih k]
      rfl
/-- A list of the call's own. -/
def RuRow (base : Nat) (w : World) (v : Value) (l : List Ru) : Prop := w.ownsRow base 105 10 v l.length (rucells l)
theorem RuRow.carry {base : Nat} {w w' : World} {v : Value} {l : List Ru} (h : RuRow base w v l) (g : ∀ k, v.ownBlock = some k → k < w.heap.size → w'.heap[k]? = w.heap[k]?) : RuRow base w' v l := by
  refine ⟨h.1, h.2.imp id ?_⟩
  rintro ⟨g0, cap, cur, h1, h2, h3, h4⟩
  exact ⟨g0, cap, cur, h1, h2, by rw [g g0 (by rw [h1]; rfl) (Array.getElem?_eq_some_iff.1 h3).1]; exact h3, h4⟩
theorem RuRow.below {base n : Nat} {w w' : World} {v : Value} {l : List Ru} (h : RuRow base w v l) (hn : ∀ k, v.ownBlock = some k → k < n) (g : Below n w w') : RuRow base w' v l :=
  h.carry fun k hk _ => g.block k (hn k hk)
theorem RuRow.shape {base : Nat} {w : World} {v : Value} {l : List Ru} (h : RuRow base w v l) : ∃ a cap, v = .slice a l.length cap := by
  rcases h.2 with ⟨rfl, hn⟩ | ⟨g, cap, cur, rfl, _⟩
  · rw [hn]; exact ⟨none, 0, rfl⟩
  · exact ⟨_, _, rfl⟩
theorem RuRow.cap {base : Nat} {w : World} {a : Option Addr} {c : Nat} {l : List Ru} (h : RuRow base w (.slice a l.length c) l) : l.length ≤ c := by
  rcases h.2 with ⟨e, hn⟩ | ⟨g', c', cur, e, _, _, h4, _⟩
  · omega
  · cases e; exact h4
theorem RuRow.nilCap {base : Nat} {w : World} {a : Option Addr} {c : Nat} {l : List Ru} (h : RuRow base w (.slice a l.length c) l) : a = none → c = 0 := by
  intro ha
  subst ha
  rcases h.2 with ⟨e, hn⟩ | ⟨g', c', cur, e, _⟩
  · simpa using (Value.slice.inj e).2.2
  · cases e
theorem RuRow.lt {base : Nat} {w : World} {v : Value} {l : List Ru} (h : RuRow base w v l) : ∀ k, v.ownBlock = some k → base ≤ k ∧ k < w.heap.size := World.ownsRow.lt h
theorem RuRow.alloc {base : Nat} {w : World} {v : Value} {l : List Ru} (h : RuRow base w v l) (o : Obj) : RuRow base (w.alloc o) v l := World.ownsRow.alloc h o
theorem RuRow.drew {base : Nat} {w : World} {v : Value} {l : List Ru} (h : RuRow base w v l) : RuRow base w.drew v l := h
theorem RuRow.mono {base base' : Nat} {w : World} {v : Value} {l : List Ru} (h : RuRow base w v l) (hb : base' ≤ base) : RuRow base' w v l := ⟨h.1, h.2.imp id fun ⟨g, cap, cur, h1, h2, h3⟩ => ⟨g, cap, cur, h1, Nat.le_trans hb h2, h3⟩⟩
theorem RuRow.at {base : Nat} {w : World} {a : Option Addr} {cap : Nat} {l : List Ru} (h : RuRow base w (.slice a l.length cap) l) : RusAt w a l := by
  intro k hk
  rcases h.2 with ⟨_, hn⟩ | ⟨g, cap', cur, e, h2, h3, h4⟩
  · omega
  · obtain ⟨rfl, _, rfl⟩ : a = some ⟨g, 0, none⟩ ∧ True ∧ cap = cap' := by simpa using e
    have hc := World.ownsRow.cellAt (show w.ownsRow base 105 10 (.slice (some ⟨g, 0, none⟩) l.length cap) l.length _ from h)
    obtain ⟨e0, e1, e2, e3, e4, e5, e6, e7, e8, e9⟩ := rucells_get l k hk
    exact ⟨g, 0, rfl, (Array.getElem?_eq_some_iff.1 h3).1, by rw [Nat.zero_add, hc _ (by omega), e0], by rw [Nat.zero_add, hc _ (by omega), e1], by rw [Nat.zero_add, hc _ (by omega), e2], by rw [Nat.zero_add, hc _ (by omega), e3], by rw [Nat.zero_add, hc _ (by omega), e4], by rw [Nat.zero_add, hc _ (by omega), e5], by rw [Nat.zero_add, hc _ (by omega), e6], by rw [Nat.zero_add, hc _ (by omega), e7], by rw [Nat.zero_add, hc _ (by omega), e8], by rw [Nat.zero_add, hc _ (by omega), e9]⟩
/-- One of them put. -/
theorem RuRow.put {base : Nat} {w : World} {g cap n : Nat} {l : List Ru} (h : w.ownsRow base 105 10 (.slice (some ⟨g, 0, none⟩) n cap) n (rucells l)) (k : Nat) (r : Ru) :
    ((((((((((w.setCell ⟨g, k * 10, none⟩ (.int .i64 r.id)).setCell ⟨g, k * 10 + 1, none⟩ (.int .i64 r.prio)).setCell ⟨g, k * 10 + 2, none⟩ (.int .i64 r.snet)).setCell ⟨g, k * 10 + 3, none⟩ (.int .i64 r.sbits)).setCell ⟨g, k * 10 + 4, none⟩ (.int .i64 r.dnet)).setCell ⟨g, k * 10 + 5, none⟩ (.int .i64 r.dbits)).setCell ⟨g, k * 10 + 6, none⟩ (.int .i64 r.proto)).setCell ⟨g, k * 10 + 7, none⟩ (.int .i64 r.low)).setCell ⟨g, k * 10 + 8, none⟩ (.int .i64 r.high)).setCell ⟨g, k * 10 + 9, none⟩ (.int .i64 r.cls)).ownsRow base 105 10 (.slice (some ⟨g, 0, none⟩) n cap) n (rucells (l.set k r)) := by
  have h1 := (h.stored (k * 10) (.int .i64 r.id)).1
  have h2 := (h1.stored (k * 10 + 1) (.int .i64 r.prio)).1
  have h3 := (h2.stored (k * 10 + 2) (.int .i64 r.snet)).1
  have h4 := (h3.stored (k * 10 + 3) (.int .i64 r.sbits)).1
  have h5 := (h4.stored (k * 10 + 4) (.int .i64 r.dnet)).1
  have h6 := (h5.stored (k * 10 + 5) (.int .i64 r.dbits)).1
  have h7 := (h6.stored (k * 10 + 6) (.int .i64 r.proto)).1
  have h8 := (h7.stored (k * 10 + 7) (.int .i64 r.low)).1
  have h9 := (h8.stored (k * 10 + 8) (.int .i64 r.high)).1
  have h10 := (h9.stored (k * 10 + 9) (.int .i64 r.cls)).1
  rw [rucells_set] at h10
  exact h10
end Go.Proofs.Ytfkkmjejmflgjaa

/-
  Lists of records (Rule) that lie wherever: read. By the verifier, by program.
-/
namespace Go.Proofs.Ytfkkmjejmflgjaa
open Go.RowKit

/-- A list of records in blocks from b up to t. -/
def RuIn (b t : Nat) (w : World) (v : Value) (l : List Ru) : Prop := SlIn b t w v l.length (rucells l)
theorem rucells_ne {l : List Ru} (h : 0 < l.length) : rucells l ≠ [] := by
  intro e
  have := rucells_length l
  rw [e] at this
  simp at this
  omega
theorem RusAt.of_in {b t : Nat} {w : World} {a : Option Addr} {cap : Nat} {l : List Ru} (h : RuIn b t w (.slice a l.length cap) l) : RusAt w a l := by
  intro k hk
  obtain ⟨g, off, rfl, h1, h2, h3⟩ := SlIn.some h (rucells_ne (by omega))
  have hl := rucells_length l
  obtain ⟨e0, e1, e2, e3, e4, e5, e6, e7, e8, e9⟩ := rucells_get l k hk
  refine ⟨g, off, rfl, by omega, ?_, ?_, ?_, ?_, ?_, ?_, ?_, ?_, ?_, ?_⟩
  · have := (SlIn.cells h (k * 10) (by omega)).1
    rw [e0] at this
    exact this
  · have := (SlIn.cells h (k * 10 + 1) (by omega)).1
    rw [e1] at this
    exact this
  · have := (SlIn.cells h (k * 10 + 2) (by omega)).1
    rw [e2] at this
    exact this
  · have := (SlIn.cells h (k * 10 + 3) (by omega)).1
    rw [e3] at this
    exact this
  · have := (SlIn.cells h (k * 10 + 4) (by omega)).1
    rw [e4] at this
    exact this
  · have := (SlIn.cells h (k * 10 + 5) (by omega)).1
    rw [e5] at this
    exact this
  · have := (SlIn.cells h (k * 10 + 6) (by omega)).1
    rw [e6] at this
    exact this
  · have := (SlIn.cells h (k * 10 + 7) (by omega)).1
    rw [e7] at this
    exact this
  · have := (SlIn.cells h (k * 10 + 8) (by omega)).1
    rw [e8] at this
    exact this
  · have := (SlIn.cells h (k * 10 + 9) (by omega)).1
    rw [e9] at this
    exact this
theorem RuIn.of_row {b t : Nat} {w : World} {v : Value} {l : List Ru} (h : RuRow b w v l) (ht : ∀ k, v.ownBlock = some k → k < t) (hs : t ≤ w.heap.size) : RuIn b t w v l := SlIn.of_row h ht hs
end Go.Proofs.Ytfkkmjejmflgjaa

/-
  Lists of Rule as values, with memory of their own or not. By the verifier.
-/
namespace Go.Proofs.Ytfkkmjejmflgjaa
open Go.RowKit

def RusV (w : World) (v : Value) (l : List Ru) : Prop := ∃ a c, v = .slice a l.length c ∧ RusAt w a l ∧ l.length ≤ c ∧ (a = none → c = 0)
def RusW (b t : Nat) (w : World) (v : Value) (l : List Ru) : Prop := RuIn b t w v l ∧ ∃ a c, v = .slice a l.length c ∧ l.length ≤ c ∧ (a = none → c = 0)
section
variable {b t : Nat} {w w' : World} {v : Value} {l : List Ru}
theorem RusW.at (h : RusW b t w v l) : RusV w v l := by
  obtain ⟨h1, a, c, rfl, h2⟩ := h
  exact ⟨a, c, rfl, RusAt.of_in h1, h2⟩
theorem RusV.below (h : RusV w v l) (g : Below w.heap.size w w') : RusV w' v l := by
  obtain ⟨a, c, e, h1, h2⟩ := h
  exact ⟨a, c, e, h1.below g, h2⟩
theorem RusW.keep (h : RusW b t w v l) (hs : w.heap.size ≤ w'.heap.size) (hk : ∀ k, b ≤ k → k < t → w'.heap[k]? = w.heap[k]?) : RusW b t w' v l := ⟨SlIn.keep h.1 hs hk, h.2⟩
theorem RusW.below (h : RusW b t w v l) (g : Below w.heap.size w w') : RusW b t w' v l := ⟨SlIn.below h.1 g, h.2⟩
theorem RusW.cells (h : RusW b t w v l) : ∃ p q, v = .slice p l.length q := by
  obtain ⟨_, a, c, e, _⟩ := h
  exact ⟨a, c, e⟩
theorem RusW.of_row (h : RuRow b w v l) : RusW b w.heap.size w v l := by
  refine ⟨RuIn.of_row h (fun k hk => (h.lt k hk).2) (Nat.le_refl _), ?_⟩
  obtain ⟨a, c, e⟩ := h.shape
  subst e
  exact ⟨a, c, rfl, h.cap, h.nilCap⟩
end
end Go.Proofs.Ytfkkmjejmflgjaa
