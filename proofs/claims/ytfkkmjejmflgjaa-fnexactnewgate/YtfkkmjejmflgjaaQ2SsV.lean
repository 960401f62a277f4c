import Derived.RowKit3
import Derived.Below
import Derived.Laws.AppendOwn
import Derived.Laws.OwnMore
import Derived.WalkKit
import Derived.Laws.Rows
import Derived.Laws.Tables
import Derived.Test.YtfkkmjejmflgjaaQ1NdPlain
import Derived.Test.YtfkkmjejmflgjaaQ0SrPlain
/-
  Cells of a list that lie between two places of memory, whatever the block and wherever in it: read, put, kept, turned. By the verifier.
-/
namespace Go.Proofs.Ytfkkmjejmflgjaa
open Go.RowKit

/-- Cells that hold these values and may be written. -/
def CellsAt (w : World) (g off : Nat) (xs : List Value) : Prop :=
  ∀ j, j < xs.length → w.cell? ⟨g, off + j, none⟩ = some (xs[j]?.getD undef) ∧ w.frozen? ⟨g, off + j, none⟩ = false
/-- A list of n whose cells are xs, in blocks from b up to t. -/
def SlIn (b t : Nat) (w : World) (v : Value) (n : Nat) (xs : List Value) : Prop :=
  ∃ a cap, v = .slice a n cap ∧ (xs ≠ [] → ∃ g off, a = some ⟨g, off, none⟩ ∧ b ≤ g ∧ g < t ∧ t ≤ w.heap.size ∧ CellsAt w g off xs)
/-- A cell of the first m of a list. -/
def Hits (v : Value) (m k o : Nat) : Prop := ∃ off n cap, v = .slice (some ⟨k, off, none⟩) n cap ∧ off ≤ o ∧ o < off + m
/-- No cell but those of H was turned. -/
structure Turn (H : Nat → Nat → Prop) (w w' : World) : Prop where
  os : w'.os = w.os
  tape : w'.tape = w.tape
  output : w'.output = w.output
  size : w'.heap.size = w.heap.size
  block : ∀ k, (∀ o, ¬ H k o) → w'.heap[k]? = w.heap[k]?
  cell : ∀ k o, ¬ H k o → w'.cell? ⟨k, o, none⟩ = w.cell? ⟨k, o, none⟩
  ice : ∀ k o, w'.frozen? ⟨k, o, none⟩ = w.frozen? ⟨k, o, none⟩
theorem Turn.refl (H : Nat → Nat → Prop) (w : World) : Turn H w w := ⟨rfl, rfl, rfl, rfl, fun _ _ => rfl, fun _ _ _ => rfl, fun _ _ => rfl⟩
theorem Turn.trans {H : Nat → Nat → Prop} {x y z : World} (h : Turn H x y) (g : Turn H y z) : Turn H x z :=
  ⟨g.os.trans h.os, g.tape.trans h.tape, g.output.trans h.output, g.size.trans h.size, fun k hk => (g.block k hk).trans (h.block k hk), fun k o hk => (g.cell k o hk).trans (h.cell k o hk), fun k o => (g.ice k o).trans (h.ice k o)⟩
theorem Turn.wide {H G : Nat → Nat → Prop} {x y : World} (h : Turn H x y) (hg : ∀ k o, H k o → G k o) : Turn G x y :=
  ⟨h.os, h.tape, h.output, h.size, fun k hk => h.block k fun o ho => hk o (hg k o ho), fun k o hk => h.cell k o fun ho => hk (hg k o ho), h.ice⟩
theorem turn_set (w : World) (g o : Nat) (u : Value) : Turn (fun k p => k = g ∧ p = o) w (w.setCell ⟨g, o, none⟩ u) := by
  refine ⟨rfl, rfl, rfl, by simp [World.setCell], fun k hk => Below.heap_setCell _ _ _ _ (fun e => hk o ⟨e, rfl⟩), fun k p hk => ?_, fun k p => World.frozen?_setCell _ _ _ _⟩
  refine World.cell?_setCell_other _ _ _ _ ?_
  intro e
  simp only [Addr.mk.injEq, and_true] at e
  exact hk ⟨e.1.symm, e.2.symm⟩
/-- What lies below is as it was. -/
theorem Turn.below {H : Nat → Nat → Prop} {w w' : World} (h : Turn H w w') {b : Nat} (hb : ∀ k o, H k o → b ≤ k) : Below b w w' :=
  ⟨h.os, h.tape, h.output, Nat.le_of_eq h.size.symm, fun k hk => h.block k fun o ho => absurd (hb k o ho) (by omega)⟩

theorem cell_kept {w w' : World} {k o : Nat} (h : w'.heap[k]? = w.heap[k]?) : w'.cell? ⟨k, o, none⟩ = w.cell? ⟨k, o, none⟩ := World.cell?_of_block (w := w) h
theorem ice_kept {w w' : World} {k o : Nat} (h : w'.heap[k]? = w.heap[k]?) : w'.frozen? ⟨k, o, none⟩ = w.frozen? ⟨k, o, none⟩ := World.frozen?_of_block (w := w) h
section
variable {b t n : Nat} {w w' : World} {v : Value} {xs : List Value}
theorem SlIn.shape (h : SlIn b t w v n xs) : ∃ a cap, v = .slice a n cap := by
  obtain ⟨a, cap, e, _⟩ := h
  exact ⟨a, cap, e⟩
theorem SlIn.keep (h : SlIn b t w v n xs) (hs : w.heap.size ≤ w'.heap.size) (hk : ∀ k, b ≤ k → k < t → w'.heap[k]? = w.heap[k]?) : SlIn b t w' v n xs := by
  obtain ⟨a, cap, e, hx⟩ := h
  refine ⟨a, cap, e, fun hne => ?_⟩
  obtain ⟨g, off, e1, h1, h2, h3, h4⟩ := hx hne
  refine ⟨g, off, e1, h1, h2, Nat.le_trans h3 hs, fun j hj => ?_⟩
  rw [cell_kept (hk g h1 h2), ice_kept (hk g h1 h2)]
  exact h4 j hj
theorem SlIn.below (h : SlIn b t w v n xs) (g : Below w.heap.size w w') : SlIn b t w' v n xs := by
  obtain ⟨a, cap, e, hx⟩ := h
  refine ⟨a, cap, e, fun hne => ?_⟩
  obtain ⟨g0, off, e1, h1, h2, h3, h4⟩ := hx hne
  refine ⟨g0, off, e1, h1, h2, Nat.le_trans h3 g.size, fun j hj => ?_⟩
  have hb := g.block g0 (Nat.lt_of_lt_of_le h2 h3)
  rw [cell_kept hb, ice_kept hb]
  exact h4 j hj
theorem SlIn.turn {H : Nat → Nat → Prop} (h : SlIn b t w v n xs) (g : Turn H w w') (hd : ∀ k o, Hits v xs.length k o → ¬ H k o) : SlIn b t w' v n xs := by
  obtain ⟨a, cap, e, hx⟩ := h
  refine ⟨a, cap, e, fun hne => ?_⟩
  obtain ⟨g0, off, e1, h1, h2, h3, h4⟩ := hx hne
  refine ⟨g0, off, e1, h1, h2, by rw [g.size]; exact h3, fun j hj => ?_⟩
  rw [g.cell g0 (off + j) (hd _ _ ⟨off, n, cap, by rw [e, e1], by omega, by omega⟩), g.ice]
  exact h4 j hj
theorem SlIn.wide {b' t' : Nat} (h : SlIn b t w v n xs) (hb : b' ≤ b) (ht : t ≤ t') (hs : t' ≤ w.heap.size) : SlIn b' t' w v n xs := by
  obtain ⟨a, cap, e, hx⟩ := h
  refine ⟨a, cap, e, fun hne => ?_⟩
  obtain ⟨g0, off, e1, h1, h2, h3, h4⟩ := hx hne
  exact ⟨g0, off, e1, Nat.le_trans hb h1, Nat.lt_of_lt_of_le h2 ht, hs, h4⟩
theorem SlIn.in (h : SlIn b t w v n xs) {k o : Nat} (hh : Hits v xs.length k o) : b ≤ k ∧ k < t := by
  obtain ⟨a, cap, e, hx⟩ := h
  obtain ⟨off, n', cap', e', h1, h2⟩ := hh
  obtain ⟨g0, off', e1, h3, h4, _⟩ := hx (by rintro rfl; simp at h2; omega)
  rw [e, e1] at e'
  cases e'
  exact ⟨h3, h4⟩
theorem SlIn.put {g off cap : Nat} (h : SlIn b t w (.slice (some ⟨g, off, none⟩) n cap) n xs) (j : Nat) (hj : j < xs.length) (u : Value) :
    SlIn b t (w.setCell ⟨g, off + j, none⟩ u) (.slice (some ⟨g, off, none⟩) n cap) n (xs.set j u) := by
  obtain ⟨a, cap', e, hx⟩ := h
  cases e
  refine ⟨_, _, rfl, fun _ => ?_⟩
  obtain ⟨g0, off', e1, h1, h2, h3, h4⟩ := hx (by rintro rfl; simp at hj)
  cases e1
  refine ⟨g, off, rfl, h1, h2, by simpa [World.setCell] using h3, fun i hi => ?_⟩
  rw [List.length_set] at hi
  refine ⟨?_, by rw [World.frozen?_setCell]; exact (h4 i hi).2⟩
  by_cases hij : i = j
  · subst hij
    rw [World.cell?_setCell_same' _ _ _ (by rw [(h4 i hi).1]; rfl)]
    simp [hi]
  · rw [World.cell?_setCell_other _ _ _ _ (by simp <;> omega), (h4 i hi).1, List.getElem?_set_ne (fun e => hij e.symm)]
theorem SlIn.nil (b t : Nat) (w : World) (a : Option Addr) (cap n : Nat) : SlIn b t w (.slice a n cap) n [] := ⟨a, cap, rfl, fun h => absurd rfl h⟩
theorem SlIn.of_row {e : TypeId} {c : Nat} (h : w.ownsRow b e c v n xs) (ht : ∀ k, v.ownBlock = some k → k < t) (hs : t ≤ w.heap.size) : SlIn b t w v n xs := by
  rcases h.2 with ⟨rfl, rfl⟩ | ⟨g, cap, cur, rfl, hb, hg, hc, _, hz, hx⟩
  · have : xs = [] := by have := h.1; simpa using this
    subst this
    exact SlIn.nil _ _ _ _ _ _
  · refine ⟨_, _, rfl, fun _ => ⟨g, 0, rfl, hb, ht g rfl, hs, fun j hj => ?_⟩⟩
    rw [Nat.zero_add]
    refine ⟨?_, h.frozenAt j⟩
    rw [h.cellAt j (by rw [← h.1]; exact hj), List.getElem?_eq_getElem hj]
    rfl
theorem SlIn.cells {g off cap : Nat} (h : SlIn b t w (.slice (some ⟨g, off, none⟩) n cap) n xs) (j : Nat) (hj : j < xs.length) : w.cell? ⟨g, off + j, none⟩ = some (xs[j]?.getD undef) ∧ w.frozen? ⟨g, off + j, none⟩ = false := by
  obtain ⟨a, cap', e, hx⟩ := h
  cases e
  obtain ⟨g0, off', e1, h1, h2, h3, h4⟩ := hx (by rintro rfl; simp at hj)
  cases e1
  exact h4 j hj
theorem SlIn.some {a : Option Addr} {cap : Nat} (h : SlIn b t w (.slice a n cap) n xs) (hne : xs ≠ []) : ∃ g off, a = some ⟨g, off, none⟩ ∧ b ≤ g ∧ g < t ∧ t ≤ w.heap.size := by
  obtain ⟨a', cap', e, hx⟩ := h
  cases e
  obtain ⟨g0, off', e1, h1, h2, h3, _⟩ := hx hne
  exact ⟨g0, off', e1, h1, h2, h3⟩
end
end Go.Proofs.Ytfkkmjejmflgjaa

/-
  Nothing but what lies between two places was turned. By the verifier.
-/
namespace Go.Proofs.Ytfkkmjejmflgjaa
open Go.RowKit

/-- Nothing but what lies from b up to t was turned; what is new lies behind. -/
structure Span (b t : Nat) (w w' : World) : Prop where
  os : w'.os = w.os
  tape : w'.tape = w.tape
  output : w'.output = w.output
  size : w.heap.size ≤ w'.heap.size
  block : ∀ k, k < w.heap.size → k < b ∨ t ≤ k → w'.heap[k]? = w.heap[k]?
theorem Span.refl (b t : Nat) (w : World) : Span b t w w := ⟨rfl, rfl, rfl, Nat.le_refl _, fun _ _ _ => rfl⟩
theorem Span.trans {b t : Nat} {x y z : World} (h : Span b t x y) (g : Span b t y z) : Span b t x z :=
  ⟨g.os.trans h.os, g.tape.trans h.tape, g.output.trans h.output, Nat.le_trans h.size g.size, fun k hk hb => (g.block k (Nat.lt_of_lt_of_le hk h.size) hb).trans (h.block k hk hb)⟩
theorem Span.of_turn {H : Nat → Nat → Prop} {b t : Nat} {w w' : World} (h : Turn H w w') (hb : ∀ k o, H k o → b ≤ k ∧ k < t) : Span b t w w' :=
  ⟨h.os, h.tape, h.output, Nat.le_of_eq h.size.symm, fun k _ hk => h.block k fun o ho => by have := hb k o ho; omega⟩
theorem Span.of_below {b t : Nat} {w w' : World} (h : Below w.heap.size w w') : Span b t w w' := ⟨h.os, h.tape, h.output, h.size, fun k hk _ => h.block k hk⟩
theorem Span.below {b t n : Nat} {w w' : World} (h : Span b t w w') (hn : n ≤ b) (hs : n ≤ w.heap.size) : Below n w w' := ⟨h.os, h.tape, h.output, h.size, fun k hk => h.block k (by omega) (.inl (by omega))⟩
end Go.Proofs.Ytfkkmjejmflgjaa

/-
  A struct's block as one fact: a field put, all fields put. By the verifier.
-/
namespace Go.Proofs.Ytfkkmjejmflgjaa
open Go.RowKit

/-- A block that holds these cells. -/
def Boxed (w : World) (B : Nat) (cs : Array Value) (t : TypeId) : Prop := w.heap[B]? = some (.cells cs t)
theorem Boxed.cell {w : World} {B : Nat} {cs : Array Value} {t : TypeId} (h : Boxed w B cs t) (j : Nat) {v : Value} (hj : cs[j]? = some v) : w.cell? ⟨B, j, none⟩ = some v := by
  unfold Boxed at h
  simp [World.cell?, h, hj]
theorem Boxed.below {w w' : World} {B : Nat} {cs : Array Value} {t : TypeId} (h : Boxed w B cs t) {b : Nat} (hb : B < b) (g : Below b w w') : Boxed w' B cs t := by
  unfold Boxed; rw [g.block B hb]; exact h
theorem Boxed.new (w : World) (cs : Array Value) (t : TypeId) : Boxed (w.alloc (.cells cs t)) w.heap.size cs t := by show (w.heap.push _)[w.heap.size]? = _; simp
theorem heapLt {w : World} {k : Nat} {o : Obj} (h : w.heap[k]? = some o) : k < w.heap.size := (Array.getElem?_eq_some_iff.1 h).1
theorem Boxed.under {w : World} {k : Nat} {cs : Array Value} {t : TypeId} (x : Boxed w k cs t) : k < w.heap.size := heapLt x
theorem Boxed.put {w : World} {k : Nat} {cs : Array Value} {t : TypeId} (x : Boxed w k cs t) (j : Nat) (v : Value) : Boxed (w.setCell ⟨k, j, none⟩ v) k (cs.setIfInBounds j v) t := by
  unfold Boxed at *
  simp only [World.setCell, Array.getElem?_modify, if_true, x, Option.map_some]
  rfl
theorem Boxed.far {w : World} {k b : Nat} {cs : Array Value} {t : TypeId} (x : Boxed w k cs t) (h : k ≠ b) (j : Nat) (v : Value) : Boxed (w.setCell ⟨b, j, none⟩ v) k cs t := by
  unfold Boxed at *
  rw [Below.heap_setCell _ _ _ _ h]; exact x
theorem Boxed.ice {w : World} {B : Nat} {cs : Array Value} {t : TypeId} (h : Boxed w B cs t) (j : Nat) : w.frozen? ⟨B, j, none⟩ = false := by
  unfold Boxed at h
  simp [World.frozen?, h]
theorem Boxed.more {w : World} {B : Nat} {cs : Array Value} {t : TypeId} (h : Boxed w B cs t) (o : Obj) : Boxed (w.alloc o) B cs t := by
  unfold Boxed at *
  rw [Below.heap_alloc _ _ _ (heapLt h)]; exact h
end Go.Proofs.Ytfkkmjejmflgjaa

/-
  What lies in memory as a list of things: each turns on the blocks from lo up to hi alone. By the verifier.
-/
namespace Go.Proofs.Ytfkkmjejmflgjaa
open Go.RowKit

structure Thing where
  P : World → Prop
  lo : Nat
  hi : Nat
  keep : ∀ {W W' : World}, P W → W.heap.size ≤ W'.heap.size → (∀ k, lo ≤ k → k < hi → W'.heap[k]? = W.heap[k]?) → P W'
  lt : ∀ {W : World}, P W → hi ≤ W.heap.size
def AllT : List Thing → World → Prop
  | [], _ => True
  | t :: r, W => t.P W ∧ AllT r W
def OffT (b t : Nat) : List Thing → Prop
  | [] => True
  | x :: r => (x.hi ≤ b ∨ t ≤ x.lo) ∧ OffT b t r
theorem AllT.below : ∀ {ts : List Thing} {W W' : World}, AllT ts W → Below W.heap.size W W' → AllT ts W'
  | [], _, _, _, _ => trivial
  | t :: _, _, _, h, g => ⟨t.keep h.1 g.size (fun k _ hk => g.block k (Nat.lt_of_lt_of_le hk (t.lt h.1))), AllT.below h.2 g⟩
theorem AllT.span : ∀ {ts : List Thing} {W W' : World} {b t : Nat}, AllT ts W → Span b t W W' → OffT b t ts → AllT ts W'
  | [], _, _, _, _, _, _, _ => trivial
  | x :: _, _, _, _, _, h, g, o => ⟨x.keep h.1 g.size (fun k h1 h2 => g.block k (Nat.lt_of_lt_of_le h2 (x.lt h.1)) (by
      rcases o.1 with q | q
      · left; omega
      · right; omega)), AllT.span h.2 g o.2⟩
theorem AllT.app : ∀ {ts us : List Thing} {W : World}, AllT ts W → AllT us W → AllT (ts ++ us) W
  | [], _, _, _, h => h
  | _ :: _, _, _, h, g => ⟨h.1, AllT.app h.2 g⟩
/-- All that lies, and what lay before the call. -/
def Lies (w : World) (ts : List Thing) (W : World) : Prop := AllT ts W ∧ Below w.heap.size w W
theorem Lies.below {w : World} {ts : List Thing} {W W' : World} (h : Lies w ts W) (g : Below W.heap.size W W') : Lies w ts W' := ⟨h.1.below g, h.2.trans (g.mono h.2.size)⟩
theorem Lies.span {w : World} {ts : List Thing} {W W' : World} {b t : Nat} (h : Lies w ts W) (g : Span b t W W') (o : OffT b t ts) (hb : w.heap.size ≤ b) : Lies w ts W' := ⟨h.1.span g o, h.2.trans (g.below hb h.2.size)⟩
theorem Lies.more {w : World} {ts us : List Thing} {W W' : World} (h : Lies w ts W) (g : Below W.heap.size W W') (u : AllT us W') : Lies w (ts ++ us) W' := ⟨(h.below g).1.app u, (h.below g).2⟩
abbrev Thing.box (B : Nat) (cs : Array Value) (t : TypeId) : Thing where
  P := fun W => Boxed W B cs t
  lo := B
  hi := B + 1
  keep := fun h _ g => by unfold Boxed at *; rw [g B (Nat.le_refl _) (by omega)]; exact h
  lt := fun h => h.under
/-- Memory from b up to t. -/
abbrev Thing.own (P : World → Prop) (b t : Nat) (hk : ∀ {W W' : World}, P W → W.heap.size ≤ W'.heap.size → (∀ k, b ≤ k → k < t → W'.heap[k]? = W.heap[k]?) → P W') : Thing where
  P := fun W => P W ∧ t ≤ W.heap.size
  lo := b
  hi := t
  keep := fun h s g => ⟨hk h.1 s g, Nat.le_trans h.2 s⟩
  lt := fun h => h.2
end Go.Proofs.Ytfkkmjejmflgjaa

/-
  Lists of records (Node) that lie wherever: read. By the verifier, by program.
-/
namespace Go.Proofs.Ytfkkmjejmflgjaa
open Go.RowKit

/-- A list of records in blocks from b up to t. -/
def NdIn (b t : Nat) (w : World) (v : Value) (l : List Nd) : Prop := SlIn b t w v l.length (ndcells l)
theorem ndcells_ne {l : List Nd} (h : 0 < l.length) : ndcells l ≠ [] := by
  intro e
  have := ndcells_length l
  rw [e] at this
  simp at this
  omega
theorem NdsAt.of_in {b t : Nat} {w : World} {a : Option Addr} {cap : Nat} {l : List Nd} (h : NdIn b t w (.slice a l.length cap) l) : NdsAt w a l := by
  intro k hk
  obtain ⟨g, off, rfl, h1, h2, h3⟩ := SlIn.some h (ndcells_ne (by omega))
  have hl := ndcells_length l
  obtain ⟨e0, e1, e2, e3, e4⟩ := ndcells_get l k hk
  refine ⟨g, off, rfl, by omega, ?_, ?_, ?_, ?_, ?_⟩
  · have := (SlIn.cells h (k * 5) (by omega)).1
    rw [e0] at this
    exact this
  · have := (SlIn.cells h (k * 5 + 1) (by omega)).1
    rw [e1] at this
    exact this
  · have := (SlIn.cells h (k * 5 + 2) (by omega)).1
    rw [e2] at this
    exact this
  · have := (SlIn.cells h (k * 5 + 3) (by omega)).1
    rw [e3] at this
    exact this
  · have := (SlIn.cells h (k * 5 + 4) (by omega)).1
    rw [e4] at this
    exact this
theorem NdIn.of_row {b t : Nat} {w : World} {v : Value} {l : List Nd} (h : NdRow b w v l) (ht : ∀ k, v.ownBlock = some k → k < t) (hs : t ≤ w.heap.size) : NdIn b t w v l := SlIn.of_row h ht hs
end Go.Proofs.Ytfkkmjejmflgjaa

/-
  Lists of nodes as values, with memory of their own or not. By the verifier.
-/
namespace Go.Proofs.Ytfkkmjejmflgjaa
open Go.RowKit

def NdsV (w : World) (v : Value) (l : List Nd) : Prop := ∃ a c, v = .slice a l.length c ∧ NdsAt w a l ∧ l.length ≤ c ∧ (a = none → c = 0)
def NdsW (b t : Nat) (w : World) (v : Value) (l : List Nd) : Prop := NdIn b t w v l ∧ ∃ a c, v = .slice a l.length c ∧ l.length ≤ c ∧ (a = none → c = 0)
section
variable {b t : Nat} {w w' : World} {v : Value} {l : List Nd}
theorem NdsW.at (h : NdsW b t w v l) : NdsV w v l := by
  obtain ⟨h1, a, c, rfl, h2⟩ := h
  exact ⟨a, c, rfl, NdsAt.of_in h1, h2⟩
theorem NdsV.below (h : NdsV w v l) (g : Below w.heap.size w w') : NdsV w' v l := by
  obtain ⟨a, c, e, h1, h2⟩ := h
  exact ⟨a, c, e, h1.below g, h2⟩
theorem NdsW.keep (h : NdsW b t w v l) (hs : w.heap.size ≤ w'.heap.size) (hk : ∀ k, b ≤ k → k < t → w'.heap[k]? = w.heap[k]?) : NdsW b t w' v l := ⟨SlIn.keep h.1 hs hk, h.2⟩
theorem NdsW.below (h : NdsW b t w v l) (g : Below w.heap.size w w') : NdsW b t w' v l := ⟨SlIn.below h.1 g, h.2⟩
theorem NdsW.cells (h : NdsW b t w v l) : ∃ p q, v = .slice p l.length q := by
  obtain ⟨_, a, c, e, _⟩ := h
  exact ⟨a, c, e⟩
theorem NdsW.of_row (h : NdRow b w v l) : NdsW b w.heap.size w v l := by
  refine ⟨NdIn.of_row h (fun k hk => (h.lt k hk).2) (Nat.le_refl _), ?_⟩
  obtain ⟨a, c, e⟩ := h.shape
  subst e
  exact ⟨a, c, rfl, h.cap, h.nilCap⟩
end
end Go.Proofs.Ytfkkmjejmflgjaa

/-
  Lists of records (Steer) that lie wherever: read. By the verifier, by program.
-/
namespace Go.Proofs.Ytfkkmjejmflgjaa
open Go.RowKit

/-- A list of records in blocks from b up to t. -/
def SrIn (b t : Nat) (w : World) (v : Value) (l : List Sr) : Prop := SlIn b t w v l.length (srcells l)
theorem srcells_ne {l : List Sr} (h : 0 < l.length) : srcells l ≠ [] := by
  intro e
  have := srcells_length l
  rw [e] at this
  simp at this
  omega
theorem SrsAt.of_in {b t : Nat} {w : World} {a : Option Addr} {cap : Nat} {l : List Sr} (h : SrIn b t w (.slice a l.length cap) l) : SrsAt w a l := by
  intro k hk
  obtain ⟨g, off, rfl, h1, h2, h3⟩ := SlIn.some h (srcells_ne (by omega))
  have hl := srcells_length l
  obtain ⟨e0, e1, e2⟩ := srcells_get l k hk
  refine ⟨g, off, rfl, by omega, ?_, ?_, ?_⟩
  · have := (SlIn.cells h (k * 3) (by omega)).1
    rw [e0] at this
    exact this
  · have := (SlIn.cells h (k * 3 + 1) (by omega)).1
    rw [e1] at this
    exact this
  · have := (SlIn.cells h (k * 3 + 2) (by omega)).1
    rw [e2] at this
    exact this
theorem SrIn.of_row {b t : Nat} {w : World} {v : Value} {l : List Sr} (h : SrRow b w v l) (ht : ∀ k, v.ownBlock = some k → k < t) (hs : t ≤ w.heap.size) : SrIn b t w v l := SlIn.of_row h ht hs
end Go.Proofs.Ytfkkmjejmflgjaa

/-
  Lists of Steer as values, with memory of their own or not. By the verifier.
-/
namespace Go.Proofs.Ytfkkmjejmflgjaa
open Go.RowKit

def SrsV (w : World) (v : Value) (l : List Sr) : Prop := ∃ a c, v = .slice a l.length c ∧ SrsAt w a l ∧ l.length ≤ c ∧ (a = none → c = 0)
def SrsW (b t : Nat) (w : World) (v : Value) (l : List Sr) : Prop := SrIn b t w v l ∧ ∃ a c, v = .slice a l.length c ∧ l.length ≤ c ∧ (a = none → c = 0)
section
variable {b t : Nat} {w w' : World} {v : Value} {l : List Sr}
theorem SrsW.at (h : SrsW b t w v l) : SrsV w v l := by
  obtain ⟨h1, a, c, rfl, h2⟩ := h
  exact ⟨a, c, rfl, SrsAt.of_in h1, h2⟩
theorem SrsV.below (h : SrsV w v l) (g : Below w.heap.size w w') : SrsV w' v l := by
  obtain ⟨a, c, e, h1, h2⟩ := h
  exact ⟨a, c, e, h1.below g, h2⟩
theorem SrsW.keep (h : SrsW b t w v l) (hs : w.heap.size ≤ w'.heap.size) (hk : ∀ k, b ≤ k → k < t → w'.heap[k]? = w.heap[k]?) : SrsW b t w' v l := ⟨SlIn.keep h.1 hs hk, h.2⟩
theorem SrsW.below (h : SrsW b t w v l) (g : Below w.heap.size w w') : SrsW b t w' v l := ⟨SlIn.below h.1 g, h.2⟩
theorem SrsW.cells (h : SrsW b t w v l) : ∃ p q, v = .slice p l.length q := by
  obtain ⟨_, a, c, e, _⟩ := h
  exact ⟨a, c, e⟩
theorem SrsW.of_row (h : SrRow b w v l) : SrsW b w.heap.size w v l := by
  refine ⟨SrIn.of_row h (fun k hk => (h.lt k hk).2) (Nat.le_refl _), ?_⟩
  obtain ⟨a, c, e⟩ := h.shape
  subst e
  exact ⟨a, c, rfl, h.cap, h.nilCap⟩
end
end Go.Proofs.Ytfkkmjejmflgjaa
