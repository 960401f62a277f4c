import Derived.Test.YtfdapmchpikfiaaSlIn
import Derived.Test.YtfdapmchpikfiaaM1DrawCur
import Derived.Test.YtfdapmchpikfiaaIntRow
/-
  Nothing but what lies between two places was turned. By the verifier.
-/
namespace Go.Proofs.Ytfdapmchpikfiaa
open Go.RowKit

/-- Nothing but what lies from b up to t was turned; what is new lies behind. -/
structure Span (b t : Nat) (w w' : World) : Prop where
  os : w'.os = w.os
  tape : w'.tape = w.tape
  output : w'.output = w.output
  size : w.heap.size ≤ w'.heap.size
  block : ∀ k, k < w.heap.size → k < b ∨ t ≤ k → w'.heap[k]? = w.heap[k]?
theorem Span.refl (b t : Nat) (w : World) : Span b t w w := ⟨rfl, rfl, rfl, Nat.le_refl _, fun _ _ _ => rfl⟩
theorem Span.trans {b t : Nat} {x y z : World} (h : Span b t x y) (g : Span b t y z) : Span b t x z :=
  ⟨g.os.trans h.os, g.tape.trans h.tape, g.output.trans h.output, Nat.le_trans h.size g.size, fun k hk hb => (g.block k (Nat.lt_of_lt_of_le hk h.size) hb).trans (h.block k hk hb)⟩
theorem Span.of_turn {H : Nat → Nat → Prop} {b t : Nat} {w w' : World} (h : Turn H w w') (hb : ∀ k o, H k o → b ≤ k ∧ k < t) : Span b t w w' :=
  ⟨h.os, h.tape, h.output, Nat.le_of_eq h.size.symm, fun k _ hk => h.block k fun o ho => by have := hb k o ho; omega⟩
theorem Span.of_below {b t : Nat} {w w' : World} (h : Below w.heap.size w w') : Span b t w w' := ⟨h.os, h.tape, h.output, h.size, fun k hk _ => h.block k hk⟩
theorem Span.below {b t n : Nat} {w w' : World} (h : Span b t w w') (hn : n ≤ b) (hs : n ≤ w.heap.size) : Below n w w' := ⟨h.os, h.tape, h.output, h.size, fun k hk => h.block k (by omega) (.inl (by omega))⟩
end Go.Proofs.Ytfdapmchpikfiaa

/-
  What lies in memory as a list of things: each turns on the blocks from lo up to hi alone. By the verifier.
-/
namespace Go.Proofs.Ytfdapmchpikfiaa
open Go.RowKit

structure Thing where
  P : World → Prop
  lo : Nat
  hi : Nat
  keep : ∀ {W W' : World}, P W → W.heap.size ≤ W'.heap.size → (∀ k, lo ≤ k → k < hi → W'.heap[k]? = W.heap[k]?) → P W'
  lt : ∀ {W : World}, P W → hi ≤ W.heap.size
def AllT : List Thing → World → Prop
  | [], _ => True
  | t :: r, W => t.P W ∧ AllT r W
def OffT (b t : Nat) : List Thing → Prop
  | [] => True
  | x :: r => (x.hi ≤ b ∨ t ≤ x.lo) ∧ OffT b t r
theorem AllT.below : ∀ {ts : List Thing} {W W' : World}, AllT ts W → Below W.heap.size W W' → AllT ts W'
  | [], _, _, _, _ => trivial
  | t :: _, _, _, h, g => ⟨t.keep h.1 g.size (fun k _ hk => g.block k (Nat.lt_of_lt_of_le hk (t.lt h.1))), AllT.below h.2 g⟩
theorem AllT.span : ∀ {ts : List Thing} {W W' : World} {b t : Nat}, AllT ts W → Span b t W W' → OffT b t ts → AllT ts W'
  | [], _, _, _, _, _, _, _ => trivial
  | x :: _, _, _, _, _, h, g, o => ⟨x.keep h.1 g.size (fun k h1 h2 => g.block k (Nat.lt_of_lt_of_le h2 (x.lt h.1)) (by
      rcases o.1 with q | q
      · left; omega
      · right; omega)), AllT.span h.2 g o.2⟩
theorem AllT.app : ∀ {ts us : List Thing} {W : World}, AllT ts W → AllT us W → AllT (ts ++ us) W
  | [], _, _, _, h => h
  | _ :: _, _, _, h, g => ⟨h.1, AllT.app h.2 g⟩
/-- All that lies, and what lay before the call. -/
def Lies (w : World) (ts : List Thing) (W : World) : Prop := AllT ts W ∧ Below w.heap.size w W
theorem Lies.below {w : World} {ts : List Thing} {W W' : World} (h : Lies w ts W) (g : Below W.heap.size W W') : Lies w ts W' := ⟨h.1.below g, h.2.trans (g.mono h.2.size)⟩
theorem Lies.span {w : World} {ts : List Thing} {W W' : World} {b t : Nat} (h : Lies w ts W) (g : Span b t W W') (o : OffT b t ts) (hb : w.heap.size ≤ b) : Lies w ts W' := ⟨h.1.span g o, h.2.trans (g.below hb h.2.size)⟩
theorem Lies.more {w : World} {ts us : List Thing} {W W' : World} (h : Lies w ts W) (g : Below W.heap.size W W') (u : AllT us W') : Lies w (ts ++ us) W' := ⟨(h.below g).1.app u, (h.below g).2⟩
abbrev Thing.box (B : Nat) (cs : Array Value) (t : TypeId) : Thing where
  P := fun W => Boxed W B cs t
  lo := B
  hi := B + 1
  keep := fun h _ g => by unfold Boxed at *; rw [g B (Nat.le_refl _) (by omega)]; exact h
  lt := fun h => h.under
/-- Memory from b up to t. -/
abbrev Thing.own (P : World → Prop) (b t : Nat) (hk : ∀ {W W' : World}, P W → W.heap.size ≤ W'.heap.size → (∀ k, b ≤ k → k < t → W'.heap[k]? = W.heap[k]?) → P W') : Thing where
  P := fun W => P W ∧ t ≤ W.heap.size
  lo := b
  hi := t
  keep := fun h s g => ⟨hk h.1 s g, Nat.le_trans h.2 s⟩
  lt := fun h => h.2
end Go.Proofs.Ytfdapmchpikfiaa

/-
  Lists of numbers that lie wherever. By the verifier.
-/
namespace Go.Proofs.Ytfdapmchpikfiaa
open Go.RowKit

/-- A list of numbers in blocks from b up to t. -/
def IntIn (b t : Nat) (w : World) (v : Value) (l : List Int) : Prop := SlIn b t w v l.length (l.map (Value.int .i64))
theorem IntsAt.of_in {b t : Nat} {w : World} {a : Option Addr} {cap : Nat} {l : List Int} (h : IntIn b t w (.slice a l.length cap) l) : IntsAt w a l := by
  intro k hk
  obtain ⟨g, off, rfl, h1, h2, h3⟩ := SlIn.some h (by intro e; rw [List.map_eq_nil_iff] at e; subst e; simp at hk)
  refine ⟨g, off, rfl, by omega, ?_⟩
  have := (SlIn.cells h k (by simpa using hk)).1
  rw [this, List.getElem?_map, List.getElem?_eq_getElem hk]
  rfl
theorem IntIn.of_row {b t : Nat} {w : World} {v : Value} {l : List Int} (h : IRow b w v l) (ht : ∀ k, v.ownBlock = some k → k < t) (hs : t ≤ w.heap.size) : IntIn b t w v l := SlIn.of_row h ht hs
end Go.Proofs.Ytfdapmchpikfiaa

/-
  Lists of numbers as values, with memory of their own or not. By the verifier.
-/
namespace Go.Proofs.Ytfdapmchpikfiaa
open Go.RowKit

def IntsV (w : World) (v : Value) (l : List Int) : Prop := ∃ a c, v = .slice a l.length c ∧ IntsAt w a l ∧ l.length ≤ c ∧ (a = none → c = 0)
def IntsW (b t : Nat) (w : World) (v : Value) (l : List Int) : Prop := IntIn b t w v l ∧ ∃ a c, v = .slice a l.length c ∧ l.length ≤ c ∧ (a = none → c = 0)
section
variable {b t : Nat} {w w' : World} {v : Value} {l : List Int}
theorem IntsW.at (h : IntsW b t w v l) : IntsV w v l := by
  obtain ⟨h1, a, c, rfl, h2⟩ := h
  exact ⟨a, c, rfl, IntsAt.of_in h1, h2⟩
theorem IntsV.below (h : IntsV w v l) (g : Below w.heap.size w w') : IntsV w' v l := by
  obtain ⟨a, c, e, h1, h2⟩ := h
  exact ⟨a, c, e, h1.below g, h2⟩
theorem IntsW.keep (h : IntsW b t w v l) (hs : w.heap.size ≤ w'.heap.size) (hk : ∀ k, b ≤ k → k < t → w'.heap[k]? = w.heap[k]?) : IntsW b t w' v l := ⟨SlIn.keep h.1 hs hk, h.2⟩
theorem IntsW.below (h : IntsW b t w v l) (g : Below w.heap.size w w') : IntsW b t w' v l := ⟨SlIn.below h.1 g, h.2⟩
theorem IntsW.cells (h : IntsW b t w v l) : ∃ p q, v = .slice p l.length q := by
  obtain ⟨_, a, c, e, _⟩ := h
  exact ⟨a, c, e⟩
theorem IntsW.of_row (h : IRow b w v l) : IntsW b w.heap.size w v l := by
  refine ⟨IntIn.of_row h (fun k hk => (World.ownsRow.lt h k hk).2) (Nat.le_refl _), ?_⟩
  obtain ⟨a, c, e⟩ := h.shape
  subst e
  refine ⟨a, c, rfl, ?_, h.none⟩
  rcases h.2 with ⟨e, hn⟩ | ⟨g', c', cur, e, _, _, h4, _⟩
  · omega
  · cases e; exact h4
end
end Go.Proofs.Ytfdapmchpikfiaa
