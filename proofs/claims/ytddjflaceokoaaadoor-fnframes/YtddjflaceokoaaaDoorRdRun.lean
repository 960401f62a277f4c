/-
  What the reader's method frame makes of a text, as plain data; what it holds in memory meanwhile. By the verifier.
-/
import Derived.Test.YtddjflaceokoaaaDoorRdMost
import Derived.Laws.Tables
import Derived.Laws.Rows
namespace Go.Proofs.YtddjflaceokoaaaDoor
open Go.RowKit

/-- From the byte 2 on. -/
def Rst.headRun (text : ByteArray) (dest frm : Int) (T : List Int) (σ : Rst) : Fr × Rst :=
  let a := σ.number text 4
  let c := a.2.number text 4
  let d := c.2.number text 1
  let e := d.2.number text 2
  let g := e.2.number text 2
  let m := g.2.atMost text 3 1 4
  let s := m.2.number text 2
  let z := s.2.atMost text 1500 2 5
  let t := z.2.take text z.1.toNat
  (⟨dest, frm, T, a.1, c.1, d.1, e.1, g.1, m.1, s.1, t.1⟩, if t.2.pos < text.size then t.2.fail (some none) else t.2)
/-- From a kind's byte on: so many tags may still come. -/
def Rst.kindRun (text : ByteArray) (dest frm : Int) : Nat → Rst → List Int → Fr × Rst
  | 0, σ, T => let n := σ.number text 1
    if n.1 = 1 then (⟨dest, frm, T, 0, 0, 0, 0, 0, 0, 0, ⟨#[]⟩⟩, n.2.fail (some (some 2)))
    else if n.1 = 2 then n.2.headRun text dest frm T
    else (⟨dest, frm, T, 0, 0, 0, 0, 0, 0, 0, ⟨#[]⟩⟩, n.2.fail (some (some 3)))
  | k + 1, σ, T => let n := σ.number text 1
    if n.1 = 1 then (n.2.atMost text 4095 2 2).2.kindRun text dest frm k (T ++ [(n.2.atMost text 4095 2 2).1])
    else if n.1 = 2 then n.2.headRun text dest frm T
    else (⟨dest, frm, T, 0, 0, 0, 0, 0, 0, 0, ⟨#[]⟩⟩, n.2.fail (some (some 3)))
/-- The whole. -/
def frameRun (text : ByteArray) : Fr × Rst :=
  let a := (⟨0, none⟩ : Rst).number text 2
  let c := a.2.number text 2
  c.2.kindRun text a.1 c.1 2 []

/-- A list of numbers of the call's own. -/
def IRow (base : Nat) (w : World) (v : Value) (T : List Int) : Prop := w.ownsRow base 2 1 v T.length (T.map (Value.int .i64))
theorem IRow.carry {base : Nat} {w w' : World} {v : Value} {T : List Int} (h : IRow base w v T) (g : ∀ k, base ≤ k → k < w.heap.size → w'.heap[k]? = w.heap[k]?) : IRow base w' v T := by
  refine ⟨h.1, h.2.imp id ?_⟩
  rintro ⟨g0, cap, cur, h1, h2, h3, h4⟩
  exact ⟨g0, cap, cur, h1, h2, by rw [g g0 h2 (heap_lt h3)]; exact h3, h4⟩
theorem IRow.shape {base : Nat} {w : World} {v : Value} {T : List Int} (h : IRow base w v T) : ∃ a cap, v = .slice a T.length cap := by
  rcases h.2 with ⟨rfl, hn⟩ | ⟨g, cap, cur, rfl, _⟩
  · rw [hn]; exact ⟨none, 0, rfl⟩
  · exact ⟨_, _, rfl⟩
theorem IRow.ints {base : Nat} {w : World} {a : Option Addr} {cap : Nat} {T : List Int} (h : IRow base w (.slice a T.length cap) T) : IntsAt w a T := by
  intro k hk
  rcases h.2 with ⟨_, hn⟩ | ⟨g, cap', cur, e, h2, h3, h4⟩
  · omega
  · obtain ⟨rfl, _, rfl⟩ : a = some ⟨g, 0, none⟩ ∧ True ∧ cap = cap' := by simpa using e
    have hc := World.ownsRow.cellAt (show w.ownsRow base 2 1 (.slice (some ⟨g, 0, none⟩) T.length cap) T.length _ from h) k (by omega)
    exact ⟨g, 0, rfl, heap_lt h3, by rw [Nat.zero_add, hc]; simp [List.getElem?_eq_getElem hk]⟩

/-- The cells of an empty frame. -/
def zeroFr : Array Value := #[.int .i64 0, .int .i64 0, .slice none 0 0, .int .i64 0, .int .i64 0, .int .i64 0, .int .i64 0, .int .i64 0, .int .i64 0, .int .i64 0, .string ⟨#[]⟩]
/-- The method's own memory: the reader, the answer's variable, the frame that is read. -/
structure Fs (es em : Addr) (W : World) (b : Nat) (text : ByteArray) (w0 : World) (σ : Rst) (sl : Value) (T : List Int) (cs : Array Value) (w : World) : Prop where
  rd : Rd es em W b text σ w
  res : Boxed w w0.heap.size zeroFr 26
  fr : Boxed w (w0.heap.size + 1) cs 26
  row : IRow (w0.heap.size + 1 + 1) w sl T
  lt : b < w0.heap.size
  kp : Kpt b w0 w
theorem Fs.step {es em : Addr} {W : World} {b : Nat} {text : ByteArray} {w0 : World} {σ σ' : Rst} {sl : Value} {T : List Int} {cs : Array Value} {w w' : World} (h : Fs es em W b text w0 σ sl T cs w) (r : Rd es em W b text σ' w') (k : Kpt b w w') : Fs es em W b text w0 σ' sl T cs w' :=
  ⟨r, k.boxed h.res (by have := h.lt; omega), k.boxed h.fr (by have := h.lt; omega), h.row.carry fun j hj hl => k.block j (by have := h.lt; omega) hl, h.lt, h.kp.trans k⟩
theorem Fs.drew {es em : Addr} {W : World} {b : Nat} {text : ByteArray} {w0 : World} {σ : Rst} {sl : Value} {T : List Int} {cs : Array Value} {w : World} (h : Fs es em W b text w0 σ sl T cs w) : Fs es em W b text w0 σ sl T cs w.drew :=
  h.step ⟨h.rd.bel.drew, h.rd.lo, h.rd.box, h.rd.le⟩ (Kpt.refl _ _).drew
theorem Fs.below {es em : Addr} {W : World} {b : Nat} {text : ByteArray} {w0 : World} {σ : Rst} {sl : Value} {T : List Int} {cs : Array Value} {w w' : World} (h : Fs es em W b text w0 σ sl T cs w) (g : Below w.heap.size w w') : Fs es em W b text w0 σ sl T cs w' :=
  h.step ⟨h.rd.bel.trans (g.mono h.rd.bel.size), h.rd.lo, h.rd.box.below h.rd.box.lt g, h.rd.le⟩ (Kpt.of_below g (Nat.le_refl _))
theorem Fs.store {es em : Addr} {W : World} {b : Nat} {text : ByteArray} {w0 : World} {σ : Rst} {sl : Value} {T : List Int} {cs : Array Value} {w : World} (h : Fs es em W b text w0 σ sl T cs w) (j : Nat) (v : Value) : Fs es em W b text w0 σ sl T (cs.setIfInBounds j v) (w.setCell ⟨w0.heap.size + 1, j, none⟩ v) := by
  have hb := h.lt
  have hlo := h.rd.lo
  have o : ∀ k, k ≠ w0.heap.size + 1 → (w.setCell ⟨w0.heap.size + 1, j, none⟩ v).heap[k]? = w.heap[k]? := fun k hk => Below.heap_setCell _ _ _ _ hk
  refine ⟨⟨h.rd.bel.setCell (by show W.heap.size ≤ w0.heap.size + 1; omega) _, h.rd.lo, ?_, h.rd.le⟩, ?_, h.fr.setCell j v, h.row.carry fun k hk _ => o k (by omega), h.lt, ?_⟩
  · unfold Boxed; rw [o b (by omega)]; exact h.rd.box
  · unfold Boxed; rw [o _ (by omega)]; exact h.res
  · exact ⟨by rw [show (w.setCell ⟨w0.heap.size + 1, j, none⟩ v).heap.size = w.heap.size by simp [World.setCell]]; exact h.kp.size, fun k h1 h2 => (o k (by omega)).trans (h.kp.block k h1 h2)⟩
/-- What is known of the method's slots at a label. -/
def frAct (b B : Nat) (u : Nat → Value) : Act := { tmps := #[.pointer (some ⟨b, 0, none⟩), u 1, .pointer (some ⟨B, 0, none⟩), .pointer (some ⟨B + 1, 0, none⟩), u 4, u 5, u 6, u 7, u 8, u 9, u 10, u 11, u 12, u 13, u 14, u 15, u 16, u 17, u 18, u 19, u 20, u 21, u 22, u 23, u 24, u 25, u 26, u 27, u 28, u 29, u 30, u 31, u 32, u 33, u 34, u 35, u 36, u 37, u 38, u 39, u 40, u 41, u 42, u 43, u 44, u 45, u 46, u 47, u 48, u 49, u 50, u 51, u 52, u 53, u 54, u 55, u 56, u 57, u 58, u 59, u 60, u 61, u 62, u 63, u 64, u 65, u 66, u 67, u 68, u 69, u 70, u 71, u 72, u 73, u 74, u 75, u 76, u 77], defers := [] }
end Go.Proofs.YtddjflaceokoaaaDoor
