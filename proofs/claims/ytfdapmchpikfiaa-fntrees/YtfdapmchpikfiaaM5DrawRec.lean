import Derived.Test.YtfdapmchpikfiaaDraw
import Derived.Test.YtfdapmchpikfiaaM2PzSpecK
import Derived.Test.YtfdapmchpikfiaaFrPlain
import Derived.Laws.ResultCell
import Derived.Laws.CopyOwn
import Derived.Laws.Rows
import Derived.Laws.Tables
/-
  What stays when the cursor draws, and when what stands beside it. By the verifier.
-/
namespace Go.Proofs.Ytfdapmchpikfiaa
open Go.RowKit

theorem Cur.ne {W : World} {bc : Nat} {a : Option Addr} {len cap : Nat} {w : World} (c : Cur W bc a len cap w) : w.heap.size ≠ bc := by
  have hl := c.sl
  rintro rfl
  simp [World.cell?] at hl
theorem Cur.lt {W : World} {bc : Nat} {a : Option Addr} {len cap : Nat} {w : World} (c : Cur W bc a len cap w) : bc < w.heap.size := by
  have hl := c.sl
  apply Classical.byContradiction
  intro hn
  simp [World.cell?, Array.getElem?_eq_none (Nat.le_of_not_lt hn)] at hl
/-- A table that was laid ahead of a draw is read behind it. -/
theorem tab {bc : Nat} {w w2 : World} (zs : List Int) (cs : Array Value) (t : TypeId) (h : cs = (zs.map (Value.int .i64)).toArray) (hne : w.heap.size ≠ bc) (k : Keep bc (w.alloc (.cells cs t)) w2) (j : Nat) (hj : j < zs.length) :
    w2.cell? ⟨w.heap.size, j, none⟩ = some (.int .i64 (zs[j]?.getD 0)) := by
  rw [k.cell hne (by simp)]
  obtain ⟨b, off, e, _, hc⟩ := ints_new w t zs cs w.heap.size rfl h j hj
  cases e
  simpa using hc
theorem tab_in (zs : List Int) (lo hi : Int) (h : zs.all (inB lo hi) = true) (j : Nat) (hj : j < zs.length) : lo ≤ zs[j]?.getD 0 ∧ zs[j]?.getD 0 ≤ hi := by
  rw [List.all_eq_true] at h
  rw [List.getElem?_eq_getElem hj]
  exact inB_true.1 (h _ (List.getElem_mem hj))

/-- The cursor stays when a list behind it grows. -/
theorem Cur.below {W : World} {bc : Nat} {a : Option Addr} {len cap : Nat} {w w' : World} (c : Cur W bc a len cap w) {b : Nat} (hb : bc < b) (g : Below b w w') : Cur W bc a len cap w' := by
  have e : ∀ off, w'.cell? ⟨bc, off, none⟩ = w.cell? ⟨bc, off, none⟩ := fun off => World.cell?_of_block (w := w) (g.block bc hb)
  have f : ∀ off, w'.frozen? ⟨bc, off, none⟩ = w.frozen? ⟨bc, off, none⟩ := fun off => World.frozen?_of_block (w := w) (g.block bc hb)
  exact ⟨c.lo, by rw [e]; exact c.sl, by rw [e]; exact c.ix, by rw [e]; exact c.hh, by rw [f]; exact c.f1, by rw [f]; exact c.f2, c.bel.trans (g.mono (by have := c.lo; omega))⟩

theorem Boxed.keep {bc B : Nat} {w w' : World} {cs : Array Value} {t : TypeId} (h : Boxed w B cs t) (hne : B ≠ bc) (k : Keep bc w w') : Boxed w' B cs t := by
  unfold Boxed; rw [k.block B hne h.under]; exact h
/-- The cursor stays where another block of the call's own is turned. -/
theorem Cur.other {W : World} {bc B : Nat} {a : Option Addr} {len cap : Nat} {w w' : World} (c : Cur W bc a len cap w) (hne : B ≠ bc) (ho : ∀ k, k ≠ B → w'.heap[k]? = w.heap[k]?) (g : Below W.heap.size w w') : Cur W bc a len cap w' := by
  have e : ∀ off, w'.cell? ⟨bc, off, none⟩ = w.cell? ⟨bc, off, none⟩ := fun off => World.cell?_of_block (w := w) (ho bc (fun e => hne e.symm))
  have f : ∀ off, w'.frozen? ⟨bc, off, none⟩ = w.frozen? ⟨bc, off, none⟩ := fun off => World.frozen?_of_block (w := w) (ho bc (fun e => hne e.symm))
  refine ⟨c.lo, by rw [e]; exact c.sl, by rw [e]; exact c.ix, by rw [e]; exact c.hh, by rw [f]; exact c.f1, by rw [f]; exact c.f2, c.bel.trans g⟩
end Go.Proofs.Ytfdapmchpikfiaa

/-
  The model's drawing of a record of numbers: the record that is drawn, the answer's variable and the cursor as one fact, whatever the record. By the verifier.
-/
namespace Go.Proofs.Ytfdapmchpikfiaa
open Go.RowKit

/-- The call's own memory: the record that is drawn (cs at B), the answer's variable (zs at A), the cursor. -/
structure DrX (t : TypeId) (zs : Array Value) (W : World) (bc : Nat) (ac : Option Addr) (len cap : Nat) (w : World) (A B : Nat) (cs : Array Value) (wr : World) : Prop where
  rt : Boxed wr B cs t
  res : Boxed wr A zs t
  cur : Cur W bc ac len cap wr
  kp : Keep bc w wr
  lo : w.heap.size ≤ A
  lt : A < B
  bl : bc < w.heap.size
section
variable {t : TypeId} {zs : Array Value} {W : World} {bc : Nat} {ac : Option Addr} {len cap : Nat} {w : World} {A B : Nat} {cs cs' : Array Value} {wr wd : World}
theorem DrX.draw (h : DrX t zs W bc ac len cap w A B cs wr) (c : Cur W bc ac len cap wd) (k : Keep bc wr wd) : DrX t zs W bc ac len cap w A B cs wd := by
  have := h.lt
  have := h.lo
  have := h.bl
  exact ⟨h.rt.keep (by omega) k, h.res.keep (by omega) k, c, h.kp.trans k, h.lo, h.lt, h.bl⟩
theorem DrX.more (h : DrX t zs W bc ac len cap w A B cs wr) (o : Obj) : DrX t zs W bc ac len cap w A B cs (wr.alloc o) :=
  ⟨h.rt.more _, h.res.more _, h.cur.alloc _, h.kp.alloc _, h.lo, h.lt, h.bl⟩
theorem DrX.drew (h : DrX t zs W bc ac len cap w A B cs wr) : DrX t zs W bc ac len cap w A B cs wr.drew :=
  ⟨h.rt, h.res, h.cur.drew, h.kp.drew, h.lo, h.lt, h.bl⟩
theorem DrX.put (h : DrX t zs W bc ac len cap w A B cs wr) (j : Nat) (v : Value) (hr : cs.setIfInBounds j v = cs') : DrX t zs W bc ac len cap w A B cs' (wr.setCell ⟨B, j, none⟩ v) := by
  have h0 := h.lo
  have h1 := h.lt
  have h2 := h.bl
  have h3 := h.cur.bel.size
  have h4 := h.cur.lo
  have o : ∀ k, k ≠ B → (wr.setCell ⟨B, j, none⟩ v).heap[k]? = wr.heap[k]? := fun k hk => Below.heap_setCell _ _ _ _ hk
  refine ⟨by rw [← hr]; exact h.rt.put j v, h.res.far (by omega) j v, h.cur.other (by omega) o ((Below.refl _ _).setCell (p := ⟨B, j, none⟩) (by show W.heap.size ≤ B; omega) _), ⟨by have := h.kp.size; simp only [World.setCell, Array.size_modify]; exact this, fun k g1 g2 => (o k (by omega)).trans (h.kp.block k g1 g2)⟩, h.lo, h.lt, h.bl⟩
/-- The answer's variable filled: the cursor and all that lay stay. -/
theorem DrX.filled (h : DrX t zs W bc ac len cap w A B cs wr) : Cur W bc ac len cap (wr.setRow A cs) ∧ Keep bc w (wr.setRow A cs) := by
  have g0 := h.lo
  have g1 := h.lt
  have g2 := h.bl
  have g3 := h.cur.lo
  have o : ∀ k, k ≠ A → (wr.setRow A cs).heap[k]? = wr.heap[k]? := fun k hk => setRow_other _ _ _ _ hk
  refine ⟨h.cur.other (B := A) (by omega) o (below_setRow (Below.refl _ _) (by omega) _), ?_⟩
  exact ⟨by rw [size_setRow]; exact h.kp.size, fun k q1 q2 => (o k (by omega)).trans (h.kp.block k q1 q2)⟩
theorem DrX.done (h : DrX t zs W bc ac len cap w A B cs wr) {fn : Func} {p : Tmp} {fs : Array Field} {tt : Act} (hres : fn.results = #[.cell p t]) (h2 : tt.tmps.getD p undef = .pointer (some ⟨A, 0, none⟩)) (hd : tt.defers = [])
    (hu : Try.prog.underlying t = some (.struct fs)) (hi : (Try.prog.info? t).map (·.size) = some cs.size) {R : Value → Prop} (hR : R (.agg cs)) :
    bodyPost Try.prog fn (fun e w' => (∃ v, e = .returned v ∧ R v) ∧ Cur W bc ac len cap w' ∧ Keep bc w w') .ret tt (wr.setRow A cs) :=
  bodyPost_ret (results_cell_row hres _ _ A _ _ _ _ h2 (setRow_heap wr A _ _ _ _ h.res) hu rfl hi) hd ⟨⟨_, rfl, hR⟩, h.filled⟩
end
theorem ones3 (a b c : Int) : (#[Value.int .i64 a, .int .i64 b, .int .i64 c] : Array Value).all (·.oneCell') = true := by simp [Value.oneCell']
end Go.Proofs.Ytfdapmchpikfiaa
