/-
  The model's drawing of a record of numbers: the record that is drawn, the answer's variable and the cursor as one fact, whatever the record. By the verifier.
-/
import Derived.Test.YtfdapmchpikfiaaM1DrawCur
import Derived.Laws.ResultCell
import Derived.Laws.CopyOwn
import Derived.Laws.Rows
import Derived.Laws.Tables
namespace Go.Proofs.Ytfdapmchpikfiaa
open Go.RowKit

/-- The call's own memory: the record that is drawn (cs at B), the answer's variable (zs at A), the cursor. -/
structure DrX (t : TypeId) (zs : Array Value) (W : World) (bc : Nat) (ac : Option Addr) (len cap : Nat) (w : World) (A B : Nat) (cs : Array Value) (wr : World) : Prop where
  rt : Boxed wr B cs t
  res : Boxed wr A zs t
  cur : Cur W bc ac len cap wr
  kp : Keep bc w wr
  lo : w.heap.size ≤ A
  lt : A < B
  bl : bc < w.heap.size
section
variable {t : TypeId} {zs : Array Value} {W : World} {bc : Nat} {ac : Option Addr} {len cap : Nat} {w : World} {A B : Nat} {cs cs' : Array Value} {wr wd : World}
theorem DrX.draw (h : DrX t zs W bc ac len cap w A B cs wr) (c : Cur W bc ac len cap wd) (k : Keep bc wr wd) : DrX t zs W bc ac len cap w A B cs wd := by
  have := h.lt
  have := h.lo
  have := h.bl
  exact ⟨h.rt.keep (by omega) k, h.res.keep (by omega) k, c, h.kp.trans k, h.lo, h.lt, h.bl⟩
theorem DrX.more (h : DrX t zs W bc ac len cap w A B cs wr) (o : Obj) : DrX t zs W bc ac len cap w A B cs (wr.alloc o) :=
  ⟨h.rt.more _, h.res.more _, h.cur.alloc _, h.kp.alloc _, h.lo, h.lt, h.bl⟩
theorem DrX.drew (h : DrX t zs W bc ac len cap w A B cs wr) : DrX t zs W bc ac len cap w A B cs wr.drew :=
  ⟨h.rt, h.res, h.cur.drew, h.kp.drew, h.lo, h.lt, h.bl⟩
theorem DrX.put (h : DrX t zs W bc ac len cap w A B cs wr) (j : Nat) (v : Value) (hr : cs.setIfInBounds j v = cs') : DrX t zs W bc ac len cap w A B cs' (wr.setCell ⟨B, j, none⟩ v) := by
  have h0 := h.lo
  have h1 := h.lt
  have h2 := h.bl
  have h3 := h.cur.bel.size
  have h4 := h.cur.lo
  have o : ∀ k, k ≠ B → (wr.setCell ⟨B, j, none⟩ v).heap[k]? = wr.heap[k]? := fun k hk => Below.heap_setCell _ _ _ _ hk
  refine ⟨by rw [← hr]; exact h.rt.put j v, h.res.far (by omega) j v, h.cur.other (by omega) o ((Below.refl _ _).setCell (p := ⟨B, j, none⟩) (by show W.heap.size ≤ B; omega) _), ⟨by have := h.kp.size; simp only [World.setCell, Array.size_modify]; exact this, fun k g1 g2 => (o k (by omega)).trans (h.kp.block k g1 g2)⟩, h.lo, h.lt, h.bl⟩
/-- The answer's variable filled: the cursor and all that lay stay. -/
theorem DrX.filled (h : DrX t zs W bc ac len cap w A B cs wr) : Cur W bc ac len cap (wr.setRow A cs) ∧ Keep bc w (wr.setRow A cs) := by
  have g0 := h.lo
  have g1 := h.lt
  have g2 := h.bl
  have g3 := h.cur.lo
  have o : ∀ k, k ≠ A → (wr.setRow A cs).heap[k]? = wr.heap[k]? := fun k hk => setRow_other _ _ _ _ hk
  refine ⟨h.cur.other (B := A) (by omega) o (below_setRow (Below.refl _ _) (by omega) _), ?_⟩
  exact ⟨by rw [size_setRow]; exact h.kp.size, fun k q1 q2 => (o k (by omega)).trans (h.kp.block k q1 q2)⟩
theorem DrX.done (h : DrX t zs W bc ac len cap w A B cs wr) {fn : Func} {p : Tmp} {fs : Array Field} {tt : Act} (hres : fn.results = #[.cell p t]) (h2 : tt.tmps.getD p undef = .pointer (some ⟨A, 0, none⟩)) (hd : tt.defers = [])
    (hu : Try.prog.underlying t = some (.struct fs)) (hi : (Try.prog.info? t).map (·.size) = some cs.size) {R : Value → Prop} (hR : R (.agg cs)) :
    bodyPost Try.prog fn (fun e w' => (∃ v, e = .returned v ∧ R v) ∧ Cur W bc ac len cap w' ∧ Keep bc w w') .ret tt (wr.setRow A cs) :=
  bodyPost_ret (results_cell_row hres _ _ A _ _ _ _ h2 (setRow_heap wr A _ _ _ _ h.res) hu rfl hi) hd ⟨⟨_, rfl, hR⟩, h.filled⟩
end
theorem ones3 (a b c : Int) : (#[Value.int .i64 a, .int .i64 b, .int .i64 c] : Array Value).all (·.oneCell') = true := by simp [Value.oneCell']
end Go.Proofs.Ytfdapmchpikfiaa
