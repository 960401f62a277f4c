import Derived.Test.YtdifegaokdoleaaM0DrawFrom
import Derived.Test.YtdifegaokdoleaaM2Box
import Derived.Test.YtdifegaokdoleaaM1FrBytes
import Derived.Test.YtdifegaokdoleaaRegInv
import Derived.Test.YtdifegaokdoleaaM5RtFitL
import Derived.Laws.ResultCell
import Derived.Laws.CopyOwn
import Derived.Test.YtdifegaokdoleaaM4SumL3
/-
  What stays when the cursor draws, and when what stands beside it. By the verifier.
-/
namespace Go.Proofs.Ytdifegaokdoleaa
open Go.RowKit

theorem Cur.ne {W : World} {bc : Nat} {a : Option Addr} {len cap : Nat} {w : World} (c : Cur W bc a len cap w) : w.heap.size ≠ bc := by
  have hl := c.sl
  rintro rfl
  simp [World.cell?] at hl
theorem Cur.lt {W : World} {bc : Nat} {a : Option Addr} {len cap : Nat} {w : World} (c : Cur W bc a len cap w) : bc < w.heap.size := by
  have hl := c.sl
  apply Classical.byContradiction
  intro hn
  simp [World.cell?, Array.getElem?_eq_none (Nat.le_of_not_lt hn)] at hl
/-- A table that was laid ahead of a draw is read behind it. -/
theorem tab {bc : Nat} {w w2 : World} (zs : List Int) (cs : Array Value) (t : TypeId) (h : cs = (zs.map (Value.int .i64)).toArray) (hne : w.heap.size ≠ bc) (k : Keep bc (w.alloc (.cells cs t)) w2) (j : Nat) (hj : j < zs.length) :
    w2.cell? ⟨w.heap.size, j, none⟩ = some (.int .i64 (zs[j]?.getD 0)) := by
  rw [k.cell hne (by simp)]
  obtain ⟨b, off, e, _, hc⟩ := ints_new w t zs cs w.heap.size rfl h j hj
  cases e
  simpa using hc
theorem tab_in (zs : List Int) (lo hi : Int) (h : zs.all (inB lo hi) = true) (j : Nat) (hj : j < zs.length) : lo ≤ zs[j]?.getD 0 ∧ zs[j]?.getD 0 ≤ hi := by
  rw [List.all_eq_true] at h
  rw [List.getElem?_eq_getElem hj]
  exact inB_true.1 (h _ (List.getElem_mem hj))

/-- The cursor stays when a list behind it grows. -/
theorem Cur.below {W : World} {bc : Nat} {a : Option Addr} {len cap : Nat} {w w' : World} (c : Cur W bc a len cap w) {b : Nat} (hb : bc < b) (g : Below b w w') : Cur W bc a len cap w' := by
  have e : ∀ off, w'.cell? ⟨bc, off, none⟩ = w.cell? ⟨bc, off, none⟩ := fun off => World.cell?_of_block (w := w) (g.block bc hb)
  have f : ∀ off, w'.frozen? ⟨bc, off, none⟩ = w.frozen? ⟨bc, off, none⟩ := fun off => World.frozen?_of_block (w := w) (g.block bc hb)
  exact ⟨c.lo, by rw [e]; exact c.sl, by rw [e]; exact c.ix, by rw [e]; exact c.hh, by rw [f]; exact c.f1, by rw [f]; exact c.f2, c.bel.trans (g.mono (by have := c.lo; omega))⟩

theorem Boxed.keep {bc B : Nat} {w w' : World} {cs : Array Value} {t : TypeId} (h : Boxed w B cs t) (hne : B ≠ bc) (k : Keep bc w w') : Boxed w' B cs t := by
  unfold Boxed; rw [k.block B hne h.under]; exact h
/-- The cursor stays where another block of the call's own is turned. -/
theorem Cur.other {W : World} {bc B : Nat} {a : Option Addr} {len cap : Nat} {w w' : World} (c : Cur W bc a len cap w) (hne : B ≠ bc) (ho : ∀ k, k ≠ B → w'.heap[k]? = w.heap[k]?) (g : Below W.heap.size w w') : Cur W bc a len cap w' := by
  have e : ∀ off, w'.cell? ⟨bc, off, none⟩ = w.cell? ⟨bc, off, none⟩ := fun off => World.cell?_of_block (w := w) (ho bc (fun e => hne e.symm))
  have f : ∀ off, w'.frozen? ⟨bc, off, none⟩ = w.frozen? ⟨bc, off, none⟩ := fun off => World.frozen?_of_block (w := w) (ho bc (fun e => hne e.symm))
  refine ⟨c.lo, by rw [e]; exact c.sl, by rw [e]; exact c.ix, by rw [e]; exact c.hh, by rw [f]; exact c.f1, by rw [f]; exact c.f2, c.bel.trans g⟩
end Go.Proofs.Ytdifegaokdoleaa

/-
  The model's drawing of addresses and of routes. By the verifier.
-/
namespace Go.Proofs.Ytdifegaokdoleaa
open Go.RowKit

/-- A zero route's cells. -/
def zeroRt : Array Value := #[.int .i64 0, .int .i64 0, .int .i64 0]
/-- The call's own memory: the route that is drawn, the answer's variable, the cursor. -/
structure DrR (W : World) (bc : Nat) (ac : Option Addr) (len cap : Nat) (w : World) (B : Nat) (r : Rt) (wr : World) : Prop where
  rt : Boxed wr B #[.int .i64 r.net, .int .i64 r.bits, .int .i64 r.hop] 78
  res : Boxed wr w.heap.size zeroRt 78
  cur : Cur W bc ac len cap wr
  kp : Keep bc w wr
  lt : w.heap.size < B
  bl : bc < w.heap.size
theorem DrR.draw {W : World} {bc : Nat} {ac : Option Addr} {len cap : Nat} {w : World} {B : Nat} {r : Rt} {wr wd : World} (h : DrR W bc ac len cap w B r wr) (c : Cur W bc ac len cap wd) (k : Keep bc wr wd) : DrR W bc ac len cap w B r wd := by
  have := h.lt
  have := h.bl
  exact ⟨h.rt.keep (by omega) k, h.res.keep (by omega) k, c, h.kp.trans k, h.lt, h.bl⟩
theorem DrR.more {W : World} {bc : Nat} {ac : Option Addr} {len cap : Nat} {w : World} {B : Nat} {r : Rt} {wr : World} (h : DrR W bc ac len cap w B r wr) (o : Obj) : DrR W bc ac len cap w B r (wr.alloc o) :=
  ⟨h.rt.more _, h.res.more _, h.cur.alloc _, h.kp.alloc _, h.lt, h.bl⟩
theorem DrR.drew {W : World} {bc : Nat} {ac : Option Addr} {len cap : Nat} {w : World} {B : Nat} {r : Rt} {wr : World} (h : DrR W bc ac len cap w B r wr) : DrR W bc ac len cap w B r wr.drew :=
  ⟨h.rt, h.res, h.cur.drew, h.kp.drew, h.lt, h.bl⟩
theorem DrR.put {W : World} {bc : Nat} {ac : Option Addr} {len cap : Nat} {w : World} {B : Nat} {r r' : Rt} {wr : World} (h : DrR W bc ac len cap w B r wr) (j : Nat) (v : Value)
    (hr : (#[.int .i64 r.net, .int .i64 r.bits, .int .i64 r.hop] : Array Value).setIfInBounds j v = #[.int .i64 r'.net, .int .i64 r'.bits, .int .i64 r'.hop]) : DrR W bc ac len cap w B r' (wr.setCell ⟨B, j, none⟩ v) := by
  have h1 := h.lt
  have h2 := h.bl
  have h3 := h.cur.bel.size
  have h4 := h.cur.lo
  have o : ∀ k, k ≠ B → (wr.setCell ⟨B, j, none⟩ v).heap[k]? = wr.heap[k]? := fun k hk => Below.heap_setCell _ _ _ _ hk
  refine ⟨by rw [← hr]; exact h.rt.put j v, h.res.far (by omega) j v, h.cur.other (by omega) o ((Below.refl _ _).setCell (p := ⟨B, j, none⟩) (by show W.heap.size ≤ B; omega) _), ⟨by have := h.kp.size; simp only [World.setCell, Array.size_modify]; exact this, fun k g1 g2 => (o k (by omega)).trans (h.kp.block k g1 g2)⟩, h.lt, h.bl⟩
theorem DrR.done {W : World} {bc : Nat} {ac : Option Addr} {len cap : Nat} {w : World} {B : Nat} {r : Rt} {wr : World} (h : DrR W bc ac len cap w B r wr) {t : Act} (h2 : t.tmps.getD 2 undef = .pointer (some ⟨w.heap.size, 0, none⟩)) (hd : t.defers = []) :
    bodyPost Try.prog Try.f65 (fun e w' => (∃ r : Rt, e = .returned r.val) ∧ Cur W bc ac len cap w' ∧ Keep bc w w') .ret t (wr.setRow w.heap.size #[.int .i64 r.net, .int .i64 r.bits, .int .i64 r.hop]) := by
  have g1 := h.lt
  have g2 := h.bl
  have g3 := h.cur.lo
  have o : ∀ k, k ≠ w.heap.size → (wr.setRow w.heap.size #[.int .i64 r.net, .int .i64 r.bits, .int .i64 r.hop]).heap[k]? = wr.heap[k]? := fun k hk => setRow_other _ _ _ _ hk
  refine bodyPost_ret (results_cell_row Try.results65 _ _ w.heap.size _ _ _ _ h2 (setRow_heap wr w.heap.size _ _ _ _ h.res) Try.underlying78 rfl (by kernel_rfl)) hd ⟨⟨r, rfl⟩, h.cur.other (by omega) o (below_setRow (Below.refl _ _) (by omega) _), ?_⟩
  exact ⟨by rw [size_setRow]; exact h.kp.size, fun k q1 q2 => (o k (by omega)).trans (h.kp.block k q1 q2)⟩
theorem oneR (a b c : Int) : (#[Value.int .i64 a, .int .i64 b, .int .i64 c] : Array Value).all (·.oneCell') = true := by simp [Value.oneCell']
end Go.Proofs.Ytdifegaokdoleaa

/-
  What stays when the cursor draws: tables, bytes and the cursor itself. By the verifier.
-/
namespace Go.Proofs.Ytdifegaokdoleaa
open Go.RowKit

/-- Bytes laid behind the cursor stay when it draws. -/
theorem Row.keep {base bc : Nat} {w w' : World} {v : Value} {xs : List Int} (h : Row base w v xs) (hb : bc < base) (k : Keep bc w w') : Row base w' v xs := by
  refine ⟨h.1, h.2.imp id ?_⟩
  rintro ⟨g0, cap, cur, h1, h2, h3, h4⟩
  refine ⟨g0, cap, cur, h1, h2, ?_, h4⟩
  have hlt : g0 < w.heap.size := by
    apply Classical.byContradiction
    intro hn
    rw [Array.getElem?_eq_none (by omega)] at h3
    cases h3
  rw [k.block g0 (by omega) hlt]; exact h3
/-- Two bytes more, behind a list of the call's own. -/
theorem row_app2 {ops : Array Oper} {rest : List Oper} {o : Oper} {a : Act} {Q : Exit → Act → World → Prop} {w : World} (hgd : o.guard = none) (s x : Operand)
    (ho : o.op = .call { callee := .builtin .append, args := #[s, x], argTypes := #[22, 22] })
    (base : Nat) (v : Value) (xs : List Int) (y z : Int) (hs : a.eval s = v) (hrow : Row base w v xs) (hx : a.eval x = .slice (some ⟨w.heap.size, 0, none⟩) 2 2)
    (hlen : xs.length ≤ 1000000) (hb : base ≤ w.heap.size)
    (h : ∀ v' w', Row base w' v' (xs ++ [y, z]) → Below base w w' → wpList Try.prog ops Q rest (a.put o.dst v') w') :
    wpList Try.prog ops Q (o :: rest) a (w.alloc (.cells #[.int .u8 y, .int .u8 z] 5)) := by
  obtain ⟨i0, hi, hz0, hz1, hz2⟩ := info_parts info5
  refine wpList_append_own _ hgd s x 22 ho base 5 i0 (.int .u8 0) 1 1 Try.underlying22 hi hz0 hz1 hz2 rfl (by decide) _ _ _ hs (Row.alloc hrow _) ⟨w.heap.size, 0, none⟩ 2 2 [.int .u8 y, .int .u8 z] hx rfl ?_ ?_ ?_ ?_ ?_ ?_
  · intro j u hj
    match j, hj with
    | 0, hj => simp at hj; subst hj; simp [Addr.add]
    | 1, hj => simp at hj; subst hj; simp [Addr.add]
  · intro u hu; simp at hu; rcases hu with rfl | rfl <;> rfl
  · unfold maxLen; omega
  · omega
  · simp; omega
  · intro v' w' h1 h2 _
    refine h v' w' (row_more (m := 2) (ys := [y, z]) rfl (by simpa using h1)) ?_
    exact ((Below.refl base w).alloc hb _).grown h2 (by simp; omega) (fun k hk => Row.block hrow k hk)

end Go.Proofs.Ytdifegaokdoleaa
