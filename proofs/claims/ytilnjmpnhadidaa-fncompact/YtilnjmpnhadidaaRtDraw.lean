/-
  The model's drawing of addresses and of routes. By the verifier.
-/
import Derived.Test.YtilnjmpnhadidaaDrawCur
import Derived.Test.YtilnjmpnhadidaaRegInv
import Derived.Test.YtilnjmpnhadidaaRtRoute
import Derived.Laws.ResultCell
import Derived.Laws.CopyOwn
namespace Go.Proofs.Ytilnjmpnhadidaa
open Go.RowKit

/-- A zero route's cells. -/
def zeroRt : Array Value := #[.int .i64 0, .int .i64 0, .int .i64 0]
/-- The call's own memory: the route that is drawn, the answer's variable, the cursor. -/
structure DrR (W : World) (bc : Nat) (ac : Option Addr) (len cap : Nat) (w : World) (B : Nat) (r : Rt) (wr : World) : Prop where
  rt : Boxed wr B #[.int .i64 r.net, .int .i64 r.bits, .int .i64 r.hop] 53
  res : Boxed wr w.heap.size zeroRt 53
  cur : Cur W bc ac len cap wr
  kp : Keep bc w wr
  lt : w.heap.size < B
  bl : bc < w.heap.size
theorem DrR.draw {W : World} {bc : Nat} {ac : Option Addr} {len cap : Nat} {w : World} {B : Nat} {r : Rt} {wr wd : World} (h : DrR W bc ac len cap w B r wr) (c : Cur W bc ac len cap wd) (k : Keep bc wr wd) : DrR W bc ac len cap w B r wd := by
  have := h.lt
  have := h.bl
  exact ⟨h.rt.keep (by omega) k, h.res.keep (by omega) k, c, h.kp.trans k, h.lt, h.bl⟩
theorem DrR.more {W : World} {bc : Nat} {ac : Option Addr} {len cap : Nat} {w : World} {B : Nat} {r : Rt} {wr : World} (h : DrR W bc ac len cap w B r wr) (o : Obj) : DrR W bc ac len cap w B r (wr.alloc o) :=
  ⟨h.rt.more _, h.res.more _, h.cur.alloc _, h.kp.alloc _, h.lt, h.bl⟩
theorem DrR.drew {W : World} {bc : Nat} {ac : Option Addr} {len cap : Nat} {w : World} {B : Nat} {r : Rt} {wr : World} (h : DrR W bc ac len cap w B r wr) : DrR W bc ac len cap w B r wr.drew :=
  ⟨h.rt, h.res, h.cur.drew, h.kp.drew, h.lt, h.bl⟩
theorem DrR.put {W : World} {bc : Nat} {ac : Option Addr} {len cap : Nat} {w : World} {B : Nat} {r r' : Rt} {wr : World} (h : DrR W bc ac len cap w B r wr) (j : Nat) (v : Value)
    (hr : (#[.int .i64 r.net, .int .i64 r.bits, .int .i64 r.hop] : Array Value).setIfInBounds j v = #[.int .i64 r'.net, .int .i64 r'.bits, .int .i64 r'.hop]) : DrR W bc ac len cap w B r' (wr.setCell ⟨B, j, none⟩ v) := by
  have h1 := h.lt
  have h2 := h.bl
  have h3 := h.cur.bel.size
  have h4 := h.cur.lo
  have o : ∀ k, k ≠ B → (wr.setCell ⟨B, j, none⟩ v).heap[k]? = wr.heap[k]? := fun k hk => Below.heap_setCell _ _ _ _ hk
  refine ⟨by rw [← hr]; exact h.rt.put j v, h.res.far (by omega) j v, h.cur.other (by omega) o ((Below.refl _ _).setCell (p := ⟨B, j, none⟩) (by show W.heap.size ≤ B; omega) _), ⟨by have := h.kp.size; simp only [World.setCell, Array.size_modify]; exact this, fun k g1 g2 => (o k (by omega)).trans (h.kp.block k g1 g2)⟩, h.lt, h.bl⟩
theorem DrR.done {W : World} {bc : Nat} {ac : Option Addr} {len cap : Nat} {w : World} {B : Nat} {r : Rt} {wr : World} (h : DrR W bc ac len cap w B r wr) {t : Act} (h2 : t.tmps.getD 2 undef = .pointer (some ⟨w.heap.size, 0, none⟩)) (hd : t.defers = []) :
    bodyPost Try.prog Try.f65 (fun e w' => (∃ r : Rt, e = .returned r.val) ∧ Cur W bc ac len cap w' ∧ Keep bc w w') .ret t (wr.setRow w.heap.size #[.int .i64 r.net, .int .i64 r.bits, .int .i64 r.hop]) := by
  have g1 := h.lt
  have g2 := h.bl
  have g3 := h.cur.lo
  have o : ∀ k, k ≠ w.heap.size → (wr.setRow w.heap.size #[.int .i64 r.net, .int .i64 r.bits, .int .i64 r.hop]).heap[k]? = wr.heap[k]? := fun k hk => setRow_other _ _ _ _ hk
  refine bodyPost_ret (results_cell_row Try.results65 _ _ w.heap.size _ _ _ _ h2 (setRow_heap wr w.heap.size _ _ _ _ h.res) Try.underlying53 rfl (by kernel_rfl)) hd ⟨⟨r, rfl⟩, h.cur.other (by omega) o (below_setRow (Below.refl _ _) (by omega) _), ?_⟩
  exact ⟨by rw [size_setRow]; exact h.kp.size, fun k q1 q2 => (o k (by omega)).trans (h.kp.block k q1 q2)⟩
theorem oneR (a b c : Int) : (#[Value.int .i64 a, .int .i64 b, .int .i64 c] : Array Value).all (·.oneCell') = true := by simp [Value.oneCell']
end Go.Proofs.Ytilnjmpnhadidaa
