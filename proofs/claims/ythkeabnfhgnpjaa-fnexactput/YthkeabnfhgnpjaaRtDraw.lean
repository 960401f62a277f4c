/-
  The model's drawing of addresses and of routes. By the verifier.
-/
import Derived.Test.YthkeabnfhgnpjaaDrawCur
import Derived.Test.YthkeabnfhgnpjaaRegInv
import Derived.Test.YthkeabnfhgnpjaaRtRoute
import Derived.Laws.ResultCell
import Derived.Laws.CopyOwn
namespace Go.Proofs.Ythkeabnfhgnpjaa
open Go.RowKit

set_option maxHeartbeats 1600000 in
theorem drawAddr {W : World} {bc : Nat} {a : Option Addr} {len cap : Nat} (hc : Hid (Code W a len)) (w : World) (cur : Hid (Cur W bc a len cap w)) :
    Calls Try.prog 30 #[.pointer (some ⟨bc, 0, none⟩)] w fun e w' => (∃ x : Int, e = .returned (.int .i64 x)) ∧ Cur W bc a len cap w' ∧ Keep bc w w' := by
  go_enter Try.func30, Try.ntmps30
  go_wp2_with fail
  refine (drawOnce hc 12 (by omega) _ cur).mono ?_
  rintro e w1 ⟨⟨x, rfl⟩, c1⟩
  have H1 : Hid (Cur W bc a len cap w1 ∧ Keep bc w w1) := c1
  clear c1
  cases x
  · go_wp2_with fail
    refine (drawBelow hc 64 (by omega) _ H1.out.1).mono ?_
    rintro e w2 ⟨⟨y, rfl, y0, y1⟩, c2, k2⟩
    have H2 : Hid (Cur W bc a len cap w2 ∧ Keep bc w w2) := ⟨c2, H1.out.2.trans k2⟩
    clear c2 k2 H1
    go_wp2_with fail
    refine (drawBelow hc 4 (by omega) _ H2.out.1).mono ?_
    rintro e w3 ⟨⟨z, rfl, z0, z1⟩, c3, k3⟩
    have H3 : Hid (Cur W bc a len cap w3 ∧ Keep bc w w3) := ⟨c3, H2.out.2.trans k3⟩
    clear c3 k3 H2
    go_wp2
    go_ret
    exact ⟨⟨_, rfl⟩, H3.out⟩
  · go_wp2_with fail
    refine (drawBelow hc 4 (by omega) _ (H1.out.1.alloc _)).mono ?_
    rintro e w2 ⟨⟨y, rfl, y0, y1⟩, c2, k2⟩
    obtain ⟨j, rfl⟩ := Int.eq_ofNat_of_zero_le y0
    have hj := tab [-1, 0, 4294967295, 4294967296] _ _ rfl H1.out.1.ne k2 j (by simp; omega)
    have H2 : Hid (Cur W bc a len cap w2 ∧ Keep bc w w2) := ⟨c2, (H1.out.2.alloc _).trans k2⟩
    clear c2 k2 H1
    generalize ([-1, 0, 4294967295, 4294967296] : List Int)[j]?.getD 0 = z at hj
    go_wp2
    go_ret
    exact ⟨⟨_, rfl⟩, H2.out⟩

/-- A zero route's cells. -/
def zeroRt : Array Value := #[.int .i64 0, .int .i64 0, .int .i64 0]
/-- The call's own memory: the route that is drawn, the answer's variable, the cursor. -/
structure DrR (W : World) (bc : Nat) (ac : Option Addr) (len cap : Nat) (w : World) (B : Nat) (r : Rt) (wr : World) : Prop where
  rt : Boxed wr B #[.int .i64 r.net, .int .i64 r.bits, .int .i64 r.hop] 29
  res : Boxed wr w.heap.size zeroRt 29
  cur : Cur W bc ac len cap wr
  kp : Keep bc w wr
  lt : w.heap.size < B
  bl : bc < w.heap.size
theorem DrR.draw {W : World} {bc : Nat} {ac : Option Addr} {len cap : Nat} {w : World} {B : Nat} {r : Rt} {wr wd : World} (h : DrR W bc ac len cap w B r wr) (c : Cur W bc ac len cap wd) (k : Keep bc wr wd) : DrR W bc ac len cap w B r wd := by
  have := h.lt
  have := h.bl
  exact ⟨h.rt.keep (by omega) k, h.res.keep (by omega) k, c, h.kp.trans k, h.lt, h.bl⟩
theorem DrR.more {W : World} {bc : Nat} {ac : Option Addr} {len cap : Nat} {w : World} {B : Nat} {r : Rt} {wr : World} (h : DrR W bc ac len cap w B r wr) (o : Obj) : DrR W bc ac len cap w B r (wr.alloc o) :=
  ⟨h.rt.more _, h.res.more _, h.cur.alloc _, h.kp.alloc _, h.lt, h.bl⟩
theorem DrR.drew {W : World} {bc : Nat} {ac : Option Addr} {len cap : Nat} {w : World} {B : Nat} {r : Rt} {wr : World} (h : DrR W bc ac len cap w B r wr) : DrR W bc ac len cap w B r wr.drew :=
  ⟨h.rt, h.res, h.cur.drew, h.kp.drew, h.lt, h.bl⟩
theorem DrR.put {W : World} {bc : Nat} {ac : Option Addr} {len cap : Nat} {w : World} {B : Nat} {r r' : Rt} {wr : World} (h : DrR W bc ac len cap w B r wr) (j : Nat) (v : Value)
    (hr : (#[.int .i64 r.net, .int .i64 r.bits, .int .i64 r.hop] : Array Value).setIfInBounds j v = #[.int .i64 r'.net, .int .i64 r'.bits, .int .i64 r'.hop]) : DrR W bc ac len cap w B r' (wr.setCell ⟨B, j, none⟩ v) := by
  have h1 := h.lt
  have h2 := h.bl
  have h3 := h.cur.bel.size
  have h4 := h.cur.lo
  have o : ∀ k, k ≠ B → (wr.setCell ⟨B, j, none⟩ v).heap[k]? = wr.heap[k]? := fun k hk => Below.heap_setCell _ _ _ _ hk
  refine ⟨by rw [← hr]; exact h.rt.put j v, h.res.far (by omega) j v, h.cur.other (by omega) o ((Below.refl _ _).setCell (p := ⟨B, j, none⟩) (by show W.heap.size ≤ B; omega) _), ⟨by have := h.kp.size; simp only [World.setCell, Array.size_modify]; exact this, fun k g1 g2 => (o k (by omega)).trans (h.kp.block k g1 g2)⟩, h.lt, h.bl⟩
theorem DrR.done {W : World} {bc : Nat} {ac : Option Addr} {len cap : Nat} {w : World} {B : Nat} {r : Rt} {wr : World} (h : DrR W bc ac len cap w B r wr) {t : Act} (h2 : t.tmps.getD 2 undef = .pointer (some ⟨w.heap.size, 0, none⟩)) (hd : t.defers = []) :
    bodyPost Try.prog Try.f33 (fun e w' => (∃ r : Rt, e = .returned r.val) ∧ Cur W bc ac len cap w' ∧ Keep bc w w') .ret t (wr.setRow w.heap.size #[.int .i64 r.net, .int .i64 r.bits, .int .i64 r.hop]) := by
  have g1 := h.lt
  have g2 := h.bl
  have g3 := h.cur.lo
  have o : ∀ k, k ≠ w.heap.size → (wr.setRow w.heap.size #[.int .i64 r.net, .int .i64 r.bits, .int .i64 r.hop]).heap[k]? = wr.heap[k]? := fun k hk => setRow_other _ _ _ _ hk
  refine bodyPost_ret (results_cell_row Try.results33 _ _ w.heap.size _ _ _ _ h2 (setRow_heap wr w.heap.size _ _ _ _ h.res) Try.underlying29 rfl (by kernel_rfl)) hd ⟨⟨r, rfl⟩, h.cur.other (by omega) o (below_setRow (Below.refl _ _) (by omega) _), ?_⟩
  exact ⟨by rw [size_setRow]; exact h.kp.size, fun k q1 q2 => (o k (by omega)).trans (h.kp.block k q1 q2)⟩
theorem oneR (a b c : Int) : (#[Value.int .i64 a, .int .i64 b, .int .i64 c] : Array Value).all (·.oneCell') = true := by simp [Value.oneCell']
end Go.Proofs.Ythkeabnfhgnpjaa
