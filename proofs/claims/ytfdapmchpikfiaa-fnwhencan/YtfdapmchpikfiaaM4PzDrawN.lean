import Derived.Test.YtfdapmchpikfiaaM1DrawCur
import Derived.Laws.ResultCell
import Derived.Laws.CopyOwn
import Derived.Laws.Rows
import Derived.Laws.Tables
import Derived.Test.YtfdapmchpikfiaaDraw
import Derived.Test.YtfdapmchpikfiaaStepRow
import Derived.Test.YtfdapmchpikfiaaRegList
import Derived.Deep.DeepCutAuto
/-
  The model's drawing of a record of numbers: the record that is drawn, the answer's variable and the cursor as one fact, whatever the record. By the verifier.
-/
namespace Go.Proofs.Ytfdapmchpikfiaa
open Go.RowKit

/-- The call's own memory: the record that is drawn (cs at B), the answer's variable (zs at A), the cursor. -/
structure DrX (t : TypeId) (zs : Array Value) (W : World) (bc : Nat) (ac : Option Addr) (len cap : Nat) (w : World) (A B : Nat) (cs : Array Value) (wr : World) : Prop where
  rt : Boxed wr B cs t
  res : Boxed wr A zs t
  cur : Cur W bc ac len cap wr
  kp : Keep bc w wr
  lo : w.heap.size ≤ A
  lt : A < B
  bl : bc < w.heap.size
section
variable {t : TypeId} {zs : Array Value} {W : World} {bc : Nat} {ac : Option Addr} {len cap : Nat} {w : World} {A B : Nat} {cs cs' : Array Value} {wr wd : World}
theorem DrX.draw (h : DrX t zs W bc ac len cap w A B cs wr) (c : Cur W bc ac len cap wd) (k : Keep bc wr wd) : DrX t zs W bc ac len cap w A B cs wd := by
  have := h.lt
  have := h.lo
  have := h.bl
  exact ⟨h.rt.keep (by omega) k, h.res.keep (by omega) k, c, h.kp.trans k, h.lo, h.lt, h.bl⟩
theorem DrX.more (h : DrX t zs W bc ac len cap w A B cs wr) (o : Obj) : DrX t zs W bc ac len cap w A B cs (wr.alloc o) :=
  ⟨h.rt.more _, h.res.more _, h.cur.alloc _, h.kp.alloc _, h.lo, h.lt, h.bl⟩
theorem DrX.drew (h : DrX t zs W bc ac len cap w A B cs wr) : DrX t zs W bc ac len cap w A B cs wr.drew :=
  ⟨h.rt, h.res, h.cur.drew, h.kp.drew, h.lo, h.lt, h.bl⟩
theorem DrX.put (h : DrX t zs W bc ac len cap w A B cs wr) (j : Nat) (v : Value) (hr : cs.setIfInBounds j v = cs') : DrX t zs W bc ac len cap w A B cs' (wr.setCell ⟨B, j, none⟩ v) := by
  have h0 := h.lo
  have h1 := h.lt
  have h2 := h.bl
  have h3 := h.cur.bel.size
  have h4 := h.cur.lo
  have o : ∀ k, k ≠ B → (wr.setCell ⟨B, j, none⟩ v).heap[k]? = wr.heap[k]? := fun k hk => Below.heap_setCell _ _ _ _ hk
  refine ⟨by rw [← hr]; exact h.rt.put j v, h.res.far (by omega) j v, h.cur.other (by omega) o ((Below.refl _ _).setCell (p := ⟨B, j, none⟩) (by show W.heap.size ≤ B; omega) _), ⟨by have := h.kp.size; simp only [World.setCell, Array.size_modify]; exact this, fun k g1 g2 => (o k (by omega)).trans (h.kp.block k g1 g2)⟩, h.lo, h.lt, h.bl⟩
/-- The answer's variable filled: the cursor and all that lay stay. -/
theorem DrX.filled (h : DrX t zs W bc ac len cap w A B cs wr) : Cur W bc ac len cap (wr.setRow A cs) ∧ Keep bc w (wr.setRow A cs) := by
  have g0 := h.lo
  have g1 := h.lt
  have g2 := h.bl
  have g3 := h.cur.lo
  have o : ∀ k, k ≠ A → (wr.setRow A cs).heap[k]? = wr.heap[k]? := fun k hk => setRow_other _ _ _ _ hk
  refine ⟨h.cur.other (B := A) (by omega) o (below_setRow (Below.refl _ _) (by omega) _), ?_⟩
  exact ⟨by rw [size_setRow]; exact h.kp.size, fun k q1 q2 => (o k (by omega)).trans (h.kp.block k q1 q2)⟩
theorem DrX.done (h : DrX t zs W bc ac len cap w A B cs wr) {fn : Func} {p : Tmp} {fs : Array Field} {tt : Act} (hres : fn.results = #[.cell p t]) (h2 : tt.tmps.getD p undef = .pointer (some ⟨A, 0, none⟩)) (hd : tt.defers = [])
    (hu : Try.prog.underlying t = some (.struct fs)) (hi : (Try.prog.info? t).map (·.size) = some cs.size) {R : Value → Prop} (hR : R (.agg cs)) :
    bodyPost Try.prog fn (fun e w' => (∃ v, e = .returned v ∧ R v) ∧ Cur W bc ac len cap w' ∧ Keep bc w w') .ret tt (wr.setRow A cs) :=
  bodyPost_ret (results_cell_row hres _ _ A _ _ _ _ h2 (setRow_heap wr A _ _ _ _ h.res) hu rfl hi) hd ⟨⟨_, rfl, hR⟩, h.filled⟩
end
theorem ones3 (a b c : Int) : (#[Value.int .i64 a, .int .i64 b, .int .i64 c] : Array Value).all (·.oneCell') = true := by simp [Value.oneCell']
end Go.Proofs.Ytfdapmchpikfiaa

/-
  The model's drawing between two bounds (l1From). By the verifier.
-/
namespace Go.Proofs.Ytfdapmchpikfiaa
open Go.RowKit

theorem drawFrom {W : World} {bc : Nat} {a : Option Addr} {len cap : Nat} (hc : Hid (Code W a len)) (lo hi : Int) (h0 : -4294967296 ≤ lo) (h1 : lo ≤ hi) (h2 : hi ≤ 4294967296) (w : World) (cur : Hid (Cur W bc a len cap w)) :
    Calls Try.prog 35 #[.pointer (some ⟨bc, 0, none⟩), .int .i64 lo, .int .i64 hi] w fun e w' => (∃ x : Int, e = .returned (.int .i64 x) ∧ lo ≤ x ∧ x ≤ hi) ∧ Cur W bc a len cap w' ∧ Keep bc w w' := by
  go_enter Try.func35, Try.ntmps35
  go_wp2_with fail
  refine (drawBelow hc (hi - lo + 1) (by omega) _ cur).mono ?_
  rintro e w1 ⟨⟨x, rfl, x0, x1⟩, c1⟩
  have Hc : Hid (Cur W bc a len cap w1 ∧ Keep bc w w1) := c1
  clear c1 cur
  go_wp2
  go_ret
  exact ⟨⟨_, rfl, by omega, by omega⟩, Hc.out⟩
end Go.Proofs.Ytfdapmchpikfiaa

/-
  The model's drawing of times. By the verifier, by program.
-/
namespace Go.Proofs.Ytfdapmchpikfiaa
open Go.RowKit

set_option maxHeartbeats 1600000 in
theorem drawNow {W : World} {bc : Nat} {a : Option Addr} {len cap : Nat} (hc : Hid (Code W a len)) (w : World) (cur : Hid (Cur W bc a len cap w)) :
    Calls Try.prog 48 #[.pointer (some ⟨bc, 0, none⟩)] w fun e w' => (∃ x : Int, e = .returned (.int .i64 x) ∧ -1 ≤ x ∧ x ≤ 4611686018427387904) ∧ Cur W bc a len cap w' ∧ Keep bc w w' := by
  go_enter Try.func48, Try.ntmps48
  go_wp2_with fail
  refine (drawOnce hc 10 (by omega) _ cur.out).mono ?_
  rintro e w1 ⟨⟨bo, rfl⟩, c1, k1⟩
  have H1 : Hid (Cur W bc a len cap w1 ∧ Keep bc w w1) := ⟨c1, k1⟩
  clear c1 k1
  cases bo
  · go_wp2_with fail
    refine (drawBelow hc 60 (by omega) _ H1.out.1).mono ?_
    rintro e w2 ⟨⟨x, rfl, x0, x1⟩, c2, k2⟩
    have H2 : Hid (Cur W bc a len cap w2 ∧ Keep bc w w2) := ⟨c2, H1.out.2.trans k2⟩
    clear c2 k2
    go_wp2
    go_ret
    exact ⟨⟨x, rfl, by omega, by omega⟩, H2.out⟩
  · go_wp2_with fail
    refine (drawBelow hc 5 (by omega) _ (H1.out.1.alloc _)).mono ?_
    rintro e wt ⟨⟨y8, rfl, yy0, yy1⟩, ct, kt⟩
    obtain ⟨jt, rfl⟩ := Int.eq_ofNat_of_zero_le yy0
    have hj := tab [-1, 0, 1099511627776, 1099511627777, 4611686018427387904] _ _ rfl H1.out.1.ne kt jt (by simp; omega)
    have hz := tab_in [-1, 0, 1099511627776, 1099511627777, 4611686018427387904] (-1) 4611686018427387904 (by decide) jt (by simp; omega)
    have HT : Hid (Cur W bc a len cap wt ∧ Keep bc w wt) := ⟨ct, (H1.out.2.alloc _).trans kt⟩
    clear ct kt H1
    generalize ([-1, 0, 1099511627776, 1099511627777, 4611686018427387904] : List Int)[jt]?.getD 0 = z at hj hz
    have Hz : Hid _ := hz
    clear hz
    go_wp2
    go_ret
    exact ⟨⟨z, rfl, Hz.out⟩, HT.out⟩
end Go.Proofs.Ytfdapmchpikfiaa
