import Derived.Test.YtkocbfikcjgigaaGreatRows
import Derived.WalkKit
import Derived.WalkSpells
import Derived.WalkLawsBesides
import Derived.RegionTactic
import Derived.RowKit3
import Derived.Handy
import Derived.Laws.BitsLemmas
import Derived.Test.YtkocbfikcjgigaaGreatBoxed
import Derived.Test.YtkocbfikcjgigaaGreatM1DuFn
import Derived.Laws.ResultCell
import Derived.Laws.CopyOwn
import Derived.Laws.Rows
import Derived.Laws.Tables
/-
  The walks of the model's drawing functions: a cursor over the bytes of a code. They answer, whatever the code. By the verifier.
-/
namespace Go.Proofs.YtkocbfikcjgigaaGreat
open Go.RowKit

theorem i64_and255 (n : Int) : bits .and .i64 n 255 = n % 256 := by
  have h255 : (BitVec.ofInt 64 255).toNat = 2 ^ 8 - 1 := by decide
  have key : (BitVec.ofInt 64 n &&& BitVec.ofInt 64 255).toNat = (n % ((2 ^ 64 : Nat) : Int)).toNat % 2 ^ 8 := by
    rw [BitVec.toNat_and, BitVec.toNat_ofInt, h255, Nat.and_two_pow_sub_one_eq_mod]
  show IntKind.i64.wrap ((BitVec.ofInt 64 n &&& BitVec.ofInt 64 255).toNat : Nat) = n % 256
  rw [key, IntKind.wrap_i64]
  omega

/-- The code: 'len' bytes that can be read in the first world. -/
def Code (W : World) (a : Option Addr) (len : Nat) : Prop :=
  len ≤ 4096 ∧ ∀ k, k < len → ∃ b off z, a = some ⟨b, off, none⟩ ∧ b < W.heap.size ∧ W.cell? ⟨b, off + k, none⟩ = some (.int .u8 z) ∧ 0 ≤ z ∧ z ≤ 255
/-- A cursor of the call's own over it. -/
structure Cur (W : World) (bc : Nat) (a : Option Addr) (len cap : Nat) (w : World) : Prop where
  lo : W.heap.size ≤ bc
  sl : w.cell? ⟨bc, 0, none⟩ = some (.slice a len cap)
  ix : ∃ i : Nat, i ≤ len ∧ w.cell? ⟨bc, 1, none⟩ = some (.int .i64 i)
  hh : ∃ h : Int, w.cell? ⟨bc, 2, none⟩ = some (.int .i64 h)
  f1 : w.frozen? ⟨bc, 1, none⟩ = false
  f2 : w.frozen? ⟨bc, 2, none⟩ = false
  bel : Below W.heap.size W w

/-- All blocks but the cursor's own are as they were. -/
structure Keep (bc : Nat) (w w' : World) : Prop where
  size : w.heap.size ≤ w'.heap.size
  block : ∀ k, k ≠ bc → k < w.heap.size → w'.heap[k]? = w.heap[k]?
theorem Keep.refl (bc : Nat) (w : World) : Keep bc w w := ⟨Nat.le_refl _, fun _ _ _ => rfl⟩
theorem Keep.trans {bc : Nat} {a b c : World} (h : Keep bc a b) (g : Keep bc b c) : Keep bc a c :=
  ⟨Nat.le_trans h.size g.size, fun k h1 h2 => (g.block k h1 (Nat.lt_of_lt_of_le h2 h.size)).trans (h.block k h1 h2)⟩
theorem Keep.drew {bc : Nat} {a w : World} (h : Keep bc a w) : Keep bc a w.drew := ⟨h.size, h.block⟩
theorem Keep.setCell {bc o : Nat} {a w : World} (h : Keep bc a w) (v : Value) : Keep bc a (w.setCell ⟨bc, o, none⟩ v) :=
  h.trans ⟨by simp [World.setCell], fun k h1 _ => Below.heap_setCell _ _ _ _ h1⟩
theorem Keep.alloc {bc : Nat} {a w : World} (h : Keep bc a w) (o : Obj) : Keep bc a (w.alloc o) :=
  h.trans ⟨by simp, fun k _ h2 => Below.heap_alloc _ _ _ h2⟩
theorem Keep.cell {bc : Nat} {w w' : World} (h : Keep bc w w') {p : Addr} (hp : p.block ≠ bc) (hs : p.block < w.heap.size) : w'.cell? p = w.cell? p := World.cell?_of_block (w := w) (h.block p.block hp hs)
theorem Cur.alloc {W : World} {bc : Nat} {a : Option Addr} {len cap : Nat} {w : World} (c : Cur W bc a len cap w) (o : Obj) : Cur W bc a len cap (w.alloc o) := by
  have hb : bc < w.heap.size := by
    have h := c.sl
    apply Classical.byContradiction
    intro hn
    have e : w.heap[bc]? = none := by simp; omega
    simp [World.cell?, e] at h
  have e : ∀ off, (w.alloc o).cell? ⟨bc, off, none⟩ = w.cell? ⟨bc, off, none⟩ := fun off => World.cell?_of_block (w := w) (Below.heap_alloc _ _ _ hb)
  have f : ∀ off, (w.alloc o).frozen? ⟨bc, off, none⟩ = w.frozen? ⟨bc, off, none⟩ := fun off => World.frozen?_of_block (w := w) (Below.heap_alloc _ _ _ hb)
  exact ⟨c.lo, by rw [e]; exact c.sl, by rw [e]; exact c.ix, by rw [e]; exact c.hh, by rw [f]; exact c.f1, by rw [f]; exact c.f2, c.bel.alloc c.bel.size _⟩
theorem Cur.drew {W : World} {bc : Nat} {a : Option Addr} {len cap : Nat} {w : World} (c : Cur W bc a len cap w) : Cur W bc a len cap w.drew :=
  ⟨c.lo, by simpa [go_sem] using c.sl, by simpa [go_sem] using c.ix, by simpa [go_sem] using c.hh, by simpa [go_sem] using c.f1, by simpa [go_sem] using c.f2, c.bel.drew⟩
theorem Cur.setH {W : World} {bc : Nat} {a : Option Addr} {len cap : Nat} {w : World} (c : Cur W bc a len cap w) (v : Int) : Cur W bc a len cap (w.setCell ⟨bc, 2, none⟩ (.int .i64 v)) := by
  obtain ⟨lo, sl, ⟨i, hi, ix⟩, ⟨h, hh⟩, f1, f2, bel⟩ := c
  refine ⟨lo, ?_, ⟨i, hi, ?_⟩, ⟨v, ?_⟩, ?_, ?_, bel.setCell lo _⟩
  · rw [World.cell?_setCell_other _ _ _ _ (by simp)]; exact sl
  · rw [World.cell?_setCell_other _ _ _ _ (by simp)]; exact ix
  · exact World.cell?_setCell_same' _ _ _ (by rw [hh]; rfl)
  · rw [World.frozen?_setCell]; exact f1
  · rw [World.frozen?_setCell]; exact f2
theorem Cur.setI {W : World} {bc : Nat} {a : Option Addr} {len cap : Nat} {w : World} (c : Cur W bc a len cap w) {v : Int} {j : Nat} (hv : v = (j : Int)) (hj : j ≤ len) : Cur W bc a len cap (w.setCell ⟨bc, 1, none⟩ (.int .i64 v)) := by
  obtain ⟨lo, sl, ⟨i, hi, ix⟩, ⟨h, hh⟩, f1, f2, bel⟩ := c
  refine ⟨lo, ?_, ⟨j, hj, ?_⟩, ⟨h, ?_⟩, ?_, ?_, bel.setCell lo _⟩
  · rw [World.cell?_setCell_other _ _ _ _ (by simp)]; exact sl
  · rw [hv]; exact World.cell?_setCell_same' _ _ _ (by rw [ix]; rfl)
  · rw [World.cell?_setCell_other _ _ _ _ (by simp)]; exact hh
  · rw [World.frozen?_setCell]; exact f1
  · rw [World.frozen?_setCell]; exact f2

set_option maxHeartbeats 800000 in
theorem drawByte {W : World} {bc : Nat} {a : Option Addr} {len cap : Nat} (hc : Code W a len) (w : World) (cur : Cur W bc a len cap w) :
    Calls Tryz.prog 56 #[.pointer (some ⟨bc, 0, none⟩)] w fun e w' => (∃ x : Int, e = .returned (.int .i64 x) ∧ 0 ≤ x ∧ x ≤ 255) ∧ Cur W bc a len cap w' ∧ Keep bc w w' := by
  have Hcur : Hid (Cur W bc a len cap w) := cur
  obtain ⟨lo, sl, ⟨i, hi, ix⟩, ⟨h, hh⟩, f1, f2, bel⟩ := cur
  by_cases hlt : i < len
  · obtain ⟨b, off, z, rfl, hb, hz, z0, z1⟩ := hc.2 i hlt
    have hz' : w.cell? ⟨b, off + i, none⟩ = some (.int .u8 z) := by rw [bel.cell (p := ⟨b, off + i, none⟩) hb]; exact hz
    have l4 := hc.1
    have hne : ¬ b = bc := by omega
    clear hc bel hz
    go_enter Tryz.func56, Tryz.ntmps56
    go_wp2
    go_region
    go_wp2
    generalize wrap64 (wrap64 (h * 6364136223846793005) + 1442695040888963407) = h'
    generalize bits .xor .i64 (h' / 8589934592) (h' / 35184372088832) = y
    simp only [i64_and255]
    go_region
    go_wp2
    go_region
    go_wp2
    go_ret
    simp only [i64_and255]
    refine ⟨⟨_, rfl, by omega, by omega⟩, ?_, ?_⟩
    · repeat (refine Cur.drew ?_)
      refine Cur.setI (j := i + 1) ?_ (by omega) (by omega)
      repeat (refine Cur.drew ?_)
      exact Hcur.out.setH _
    · repeat (first | exact Keep.refl _ _ | refine Keep.drew ?_ | refine Keep.setCell ?_ _)
  · clear hc bel
    have hi' : ¬ (i : Int) < (len : Int) := by omega
    go_enter Tryz.func56, Tryz.ntmps56
    go_wp2
    go_region
    go_wp2
    generalize wrap64 (wrap64 (h * 6364136223846793005) + 1442695040888963407) = h'
    generalize bits .xor .i64 (h' / 8589934592) (h' / 35184372088832) = y
    simp only [i64_and255]
    go_region
    go_wp2
    go_ret
    refine ⟨⟨_, rfl, by omega, by omega⟩, ?_, ?_⟩
    · repeat (refine Cur.drew ?_)
      exact Hcur.out.setH _
    · repeat (first | exact Keep.refl _ _ | refine Keep.drew ?_ | refine Keep.setCell ?_ _)

set_option maxHeartbeats 800000 in
theorem drawBelow {W : World} {bc : Nat} {a : Option Addr} {len cap : Nat} (hc : Hid (Code W a len)) (n : Int) (n0 : 0 < n) (w : World) (cur : Hid (Cur W bc a len cap w)) :
    Calls Tryz.prog 25 #[.pointer (some ⟨bc, 0, none⟩), .int .i64 n] w fun e w' => (∃ x : Int, e = .returned (.int .i64 x) ∧ 0 ≤ x ∧ x < n) ∧ Cur W bc a len cap w' ∧ Keep bc w w' := by
  have nz : ¬ n = 0 := by omega
  by_cases h : n ≤ 256
  · go_enter Tryz.func25, Tryz.ntmps25
    go_wp2_with fail
    refine (drawByte hc.out _ cur.out).mono ?_
    rintro e w1 ⟨⟨x, rfl, x0, x1⟩, c1, k1⟩
    have Hc : Hid (Cur W bc a len cap w1 ∧ Keep bc w w1) := ⟨c1, k1⟩
    clear c1 k1 cur
    have m0 := Int.emod_nonneg x nz
    have m1 := Int.emod_lt_of_pos x n0
    go_wp2
    go_ret
    exact ⟨⟨_, rfl, m0, m1⟩, Hc.out⟩
  · go_enter Tryz.func25, Tryz.ntmps25
    go_wp2_with fail
    refine (drawByte hc.out _ cur.out).mono ?_
    rintro e w1 ⟨⟨x, rfl, x0, x1⟩, c1, k1⟩
    have H1 : Hid (Cur W bc a len cap w1 ∧ Keep bc w w1) := ⟨c1, k1⟩
    clear c1 k1 cur
    go_wp2_with fail
    refine (drawByte hc.out _ H1.out.1).mono ?_
    rintro e w2 ⟨⟨y, rfl, y0, y1⟩, c2, k2⟩
    have H2 : Hid (Cur W bc a len cap w2 ∧ Keep bc w w2) := ⟨c2, H1.out.2.trans k2⟩
    clear c2 k2 H1
    go_wp2_with fail
    refine (drawByte hc.out _ H2.out.1).mono ?_
    rintro e w3 ⟨⟨z, rfl, z0, z1⟩, c3, k3⟩
    have H3 : Hid (Cur W bc a len cap w3 ∧ Keep bc w w3) := ⟨c3, H2.out.2.trans k3⟩
    clear c3 k3 H2
    go_wp2_with fail
    refine (drawByte hc.out _ H3.out.1).mono ?_
    rintro e w4 ⟨⟨v, rfl, v0, v1⟩, c4, k4⟩
    have H4 : Hid (Cur W bc a len cap w4 ∧ Keep bc w w4) := ⟨c4, H3.out.2.trans k4⟩
    clear c4 k4 H3
    have m0 := Int.emod_nonneg (x * 16777216 + y * 65536 + z * 256 + v) nz
    have m1 := Int.emod_lt_of_pos (x * 16777216 + y * 65536 + z * 256 + v) n0
    go_wp2
    go_ret
    exact ⟨⟨_, rfl, m0, m1⟩, H4.out⟩

theorem drawOnce {W : World} {bc : Nat} {a : Option Addr} {len cap : Nat} (hc : Hid (Code W a len)) (n : Int) (n0 : 0 < n) (w : World) (cur : Hid (Cur W bc a len cap w)) :
    Calls Tryz.prog 55 #[.pointer (some ⟨bc, 0, none⟩), .int .i64 n] w fun e w' => (∃ x : Bool, e = .returned (.bool x)) ∧ Cur W bc a len cap w' ∧ Keep bc w w' := by
  go_enter Tryz.func55, Tryz.ntmps55
  go_wp2_with fail
  refine (drawBelow hc n n0 _ cur).mono ?_
  rintro e w1 ⟨⟨x, rfl, x0, x1⟩, c1⟩
  have Hc : Hid (Cur W bc a len cap w1 ∧ Keep bc w w1) := c1
  clear c1 cur
  go_wp2
  go_ret
  exact ⟨⟨_, rfl⟩, Hc.out⟩

set_option maxHeartbeats 800000 in
theorem drawNew {W : World} {a : Option Addr} {len cap : Nat} (hc : Hid (Code W a len)) (w : World) (bel : Hid (Below W.heap.size W w)) :
    Calls Tryz.prog 23 #[.slice a len cap] w fun e w' => e = .returned (.pointer (some ⟨w.heap.size, 0, none⟩)) ∧ Cur W w.heap.size a len cap w' ∧ Below w.heap.size w w' := by
  have l4 := hc.out.1
  go_enter Tryz.func23, Tryz.ntmps23
  go_wp2
  go_loop [3, 4] (fun h i => ∃ (n : Int) (k : Nat), k ≤ len ∧ i = .int .i64 k ∧ h = .int .i64 n) (fun _ i => len - (intOf i).toNat)
  case atStart => exact ⟨_, 0, Nat.zero_le _, rfl, rfl⟩
  case round =>
    obtain ⟨n, k, hk, rfl, rfl⟩ := hrel
    by_cases hlt : k < len
    · obtain ⟨b, off, z, ha, hb, hz, z0, z1⟩ := hc.out.2 k hlt
      have hz' : w.cell? ⟨b, off + k, none⟩ = some (.int .u8 z) := by rw [bel.out.cell (p := ⟨b, off + k, none⟩) hb]; exact hz
      clear hz
      subst ha
      go_wp2
      go_round
      case rel => exact ⟨_, k + 1, by omega, by go_num, rfl⟩
      case measure => simp [intOf]; omega
    · go_wp2
      go_ret
      refine ⟨rfl, ?_, (Below.refl _ _).alloc (Nat.le_refl _) _⟩
      refine ⟨bel.out.size, by simp, ⟨0, by omega, by simp⟩, ⟨n, by simp⟩, ?_, ?_, bel.out.alloc bel.out.size _⟩
      · rw [frozen?_alloc_cells]; simp [World.frozen?]
      · rw [frozen?_alloc_cells]; simp [World.frozen?]
end Go.Proofs.YtkocbfikcjgigaaGreat

/-
  What stays when the cursor draws, and when what stands beside it. By the verifier.
-/
namespace Go.Proofs.YtkocbfikcjgigaaGreat
open Go.RowKit

theorem Cur.ne {W : World} {bc : Nat} {a : Option Addr} {len cap : Nat} {w : World} (c : Cur W bc a len cap w) : w.heap.size ≠ bc := by
  have hl := c.sl
  rintro rfl
  simp [World.cell?] at hl
theorem Cur.lt {W : World} {bc : Nat} {a : Option Addr} {len cap : Nat} {w : World} (c : Cur W bc a len cap w) : bc < w.heap.size := by
  have hl := c.sl
  apply Classical.byContradiction
  intro hn
  simp [World.cell?, Array.getElem?_eq_none (Nat.le_of_not_lt hn)] at hl
/-- A table that was laid ahead of a draw is read behind it. -/
theorem tab {bc : Nat} {w w2 : World} (zs : List Int) (cs : Array Value) (t : TypeId) (h : cs = (zs.map (Value.int .i64)).toArray) (hne : w.heap.size ≠ bc) (k : Keep bc (w.alloc (.cells cs t)) w2) (j : Nat) (hj : j < zs.length) :
    w2.cell? ⟨w.heap.size, j, none⟩ = some (.int .i64 (zs[j]?.getD 0)) := by
  rw [k.cell hne (by simp)]
  obtain ⟨b, off, e, _, hc⟩ := ints_new w t zs cs w.heap.size rfl h j hj
  cases e
  simpa using hc
theorem tab_in (zs : List Int) (lo hi : Int) (h : zs.all (inB lo hi) = true) (j : Nat) (hj : j < zs.length) : lo ≤ zs[j]?.getD 0 ∧ zs[j]?.getD 0 ≤ hi := by
  rw [List.all_eq_true] at h
  rw [List.getElem?_eq_getElem hj]
  exact inB_true.1 (h _ (List.getElem_mem hj))

/-- The cursor stays when a list behind it grows. -/
theorem Cur.below {W : World} {bc : Nat} {a : Option Addr} {len cap : Nat} {w w' : World} (c : Cur W bc a len cap w) {b : Nat} (hb : bc < b) (g : Below b w w') : Cur W bc a len cap w' := by
  have e : ∀ off, w'.cell? ⟨bc, off, none⟩ = w.cell? ⟨bc, off, none⟩ := fun off => World.cell?_of_block (w := w) (g.block bc hb)
  have f : ∀ off, w'.frozen? ⟨bc, off, none⟩ = w.frozen? ⟨bc, off, none⟩ := fun off => World.frozen?_of_block (w := w) (g.block bc hb)
  exact ⟨c.lo, by rw [e]; exact c.sl, by rw [e]; exact c.ix, by rw [e]; exact c.hh, by rw [f]; exact c.f1, by rw [f]; exact c.f2, c.bel.trans (g.mono (by have := c.lo; omega))⟩

theorem Boxed.keep {bc B : Nat} {w w' : World} {cs : Array Value} {t : TypeId} (h : Boxed w B cs t) (hne : B ≠ bc) (k : Keep bc w w') : Boxed w' B cs t := by
  unfold Boxed; rw [k.block B hne h.under]; exact h
/-- The cursor stays where another block of the call's own is turned. -/
theorem Cur.other {W : World} {bc B : Nat} {a : Option Addr} {len cap : Nat} {w w' : World} (c : Cur W bc a len cap w) (hne : B ≠ bc) (ho : ∀ k, k ≠ B → w'.heap[k]? = w.heap[k]?) (g : Below W.heap.size w w') : Cur W bc a len cap w' := by
  have e : ∀ off, w'.cell? ⟨bc, off, none⟩ = w.cell? ⟨bc, off, none⟩ := fun off => World.cell?_of_block (w := w) (ho bc (fun e => hne e.symm))
  have f : ∀ off, w'.frozen? ⟨bc, off, none⟩ = w.frozen? ⟨bc, off, none⟩ := fun off => World.frozen?_of_block (w := w) (ho bc (fun e => hne e.symm))
  refine ⟨c.lo, by rw [e]; exact c.sl, by rw [e]; exact c.ix, by rw [e]; exact c.hh, by rw [f]; exact c.f1, by rw [f]; exact c.f2, c.bel.trans g⟩
end Go.Proofs.YtkocbfikcjgigaaGreat

/-
  The model's drawing of a record of numbers: the record that is drawn, the answer's variable and the cursor as one fact, whatever the record. By the verifier.
-/
namespace Go.Proofs.YtkocbfikcjgigaaGreat
open Go.RowKit

/-- The call's own memory: the record that is drawn (cs at B), the answer's variable (zs at A), the cursor. -/
structure DrX (t : TypeId) (zs : Array Value) (W : World) (bc : Nat) (ac : Option Addr) (len cap : Nat) (w : World) (A B : Nat) (cs : Array Value) (wr : World) : Prop where
  rt : Boxed wr B cs t
  res : Boxed wr A zs t
  cur : Cur W bc ac len cap wr
  kp : Keep bc w wr
  lo : w.heap.size ≤ A
  lt : A < B
  bl : bc < w.heap.size
section
variable {t : TypeId} {zs : Array Value} {W : World} {bc : Nat} {ac : Option Addr} {len cap : Nat} {w : World} {A B : Nat} {cs cs' : Array Value} {wr wd : World}
theorem DrX.draw (h : DrX t zs W bc ac len cap w A B cs wr) (c : Cur W bc ac len cap wd) (k : Keep bc wr wd) : DrX t zs W bc ac len cap w A B cs wd := by
  have := h.lt
  have := h.lo
  have := h.bl
  exact ⟨h.rt.keep (by omega) k, h.res.keep (by omega) k, c, h.kp.trans k, h.lo, h.lt, h.bl⟩
theorem DrX.more (h : DrX t zs W bc ac len cap w A B cs wr) (o : Obj) : DrX t zs W bc ac len cap w A B cs (wr.alloc o) :=
  ⟨h.rt.more _, h.res.more _, h.cur.alloc _, h.kp.alloc _, h.lo, h.lt, h.bl⟩
theorem DrX.drew (h : DrX t zs W bc ac len cap w A B cs wr) : DrX t zs W bc ac len cap w A B cs wr.drew :=
  ⟨h.rt, h.res, h.cur.drew, h.kp.drew, h.lo, h.lt, h.bl⟩
theorem DrX.put (h : DrX t zs W bc ac len cap w A B cs wr) (j : Nat) (v : Value) (hr : cs.setIfInBounds j v = cs') : DrX t zs W bc ac len cap w A B cs' (wr.setCell ⟨B, j, none⟩ v) := by
  have h0 := h.lo
  have h1 := h.lt
  have h2 := h.bl
  have h3 := h.cur.bel.size
  have h4 := h.cur.lo
  have o : ∀ k, k ≠ B → (wr.setCell ⟨B, j, none⟩ v).heap[k]? = wr.heap[k]? := fun k hk => Below.heap_setCell _ _ _ _ hk
  refine ⟨by rw [← hr]; exact h.rt.put j v, h.res.far (by omega) j v, h.cur.other (by omega) o ((Below.refl _ _).setCell (p := ⟨B, j, none⟩) (by show W.heap.size ≤ B; omega) _), ⟨by have := h.kp.size; simp only [World.setCell, Array.size_modify]; exact this, fun k g1 g2 => (o k (by omega)).trans (h.kp.block k g1 g2)⟩, h.lo, h.lt, h.bl⟩
/-- The answer's variable filled: the cursor and all that lay stay. -/
theorem DrX.filled (h : DrX t zs W bc ac len cap w A B cs wr) : Cur W bc ac len cap (wr.setRow A cs) ∧ Keep bc w (wr.setRow A cs) := by
  have g0 := h.lo
  have g1 := h.lt
  have g2 := h.bl
  have g3 := h.cur.lo
  have o : ∀ k, k ≠ A → (wr.setRow A cs).heap[k]? = wr.heap[k]? := fun k hk => setRow_other _ _ _ _ hk
  refine ⟨h.cur.other (B := A) (by omega) o (below_setRow (Below.refl _ _) (by omega) _), ?_⟩
  exact ⟨by rw [size_setRow]; exact h.kp.size, fun k q1 q2 => (o k (by omega)).trans (h.kp.block k q1 q2)⟩
theorem DrX.done (h : DrX t zs W bc ac len cap w A B cs wr) {fn : Func} {p : Tmp} {fs : Array Field} {tt : Act} (hres : fn.results = #[.cell p t]) (h2 : tt.tmps.getD p undef = .pointer (some ⟨A, 0, none⟩)) (hd : tt.defers = [])
    (hu : Tryz.prog.underlying t = some (.struct fs)) (hi : (Tryz.prog.info? t).map (·.size) = some cs.size) {R : Value → Prop} (hR : R (.agg cs)) :
    bodyPost Tryz.prog fn (fun e w' => (∃ v, e = .returned v ∧ R v) ∧ Cur W bc ac len cap w' ∧ Keep bc w w') .ret tt (wr.setRow A cs) :=
  bodyPost_ret (results_cell_row hres _ _ A _ _ _ _ h2 (setRow_heap wr A _ _ _ _ h.res) hu rfl hi) hd ⟨⟨_, rfl, hR⟩, h.filled⟩
end
theorem ones3 (a b c : Int) : (#[Value.int .i64 a, .int .i64 b, .int .i64 c] : Array Value).all (·.oneCell') = true := by simp [Value.oneCell']
end Go.Proofs.YtkocbfikcjgigaaGreat
