/-
  The walks of the model's drawing functions: a cursor over the bytes of a code. They answer, whatever the code. By the verifier.
-/
import Derived.Test.YtllmkolchgmjoaaRows
import Derived.WalkKit
import Derived.WalkSpells
import Derived.WalkLawsBesides
import Derived.RegionTactic
import Derived.RowKit3
import Derived.Handy
import Derived.Laws.BitsLemmas
namespace Go.Proofs.Ytllmkolchgmjoaa
open Go.RowKit

theorem i64_and255 (n : Int) : bits .and .i64 n 255 = n % 256 := by
  have h255 : (BitVec.ofInt 64 255).toNat = 2 ^ 8 - 1 := by decide
  have key : (BitVec.ofInt 64 n &&& BitVec.ofInt 64 255).toNat = (n % ((2 ^ 64 : Nat) : Int)).toNat % 2 ^ 8 := by
    rw [BitVec.toNat_and, BitVec.toNat_ofInt, h255, Nat.and_two_pow_sub_one_eq_mod]
  show IntKind.i64.wrap ((BitVec.ofInt 64 n &&& BitVec.ofInt 64 255).toNat : Nat) = n % 256
  rw [key, IntKind.wrap_i64]
  omega

/-- The code: 'len' bytes that can be read in the first world. -/
def Code (W : World) (a : Option Addr) (len : Nat) : Prop :=
  len ≤ 4096 ∧ ∀ k, k < len → ∃ b off z, a = some ⟨b, off, none⟩ ∧ b < W.heap.size ∧ W.cell? ⟨b, off + k, none⟩ = some (.int .u8 z) ∧ 0 ≤ z ∧ z ≤ 255
/-- A cursor of the call's own over it. -/
structure Cur (W : World) (bc : Nat) (a : Option Addr) (len cap : Nat) (w : World) : Prop where
  lo : W.heap.size ≤ bc
  sl : w.cell? ⟨bc, 0, none⟩ = some (.slice a len cap)
  ix : ∃ i : Nat, i ≤ len ∧ w.cell? ⟨bc, 1, none⟩ = some (.int .i64 i)
  hh : ∃ h : Int, w.cell? ⟨bc, 2, none⟩ = some (.int .i64 h)
  f1 : w.frozen? ⟨bc, 1, none⟩ = false
  f2 : w.frozen? ⟨bc, 2, none⟩ = false
  bel : Below W.heap.size W w

/-- All blocks but the cursor's own are as they were. -/
structure Keep (bc : Nat) (w w' : World) : Prop where
  size : w.heap.size ≤ w'.heap.size
  block : ∀ k, k ≠ bc → k < w.heap.size → w'.heap[k]? = w.heap[k]?
theorem Keep.refl (bc : Nat) (w : World) : Keep bc w w := ⟨Nat.le_refl _, fun _ _ _ => rfl⟩
theorem Keep.trans {bc : Nat} {a b c : World} (h : Keep bc a b) (g : Keep bc b c) : Keep bc a c :=
  ⟨Nat.le_trans h.size g.size, fun k h1 h2 => (g.block k h1 (Nat.lt_of_lt_of_le h2 h.size)).trans (h.block k h1 h2)⟩
theorem Keep.drew {bc : Nat} {a w : World} (h : Keep bc a w) : Keep bc a w.drew := ⟨h.size, h.block⟩
theorem Keep.setCell {bc o : Nat} {a w : World} (h : Keep bc a w) (v : Value) : Keep bc a (w.setCell ⟨bc, o, none⟩ v) :=
  h.trans ⟨by simp [World.setCell], fun k h1 _ => Below.heap_setCell _ _ _ _ h1⟩
theorem Keep.alloc {bc : Nat} {a w : World} (h : Keep bc a w) (o : Obj) : Keep bc a (w.alloc o) :=
  h.trans ⟨by simp, fun k _ h2 => Below.heap_alloc _ _ _ h2⟩
theorem Keep.cell {bc : Nat} {w w' : World} (h : Keep bc w w') {p : Addr} (hp : p.block ≠ bc) (hs : p.block < w.heap.size) : w'.cell? p = w.cell? p := World.cell?_of_block (w := w) (h.block p.block hp hs)
theorem Cur.alloc {W : World} {bc : Nat} {a : Option Addr} {len cap : Nat} {w : World} (c : Cur W bc a len cap w) (o : Obj) : Cur W bc a len cap (w.alloc o) := by
  have hb : bc < w.heap.size := by
    have h := c.sl
    apply Classical.byContradiction
    intro hn
    have e : w.heap[bc]? = none := by simp; omega
    simp [World.cell?, e] at h
  have e : ∀ off, (w.alloc o).cell? ⟨bc, off, none⟩ = w.cell? ⟨bc, off, none⟩ := fun off => World.cell?_of_block (w := w) (Below.heap_alloc _ _ _ hb)
  have f : ∀ off, (w.alloc o).frozen? ⟨bc, off, none⟩ = w.frozen? ⟨bc, off, none⟩ := fun off => World.frozen?_of_block (w := w) (Below.heap_alloc _ _ _ hb)
  exact ⟨c.lo, by rw [e]; exact c.sl, by rw [e]; exact c.ix, by rw [e]; exact c.hh, by rw [f]; exact c.f1, by rw [f]; exact c.f2, c.bel.alloc c.bel.size _⟩
theorem Cur.drew {W : World} {bc : Nat} {a : Option Addr} {len cap : Nat} {w : World} (c : Cur W bc a len cap w) : Cur W bc a len cap w.drew :=
  ⟨c.lo, by simpa [go_sem] using c.sl, by simpa [go_sem] using c.ix, by simpa [go_sem] using c.hh, by simpa [go_sem] using c.f1, by simpa [go_sem] using c.f2, c.bel.drew⟩
theorem Cur.setH {W : World} {bc : Nat} {a : Option Addr} {len cap : Nat} {w : World} (c : Cur W bc a len cap w) (v : Int) : Cur W bc a len cap (w.setCell ⟨bc, 2, none⟩ (.int .i64 v)) := by
  obtain ⟨lo, sl, ⟨i, hi, ix⟩, ⟨h, hh⟩, f1, f2, bel⟩ := c
  refine ⟨lo, ?_, ⟨i, hi, ?_⟩, ⟨v, ?_⟩, ?_, ?_, bel.setCell lo _⟩
  · rw [World.cell?_setCell_other _ _ _ _ (by simp)]; exact sl
  · rw [World.cell?_setCell_other _ _ _ _ (by simp)]; exact ix
  · exact World.cell?_setCell_same' _ _ _ (by rw [hh]; rfl)
  · rw [World.frozen?_setCell]; exact f1
  · rw [World.frozen?_setCell]; exact f2
theorem Cur.setI {W : World} {bc : Nat} {a : Option Addr} {len cap : Nat} {w : World} (c : Cur W bc a len cap w) {v : Int} {j : Nat} (hv : v = (j : Int)) (hj : j ≤ len) : Cur W bc a len cap (w.setCell ⟨bc, 1, none⟩ (.int .i64 v)) := by
  obtain ⟨lo, sl, ⟨i, hi, ix⟩, ⟨h, hh⟩, f1, f2, bel⟩ := c
  refine ⟨lo, ?_, ⟨j, hj, ?_⟩, ⟨h, ?_⟩, ?_, ?_, bel.setCell lo _⟩
  · rw [World.cell?_setCell_other _ _ _ _ (by simp)]; exact sl
  · rw [hv]; exact World.cell?_setCell_same' _ _ _ (by rw [ix]; rfl)
  · rw [World.cell?_setCell_other _ _ _ _ (by simp)]; exact hh
  · rw [World.frozen?_setCell]; exact f1
  · rw [World.frozen?_setCell]; exact f2

set_option maxHeartbeats 800000 in
theorem drawByte {W : World} {bc : Nat} {a : Option Addr} {len cap : Nat} (hc : Code W a len) (w : World) (cur : Cur W bc a len cap w) :
    Calls Try.prog 68 #[.pointer (some ⟨bc, 0, none⟩)] w fun e w' => (∃ x : Int, e = .returned (.int .i64 x) ∧ 0 ≤ x ∧ x ≤ 255) ∧ Cur W bc a len cap w' ∧ Keep bc w w' := by
  have Hcur : Hid (Cur W bc a len cap w) := cur
  obtain ⟨lo, sl, ⟨i, hi, ix⟩, ⟨h, hh⟩, f1, f2, bel⟩ := cur
  by_cases hlt : i < len
  · obtain ⟨b, off, z, rfl, hb, hz, z0, z1⟩ := hc.2 i hlt
    have hz' : w.cell? ⟨b, off + i, none⟩ = some (.int .u8 z) := by rw [bel.cell (p := ⟨b, off + i, none⟩) hb]; exact hz
    have l4 := hc.1
    have hne : ¬ b = bc := by omega
    clear hc bel hz
    go_enter Try.func68, Try.ntmps68
    go_wp2
    go_region
    go_wp2
    generalize wrap64 (wrap64 (h * 6364136223846793005) + 1442695040888963407) = h'
    generalize bits .xor .i64 (h' / 8589934592) (h' / 35184372088832) = y
    simp only [i64_and255]
    go_region
    go_wp2
    go_region
    go_wp2
    go_ret
    simp only [i64_and255]
    refine ⟨⟨_, rfl, by omega, by omega⟩, ?_, ?_⟩
    · repeat (refine Cur.drew ?_)
      refine Cur.setI (j := i + 1) ?_ (by omega) (by omega)
      repeat (refine Cur.drew ?_)
      exact Hcur.out.setH _
    · repeat (first | exact Keep.refl _ _ | refine Keep.drew ?_ | refine Keep.setCell ?_ _)
  · clear hc bel
    have hi' : ¬ (i : Int) < (len : Int) := by omega
    go_enter Try.func68, Try.ntmps68
    go_wp2
    go_region
    go_wp2
    generalize wrap64 (wrap64 (h * 6364136223846793005) + 1442695040888963407) = h'
    generalize bits .xor .i64 (h' / 8589934592) (h' / 35184372088832) = y
    simp only [i64_and255]
    go_region
    go_wp2
    go_ret
    refine ⟨⟨_, rfl, by omega, by omega⟩, ?_, ?_⟩
    · repeat (refine Cur.drew ?_)
      exact Hcur.out.setH _
    · repeat (first | exact Keep.refl _ _ | refine Keep.drew ?_ | refine Keep.setCell ?_ _)

set_option maxHeartbeats 800000 in
theorem drawBelow {W : World} {bc : Nat} {a : Option Addr} {len cap : Nat} (hc : Hid (Code W a len)) (n : Int) (n0 : 0 < n) (w : World) (cur : Hid (Cur W bc a len cap w)) :
    Calls Try.prog 49 #[.pointer (some ⟨bc, 0, none⟩), .int .i64 n] w fun e w' => (∃ x : Int, e = .returned (.int .i64 x) ∧ 0 ≤ x ∧ x < n) ∧ Cur W bc a len cap w' ∧ Keep bc w w' := by
  have nz : ¬ n = 0 := by omega
  by_cases h : n ≤ 256
  · go_enter Try.func49, Try.ntmps49
    go_wp2_with fail
    refine (drawByte hc.out _ cur.out).mono ?_
    rintro e w1 ⟨⟨x, rfl, x0, x1⟩, c1, k1⟩
    have Hc : Hid (Cur W bc a len cap w1 ∧ Keep bc w w1) := ⟨c1, k1⟩
    clear c1 k1 cur
    have m0 := Int.emod_nonneg x nz
    have m1 := Int.emod_lt_of_pos x n0
    go_wp2
    go_ret
    exact ⟨⟨_, rfl, m0, m1⟩, Hc.out⟩
  · go_enter Try.func49, Try.ntmps49
    go_wp2_with fail
    refine (drawByte hc.out _ cur.out).mono ?_
    rintro e w1 ⟨⟨x, rfl, x0, x1⟩, c1, k1⟩
    have H1 : Hid (Cur W bc a len cap w1 ∧ Keep bc w w1) := ⟨c1, k1⟩
    clear c1 k1 cur
    go_wp2_with fail
    refine (drawByte hc.out _ H1.out.1).mono ?_
    rintro e w2 ⟨⟨y, rfl, y0, y1⟩, c2, k2⟩
    have H2 : Hid (Cur W bc a len cap w2 ∧ Keep bc w w2) := ⟨c2, H1.out.2.trans k2⟩
    clear c2 k2 H1
    go_wp2_with fail
    refine (drawByte hc.out _ H2.out.1).mono ?_
    rintro e w3 ⟨⟨z, rfl, z0, z1⟩, c3, k3⟩
    have H3 : Hid (Cur W bc a len cap w3 ∧ Keep bc w w3) := ⟨c3, H2.out.2.trans k3⟩
    clear c3 k3 H2
    go_wp2_with fail
    refine (drawByte hc.out _ H3.out.1).mono ?_
    rintro e w4 ⟨⟨v, rfl, v0, v1⟩, c4, k4⟩
    have H4 : Hid (Cur W bc a len cap w4 ∧ Keep bc w w4) := ⟨c4, H3.out.2.trans k4⟩
    clear c4 k4 H3
    have m0 := Int.emod_nonneg (x * 16777216 + y * 65536 + z * 256 + v) nz
    have m1 := Int.emod_lt_of_pos (x * 16777216 + y * 65536 + z * 256 + v) n0
    go_wp2
    go_ret
    exact ⟨⟨_, rfl, m0, m1⟩, H4.out⟩

theorem drawOnce {W : World} {bc : Nat} {a : Option Addr} {len cap : Nat} (hc : Hid (Code W a len)) (n : Int) (n0 : 0 < n) (w : World) (cur : Hid (Cur W bc a len cap w)) :
    Calls Try.prog 67 #[.pointer (some ⟨bc, 0, none⟩), .int .i64 n] w fun e w' => (∃ x : Bool, e = .returned (.bool x)) ∧ Cur W bc a len cap w' ∧ Keep bc w w' := by
  go_enter Try.func67, Try.ntmps67
  go_wp2_with fail
  refine (drawBelow hc n n0 _ cur).mono ?_
  rintro e w1 ⟨⟨x, rfl, x0, x1⟩, c1⟩
  have Hc : Hid (Cur W bc a len cap w1 ∧ Keep bc w w1) := c1
  clear c1 cur
  go_wp2
  go_ret
  exact ⟨⟨_, rfl⟩, Hc.out⟩

set_option maxHeartbeats 800000 in
theorem drawNew {W : World} {a : Option Addr} {len cap : Nat} (hc : Hid (Code W a len)) (w : World) (bel : Hid (Below W.heap.size W w)) :
    Calls Try.prog 46 #[.slice a len cap] w fun e w' => e = .returned (.pointer (some ⟨w.heap.size, 0, none⟩)) ∧ Cur W w.heap.size a len cap w' ∧ Below w.heap.size w w' := by
  have l4 := hc.out.1
  go_enter Try.func46, Try.ntmps46
  go_wp2
  go_loop [3, 4] (fun h i => ∃ (n : Int) (k : Nat), k ≤ len ∧ i = .int .i64 k ∧ h = .int .i64 n) (fun _ i => len - (intOf i).toNat)
  case atStart => exact ⟨_, 0, Nat.zero_le _, rfl, rfl⟩
  case round =>
    obtain ⟨n, k, hk, rfl, rfl⟩ := hrel
    by_cases hlt : k < len
    · obtain ⟨b, off, z, ha, hb, hz, z0, z1⟩ := hc.out.2 k hlt
      have hz' : w.cell? ⟨b, off + k, none⟩ = some (.int .u8 z) := by rw [bel.out.cell (p := ⟨b, off + k, none⟩) hb]; exact hz
      clear hz
      subst ha
      go_wp2
      go_round
      case rel => exact ⟨_, k + 1, by omega, by go_num, rfl⟩
      case measure => simp [intOf]; omega
    · go_wp2
      go_ret
      refine ⟨rfl, ?_, (Below.refl _ _).alloc (Nat.le_refl _) _⟩
      refine ⟨bel.out.size, by simp, ⟨0, by omega, by simp⟩, ⟨n, by simp⟩, ?_, ?_, bel.out.alloc bel.out.size _⟩
      · rw [frozen?_alloc_cells]; simp [World.frozen?]
      · rw [frozen?_alloc_cells]; simp [World.frozen?]
end Go.Proofs.Ytllmkolchgmjoaa
