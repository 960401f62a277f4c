import Derived.Test.YtilnjmpnhadidaaRows
import Derived.WalkKit
import Derived.WalkSpells
import Derived.WalkLawsBesides
import Derived.RegionTactic
import Derived.RowKit3
import Derived.Handy
import Derived.Laws.BitsLemmas
import Derived.Below
import Derived.Laws.Rows
import Derived.Laws.Tables
import Derived.Laws.ResultCell
import Derived.Laws.CopyOwn
/-
  The walks of the model's drawing functions: a cursor over the bytes of a code. They answer, whatever the code. By the verifier.
-/
namespace Go.Proofs.Ytilnjmpnhadidaa
open Go.RowKit

theorem i64_and255 (n : Int) : bits .and .i64 n 255 = n % 256 := by
  have h255 : (BitVec.ofInt 64 255).toNat = 2 ^ 8 - 1 := by decide
  have key : (BitVec.ofInt 64 n &&& BitVec.ofInt 64 255).toNat = (n % ((2 ^ 64 : Nat) : Int)).toNat % 2 ^ 8 := by
    rw [BitVec.toNat_and, BitVec.toNat_ofInt, h255, Nat.and_two_pow_sub_one_eq_mod]
  show IntKind.i64.wrap ((BitVec.ofInt 64 n &&& BitVec.ofInt 64 255).toNat : Nat) = n % 256
  rw [key, IntKind.wrap_i64]
  omega

/-- The code: 'len' bytes that can be read in the first world. -/
def Code (W : World) (a : Option Addr) (len : Nat) : Prop :=
  len ≤ 4096 ∧ ∀ k, k < len → ∃ b off z, a = some ⟨b, off, none⟩ ∧ b < W.heap.size ∧ W.cell? ⟨b, off + k, none⟩ = some (.int .u8 z) ∧ 0 ≤ z ∧ z ≤ 255
/-- A cursor of the call's own over it. -/
structure Cur (W : World) (bc : Nat) (a : Option Addr) (len cap : Nat) (w : World) : Prop where
  lo : W.heap.size ≤ bc
  sl : w.cell? ⟨bc, 0, none⟩ = some (.slice a len cap)
  ix : ∃ i : Nat, i ≤ len ∧ w.cell? ⟨bc, 1, none⟩ = some (.int .i64 i)
  hh : ∃ h : Int, w.cell? ⟨bc, 2, none⟩ = some (.int .i64 h)
  f1 : w.frozen? ⟨bc, 1, none⟩ = false
  f2 : w.frozen? ⟨bc, 2, none⟩ = false
  bel : Below W.heap.size W w

/-- All blocks but the cursor's own are as they were. -/
structure Keep (bc : Nat) (w w' : World) : Prop where
  size : w.heap.size ≤ w'.heap.size
  block : ∀ k, k ≠ bc → k < w.heap.size → w'.heap[k]? = w.heap[k]?
theorem Keep.refl (bc : Nat) (w : World) : Keep bc w w := ⟨Nat.le_refl _, fun _ _ _ => rfl⟩
theorem Keep.trans {bc : Nat} {a b c : World} (h : Keep bc a b) (g : Keep bc b c) : Keep bc a c :=
  ⟨Nat.le_trans h.size g.size, fun k h1 h2 => (g.block k h1 (Nat.lt_of_lt_of_le h2 h.size)).trans (h.block k h1 h2)⟩
theorem Keep.drew {bc : Nat} {a w : World} (h : Keep bc a w) : Keep bc a w.drew := ⟨h.size, h.block⟩
theorem Keep.setCell {bc o : Nat} {a w : World} (h : Keep bc a w) (v : Value) : Keep bc a (w.setCell ⟨bc, o, none⟩ v) :=
  h.trans ⟨by simp [World.setCell], fun k h1 _ => Below.heap_setCell _ _ _ _ h1⟩
theorem Keep.alloc {bc : Nat} {a w : World} (h : Keep bc a w) (o : Obj) : Keep bc a (w.alloc o) :=
  h.trans ⟨by simp, fun k _ h2 => Below.heap_alloc _ _ _ h2⟩
theorem Keep.cell {bc : Nat} {w w' : World} (h : Keep bc w w') {p : Addr} (hp : p.block ≠ bc) (hs : p.block < w.heap.size) : w'.cell? p = w.cell? p := World.cell?_of_block (w := w) (h.block p.block hp hs)
theorem Cur.alloc {W : World} {bc : Nat} {a : Option Addr} {len cap : Nat} {w : World} (c : Cur W bc a len cap w) (o : Obj) : Cur W bc a len cap (w.alloc o) := by
  have hb : bc < w.heap.size := by
    have h := c.sl
    apply Classical.byContradiction
    intro hn
    have e : w.heap[bc]? = none := by simp; omega
    simp [World.cell?, e] at h
  have e : ∀ off, (w.alloc o).cell? ⟨bc, off, none⟩ = w.cell? ⟨bc, off, none⟩ := fun off => World.cell?_of_block (w := w) (Below.heap_alloc _ _ _ hb)
  have f : ∀ off, (w.alloc o).frozen? ⟨bc, off, none⟩ = w.frozen? ⟨bc, off, none⟩ := fun off => World.frozen?_of_block (w := w) (Below.heap_alloc _ _ _ hb)
  exact ⟨c.lo, by rw [e]; exact c.sl, by rw [e]; exact c.ix, by rw [e]; exact c.hh, by rw [f]; exact c.f1, by rw [f]; exact c.f2, c.bel.alloc c.bel.size _⟩
theorem Cur.drew {W : World} {bc : Nat} {a : Option Addr} {len cap : Nat} {w : World} (c : Cur W bc a len cap w) : Cur W bc a len cap w.drew :=
  ⟨c.lo, by simpa [go_sem] using c.sl, by simpa [go_sem] using c.ix, by simpa [go_sem] using c.hh, by simpa [go_sem] using c.f1, by simpa [go_sem] using c.f2, c.bel.drew⟩
theorem Cur.setH {W : World} {bc : Nat} {a : Option Addr} {len cap : Nat} {w : World} (c : Cur W bc a len cap w) (v : Int) : Cur W bc a len cap (w.setCell ⟨bc, 2, none⟩ (.int .i64 v)) := by
  obtain ⟨lo, sl, ⟨i, hi, ix⟩, ⟨h, hh⟩, f1, f2, bel⟩ := c
  refine ⟨lo, ?_, ⟨i, hi, ?_⟩, ⟨v, ?_⟩, ?_, ?_, bel.setCell lo _⟩
  · rw [World.cell?_setCell_other _ _ _ _ (by simp)]; exact sl
  · rw [World.cell?_setCell_other _ _ _ _ (by simp)]; exact ix
  · exact World.cell?_setCell_same' _ _ _ (by rw [hh]; rfl)
  · rw [World.frozen?_setCell]; exact f1
  · rw [World.frozen?_setCell]; exact f2
theorem Cur.setI {W : World} {bc : Nat} {a : Option Addr} {len cap : Nat} {w : World} (c : Cur W bc a len cap w) {v : Int} {j : Nat} (hv : v = (j : Int)) (hj : j ≤ len) : Cur W bc a len cap (w.setCell ⟨bc, 1, none⟩ (.int .i64 v)) := by
  obtain ⟨lo, sl, ⟨i, hi, ix⟩, ⟨h, hh⟩, f1, f2, bel⟩ := c
  refine ⟨lo, ?_, ⟨j, hj, ?_⟩, ⟨h, ?_⟩, ?_, ?_, bel.setCell lo _⟩
  · rw [World.cell?_setCell_other _ _ _ _ (by simp)]; exact sl
  · rw [hv]; exact World.cell?_setCell_same' _ _ _ (by rw [ix]; rfl)
  · rw [World.cell?_setCell_other _ _ _ _ (by simp)]; exact hh
  · rw [World.frozen?_setCell]; exact f1
  · rw [World.frozen?_setCell]; exact f2

set_option maxHeartbeats 800000 in
theorem drawByte {W : World} {bc : Nat} {a : Option Addr} {len cap : Nat} (hc : Code W a len) (w : World) (cur : Cur W bc a len cap w) :
    Calls Try.prog 87 #[.pointer (some ⟨bc, 0, none⟩)] w fun e w' => (∃ x : Int, e = .returned (.int .i64 x) ∧ 0 ≤ x ∧ x ≤ 255) ∧ Cur W bc a len cap w' ∧ Keep bc w w' := by
  have Hcur : Hid (Cur W bc a len cap w) := cur
  obtain ⟨lo, sl, ⟨i, hi, ix⟩, ⟨h, hh⟩, f1, f2, bel⟩ := cur
  by_cases hlt : i < len
  · obtain ⟨b, off, z, rfl, hb, hz, z0, z1⟩ := hc.2 i hlt
    have hz' : w.cell? ⟨b, off + i, none⟩ = some (.int .u8 z) := by rw [bel.cell (p := ⟨b, off + i, none⟩) hb]; exact hz
    have l4 := hc.1
    have hne : ¬ b = bc := by omega
    clear hc bel hz
    go_enter Try.func87, Try.ntmps87
    go_wp2
    go_region
    go_wp2
    generalize wrap64 (wrap64 (h * 6364136223846793005) + 1442695040888963407) = h'
    generalize bits .xor .i64 (h' / 8589934592) (h' / 35184372088832) = y
    simp only [i64_and255]
    go_region
    go_wp2
    go_region
    go_wp2
    go_ret
    simp only [i64_and255]
    refine ⟨⟨_, rfl, by omega, by omega⟩, ?_, ?_⟩
    · repeat (refine Cur.drew ?_)
      refine Cur.setI (j := i + 1) ?_ (by omega) (by omega)
      repeat (refine Cur.drew ?_)
      exact Hcur.out.setH _
    · repeat (first | exact Keep.refl _ _ | refine Keep.drew ?_ | refine Keep.setCell ?_ _)
  · clear hc bel
    have hi' : ¬ (i : Int) < (len : Int) := by omega
    go_enter Try.func87, Try.ntmps87
    go_wp2
    go_region
    go_wp2
    generalize wrap64 (wrap64 (h * 6364136223846793005) + 1442695040888963407) = h'
    generalize bits .xor .i64 (h' / 8589934592) (h' / 35184372088832) = y
    simp only [i64_and255]
    go_region
    go_wp2
    go_ret
    refine ⟨⟨_, rfl, by omega, by omega⟩, ?_, ?_⟩
    · repeat (refine Cur.drew ?_)
      exact Hcur.out.setH _
    · repeat (first | exact Keep.refl _ _ | refine Keep.drew ?_ | refine Keep.setCell ?_ _)

set_option maxHeartbeats 800000 in
theorem drawBelow {W : World} {bc : Nat} {a : Option Addr} {len cap : Nat} (hc : Hid (Code W a len)) (n : Int) (n0 : 0 < n) (w : World) (cur : Hid (Cur W bc a len cap w)) :
    Calls Try.prog 66 #[.pointer (some ⟨bc, 0, none⟩), .int .i64 n] w fun e w' => (∃ x : Int, e = .returned (.int .i64 x) ∧ 0 ≤ x ∧ x < n) ∧ Cur W bc a len cap w' ∧ Keep bc w w' := by
  have nz : ¬ n = 0 := by omega
  by_cases h : n ≤ 256
  · go_enter Try.func66, Try.ntmps66
    go_wp2_with fail
    refine (drawByte hc.out _ cur.out).mono ?_
    rintro e w1 ⟨⟨x, rfl, x0, x1⟩, c1, k1⟩
    have Hc : Hid (Cur W bc a len cap w1 ∧ Keep bc w w1) := ⟨c1, k1⟩
    clear c1 k1 cur
    have m0 := Int.emod_nonneg x nz
    have m1 := Int.emod_lt_of_pos x n0
    go_wp2
    go_ret
    exact ⟨⟨_, rfl, m0, m1⟩, Hc.out⟩
  · go_enter Try.func66, Try.ntmps66
    go_wp2_with fail
    refine (drawByte hc.out _ cur.out).mono ?_
    rintro e w1 ⟨⟨x, rfl, x0, x1⟩, c1, k1⟩
    have H1 : Hid (Cur W bc a len cap w1 ∧ Keep bc w w1) := ⟨c1, k1⟩
    clear c1 k1 cur
    go_wp2_with fail
    refine (drawByte hc.out _ H1.out.1).mono ?_
    rintro e w2 ⟨⟨y, rfl, y0, y1⟩, c2, k2⟩
    have H2 : Hid (Cur W bc a len cap w2 ∧ Keep bc w w2) := ⟨c2, H1.out.2.trans k2⟩
    clear c2 k2 H1
    go_wp2_with fail
    refine (drawByte hc.out _ H2.out.1).mono ?_
    rintro e w3 ⟨⟨z, rfl, z0, z1⟩, c3, k3⟩
    have H3 : Hid (Cur W bc a len cap w3 ∧ Keep bc w w3) := ⟨c3, H2.out.2.trans k3⟩
    clear c3 k3 H2
    go_wp2_with fail
    refine (drawByte hc.out _ H3.out.1).mono ?_
    rintro e w4 ⟨⟨v, rfl, v0, v1⟩, c4, k4⟩
    have H4 : Hid (Cur W bc a len cap w4 ∧ Keep bc w w4) := ⟨c4, H3.out.2.trans k4⟩
    clear c4 k4 H3
    have m0 := Int.emod_nonneg (x * 16777216 + y * 65536 + z * 256 + v) nz
    have m1 := Int.emod_lt_of_pos (x * 16777216 + y * 65536 + z * 256 + v) n0
    go_wp2
    go_ret
    exact ⟨⟨_, rfl, m0, m1⟩, H4.out⟩

theorem drawOnce {W : World} {bc : Nat} {a : Option Addr} {len cap : Nat} (hc : Hid (Code W a len)) (n : Int) (n0 : 0 < n) (w : World) (cur : Hid (Cur W bc a len cap w)) :
    Calls Try.prog 34 #[.pointer (some ⟨bc, 0, none⟩), .int .i64 n] w fun e w' => (∃ x : Bool, e = .returned (.bool x)) ∧ Cur W bc a len cap w' ∧ Keep bc w w' := by
  go_enter Try.func34, Try.ntmps34
  go_wp2_with fail
  refine (drawBelow hc n n0 _ cur).mono ?_
  rintro e w1 ⟨⟨x, rfl, x0, x1⟩, c1⟩
  have Hc : Hid (Cur W bc a len cap w1 ∧ Keep bc w w1) := c1
  clear c1 cur
  go_wp2
  go_ret
  exact ⟨⟨_, rfl⟩, Hc.out⟩

set_option maxHeartbeats 800000 in
theorem drawNew {W : World} {a : Option Addr} {len cap : Nat} (hc : Hid (Code W a len)) (w : World) (bel : Hid (Below W.heap.size W w)) :
    Calls Try.prog 32 #[.slice a len cap] w fun e w' => e = .returned (.pointer (some ⟨w.heap.size, 0, none⟩)) ∧ Cur W w.heap.size a len cap w' ∧ Below w.heap.size w w' := by
  have l4 := hc.out.1
  go_enter Try.func32, Try.ntmps32
  go_wp2
  go_loop [3, 4] (fun h i => ∃ (n : Int) (k : Nat), k ≤ len ∧ i = .int .i64 k ∧ h = .int .i64 n) (fun _ i => len - (intOf i).toNat)
  case atStart => exact ⟨_, 0, Nat.zero_le _, rfl, rfl⟩
  case round =>
    obtain ⟨n, k, hk, rfl, rfl⟩ := hrel
    by_cases hlt : k < len
    · obtain ⟨b, off, z, ha, hb, hz, z0, z1⟩ := hc.out.2 k hlt
      have hz' : w.cell? ⟨b, off + k, none⟩ = some (.int .u8 z) := by rw [bel.out.cell (p := ⟨b, off + k, none⟩) hb]; exact hz
      clear hz
      subst ha
      go_wp2
      go_round
      case rel => exact ⟨_, k + 1, by omega, by go_num, rfl⟩
      case measure => simp [intOf]; omega
    · go_wp2
      go_ret
      refine ⟨rfl, ?_, (Below.refl _ _).alloc (Nat.le_refl _) _⟩
      refine ⟨bel.out.size, by simp, ⟨0, by omega, by simp⟩, ⟨n, by simp⟩, ?_, ?_, bel.out.alloc bel.out.size _⟩
      · rw [frozen?_alloc_cells]; simp [World.frozen?]
      · rw [frozen?_alloc_cells]; simp [World.frozen?]
end Go.Proofs.Ytilnjmpnhadidaa

/-
  Frames as plain data: which are right, and the bytes that are shown ahead of a body. By the verifier.
-/
namespace Go.Proofs.Ytilnjmpnhadidaa
open Go.RowKit

/-- A frame: its numbers, its tags, its body. -/
structure Fr where
  to : Int
  frm : Int
  tags : List Int
  src : Int
  dst : Int
  proto : Int
  sport : Int
  dport : Int
  mark : Int
  sum : Int
  body : ByteArray

/-- From lo to hi. -/
def inB (lo hi n : Int) : Bool := decide (lo ≤ n ∧ n ≤ hi)
theorem inB_true {lo hi n : Int} : inB lo hi n = true ↔ lo ≤ n ∧ n ≤ hi := by simp [inB]
theorem inB_false {lo hi n : Int} : inB lo hi n = false ↔ n < lo ∨ hi < n := by simp [inB]; omega

/-- A right frame. -/
def Fr.Ok (f : Fr) : Prop :=
  (0 ≤ f.to ∧ f.to ≤ 65535) ∧ (0 ≤ f.frm ∧ f.frm ≤ 65535) ∧ f.tags.length ≤ 2 ∧ (0 ≤ f.src ∧ f.src ≤ 4294967295) ∧ (0 ≤ f.dst ∧ f.dst ≤ 4294967295) ∧
  (0 ≤ f.proto ∧ f.proto ≤ 255) ∧ (0 ≤ f.sport ∧ f.sport ≤ 65535) ∧ (0 ≤ f.dport ∧ f.dport ≤ 65535) ∧ (0 ≤ f.mark ∧ f.mark ≤ 3) ∧ (0 ≤ f.sum ∧ f.sum ≤ 65535) ∧
  f.body.size ≤ 1500 ∧ f.tags.all (inB 0 4095) = true
def Fr.okDec (f : Fr) : Decidable f.Ok := by unfold Fr.Ok; exact inferInstance
/-- As a flag. -/
def Fr.ok (f : Fr) : Bool := @decide f.Ok f.okDec
theorem Fr.ok_true {f : Fr} : f.ok = true ↔ f.Ok := @decide_eq_true_iff f.Ok f.okDec
theorem Fr.ok_false {f : Fr} : f.ok = false ↔ ¬ f.Ok := @decide_eq_false_iff_not f.Ok f.okDec

/-- n in k bytes, the highest first. -/
def be : Nat → Int → List Int
  | 0, _ => []
  | k + 1, n => (n / 256 ^ k % 256) :: be k n
theorem be_length (k : Nat) (n : Int) : (be k n).length = k := by induction k with
  | zero => rfl
  | succ k ih => simp [be, ih]
theorem be_byte (k : Nat) (n : Int) : ∀ x ∈ be k n, 0 ≤ x ∧ x ≤ 255 := by induction k with
  | zero => simp [be]
  | succ k ih =>
    intro x hx
    simp only [be, List.mem_cons] at hx
    rcases hx with rfl | hx
    · omega
    · exact ih x hx

/-- The tags as they are shown. -/
def tagBytes : List Int → List Int
  | [] => []
  | z :: r => 1 :: (be 2 z ++ tagBytes r)
theorem tagBytes_append (a b : List Int) : tagBytes (a ++ b) = tagBytes a ++ tagBytes b := by induction a with
  | nil => rfl
  | cons x r ih => simp [tagBytes, ih]
theorem tagBytes_length (a : List Int) : (tagBytes a).length = 3 * a.length := by induction a with
  | nil => rfl
  | cons x r ih => simp [tagBytes, ih, be_length]; omega
/-- Up to the tags' end. -/
def Fr.outer (f : Fr) : List Int := be 2 f.to ++ be 2 f.frm ++ tagBytes f.tags
/-- From the source on, ahead of the body. -/
def Fr.mid (f : Fr) : List Int :=
  be 4 f.src ++ be 4 f.dst ++ be 1 f.proto ++ be 2 f.sport ++ be 2 f.dport ++ be 1 f.mark ++ be 2 f.sum ++ be 2 f.body.size
/-- All that is shown ahead of the body. -/
def Fr.head (f : Fr) : List Int := f.outer ++ [2] ++ f.mid
theorem Fr.outer_length (f : Fr) : f.outer.length = 4 + 3 * f.tags.length := by simp [Fr.outer, be_length, tagBytes_length]; omega
theorem Fr.mid_length (f : Fr) : f.mid.length = 18 := by simp [Fr.mid, be_length]
theorem Fr.head_length (f : Fr) : f.head.length = 23 + 3 * f.tags.length := by simp [Fr.head, Fr.outer_length, Fr.mid_length]; omega

/-- Bytes as a text. -/
def strB (xs : List Int) : ByteArray := ⟨(xs.map fun n => UInt8.ofNat n.toNat).toArray⟩
/-- What a frame is shown as. -/
def Fr.show (f : Fr) : ByteArray := if f.ok then strB f.head ++ f.body else ByteArray.empty
/-- How long the head is. -/
def Fr.headSize (f : Fr) : Int := if f.ok then 23 + 3 * (f.tags.length : Int) else 0

/-- Cells that hold these numbers. -/
def IntsAt (w : World) (a : Option Addr) (zs : List Int) : Prop :=
  ∀ k, k < zs.length → ∃ b off, a = some ⟨b, off, none⟩ ∧ b < w.heap.size ∧ w.cell? ⟨b, off + k, none⟩ = some (.int .i64 (zs[k]?.getD 0))
theorem IntsAt.below {w w' : World} {a : Option Addr} {zs : List Int} (h : IntsAt w a zs) (g : Below w.heap.size w w') : IntsAt w' a zs := by
  intro k hk
  obtain ⟨b, off, e, hb, hc⟩ := h k hk
  exact ⟨b, off, e, Nat.lt_of_lt_of_le hb g.size, by rw [g.cell (p := ⟨b, off + k, none⟩) hb]; exact hc⟩
theorem IntsAt.alloc {w : World} {a : Option Addr} {zs : List Int} (h : IntsAt w a zs) (o : Obj) : IntsAt (w.alloc o) a zs :=
  h.below ((Below.refl _ _).alloc (Nat.le_refl _) _)
theorem IntsAt.nil (w : World) (a : Option Addr) : IntsAt w a [] := by intro k hk; simp at hk
/-- A frame as a value. -/
def Fr.val (f : Fr) (a : Option Addr) (cap : Nat) : Value :=
  .agg #[.int .i64 f.to, .int .i64 f.frm, .slice a f.tags.length cap, .int .i64 f.src, .int .i64 f.dst, .int .i64 f.proto, .int .i64 f.sport, .int .i64 f.dport, .int .i64 f.mark, .int .i64 f.sum, .string f.body]
end Go.Proofs.Ytilnjmpnhadidaa

/-
  Numbers within bounds, the program's and the model's way; numbers that lie in cells. By the verifier.
-/
namespace Go.Proofs.Ytilnjmpnhadidaa
open Go.RowKit

theorem specIn (n lo hi : Int) (w : World) :
    Calls Try.prog 79 #[.int .i64 n, .int .i64 lo, .int .i64 hi] w fun e w' => e = .returned (.bool (inB lo hi n)) ∧ w' = w := by
  by_cases h0 : lo ≤ n
  · by_cases h1 : n ≤ hi
    · have h : inB lo hi n = true := by rw [inB_true]; omega
      rw [h]
      go_enter Try.func79, Try.ntmps79
      go_wp2
      go_ret
      exact ⟨rfl, rfl⟩
    · have h : inB lo hi n = false := by rw [inB_false]; omega
      rw [h]
      go_enter Try.func79, Try.ntmps79
      go_wp2
      go_ret
      exact ⟨rfl, rfl⟩
  · have h : inB lo hi n = false := by rw [inB_false]; omega
    rw [h]
    go_enter Try.func79, Try.ntmps79
    go_wp2
    go_ret
    exact ⟨rfl, rfl⟩

theorem specAddr (n : Int) (w : World) :
    Calls Try.prog 91 #[.int .i64 n] w fun e w' => e = .returned (.bool (inB 0 4294967295 n)) ∧ w' = w := by
  go_enter Try.func91, Try.ntmps91
  go_wp2_with (go_at_call 79; refine (specIn _ _ _ _).mono ?_; rintro e w' ⟨rfl, rfl⟩)
  go_ret
  exact ⟨rfl, rfl⟩

theorem all_take_succ' (p : Int → Bool) (zs : List Int) (k : Nat) (hk : k < zs.length) :
    (zs.take (k + 1)).all p = ((zs.take k).all p && p (zs[k]?.getD 0)) := by
  rw [List.take_succ_eq_append_getElem hk, List.all_append]; simp [List.getElem?_eq_getElem hk]
theorem all_hit' (p : Int → Bool) (zs : List Int) (k : Nat) (hk : k < zs.length) (h : p (zs[k]?.getD 0) = false) : zs.all p = false := by
  rw [List.all_eq_false]
  exact ⟨zs[k], List.getElem_mem hk, by simp [List.getElem?_eq_getElem hk] at h; simp [h]⟩

theorem implUpTo (most : Int) (a : Option Addr) (cap : Nat) (zs : List Int) (w : World) (hbig : zs.length ≤ 1048576) (hc : Hid (IntsAt w a zs)) :
    Calls Try.prog 45 #[.int .i64 most, .slice a zs.length cap] w fun e w' => e = .returned (.bool (zs.all (inB 0 most))) ∧ w' = w := by
  obtain ⟨len, hlen⟩ : ∃ n, zs.length = n := ⟨_, rfl⟩
  rw [hlen] at hbig ⊢
  have Hlen : Hid (zs.length = len) := hlen
  clear hlen
  go_enter Try.func45, Try.ntmps45
  go_wp2
  go_loop [9] (fun i => ∃ k : Nat, k ≤ len ∧ i = .int .i64 k ∧ (zs.take k).all (inB 0 most) = true) (fun i => len - (intOf i).toNat)
  case atStart => exact ⟨0, Nat.zero_le _, rfl, rfl⟩
  case round =>
    obtain ⟨k, hk, rfl, hall⟩ := hrel
    have Hall : Hid ((zs.take k).all (inB 0 most) = true) := hall
    clear hall
    by_cases hlt : k < len
    · obtain ⟨b, off, ha, hb, hcell⟩ := hc.out k (by rw [Hlen.out]; exact hlt)
      subst ha
      have hs := all_take_succ' (inB 0 most) zs k (by rw [Hlen.out]; exact hlt)
      have hh := all_hit' (inB 0 most) zs k (by rw [Hlen.out]; exact hlt)
      rw [Hall.out] at hs
      generalize zs[k]?.getD 0 = z at hcell hs hh
      have Hs : Hid ((zs.take (k + 1)).all (inB 0 most) = (true && inB 0 most z)) := hs
      have Hh : Hid (inB 0 most z = false → zs.all (inB 0 most) = false) := hh
      clear hs hh
      by_cases z0 : 0 ≤ z
      · by_cases z1 : z ≤ most
        · have hok : Hid (inB 0 most z = true) := by show inB 0 most z = true; rw [inB_true]; omega
          go_wp2
          go_round
          case rel => exact ⟨k + 1, by omega, by go_num, by rw [Hs.out, hok.out]; rfl⟩
          case measure => simp [intOf]; omega
        · have hok : Hid (inB 0 most z = false) := by show inB 0 most z = false; rw [inB_false]; omega
          go_wp2
          go_ret
          rw [Hh.out hok.out]
          exact ⟨rfl, rfl⟩
      · have hok : Hid (inB 0 most z = false) := by show inB 0 most z = false; rw [inB_false]; omega
        go_wp2
        go_ret
        rw [Hh.out hok.out]
        exact ⟨rfl, rfl⟩
    · go_wp2
      go_ret
      have : zs.take k = zs := List.take_of_length_le (by rw [Hlen.out]; omega)
      rw [← this, Hall.out]
      exact ⟨rfl, rfl⟩

theorem ints_new (w : World) (t : TypeId) (zs : List Int) (cs : Array Value) (B : Nat) (hB : B = w.heap.size) (h : cs = (zs.map (Value.int .i64)).toArray) : IntsAt (w.alloc (.cells cs t)) (some ⟨B, 0, none⟩) zs := by
  subst hB; subst h
  intro k hk
  refine ⟨_, _, rfl, by simp, ?_⟩
  rw [World.cell?_alloc_new w _ _ (0 + k)]
  simp [List.getElem?_eq_getElem hk]
theorem bel_alloc {B : Nat} {w w' : World} (h : Below B w w') (hB : B ≤ w.heap.size) (o : Obj) : Below B w (w'.alloc o) := h.alloc (Nat.le_trans hB h.size) o

end Go.Proofs.Ytilnjmpnhadidaa

/-
  A struct's block as one fact: a field put, all fields put. By the verifier.
-/
namespace Go.Proofs.Ytilnjmpnhadidaa
open Go.RowKit

/-- A block that holds these cells. -/
def Boxed (w : World) (B : Nat) (cs : Array Value) (t : TypeId) : Prop := w.heap[B]? = some (.cells cs t)
theorem Boxed.cell {w : World} {B : Nat} {cs : Array Value} {t : TypeId} (h : Boxed w B cs t) (j : Nat) {v : Value} (hj : cs[j]? = some v) : w.cell? ⟨B, j, none⟩ = some v := by
  unfold Boxed at h
  simp [World.cell?, h, hj]
theorem Boxed.below {w w' : World} {B : Nat} {cs : Array Value} {t : TypeId} (h : Boxed w B cs t) {b : Nat} (hb : B < b) (g : Below b w w') : Boxed w' B cs t := by
  unfold Boxed; rw [g.block B hb]; exact h
theorem Boxed.new (w : World) (cs : Array Value) (t : TypeId) : Boxed (w.alloc (.cells cs t)) w.heap.size cs t := by show (w.heap.push _)[w.heap.size]? = _; simp
theorem heapLt {w : World} {k : Nat} {o : Obj} (h : w.heap[k]? = some o) : k < w.heap.size := (Array.getElem?_eq_some_iff.1 h).1
theorem Boxed.under {w : World} {k : Nat} {cs : Array Value} {t : TypeId} (x : Boxed w k cs t) : k < w.heap.size := heapLt x
theorem Boxed.put {w : World} {k : Nat} {cs : Array Value} {t : TypeId} (x : Boxed w k cs t) (j : Nat) (v : Value) : Boxed (w.setCell ⟨k, j, none⟩ v) k (cs.setIfInBounds j v) t := by
  unfold Boxed at *
  simp only [World.setCell, Array.getElem?_modify, if_true, x, Option.map_some]
  rfl
theorem Boxed.far {w : World} {k b : Nat} {cs : Array Value} {t : TypeId} (x : Boxed w k cs t) (h : k ≠ b) (j : Nat) (v : Value) : Boxed (w.setCell ⟨b, j, none⟩ v) k cs t := by
  unfold Boxed at *
  rw [Below.heap_setCell _ _ _ _ h]; exact x
theorem Boxed.ice {w : World} {B : Nat} {cs : Array Value} {t : TypeId} (h : Boxed w B cs t) (j : Nat) : w.frozen? ⟨B, j, none⟩ = false := by
  unfold Boxed at h
  simp [World.frozen?, h]
theorem Boxed.more {w : World} {B : Nat} {cs : Array Value} {t : TypeId} (h : Boxed w B cs t) (o : Obj) : Boxed (w.alloc o) B cs t := by
  unfold Boxed at *
  rw [Below.heap_alloc _ _ _ (heapLt h)]; exact h
end Go.Proofs.Ytilnjmpnhadidaa

/-
  What stays when the cursor draws, and when what stands beside it. By the verifier.
-/
namespace Go.Proofs.Ytilnjmpnhadidaa
open Go.RowKit

theorem Cur.ne {W : World} {bc : Nat} {a : Option Addr} {len cap : Nat} {w : World} (c : Cur W bc a len cap w) : w.heap.size ≠ bc := by
  have hl := c.sl
  rintro rfl
  simp [World.cell?] at hl
theorem Cur.lt {W : World} {bc : Nat} {a : Option Addr} {len cap : Nat} {w : World} (c : Cur W bc a len cap w) : bc < w.heap.size := by
  have hl := c.sl
  apply Classical.byContradiction
  intro hn
  simp [World.cell?, Array.getElem?_eq_none (Nat.le_of_not_lt hn)] at hl
/-- A table that was laid ahead of a draw is read behind it. -/
theorem tab {bc : Nat} {w w2 : World} (zs : List Int) (cs : Array Value) (t : TypeId) (h : cs = (zs.map (Value.int .i64)).toArray) (hne : w.heap.size ≠ bc) (k : Keep bc (w.alloc (.cells cs t)) w2) (j : Nat) (hj : j < zs.length) :
    w2.cell? ⟨w.heap.size, j, none⟩ = some (.int .i64 (zs[j]?.getD 0)) := by
  rw [k.cell hne (by simp)]
  obtain ⟨b, off, e, _, hc⟩ := ints_new w t zs cs w.heap.size rfl h j hj
  cases e
  simpa using hc
theorem tab_in (zs : List Int) (lo hi : Int) (h : zs.all (inB lo hi) = true) (j : Nat) (hj : j < zs.length) : lo ≤ zs[j]?.getD 0 ∧ zs[j]?.getD 0 ≤ hi := by
  rw [List.all_eq_true] at h
  rw [List.getElem?_eq_getElem hj]
  exact inB_true.1 (h _ (List.getElem_mem hj))

/-- The cursor stays when a list behind it grows. -/
theorem Cur.below {W : World} {bc : Nat} {a : Option Addr} {len cap : Nat} {w w' : World} (c : Cur W bc a len cap w) {b : Nat} (hb : bc < b) (g : Below b w w') : Cur W bc a len cap w' := by
  have e : ∀ off, w'.cell? ⟨bc, off, none⟩ = w.cell? ⟨bc, off, none⟩ := fun off => World.cell?_of_block (w := w) (g.block bc hb)
  have f : ∀ off, w'.frozen? ⟨bc, off, none⟩ = w.frozen? ⟨bc, off, none⟩ := fun off => World.frozen?_of_block (w := w) (g.block bc hb)
  exact ⟨c.lo, by rw [e]; exact c.sl, by rw [e]; exact c.ix, by rw [e]; exact c.hh, by rw [f]; exact c.f1, by rw [f]; exact c.f2, c.bel.trans (g.mono (by have := c.lo; omega))⟩

theorem Boxed.keep {bc B : Nat} {w w' : World} {cs : Array Value} {t : TypeId} (h : Boxed w B cs t) (hne : B ≠ bc) (k : Keep bc w w') : Boxed w' B cs t := by
  unfold Boxed; rw [k.block B hne h.under]; exact h
/-- The cursor stays where another block of the call's own is turned. -/
theorem Cur.other {W : World} {bc B : Nat} {a : Option Addr} {len cap : Nat} {w w' : World} (c : Cur W bc a len cap w) (hne : B ≠ bc) (ho : ∀ k, k ≠ B → w'.heap[k]? = w.heap[k]?) (g : Below W.heap.size w w') : Cur W bc a len cap w' := by
  have e : ∀ off, w'.cell? ⟨bc, off, none⟩ = w.cell? ⟨bc, off, none⟩ := fun off => World.cell?_of_block (w := w) (ho bc (fun e => hne e.symm))
  have f : ∀ off, w'.frozen? ⟨bc, off, none⟩ = w.frozen? ⟨bc, off, none⟩ := fun off => World.frozen?_of_block (w := w) (ho bc (fun e => hne e.symm))
  refine ⟨c.lo, by rw [e]; exact c.sl, by rw [e]; exact c.ix, by rw [e]; exact c.hh, by rw [f]; exact c.f1, by rw [f]; exact c.f2, c.bel.trans g⟩
end Go.Proofs.Ytilnjmpnhadidaa

/-
  A region that draws its order, by what holds whatever has come up: an invariant that every operation keeps. By the verifier.
-/
namespace Go.Proofs.Ytilnjmpnhadidaa
open Go.RowKit

/-- Every edge leads to an operation ahead of its own. -/
def edgesBack (ops : Array Oper) : Bool := (List.range ops.size).all fun i => ((ops[i]?).map (·.after.all fun e => decide (e.on < i))).getD true

theorem getD_eq {L : Array Bool} {i : Nat} (h : i < L.size) (d : Bool) : L.getD i d = L[i] := by simp [Array.getD, h]
theorem ready_mem {ops : Array Oper} {L : Array Bool} {i : Nat} (h : i ∈ Region.ready .any ops L) :
    i < ops.size ∧ L.getD i true = false ∧ ∀ o, ops[i]? = some o → ∀ e, e ∈ o.after.toList → Region.binds .any e = true → L.getD e.on false = true := by
  unfold Region.ready at h
  rw [List.mem_filter, List.mem_range, Bool.and_eq_true, Bool.not_eq_true'] at h
  obtain ⟨h1, h2, h3⟩ := h
  refine ⟨h1, h2, fun o ho e he hb => ?_⟩
  rw [ho] at h3
  simp only [Option.map_some, Option.getD_some, Array.all_eq_true', Bool.or_eq_true, Bool.not_eq_true'] at h3
  rcases h3 e (Array.mem_def.2 he) with h4 | h4
  · rw [hb] at h4; cases h4
  · exact h4
theorem all_listed {ops : Array Oper} {L : Array Bool} (hb : edgesBack ops = true) (hs : L.size = ops.size) (hr : Region.ready .any ops L = []) : ∀ i, i < ops.size → L.getD i true = true := by
  intro i
  induction i using Nat.strongRecOn with
  | _ i ih =>
    intro hi
    cases hl : L.getD i true with
    | true => rfl
    | false =>
      have : i ∈ Region.ready .any ops L := by
        unfold Region.ready
        rw [List.mem_filter, List.mem_range, Bool.and_eq_true, Bool.not_eq_true']
        refine ⟨hi, hl, ?_⟩
        rw [Array.getElem?_eq_getElem hi]
        simp only [Option.map_some, Option.getD_some, Array.all_eq_true', Bool.or_eq_true, Bool.not_eq_true']
        intro e he
        right
        unfold edgesBack at hb
        rw [List.all_eq_true] at hb
        have h2 := hb i (List.mem_range.2 hi)
        rw [Array.getElem?_eq_getElem hi] at h2
        simp only [Option.map_some, Option.getD_some, Array.all_eq_true', decide_eq_true_eq] at h2
        have h3 := h2 e he
        have h4 := ih e.on h3 (by omega)
        rw [getD_eq (by omega)] at h4 ⊢
        exact h4
      rw [hr] at this
      cases this
theorem count_set {L : Array Bool} {i : Nat} (hi : i < L.size) (h : L.getD i true = false) : (L.setIfInBounds i true).toList.count false + 1 = L.toList.count false := by
  rw [getD_eq hi] at h
  rw [Array.toList_setIfInBounds, List.count_set (by simpa using hi)]
  have h2 : L.toList[i]'(by simpa using hi) = false := by simpa using h
  have h3 : 0 < L.toList.count false := List.count_pos_iff.2 (by rw [← h2]; exact List.getElem_mem _)
  rw [h2]
  have e1 : (if (false == false) = true then 1 else 0) = 1 := rfl
  have e2 : (if (true == false) = true then 1 else 0) = 0 := rfl
  rw [e1, e2]
  omega

theorem wpAny_inv {P : Program} {ops : Array Oper} {Q : Exit → Act → World → Prop} (J : Array Bool → Act → World → Prop) (hb : edgesBack ops = true)
    (hstep : ∀ L a w i o, J L a w → L.size = ops.size → ops[i]? = some o → L.getD i true = false → (∀ e, e ∈ o.after.toList → Region.binds .any e = true → L.getD e.on false = true) → wpOp P ops Q i (J (L.setIfInBounds i true)) a w)
    (hdone : ∀ L a w, J L a w → L.size = ops.size → (∀ i, i < ops.size → L.getD i true = true) → Q .normal a w) :
    ∀ fuel L a w, J L a w → L.size = ops.size → L.toList.count false ≤ fuel → wpAny P .any ops Q fuel L a w := by
  intro fuel
  induction fuel with
  | zero =>
    intro L a w hJ hs hc
    have hall : ∀ i, i < ops.size → L.getD i true = true := by
      intro i hi
      cases h : L.getD i true with
      | true => rfl
      | false => have := count_set (L := L) (by omega) h; omega
    refine ⟨?_, hdone L a w hJ hs hall⟩
    cases hr : Region.ready .any ops L with
    | nil => rfl
    | cons i rs =>
      have hm : i ∈ Region.ready .any ops L := by rw [hr]; exact List.mem_cons_self
      have := ready_mem hm
      rw [hall i this.1] at this
      cases this.2.1
  | succ fuel ih =>
    intro L a w hJ hs hc
    refine ⟨fun hr => hdone L a w hJ hs (all_listed hb hs hr), fun i hi => ?_⟩
    obtain ⟨h1, h2, h3⟩ := ready_mem hi
    have ho : ops[i]? = some ops[i] := Array.getElem?_eq_getElem h1
    refine wpOp_mono (fun a' w' hJ' => ih _ a' w' hJ' (by rw [Array.size_setIfInBounds]; exact hs) ?_) (hstep L a w i _ hJ hs ho h2 (h3 _ ho))
    have := count_set (L := L) (by omega) h2
    omega

/-- The rule: what holds at first, what every operation keeps, what follows when all have come up. -/
theorem region_inv {P : Program} {id : Nat} {ops : Array Oper} {Q : Exit → Act → World → Prop} {a : Act} {w : World} (hm : P.follows .mixedOrders = true) (J : Array Bool → Act → World → Prop) (hb : edgesBack ops = true)
    (h0 : J (Array.replicate ops.size false) a w.drew)
    (hstep : ∀ L a w i o, J L a w → L.size = ops.size → ops[i]? = some o → L.getD i true = false → (∀ e, e ∈ o.after.toList → Region.binds .any e = true → L.getD e.on false = true) → wpOp P ops Q i (J (L.setIfInBounds i true)) a w)
    (hdone : ∀ L a w, J L a w → L.size = ops.size → (∀ i, i < ops.size → L.getD i true = true) → Q .normal a w) : (Code.region id ops true).wp P Q a w :=
  wp_region_any hm (wpAny_inv J hb hstep hdone _ _ _ _ h0 (by simp) (by simp))

/-- Where an operation's value goes. -/
def dstAt (ops : Array Oper) (i : Nat) : Option Tmp := (ops[i]?).bind (·.dst)
/-- All operations but the last one have a place of their own each. -/
def dstOwn (ops : Array Oper) (size : Nat) : Bool := (List.range (ops.size - 1)).all fun i => match dstAt ops i with
  | some d => decide (d < size) && (List.range (ops.size - 1)).all fun j => decide (i = j) || !decide (dstAt ops j = some d)
  | none => false
/-- The last one waits for all others. -/
def lastWaits (ops : Array Oper) : Bool := decide (0 < ops.size) && (List.range (ops.size - 1)).all fun i => ((ops[ops.size - 1]?).map (·.after.any fun e => decide (e.on = i) && Region.binds .any e)).getD false
/-- What no operation but the last one writes is as it was. -/
structure Kept0 (ops : Array Oper) (a0 a : Act) : Prop where
  defers : a.defers = a0.defers
  size : a.tmps.size = a0.tmps.size
  same : ∀ k, (∀ i, i + 1 < ops.size → dstAt ops i ≠ some k) → a.tmps.getD k undef = a0.tmps.getD k undef

theorem dst_of {ops : Array Oper} {N i : Nat} (h : dstOwn ops N = true) (hi : i + 1 < ops.size) : ∃ d, dstAt ops i = some d ∧ d < N ∧ ∀ j, j + 1 < ops.size → i ≠ j → dstAt ops j ≠ some d := by
  unfold dstOwn at h
  rw [List.all_eq_true] at h
  have h1 := h i (List.mem_range.2 (by omega))
  cases hd : dstAt ops i with
  | none => rw [hd] at h1; cases h1
  | some d =>
    rw [hd] at h1
    simp only [Bool.and_eq_true, decide_eq_true_eq, List.all_eq_true, List.mem_range, Bool.or_eq_true, Bool.not_eq_true', decide_eq_false_iff_not] at h1
    refine ⟨d, rfl, h1.1, fun j hj hne => ?_⟩
    rcases h1.2 j (by omega) with h2 | h2
    · exact absurd h2 hne
    · exact h2
theorem put_getD (a : Act) (d k : Nat) (v : Value) (hd : d < a.tmps.size) : (a.put (some d) v).tmps.getD k undef = if k = d then v else a.tmps.getD k undef := by
  show (a.tmps.setIfInBounds d v).getD k undef = _
  rw [Array.getD_eq_getD_getElem?, Array.getD_eq_getD_getElem?, Array.getElem?_setIfInBounds]
  by_cases h : d = k
  · subst h; simp [hd]
  · rw [if_neg h, if_neg (fun e => h e.symm)]
theorem listed_set {L : Array Bool} {i k : Nat} (hi : i < L.size) : (L.setIfInBounds i true).getD k false = if k = i then true else L.getD k false := by
  rw [Array.getD_eq_getD_getElem?, Array.getD_eq_getD_getElem?, Array.getElem?_setIfInBounds]
  by_cases h : i = k
  · subst h; simp [hi]
  · rw [if_neg h, if_neg (fun e => h e.symm)]

/-- No operation but the last one writes it. -/
def notDst (ops : Array Oper) (k : Nat) : Bool := (List.range (ops.size - 1)).all fun i => !decide (dstAt ops i = some k)
theorem Kept0.slot {ops : Array Oper} {a0 a : Act} (h : Kept0 ops a0 a) (k : Nat) (hk : notDst ops k = true) : a.tmps.getD k undef = a0.tmps.getD k undef := by
  refine h.same k fun i hi e => ?_
  unfold notDst at hk
  rw [List.all_eq_true] at hk
  have := hk i (List.mem_range.2 (by omega))
  rw [e] at this
  simp at this
theorem Kept0.act {ops : Array Oper} {a0 a : Act} (h : Kept0 ops a0 a) :
    a = { tmps := ((List.range a0.tmps.size).map fun k => if notDst ops k = true then a0.tmps.getD k undef else a.tmps.getD k undef).toArray, defers := a0.defers } := by
  obtain ⟨t, d⟩ := a
  have hd : d = a0.defers := h.defers
  have hs : t.size = a0.tmps.size := h.size
  subst hd
  congr 1
  apply Array.ext
  · simp [hs]
  · intro i h1 h2
    simp only [List.getElem_toArray, List.getElem_map, List.getElem_range]
    split
    · rename_i hn
      rw [← h.slot i hn]
      simp [h1]
    · simp
theorem op_move {P : Program} {o : Oper} {a : Act} {w : World} {K : Act → World → Prop} {Q : Exit → Act → World → Prop} (t : Tmp) (ho : o.op = .move (.tmp t)) (h : K (a.put o.dst (a.tmps.getD t undef)) w) : o.wp P a w K Q := by
  unfold Oper.wp
  simp [execOp, ho, Act.eval, Oper.upon]
  simpa using h
/-- The rule for a literal with draws in it: each operation but the last one yields a value of which something is known that no other one undoes. -/
theorem region_draws {P : Program} {id : Nat} {ops : Array Oper} {Q : Exit → Act → World → Prop} {a0 : Act} {w0 : World} (hm : P.follows .mixedOrders = true) (hb : edgesBack ops = true) (hlast : lastWaits ops = true) (hdst : dstOwn ops a0.tmps.size = true)
    (I : World → Prop) (R : World → World → Prop) (Pr : Nat → World → Value → Prop) (hR : ∀ i w w' v, Pr i w v → R w w' → Pr i w' v) (h0 : I w0.drew)
    (hstep : ∀ i o, i + 1 < ops.size → ops[i]? = some o → ∀ a w, Kept0 ops a0 a → I w → (∀ e d, e ∈ o.after.toList → Region.binds .any e = true → dstAt ops e.on = some d → Pr e.on w (a.tmps.getD d undef)) → o.guard = none ∧ o.wp P a w (fun a' w' => ∃ v, a' = a.put o.dst v ∧ R w w' ∧ I w' ∧ Pr i w' v) Q)
    (hend : ∀ o, ops[ops.size - 1]? = some o → ∀ a w, Kept0 ops a0 a → I w → (∀ i d, i + 1 < ops.size → dstAt ops i = some d → Pr i w (a.tmps.getD d undef)) → o.guard = none ∧ o.wp P a w (fun a' w' => Q .normal a' w') Q) :
    (Code.region id ops true).wp P Q a0 w0 := by
  unfold lastWaits at hlast
  rw [Bool.and_eq_true, decide_eq_true_eq] at hlast
  obtain ⟨hpos, hlast⟩ := hlast
  have run : ∀ {i : Nat} {o : Oper} {a : Act} {w : World} {K : Act → World → Prop}, ops[i]? = some o → o.guard = none → o.wp P a w K Q → wpOp P ops Q i K a w := by
    intro i o a w K ho hg h
    refine wpOp_step ho fun K' hK => ?_
    rw [if_pos (by simp [Region.wanted, hg])]
    exact Oper.wp_mono hK h
  refine region_inv hm (fun L a w => ((∀ k, k < ops.size → L.getD k true = true) ∧ Q .normal a w) ∨
    (L.getD (ops.size - 1) false = false ∧ Kept0 ops a0 a ∧ I w ∧ ∀ i d, i + 1 < ops.size → L.getD i false = true → dstAt ops i = some d → Pr i w (a.tmps.getD d undef))) hb (.inr ⟨?_, ⟨rfl, rfl, fun _ _ => rfl⟩, h0, ?_⟩) ?_ ?_
  · simp [Array.getD]
  · intro i d hi hl
    simp [Array.getD] at hl
  · rintro L a w i o (⟨hall, _⟩ | ⟨hl, hk, hI, hp⟩) hs ho hi hd
    · have hlt : i < ops.size := (Array.getElem?_eq_some_iff.1 ho).1
      rw [hall i hlt] at hi
      cases hi
    · have hlt : i < ops.size := (Array.getElem?_eq_some_iff.1 ho).1
      by_cases hn : i + 1 < ops.size
      · obtain ⟨hg, hwp⟩ := hstep i o hn ho a w hk hI (fun e d he hbi hde => by
          have hon : e.on + 1 < ops.size := by
            unfold edgesBack at hb
            rw [List.all_eq_true] at hb
            have h2 := hb i (List.mem_range.2 hlt)
            rw [ho] at h2
            simp only [Option.map_some, Option.getD_some, Array.all_eq_true', decide_eq_true_eq] at h2
            have := h2 e (Array.mem_def.2 he)
            omega
          exact hp e.on d hon (hd e he hbi) hde)
        refine run ho hg (Oper.wp_mono ?_ hwp)
        rintro a' w' ⟨v, rfl, hr, hI', hv⟩
        obtain ⟨d, hd1, hd2, hd3⟩ := dst_of hdst hn
        have hod : o.dst = some d := by unfold dstAt at hd1; rw [ho] at hd1; exact hd1
        rw [hod]
        refine .inr ⟨?_, ⟨hk.defers, ?_, ?_⟩, hI', ?_⟩
        · rw [listed_set (by omega), if_neg (by omega)]; exact hl
        · show (a.tmps.setIfInBounds d v).size = _
          rw [Array.size_setIfInBounds]; exact hk.size
        · intro k hk2
          rw [put_getD _ _ _ _ (by rw [hk.size]; exact hd2), if_neg (fun e => hk2 i hn (by rw [e]; exact hd1))]
          exact hk.same k hk2
        · intro j dj hj hlj hdj
          rw [put_getD _ _ _ _ (by rw [hk.size]; exact hd2)]
          rw [listed_set (by omega)] at hlj
          by_cases hij : j = i
          · subst hij
            rw [hd1] at hdj
            cases hdj
            rw [if_pos rfl]
            exact hv
          · rw [if_neg hij] at hlj
            rw [if_neg (fun e => hd3 j hj (fun e2 => hij e2.symm) (by rw [hdj, e]))]
            exact hR j w w' _ (hp j dj hj hlj hdj) hr
      · have hi' : i = ops.size - 1 := by omega
        subst hi'
        have hothers : ∀ k, k + 1 < ops.size → L.getD k false = true := by
          intro k hk2
          rw [List.all_eq_true] at hlast
          have h2 := hlast k (List.mem_range.2 (by omega))
          rw [ho] at h2
          simp only [Option.map_some, Option.getD_some, Array.any_eq_true', Bool.and_eq_true, decide_eq_true_eq] at h2
          obtain ⟨e, he, hek, hbi⟩ := h2
          rw [← hek]
          exact hd e (Array.mem_def.1 he) hbi
        obtain ⟨hg, hwp⟩ := hend o ho a w hk hI (fun j d hj hdj => hp j d hj (hothers j hj) hdj)
        refine run ho hg (Oper.wp_mono ?_ hwp)
        intro a' w' hq
        refine .inl ⟨fun k hk2 => ?_, hq⟩
        rw [getD_eq (by rw [Array.size_setIfInBounds]; omega), ← getD_eq (by rw [Array.size_setIfInBounds]; omega) false, listed_set (by omega)]
        by_cases e : k = ops.size - 1
        · rw [if_pos e]
        · rw [if_neg e]; exact hothers k (by omega)
  · rintro L a w (⟨_, hq⟩ | ⟨hl, _⟩) hs hall
    · exact hq
    · have := hall (ops.size - 1) (by omega)
      rw [getD_eq (by omega)] at hl this
      rw [this] at hl
      cases hl
end Go.Proofs.Ytilnjmpnhadidaa

/-
  Routes as plain data: which are right, in which order they lie, which fit. By the verifier.
-/
namespace Go.Proofs.Ytilnjmpnhadidaa
open Go.RowKit

/-- A route. -/
structure Rt where
  net : Int
  bits : Int
  hop : Int
/-- As a value. -/
def Rt.val (r : Rt) : Value := .agg #[.int .i64 r.net, .int .i64 r.bits, .int .i64 r.hop]
/-- Its cells. -/
def Rt.cells (r : Rt) : List Value := [.int .i64 r.net, .int .i64 r.bits, .int .i64 r.hop]
/-- The one at a place. -/
def rtAt (l : List Rt) (k : Nat) : Rt := l[k]?.getD ⟨0, 0, 0⟩
theorem rtAt_lt {l : List Rt} {k : Nat} (h : k < l.length) : rtAt l k = l[k] := by simp [rtAt, List.getElem?_eq_getElem h]

/-- Cells that hold these routes. -/
def RtsAt (w : World) (a : Option Addr) (l : List Rt) : Prop :=
  ∀ k, k < l.length → ∃ b off, a = some ⟨b, off, none⟩ ∧ b < w.heap.size ∧ w.cell? ⟨b, off + k * 3, none⟩ = some (.int .i64 (rtAt l k).net) ∧ w.cell? ⟨b, off + k * 3 + 1, none⟩ = some (.int .i64 (rtAt l k).bits) ∧ w.cell? ⟨b, off + k * 3 + 2, none⟩ = some (.int .i64 (rtAt l k).hop)
theorem RtsAt.below {w w' : World} {a : Option Addr} {l : List Rt} (h : RtsAt w a l) (g : Below w.heap.size w w') : RtsAt w' a l := by
  intro k hk
  obtain ⟨b, off, e, hb, c0, c1, c2⟩ := h k hk
  exact ⟨b, off, e, Nat.lt_of_lt_of_le hb g.size, by rw [g.cell (p := ⟨b, off + k * 3, none⟩) hb]; exact c0, by rw [g.cell (p := ⟨b, off + k * 3 + 1, none⟩) hb]; exact c1, by rw [g.cell (p := ⟨b, off + k * 3 + 2, none⟩) hb]; exact c2⟩
theorem RtsAt.alloc {w : World} {a : Option Addr} {l : List Rt} (h : RtsAt w a l) (o : Obj) : RtsAt (w.alloc o) a l :=
  h.below ((Below.refl _ _).alloc (Nat.le_refl _) _)
theorem RtsAt.drew {w : World} {a : Option Addr} {l : List Rt} (h : RtsAt w a l) : RtsAt w.drew a l := h.below (Below.refl _ _).drew
theorem RtsAt.nil (w : World) (a : Option Addr) : RtsAt w a [] := by intro k hk; simp at hk
theorem RtsAt.none {w : World} {l : List Rt} (h : RtsAt w none l) : l = [] := by
  cases l with
  | nil => rfl
  | cons z zs => obtain ⟨b, off, e, _⟩ := h 0 (by simp); cases e

theorem cells_at {w : World} {b off k : Nat} {l : List Rt} (h : RtsAt w (some ⟨b, off, none⟩) l) (hk : k < l.length) : w.cell? ⟨b, off + k * 3, none⟩ = some (.int .i64 (rtAt l k).net) ∧ w.cell? ⟨b, off + k * 3 + 1, none⟩ = some (.int .i64 (rtAt l k).bits) ∧ w.cell? ⟨b, off + k * 3 + 2, none⟩ = some (.int .i64 (rtAt l k).hop) := by
  obtain ⟨b', off', e, _, c⟩ := h k hk
  cases e
  exact c
/-- A right net. -/
def netB (net bits : Int) : Bool := inB 0 32 bits && (inB 0 4294967295 net && decide (net % 2 ^ (32 - bits).toNat = 0))
/-- A right route. -/
def Rt.ok (r : Rt) : Bool := netB r.net r.bits && inB 0 99 r.hop
/-- The order. -/
def Rt.lt (a b : Rt) : Bool := decide (a.net < b.net ∨ a.net = b.net ∧ a.bits < b.bits)
/-- Right, and behind the one ahead. -/
def good (l : List Rt) (i : Nat) : Bool := (rtAt l i).ok && (decide (i = 0) || (rtAt l (i - 1)).lt (rtAt l i))
/-- The first k are. -/
def goodTo (l : List Rt) (k : Nat) : Bool := (List.range k).all (good l)
theorem goodTo_succ (l : List Rt) (k : Nat) : goodTo l (k + 1) = (goodTo l k && good l k) := by simp [goodTo, List.range_succ]
theorem goodTo_hit {l : List Rt} {k n : Nat} (h : k < n) (g : good l k = false) : goodTo l n = false := by
  unfold goodTo
  rw [List.all_eq_false]
  exact ⟨k, List.mem_range.2 h, by simp [g]⟩
/-- Right routes. -/
def rtsOk (l : List Rt) : Bool := decide (l.length ≤ 64) && goodTo l l.length
/-- The first bits of an address are those of the net. -/
def fitB (net bits addr : Int) : Bool := decide (addr / 2 ^ (32 - bits).toNat * 2 ^ (32 - bits).toNat = net)
/-- Fits. -/
def Rt.fits (r : Rt) (addr : Int) : Bool := r.ok && (inB 0 4294967295 addr && fitB r.net r.bits addr)

theorem pow_le32 {s : Nat} (h : s ≤ 32) : (2 : Int) ^ s ≤ 4294967296 := by
  have : (2 : Nat) ^ s ≤ 2 ^ 32 := Nat.pow_le_pow_right (by decide) h
  have e : ((2 ^ s : Nat) : Int) = (2 : Int) ^ s := by simp
  omega
theorem pow_pos' (s : Nat) : (0 : Int) < (2 : Int) ^ s := by
  have : 0 < (2 : Nat) ^ s := Nat.two_pow_pos s
  have e : ((2 ^ s : Nat) : Int) = (2 : Int) ^ s := by simp
  omega
/-- Of a right net's bits: 32 less some. -/
theorem bits_of {bits : Int} (h : inB 0 32 bits = true) : ∃ s : Nat, s ≤ 32 ∧ bits = 32 - (s : Int) := by
  rw [inB_true] at h
  exact ⟨(32 - bits).toNat, by omega, by omega⟩
theorem pow_of {s : Nat} (h : s ≤ 32) : (2 : Int) ^ (32 - (32 - (s : Int))).toNat = 2 ^ s := by
  rw [show (32 - (32 - (s : Int))).toNat = s by omega]
/-- The exclusive or is nought behind a shift just where both are one behind it. -/
theorem xor_shift {n a : Int} {s : Nat} (n0 : 0 ≤ n) (n1 : n ≤ 4294967295) (a0 : 0 ≤ a) (a1 : a ≤ 4294967295) : (bits .xor .i64 n a / 2 ^ s = 0) ↔ n / 2 ^ s = a / 2 ^ s := by
  obtain ⟨x, rfl⟩ := Int.eq_ofNat_of_zero_le n0
  obtain ⟨y, rfl⟩ := Int.eq_ofNat_of_zero_le a0
  have hx : x < 2 ^ 32 := by omega
  have hy : y < 2 ^ 32 := by omega
  have hz : x ^^^ y < 2 ^ 32 := Nat.xor_lt_two_pow hx hy
  have key : bits .xor .i64 (x : Int) (y : Int) = ((x ^^^ y : Nat) : Int) := by
    show IntKind.i64.wrap ((BitVec.ofInt 64 (x : Int) ^^^ BitVec.ofInt 64 (y : Int)).toNat : Nat) = _
    rw [BitVec.toNat_xor, BitVec.toNat_ofInt, BitVec.toNat_ofInt, IntKind.wrap_i64]
    rw [show (((x : Int) % ((2 ^ 64 : Nat) : Int)).toNat) = x by omega, show (((y : Int) % ((2 ^ 64 : Nat) : Int)).toNat) = y by omega]
    omega
  rw [key]
  have e : ((2 ^ s : Nat) : Int) = (2 : Int) ^ s := by simp
  rw [← e, ← Int.natCast_ediv, ← Int.natCast_ediv, ← Int.natCast_ediv, ← Nat.shiftRight_eq_div_pow, ← Nat.shiftRight_eq_div_pow, ← Nat.shiftRight_eq_div_pow, Nat.shiftRight_xor_distrib]
  rw [Int.natCast_inj, show (0 : Int) = ((0 : Nat) : Int) from rfl, Int.natCast_inj]
  generalize x >>> s = p
  generalize y >>> s = q
  constructor
  · intro h
    have h2 : p ^^^ q ^^^ q = q := by rw [h, Nat.zero_xor]
    rwa [Nat.xor_assoc, Nat.xor_self, Nat.xor_zero] at h2
  · intro h; rw [h, Nat.xor_self]
theorem and_mask {n : Int} {s : Nat} (hs : s ≤ 32) (n0 : 0 ≤ n) (n1 : n ≤ 4294967295) : bits .and .i64 n (2 ^ s - 1) = n % 2 ^ s := by
  obtain ⟨x, rfl⟩ := Int.eq_ofNat_of_zero_le n0
  have hx : x < 2 ^ 32 := by omega
  have e : ((2 ^ s : Nat) : Int) = (2 : Int) ^ s := by simp
  have p1 := pow_le32 hs
  have p0 := pow_pos' s
  show IntKind.i64.wrap ((BitVec.ofInt 64 (x : Int) &&& BitVec.ofInt 64 ((2 : Int) ^ s - 1)).toNat : Nat) = _
  rw [BitVec.toNat_and, BitVec.toNat_ofInt, BitVec.toNat_ofInt, IntKind.wrap_i64]
  rw [show (((x : Int) % ((2 ^ 64 : Nat) : Int)).toNat) = x by omega, show ((((2 : Int) ^ s - 1) % ((2 ^ 64 : Nat) : Int)).toNat) = 2 ^ s - 1 by omega]
  rw [Nat.and_two_pow_sub_one_eq_mod, ← e, ← Int.natCast_emod]
  have : x % 2 ^ s ≤ x := Nat.mod_le _ _
  generalize x % 2 ^ s = m at this
  omega
/-- The two ways to say that a right net's bits are those of an address. -/
theorem fit_two {n a : Int} {s : Nat} (hn : n % 2 ^ s = 0) : n / 2 ^ s = a / 2 ^ s ↔ a / 2 ^ s * 2 ^ s = n := by
  have p0 := pow_pos' s
  have h1 := Int.mul_ediv_add_emod n (2 ^ s)
  have h2 := Int.mul_ediv_add_emod a (2 ^ s)
  rw [hn] at h1
  constructor
  · intro h; rw [← h, Int.mul_comm]; omega
  · intro h; rw [← h, Int.mul_ediv_cancel _ (by omega)]
end Go.Proofs.Ytilnjmpnhadidaa

/-
  The walks of Fits and of what it asks, the program's and the model's. By the verifier.
-/
namespace Go.Proofs.Ytilnjmpnhadidaa
open Go.RowKit

theorem wrap_small {m : Int} (h0 : 0 ≤ m) (h1 : m ≤ 9223372036854775807) : wrap64 m = m := by unfold wrap64; omega
theorem ret_bool {a b : Bool} (h : a = b) : Ending.returned (.bool a) = .returned (.bool b) := by rw [h]
theorem specNet (net bits : Int) (w : World) :
    Calls Try.prog 78 #[.int .i64 net, .int .i64 bits] w fun e w' => e = .returned (.bool (netB net bits)) ∧ w' = w := by
  have Hn : Hid (netB net bits = _) := rfl
  cases hb : inB 0 32 bits
  · have hb' : netB net bits = false := by rw [netB, hb]; rfl
    rw [hb']
    clear Hn hb'
    have C := specIn bits 0 32 w
    rw [hb] at C
    clear hb
    go_enter Try.func78, Try.ntmps78
    go_wp2_with (go_at_call 79; refine C.mono ?_; rintro e w' ⟨rfl, rfl⟩)
    go_ret
    exact ⟨rfl, rfl⟩
  cases hn : inB 0 4294967295 net
  · have hb' : netB net bits = false := by rw [netB, hb, hn]; rfl
    rw [hb']
    clear Hn hb'
    have C := specIn bits 0 32 w
    have D := specAddr net w
    rw [hb] at C
    rw [hn] at D
    clear hb hn
    go_enter Try.func78, Try.ntmps78
    go_wp2_with (first | (go_at_call 79; refine C.mono ?_; rintro e w' ⟨rfl, rfl⟩) | (go_at_call 91; refine D.mono ?_; rintro e w' ⟨rfl, rfl⟩))
    go_ret
    exact ⟨rfl, rfl⟩
  have hnb : netB net bits = decide (net % 2 ^ (32 - bits).toNat = 0) := by rw [netB, hb, hn]; rfl
  have C := specIn bits 0 32 w
  have D := specAddr net w
  rw [hb] at C
  rw [hn] at D
  clear Hn
  obtain ⟨s, hs, rfl⟩ := bits_of hb
  rw [pow_of hs] at hnb
  rw [hnb]
  have hn' := inB_true.1 hn
  clear hb hn hnb
  have hw : wrap64 (2 ^ (32 - (32 - s))) = 2 ^ s := by
    rw [show 32 - (32 - s) = s by omega]
    have := pow_le32 hs
    have := pow_pos' s
    unfold wrap64; omega
  have hm := pow_pos' s
  have hm1 := pow_le32 hs
  generalize (2 : Int) ^ s = m at hw hm hm1 ⊢
  have hm0 : ¬ m = 0 := by omega
  have ht : net.tmod m = net % m := Int.tmod_eq_emod_of_nonneg hn'.1
  go_enter Try.func78, Try.ntmps78
  go_wp2_with (first | (go_at_call 79; refine C.mono ?_; rintro e w' ⟨rfl, rfl⟩) | (go_at_call 91; refine D.mono ?_; rintro e w' ⟨rfl, rfl⟩))
  go_ret
  exact ⟨rfl, rfl⟩

theorem implIn {net bits addr : Int} (hb : inB 0 32 bits = true) (n0 : 0 ≤ net) (n1 : net ≤ 4294967295) (hn : net % 2 ^ (32 - bits).toNat = 0) (a0 : 0 ≤ addr) (a1 : addr ≤ 4294967295) (w : World) :
    Calls Try.prog 89 #[.int .i64 net, .int .i64 bits, .int .i64 addr] w fun e w' => e = .returned (.bool (fitB net bits addr)) ∧ w' = w := by
  unfold fitB
  obtain ⟨s, hs, rfl⟩ := bits_of hb
  rw [pow_of hs] at hn ⊢
  clear hb
  have e32 : 32 - (32 - s) = s := by omega
  have hx : Hid (bits .xor .i64 net addr / 2 ^ (32 - (32 - s)) = 0 ↔ addr / 2 ^ s * 2 ^ s = net) := by
    show (bits .xor .i64 net addr / 2 ^ (32 - (32 - s)) = 0 ↔ addr / 2 ^ s * 2 ^ s = net)
    rw [e32, xor_shift n0 n1 a0 a1, fit_two hn]
  clear hn e32
  go_enter Try.func89, Try.ntmps89
  go_wp2
  go_ret
  exact ⟨ret_bool (by rw [Bool.eq_iff_iff, beq_iff_eq, decide_eq_true_iff]; exact hx.out), rfl⟩

theorem implUpTo1 (most n : Int) (w : World) (B : Nat) (hB : B = w.heap.size) :
    Calls Try.prog 45 #[.int .i64 most, .slice (some ⟨B, 0, none⟩) 1 1] (w.alloc (.cells #[.int .i64 n] 2)) fun e w' => e = .returned (.bool (inB 0 most n)) ∧ w' = w.alloc (.cells #[.int .i64 n] 2) := by
  have h := implUpTo most (some ⟨B, 0, none⟩) 1 [n] (w.alloc (.cells #[.int .i64 n] 2)) (by simp) (show Hid _ from ints_new w 2 [n] #[.int .i64 n] B hB rfl)
  simpa using h

set_option maxHeartbeats 1000000 in
theorem implNet (net bits : Int) (w : World) :
    Calls Try.prog 80 #[.int .i64 net, .int .i64 bits] w fun e w' => e = .returned (.bool (netB net bits)) ∧ Below w.heap.size w w' := by
  have C' := implUpTo1 32 bits w w.heap.size rfl
  have D' := implUpTo1 4294967295 net (w.alloc (.cells #[.int .i64 bits] 2)) (w.heap.size + 1) (by simp)
  cases hb : inB 0 32 bits
  · have hb' : netB net bits = false := by rw [netB, hb]; rfl
    rw [hb']
    rw [hb] at C'
    clear D' hb hb'
    go_enter Try.func80, Try.ntmps80
    go_wp2_with (go_at_call 45; refine C'.mono ?_; rintro e w' ⟨rfl, rfl⟩)
    go_ret
    exact ⟨rfl, (Below.refl _ _).alloc (Nat.le_refl _) _⟩
  rw [hb] at C'
  cases hn : inB 0 4294967295 net
  · have hb' : netB net bits = false := by rw [netB, hb, hn]; rfl
    rw [hb']
    rw [hn] at D'
    clear hb hn hb'
    go_enter Try.func80, Try.ntmps80
    go_wp2_with fail
    refine C'.mono ?_
    rintro e w' ⟨rfl, rfl⟩
    go_wp2_with fail
    refine D'.mono ?_
    rintro e w' ⟨rfl, rfl⟩
    go_wp2
    go_ret
    exact ⟨rfl, bel_alloc ((Below.refl _ _).alloc (Nat.le_refl _) _) (Nat.le_refl _) _⟩
  rw [hn] at D'
  have hnb : netB net bits = decide (net % 2 ^ (32 - bits).toNat = 0) := by rw [netB, hb, hn]; rfl
  obtain ⟨s, hs, rfl⟩ := bits_of hb
  rw [pow_of hs] at hnb
  rw [hnb]
  have hn' := inB_true.1 hn
  have ha := and_mask hs hn'.1 hn'.2
  have hw : wrap64 (2 ^ (32 - (32 - s))) = 2 ^ s := by
    rw [show 32 - (32 - s) = s by omega]
    have := pow_le32 hs
    have := pow_pos' s
    unfold wrap64; omega
  have hm := pow_pos' s
  have hm1 := pow_le32 hs
  clear hb hn hnb
  generalize (2 : Int) ^ s = m at hw hm hm1 ha ⊢
  go_enter Try.func80, Try.ntmps80
  go_wp2_with fail
  refine C'.mono ?_
  rintro e w' ⟨rfl, rfl⟩
  go_wp2_with fail
  refine D'.mono ?_
  rintro e w' ⟨rfl, rfl⟩
  go_wp2

  go_ret
  exact ⟨rfl, bel_alloc ((Below.refl _ _).alloc (Nat.le_refl _) _) (Nat.le_refl _) _⟩
end Go.Proofs.Ytilnjmpnhadidaa

/-
  The walks of a right route and of Fits, the program's and the model's. By the verifier.
-/
namespace Go.Proofs.Ytilnjmpnhadidaa
open Go.RowKit

theorem cell_of_below {w w' : World} {n : Nat} (h : Below n w w') {p : Addr} (hp : p.block < n) {v : Value} (c : w.cell? p = some v) : w'.cell? p = some v := by
  rw [h.cell hp]; exact c

theorem specRoute (r : Rt) (w : World) :
    Calls Try.prog 46 #[r.val] w fun e w' => e = .returned (.bool r.ok) ∧ w' = w.alloc (.cells #[.int .i64 r.net, .int .i64 r.bits, .int .i64 r.hop] 53) := by
  unfold Rt.ok Rt.val
  obtain ⟨net, bits, hop⟩ := r
  simp only []
  have C := fun w => specNet net bits w
  have D := fun w => specIn hop 0 99 w
  cases hn : netB net bits
  · rw [hn] at C
    clear D hn
    go_enter Try.func46, Try.ntmps46
    go_wp2_with (go_at_call 78; refine (C _).mono ?_; rintro e w' ⟨rfl, rfl⟩)
    go_ret
    exact ⟨rfl, rfl⟩
  · rw [hn] at C
    clear hn
    generalize inB 0 99 hop = b at D ⊢
    go_enter Try.func46, Try.ntmps46
    go_wp2_with (first | (go_at_call 78; refine (C _).mono ?_; rintro e w' ⟨rfl, rfl⟩) | (go_at_call 79; refine (D _).mono ?_; rintro e w' ⟨rfl, rfl⟩))
    go_ret
    exact ⟨rfl, rfl⟩

theorem implRoute (r : Rt) (w : World) :
    Calls Try.prog 47 #[r.val] w fun e w' => e = .returned (.bool r.ok) ∧ Below w.heap.size w w' := by
  unfold Rt.ok Rt.val
  obtain ⟨net, bits, hop⟩ := r
  simp only []
  have C := fun w => implNet net bits w
  cases hn : netB net bits
  · rw [hn] at C
    clear hn
    go_enter Try.func47, Try.ntmps47
    go_wp2_with fail
    refine (C _).mono ?_
    rintro e w1 ⟨rfl, b1⟩
    have B : Hid (Below w.heap.size w w1) := ((Below.refl _ w).alloc (Nat.le_refl _) _).trans (b1.mono (by simp))
    clear b1 C
    go_wp2
    go_ret
    exact ⟨rfl, B.out⟩
  · rw [hn] at C
    clear hn
    have D := fun (w : World) => implUpTo1 99 hop w w.heap.size rfl
    generalize inB 0 99 hop = b at D ⊢
    go_enter Try.func47, Try.ntmps47
    go_wp2_with fail
    refine (C _).mono ?_
    rintro e w1 ⟨rfl, b1⟩
    have B : Hid (Below w.heap.size w w1) := ((Below.refl _ w).alloc (Nat.le_refl _) _).trans (b1.mono (by simp))
    have c2 : w1.cell? ⟨w.heap.size, 2, none⟩ = some (.int .i64 hop) := cell_of_below b1 (by simp) (by simp)
    clear b1 C
    go_wp2_with fail
    refine (D _).mono ?_
    rintro e w' ⟨rfl, rfl⟩
    go_wp2
    go_ret
    exact ⟨rfl, B.out.alloc B.out.size _⟩

theorem ok_parts {r : Rt} (h : r.ok = true) : inB 0 32 r.bits = true ∧ (0 ≤ r.net ∧ r.net ≤ 4294967295) ∧ r.net % 2 ^ (32 - r.bits).toNat = 0 ∧ (0 ≤ r.hop ∧ r.hop ≤ 99) := by
  unfold Rt.ok netB at h
  simp only [Bool.and_eq_true, decide_eq_true_eq, inB_true] at h
  obtain ⟨⟨h1, h2, h3⟩, h4⟩ := h
  exact ⟨by rw [inB_true]; exact h1, h2, h3, h4⟩
end Go.Proofs.Ytilnjmpnhadidaa

/-
  The model's drawing of addresses and of routes. By the verifier.
-/
namespace Go.Proofs.Ytilnjmpnhadidaa
open Go.RowKit

/-- A zero route's cells. -/
def zeroRt : Array Value := #[.int .i64 0, .int .i64 0, .int .i64 0]
/-- The call's own memory: the route that is drawn, the answer's variable, the cursor. -/
structure DrR (W : World) (bc : Nat) (ac : Option Addr) (len cap : Nat) (w : World) (B : Nat) (r : Rt) (wr : World) : Prop where
  rt : Boxed wr B #[.int .i64 r.net, .int .i64 r.bits, .int .i64 r.hop] 53
  res : Boxed wr w.heap.size zeroRt 53
  cur : Cur W bc ac len cap wr
  kp : Keep bc w wr
  lt : w.heap.size < B
  bl : bc < w.heap.size
theorem DrR.draw {W : World} {bc : Nat} {ac : Option Addr} {len cap : Nat} {w : World} {B : Nat} {r : Rt} {wr wd : World} (h : DrR W bc ac len cap w B r wr) (c : Cur W bc ac len cap wd) (k : Keep bc wr wd) : DrR W bc ac len cap w B r wd := by
  have := h.lt
  have := h.bl
  exact ⟨h.rt.keep (by omega) k, h.res.keep (by omega) k, c, h.kp.trans k, h.lt, h.bl⟩
theorem DrR.more {W : World} {bc : Nat} {ac : Option Addr} {len cap : Nat} {w : World} {B : Nat} {r : Rt} {wr : World} (h : DrR W bc ac len cap w B r wr) (o : Obj) : DrR W bc ac len cap w B r (wr.alloc o) :=
  ⟨h.rt.more _, h.res.more _, h.cur.alloc _, h.kp.alloc _, h.lt, h.bl⟩
theorem DrR.drew {W : World} {bc : Nat} {ac : Option Addr} {len cap : Nat} {w : World} {B : Nat} {r : Rt} {wr : World} (h : DrR W bc ac len cap w B r wr) : DrR W bc ac len cap w B r wr.drew :=
  ⟨h.rt, h.res, h.cur.drew, h.kp.drew, h.lt, h.bl⟩
theorem DrR.put {W : World} {bc : Nat} {ac : Option Addr} {len cap : Nat} {w : World} {B : Nat} {r r' : Rt} {wr : World} (h : DrR W bc ac len cap w B r wr) (j : Nat) (v : Value)
    (hr : (#[.int .i64 r.net, .int .i64 r.bits, .int .i64 r.hop] : Array Value).setIfInBounds j v = #[.int .i64 r'.net, .int .i64 r'.bits, .int .i64 r'.hop]) : DrR W bc ac len cap w B r' (wr.setCell ⟨B, j, none⟩ v) := by
  have h1 := h.lt
  have h2 := h.bl
  have h3 := h.cur.bel.size
  have h4 := h.cur.lo
  have o : ∀ k, k ≠ B → (wr.setCell ⟨B, j, none⟩ v).heap[k]? = wr.heap[k]? := fun k hk => Below.heap_setCell _ _ _ _ hk
  refine ⟨by rw [← hr]; exact h.rt.put j v, h.res.far (by omega) j v, h.cur.other (by omega) o ((Below.refl _ _).setCell (p := ⟨B, j, none⟩) (by show W.heap.size ≤ B; omega) _), ⟨by have := h.kp.size; simp only [World.setCell, Array.size_modify]; exact this, fun k g1 g2 => (o k (by omega)).trans (h.kp.block k g1 g2)⟩, h.lt, h.bl⟩
theorem DrR.done {W : World} {bc : Nat} {ac : Option Addr} {len cap : Nat} {w : World} {B : Nat} {r : Rt} {wr : World} (h : DrR W bc ac len cap w B r wr) {t : Act} (h2 : t.tmps.getD 2 undef = .pointer (some ⟨w.heap.size, 0, none⟩)) (hd : t.defers = []) :
    bodyPost Try.prog Try.f65 (fun e w' => (∃ r : Rt, e = .returned r.val) ∧ Cur W bc ac len cap w' ∧ Keep bc w w') .ret t (wr.setRow w.heap.size #[.int .i64 r.net, .int .i64 r.bits, .int .i64 r.hop]) := by
  have g1 := h.lt
  have g2 := h.bl
  have g3 := h.cur.lo
  have o : ∀ k, k ≠ w.heap.size → (wr.setRow w.heap.size #[.int .i64 r.net, .int .i64 r.bits, .int .i64 r.hop]).heap[k]? = wr.heap[k]? := fun k hk => setRow_other _ _ _ _ hk
  refine bodyPost_ret (results_cell_row Try.results65 _ _ w.heap.size _ _ _ _ h2 (setRow_heap wr w.heap.size _ _ _ _ h.res) Try.underlying53 rfl (by kernel_rfl)) hd ⟨⟨r, rfl⟩, h.cur.other (by omega) o (below_setRow (Below.refl _ _) (by omega) _), ?_⟩
  exact ⟨by rw [size_setRow]; exact h.kp.size, fun k q1 q2 => (o k (by omega)).trans (h.kp.block k q1 q2)⟩
theorem oneR (a b c : Int) : (#[Value.int .i64 a, .int .i64 b, .int .i64 c] : Array Value).all (·.oneCell') = true := by simp [Value.oneCell']
end Go.Proofs.Ytilnjmpnhadidaa
