/-
  The walks of the reader's methods: fail, take, number, atMost. By the verifier.
-/
import Derived.Test.YtddjflaceokoaaaDoorRdPlain
import Derived.RegionTactic
import Derived.Lib.ConvBytes
import Derived.Lib.SmallJoins
import Derived.Laws.BitsLemmas
namespace Go.Proofs.YtddjflaceokoaaaDoor
open Go.RowKit

/-- All blocks but one are as they were. -/
structure Kpt (b : Nat) (w w' : World) : Prop where
  size : w.heap.size ≤ w'.heap.size
  block : ∀ k, k ≠ b → k < w.heap.size → w'.heap[k]? = w.heap[k]?
theorem Kpt.refl (b : Nat) (w : World) : Kpt b w w := ⟨Nat.le_refl _, fun _ _ _ => rfl⟩
theorem Kpt.trans {b : Nat} {x y z : World} (h : Kpt b x y) (g : Kpt b y z) : Kpt b x z :=
  ⟨Nat.le_trans h.size g.size, fun k h1 h2 => (g.block k h1 (Nat.lt_of_lt_of_le h2 h.size)).trans (h.block k h1 h2)⟩
theorem Kpt.of_below {b B : Nat} {w w' : World} (h : Below B w w') (hB : w.heap.size ≤ B) : Kpt b w w' := ⟨h.size, fun k _ hk => h.block k (by omega)⟩
theorem Kpt.drew {b : Nat} {x w : World} (h : Kpt b x w) : Kpt b x w.drew := ⟨h.size, h.block⟩
theorem Kpt.setCell {b o : Nat} {x w : World} (h : Kpt b x w) (v : Value) : Kpt b x (w.setCell ⟨b, o, none⟩ v) :=
  h.trans ⟨by simp [World.setCell], fun k h1 _ => Below.heap_setCell _ _ _ _ h1⟩
theorem Kpt.boxed {b k : Nat} {w w' : World} {cs : Array Value} {t : TypeId} (h : Kpt b w w') (x : Boxed w k cs t) (hk : k ≠ b) : Boxed w' k cs t := by
  unfold Boxed; rw [h.block k hk (heap_lt x)]; exact x
theorem Boxed.lt {w : World} {k : Nat} {cs : Array Value} {t : TypeId} (x : Boxed w k cs t) : k < w.heap.size := heap_lt x
theorem Boxed.setCell {w : World} {k : Nat} {cs : Array Value} {t : TypeId} (x : Boxed w k cs t) (j : Nat) (v : Value) : Boxed (w.setCell ⟨k, j, none⟩ v) k (cs.setIfInBounds j v) t := by
  unfold Boxed at *
  simp only [World.setCell, Array.getElem?_modify, if_true, x, Option.map_some]
  rfl
theorem Boxed.frozen {w : World} {B : Nat} {cs : Array Value} {t : TypeId} (h : Boxed w B cs t) (j : Nat) : w.frozen? ⟨B, j, none⟩ = false := by
  unfold Boxed at h
  simp [World.frozen?, h]

/-- The reader in memory. -/
structure Rd (es em : Addr) (W : World) (b : Nat) (text : ByteArray) (σ : Rst) (w : World) : Prop where
  bel : Below W.heap.size W w
  lo : W.heap.size ≤ b
  box : Boxed w b #[.string text, .int .i64 σ.pos, errVal es em σ.err] 47
  le : σ.pos ≤ text.size

theorem Rst.fail_le {σ : Rst} {n : Nat} (h : σ.pos ≤ n) (e : Er) : (σ.fail e).pos ≤ n := by
  unfold Rst.fail; split <;> exact h

set_option maxHeartbeats 1600000 in
theorem rdFail {es em : Addr} {W : World} {b : Nat} {text : ByteArray} (σ : Rst) (x : Er) (w : World) (R : Hid (Rd es em W b text σ w)) :
    Calls Tryd.prog 47 #[.pointer (some ⟨b, 0, none⟩), x.val es em] w fun e w' => e = .returned (.tuple #[]) ∧ Rd es em W b text (σ.fail x) w' ∧ Kpt b w w' := by
  have c1 := R.out.box.cell 1 rfl
  have c2 := R.out.box.cell 2 rfl
  have f2 := R.out.box.frozen 2
  obtain ⟨pos, err⟩ := σ
  match err with
  | none =>
    simp only [errVal] at c2
    rcases x with _ | _ | c
    all_goals
      simp only [Er.val]
      go_enter Tryd.func47, Tryd.ntmps47
      go_wp2
      go_end0
      refine ⟨rfl, ⟨R.out.bel.setCell R.out.lo _, R.out.lo, ?_, R.out.le⟩, (Kpt.refl _ _).setCell _⟩
      exact R.out.box.setCell 2 _
  | some (k, y) =>
    simp only [errVal] at c2
    generalize x.val es em = xv
    go_enter Tryd.func47, Tryd.ntmps47
    go_wp2
    go_end0
    exact ⟨rfl, R.out, Kpt.refl _ _⟩

set_option maxHeartbeats 1600000 in
theorem rdTake {es em : Addr} {W : World} {b : Nat} {text : ByteArray} (G : Hid (Gl es em W)) (hsz : text.size ≤ 1048576) (σ : Rst) (k : Nat) (hk : k ≤ 2000) (w : World) (R : Hid (Rd es em W b text σ w)) :
    Calls Tryd.prog 50 #[.pointer (some ⟨b, 0, none⟩), .int .i64 k] w fun e w' => e = .returned (.string (σ.take text k).1) ∧ Rd es em W b text (σ.take text k).2 w' ∧ Kpt b w w' := by
  have c0 := R.out.box.cell 0 rfl
  have c1 := R.out.box.cell 1 rfl
  have c2 := R.out.box.cell 2 rfl
  have f1 := R.out.box.frozen 1
  have hle := R.out.le
  have gs : w.cell? ⟨1, 0, none⟩ = some (.iface 111 (.pointer (some es))) := (G.out.below R.out.bel).short
  obtain ⟨pos, err⟩ := σ
  simp only at c1 c2 hle
  match err with
  | some (q, y) =>
    simp only [errVal, Rst.take] at c2 ⊢
    clear c0 c1 gs
    go_enter Tryd.func50, Tryd.ntmps50
    go_wp2
    go_ret
    exact ⟨rfl, R.out, Kpt.refl _ _⟩
  | none =>
    by_cases h : text.size < pos + k
    · have F := fun w1 (R1 : Hid (Rd es em W b text ⟨pos, none⟩ w1)) => rdFail (x := none) ⟨pos, none⟩ w1 R1
      simp only [errVal, Er.val] at c2 F
      have F' : Hid _ := F
      clear F
      have ht : Hid (Rst.take text ⟨pos, none⟩ k = (⟨#[]⟩, Rst.fail ⟨pos, none⟩ none)) := by
        show Rst.take text ⟨pos, none⟩ k = _
        simp [Rst.take, h]
      rw [ht.out]
      have R1 : Hid (Rd es em W b text ⟨pos, none⟩ w.drew) := ⟨R.out.bel.drew, R.out.lo, R.out.box, R.out.le⟩
      have h' : (text.size : Int) - pos < k := by omega
      go_enter Tryd.func50, Tryd.ntmps50
      go_wp2
      go_region
      go_wp2_with fail
      refine (F'.out _ R1).mono ?_
      rintro e w' ⟨rfl, R2, K2⟩
      have H2 : Hid (Rd es em W b text (Rst.fail ⟨pos, none⟩ none) w' ∧ Kpt b w w') := ⟨R2, (Kpt.refl _ _).drew.trans K2⟩
      clear R2 K2
      go_wp2
      go_ret
      exact ⟨rfl, H2.out⟩
    · have ht : Hid (Rst.take text ⟨pos, none⟩ k = (text.extract pos (pos + k), ⟨pos + k, none⟩)) := by
        show Rst.take text ⟨pos, none⟩ k = _
        simp [Rst.take, h]
      rw [ht.out]
      simp only [errVal] at c2
      have h' : ¬ (text.size : Int) - pos < k := by omega
      have hp : (pos : Int) + k ≤ text.size := by omega
      go_enter Tryd.func50, Tryd.ntmps50
      go_wp2
      go_region
      go_wp2
      go_region
      go_wp2
      go_ret
      refine ⟨rfl, ⟨?_, R.out.lo, ?_, by simp only; omega⟩, ?_⟩
      · exact (R.out.bel.drew.setCell R.out.lo _).drew
      · have := R.out.box.setCell 1 (.int .i64 ((pos : Int) + k))
        exact this
      · exact ((Kpt.refl _ _).drew.setCell _).drew

theorem or_byte (n x : Int) (h0 : 0 ≤ n) (h1 : n < 281474976710656) (x0 : 0 ≤ x) (x1 : x < 256) : bits .or .i64 (n * 256) x = n * 256 + x := by
  obtain ⟨a, rfl⟩ := Int.eq_ofNat_of_zero_le h0
  obtain ⟨y, rfl⟩ := Int.eq_ofNat_of_zero_le x0
  have e1 : (BitVec.ofInt 64 ((a : Int) * 256)).toNat = 2 ^ 8 * a := by rw [BitVec.toNat_ofInt]; omega
  have e2 : (BitVec.ofInt 64 (y : Int)).toNat = y := by rw [BitVec.toNat_ofInt]; omega
  have key : (BitVec.ofInt 64 ((a : Int) * 256) ||| BitVec.ofInt 64 (y : Int)).toNat = 2 ^ 8 * a + y := by
    rw [BitVec.toNat_or, e1, e2, ← Nat.two_pow_add_eq_or_of_lt (by omega)]
  show IntKind.i64.wrap ((BitVec.ofInt 64 ((a : Int) * 256) ||| BitVec.ofInt 64 (y : Int)).toNat : Nat) = _
  rw [key, IntKind.wrap_i64]
  omega
theorem numOf_take (l : List UInt8) (j : Nat) (hj : j < l.length) : numOf (l.take (j + 1)) = numOf (l.take j) * 256 + ((l.getD j 0).toNat : Int) := by
  rw [List.take_succ_eq_append_getElem hj, numOf_append]; simp [List.getElem?_eq_getElem hj]
theorem numOf_small (l : List UInt8) (j : Nat) (hl : l.length ≤ 4) (hj : j < l.length) : 0 ≤ numOf (l.take j) ∧ numOf (l.take j) < 16777216 := by
  refine ⟨numOf_nonneg _, ?_⟩
  have h := numOf_lt (l.take j)
  rw [List.length_take, Nat.min_eq_left (Nat.le_of_lt hj)] at h
  have : (256 : Int) ^ j ≤ 256 ^ 3 := by
    match j, (show j ≤ 3 by omega) with
    | 0, _ => decide
    | 1, _ => decide
    | 2, _ => decide
    | 3, _ => decide
  omega
theorem Rst.take_size (text : ByteArray) (σ : Rst) (k : Nat) : (σ.take text k).1.size ≤ k := by
  unfold Rst.take
  split
  · split
    · exact Nat.zero_le _
    · simp only [ByteArray.size_extract]; omega
  · exact Nat.zero_le _

set_option maxHeartbeats 1600000 in
theorem rdNumber {es em : Addr} {W : World} {b : Nat} {text : ByteArray} (G : Hid (Gl es em W)) (hsz : text.size ≤ 1048576) (σ : Rst) (k : Nat) (hk : k ≤ 4) (w : World) (R : Hid (Rd es em W b text σ w)) :
    Calls Tryd.prog 46 #[.pointer (some ⟨b, 0, none⟩), .int .i64 k] w fun e w' => e = .returned (.int .i64 (σ.number text k).1) ∧ Rd es em W b text (σ.number text k).2 w' ∧ Kpt b w w' := by
  have T := rdTake G hsz σ k (by omega) w R
  have hs4 := Rst.take_size text σ k
  simp only [Rst.number]
  generalize (σ.take text k).2 = σ' at T ⊢
  generalize (σ.take text k).1 = s at T hs4 ⊢
  have T' : Hid _ := T
  clear T
  have hcv := fun wx => Lib.run_convert_string_bytes (P := Tryd.prog) wx 9 22 5 s Tryd.underlying9 Tryd.underlying22 Tryd.underlying5
  go_enter Tryd.func46, Tryd.ntmps46
  go_wp2_with fail
  refine Calls.mono T'.out ?_
  rintro e w1 ⟨rfl, R1, K1⟩
  have hb1 : b < w1.heap.size := R1.box.lt
  have hbw := Joins.below_bytesWorld w1.heap.size w1 5 s (Nat.le_refl _)
  have H2 : Hid (Rd es em W b text σ' (Lib.bytesWorld w1 5 s) ∧ Kpt b w (Lib.bytesWorld w1 5 s)) :=
    ⟨⟨R1.bel.trans (hbw.mono R1.bel.size), R1.lo, R1.box.below hb1 hbw, R1.le⟩, K1.trans (Kpt.of_below hbw (Nat.le_refl _))⟩
  have hcell : Hid (∀ j, j < s.size → (Lib.bytesWorld w1 5 s).cell? ⟨w1.heap.size, j, none⟩ = some (.int .u8 (s.data.toList.getD j 0).toNat)) := fun j hj => Lib.bytesWorld_cell w1 5 s j hj
  clear R1 K1 hbw
  go_wp2
  generalize Lib.bytesWorld w1 5 s = w2 at H2 hcell ⊢
  generalize grownCap w1 s.size 0 5 = cp
  have Hl : Hid (s.data.toList.length = s.size) := by
    show s.data.toList.length = s.size
    rw [Array.length_toList]; rfl
  go_loop [5, 13] (fun n i => ∃ j : Nat, j ≤ s.size ∧ i = .int .i64 j ∧ n = .int .i64 (numOf (s.data.toList.take j))) (fun _ i => s.size - (intOf i).toNat)
  case atStart => exact ⟨0, Nat.zero_le _, rfl, rfl⟩
  case round =>
    obtain ⟨j, hj, rfl, rfl⟩ := hrel
    by_cases hlt : j < s.size
    · have c1 := hcell.out j hlt
      have hnext : Hid (numOf (s.data.toList.take (j + 1)) = numOf (s.data.toList.take j) * 256 + ((s.data.toList.getD j 0).toNat : Int)) := numOf_take _ j (by rw [Hl.out]; exact hlt)
      obtain ⟨n0, n1⟩ := numOf_small s.data.toList j (by rw [Hl.out]; omega) (by rw [Hl.out]; exact hlt)
      have hx := (s.data.toList.getD j 0).toNat_lt
      generalize (s.data.toList.getD j 0).toNat = x at c1 hnext hx
      generalize numOf (s.data.toList.take j) = n at hnext n0 n1 ⊢
      have hor := or_byte n x n0 (by omega) (by omega) (by omega)
      go_wp2
      go_round
      case rel => exact ⟨j + 1, by omega, by go_num, by rw [hnext.out]⟩
      case measure => simp [intOf]; omega
    · go_wp2
      go_ret
      have hjs : s.data.toList.take j = s.data.toList := List.take_of_length_le (by rw [Hl.out]; omega)
      rw [hjs]
      exact ⟨rfl, H2.out⟩
end Go.Proofs.YtddjflaceokoaaaDoor
