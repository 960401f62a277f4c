import Derived.Test.YtfkkmjejmflgjaaQ2SsV
import Derived.Test.YtfkkmjejmflgjaaRows
import Derived.Laws.CopyRow
import Derived.Laws.IdiomCopy
import Derived.WalkKit
import Derived.Shelf.Bits.Mul64
import Derived.Test.YtfkkmjejmflgjaaProg
import Derived.Test.YtfkkmjejmflgjaaQ0SrPlain
import Derived.Test.YtfkkmjejmflgjaaQ9StepRow
import Derived.Laws.MakeOwn
import Derived.Laws.CopyOwn
import Derived.RegionTactic
import Derived.Deep.DeepCutAuto
import Derived.Test.YtfkkmjejmflgjaaQ32FwBlk
/-
  A list filled by copies of its own beginning: one copy. By the verifier.
-/
namespace Go.Proofs.Ytfkkmjejmflgjaa
open Go.RowKit

theorem flat3 {α : Type} (f : α → List Value) (h3 : ∀ a, (f a).length = 3) (l : List α) : (l.flatMap f).length = l.length * 3 := by
  induction l with
  | nil => rfl
  | cons x l ih => rw [List.flatMap_cons, List.length_append, h3, ih, List.length_cons]; omega
theorem flat1 {α : Type} (f : α → List Value) (a : α) (h1 : ∀ v ∈ f a, v.oneCell' = true) (k : Nat) : ∀ v ∈ (List.replicate k a).flatMap f, v.oneCell' = true := by
  intro v hv
  obtain ⟨b, hb, h⟩ := List.mem_flatMap.1 hv
  rw [(List.mem_replicate.1 hb).2] at h
  exact h1 v h
theorem repSplit {α : Type} (a : α) {m k : Nat} (h : k ≤ m) : List.replicate m a = List.replicate k a ++ List.replicate (m - k) a := by
  rw [List.replicate_append_replicate]; congr 1; omega
theorem rep_copy {α : Type} (f : α → List Value) (h3 : ∀ a, (f a).length = 3) (s e : TypeId) (i0 : TypeInfo) (hs : Try.prog.underlying s = some (.slice e)) (hi0 : Try.prog.info? e = some i0) (hz1 : i0.size = 3)
    (w : World) (ty : TypeId) (g m n : Nat) (a z : α) (h1 : ∀ v ∈ f a, v.oneCell' = true) (hm : m < n)
    (hg : w.heap[g]? = some (.cells ((List.replicate m a ++ List.replicate (n - m) z).flatMap f).toArray e (0, 0))) :
    (Builtin.copy_ #[s, s] ty #[.slice (some ⟨g, m * 3, none⟩) (n - m) (n - m), .slice (some ⟨g, 0, none⟩) m n]).run Try.prog w =
      .ok (.int .i64 ((min (n - m) m : Nat) : Int)) (w.setRow g ((List.replicate (m + min (n - m) m) a ++ List.replicate (n - (m + min (n - m) m)) z).flatMap f).toArray) := by
  obtain ⟨k, hk⟩ : ∃ k, min (n - m) m = k := ⟨_, rfl⟩
  have k1 : k ≤ m := by omega
  have k2 : k ≤ n - m := by omega
  have hsrc : ∀ j v, ((List.replicate k a).flatMap f)[j]? = some v → w.cell? ((⟨g, 0, none⟩ : Addr).add j) = some v := by
    intro j u hj
    have hl := (List.getElem?_eq_some_iff.1 hj).1
    rw [show (⟨g, 0, none⟩ : Addr).add j = ⟨g, j, none⟩ by by_cases h0 : j = 0 <;> simp [Addr.add, h0]]
    have e1 : (List.replicate m a ++ List.replicate (n - m) z).flatMap f = (List.replicate k a).flatMap f ++ (List.replicate (m - k) a ++ List.replicate (n - m) z).flatMap f := by
      rw [repSplit a k1, List.append_assoc, List.flatMap_append]
    rw [e1] at hg
    simp only [World.cell?, hg]
    simp only [List.getElem?_toArray]
    rw [List.getElem?_append_left hl]
    exact hj
  have hl := run_loadCells_list (P := Try.prog) w ⟨g, 0, none⟩ ((List.replicate k a).flatMap f) hsrc
  have hst := run_storeCells_at Try.prog g (m * 3) e ((List.replicate k a).flatMap f) 0 _ w hg (by simp only [List.size_toArray]; rw [flat3 f h3, flat3 f h3]; simp only [List.length_append, List.length_replicate]; omega) (flat1 f a h1 _)
  have e2 : ((((List.replicate m a ++ List.replicate (n - m) z).flatMap f).toArray.toList.take (m * 3 + 0) ++ (List.replicate k a).flatMap f ++ ((List.replicate m a ++ List.replicate (n - m) z).flatMap f).toArray.toList.drop (m * 3 + 0 + ((List.replicate k a).flatMap f).length)) : List Value) = (List.replicate (m + k) a ++ List.replicate (n - (m + k)) z).flatMap f := by
    have a1 : ((List.replicate m a).flatMap f).length = m * 3 := by rw [flat3 f h3, List.length_replicate]
    have a2 : ((List.replicate k z).flatMap f).length = k * 3 := by rw [flat3 f h3, List.length_replicate]
    have a3 : ((List.replicate k a).flatMap f).length = k * 3 := by rw [flat3 f h3, List.length_replicate]
    have e3 : List.replicate (n - m) z = List.replicate k z ++ List.replicate (n - (m + k)) z := by
      rw [repSplit z k2, show n - m - k = n - (m + k) by omega]
    have e4 : List.replicate (m + k) a = List.replicate m a ++ List.replicate k a := by rw [List.replicate_append_replicate]
    rw [a3, List.toList_toArray, e3, e4, Nat.add_zero, List.flatMap_append, List.flatMap_append, List.flatMap_append, List.flatMap_append, List.take_left' a1, ← List.append_assoc (List.flatMap f (List.replicate m a)), List.drop_left' (by rw [List.length_append, a1, a2])]
  rw [e2] at hst
  rw [flat3 f h3, List.length_replicate] at hl
  rw [hk]
  have hmin : Nat.min m (n - m) = k := by rw [← hk]; exact Nat.min_comm _ _
  simp [Builtin.copy_, run_underlying hs, Builtin.lenOf, Builtin.firstCells, sizeOf, typeInfo, hi0, hz1, hmin, hl, hst, -List.flatMap_append]
  rfl
theorem rep_first {α : Type} (f : α → List Value) (h3 : ∀ a, (f a).length = 3) (s e : TypeId) (i0 : TypeInfo) (hs : Try.prog.underlying s = some (.slice e)) (hi0 : Try.prog.info? e = some i0) (hz1 : i0.size = 3)
    (w : World) (ty : TypeId) (g b n : Nat) (a z : α) (h1 : ∀ v ∈ f a, v.oneCell' = true) (hn : 1 ≤ n)
    (hg : w.heap[g]? = some (.cells ((List.replicate n z).flatMap f).toArray e (0, 0))) (hsrc : ∀ j v, (f a)[j]? = some v → w.cell? ((⟨b, 0, none⟩ : Addr).add j) = some v) :
    (Builtin.copy_ #[s, s] ty #[.slice (some ⟨g, 0, none⟩) n n, .slice (some ⟨b, 0, none⟩) 1 1]).run Try.prog w =
      .ok (.int .i64 1) (w.setRow g ((List.replicate 1 a ++ List.replicate (n - 1) z).flatMap f).toArray) := by
  have hl := run_loadCells_list (P := Try.prog) w ⟨b, 0, none⟩ (f a) hsrc
  have hst := run_storeCells_at Try.prog g 0 e (f a) 0 _ w hg (by simp only [List.size_toArray]; rw [flat3 f h3, h3]; simp only [List.length_replicate]; omega) h1
  have e2 : ((((List.replicate n z).flatMap f).toArray.toList.take (0 + 0) ++ f a ++ ((List.replicate n z).flatMap f).toArray.toList.drop (0 + 0 + (f a).length)) : List Value) = (List.replicate 1 a ++ List.replicate (n - 1) z).flatMap f := by
    obtain ⟨k, rfl⟩ : ∃ k, n = k + 1 := ⟨n - 1, by omega⟩
    rw [List.toList_toArray, List.replicate_succ, List.flatMap_cons, Nat.add_zero, List.take_zero, List.nil_append, Nat.zero_add, List.drop_left' (by rw [h3, h3]), List.flatMap_append, Nat.add_sub_cancel]
    simp
  rw [e2] at hst
  rw [h3] at hl
  have hmin : Nat.min 1 n = 1 := Nat.min_eq_left hn
  simp [Builtin.copy_, run_underlying hs, Builtin.lenOf, Builtin.firstCells, sizeOf, typeInfo, hi0, hz1, hmin, hl, hst, -List.flatMap_append]
  rfl
end Go.Proofs.Ytfkkmjejmflgjaa

/-
  The library's contracts that the proof uses, laid at this translation. By the verifier, by program.
-/
namespace Go.Proofs
open Go.Shelf
open Go.RowKit Go.Lib in
def Try.lays212_ren : Go.Shelf.Ren := ⟨fun | 212 => 60 | 263 => 79 | 264 => 80 | n => n, fun | 46 => 97 | 51 => 118 | 146 => 119 | 53 => 121 | 148 => 122 | n => n, fun | n => n⟩
theorem Try.lays212 : Go.Proofs.Lays.n212 Try.prog Try.lays212_ren := {
  mixed := by kernel_rfl
  f212 := Try.func60.trans (congrArg some (by kernel_rfl))
  f263 := Try.func79.trans (congrArg some (by kernel_rfl))
  f264 := Try.func80.trans (congrArg some (by kernel_rfl))
  t46 := Try.underlying97
  a46 := Try.isAgg97
  z46 := Try.sizeOf97
  v46 := Try.zeroValue97
  t51 := Try.underlying118
  a51 := Try.isAgg118
  z51 := Try.sizeOf118
  v51 := Try.zeroValue118
  t53 := Try.underlying121
  a53 := Try.isAgg121
  z53 := Try.sizeOf121
  v53 := Try.zeroValue121
  t146 := Try.underlying119
  a146 := Try.isAgg119
  z146 := Try.sizeOf119
  v146 := Try.zeroValue119
  t148 := Try.underlying122
  a148 := Try.isAgg122
  z148 := Try.sizeOf122
  v148 := Try.zeroValue122 }
open Go.RowKit Go.Lib in
theorem Try.bits_Mul (x y : Nat) (hx : x < 18446744073709551616) (hy : y < 18446744073709551616) (w : World) :
    Calls Try.prog 60 #[.int .u64 x, .int .u64 y] w fun e w' => e = .returned (.tuple #[.int .u64 ((x * y / 18446744073709551616 : Nat) : Int), .int .u64 ((x * y % 18446744073709551616 : Nat) : Int)]) ∧ w' = w := Any.bits_Mul Try.lays212 x y hx hy w
end Go.Proofs

/-
  The walk of slices.Repeat at a list of one Steer. By the verifier, by program.
-/
namespace Go.Proofs.Ytfkkmjejmflgjaa
open Go.RowKit

set_option maxHeartbeats 3200000 in
set_option maxRecDepth 100000 in
theorem implRepSr (n : Nat) (hn1 : 1 ≤ n) (hn8 : n ≤ 8) (b : Nat) (a : Sr) (w : World) (hb : Hid (Boxed w b #[.int .i64 a.target, .int .i64 a.old, .int .i64 a.prob] 53)) :
    Calls Try.prog 24 #[.slice (some ⟨b, 0, none⟩) 1 1, .int .i64 (n : Int)] w fun e w' => (∃ g, e = .returned (.slice (some ⟨g, 0, none⟩) n n) ∧ w'.ownsRow w.heap.size 53 3 (.slice (some ⟨g, 0, none⟩) n n) n ((List.replicate n a).flatMap Sr.cells)) ∧ Below w.heap.size w w' := by
  have h3 : ∀ a : Sr, (Sr.cells a).length = 3 := fun _ => rfl
  obtain ⟨i0, hi, hz0, hz1, hz2⟩ := info_parts srInfo
  have hMul := fun w => Try.bits_Mul 1 n (by omega) (by omega) w
  rw [show 1 * n / 18446744073709551616 = 0 by omega, show 1 * n % 18446744073709551616 = n by omega] at hMul
  have M' : Hid _ := hMul
  clear hMul
  have hmk : ∀ wx, (Instr.makeSlice 34 (.int .i64 (n : Int)) (.int .i64 (n : Int))).run Try.prog wx = .ok (.slice (some ⟨wx.heap.size, 0, none⟩) n n) (wx.alloc (.cells (madeCells #[.int .i64 0, .int .i64 0, .int .i64 0] (n * 3)) 53)) := by
    intro wx
    have := run_make (P := Try.prog) wx 34 53 i0 (.agg #[.int .i64 0, .int .i64 0, .int .i64 0]) Try.underlying34 hi hz0 .i64 .i64 n n (by omega) (by omega) (by rw [hz2]; omega) (by omega)
    rw [this, hz1]; simp [Value.cells]
  obtain ⟨W1, hW1⟩ : ∃ W1, W1 = w.alloc (.cells (madeCells #[.int .i64 0, .int .i64 0, .int .i64 0] (n * 3)) 53) := ⟨_, rfl⟩
  have eM : madeCells #[.int .i64 0, .int .i64 0, .int .i64 0] (n * 3) = ((List.replicate n (⟨0, 0, 0⟩ : Sr)).flatMap Sr.cells).toArray := by
    have := srMade n
    apply Array.toList_inj.1
    rw [this, List.toList_toArray]
    rfl
  have hg1 : W1.heap[w.heap.size]? = some (.cells ((List.replicate n (⟨0, 0, 0⟩ : Sr)).flatMap Sr.cells).toArray 53 (0, 0)) := by
    rw [hW1, eM]
    show (w.heap.push _)[w.heap.size]? = _
    simp
  have bW : Below w.heap.size w W1 := by rw [hW1]; exact (Below.refl _ _).alloc (Nat.le_refl _) _
  have hx : ∀ j v, (Sr.cells a)[j]? = some v → W1.cell? ((⟨b, 0, none⟩ : Addr).add j) = some v := by
    intro j v hj
    have hj3 : j < 3 := by have := (List.getElem?_eq_some_iff.1 hj).1; rwa [h3] at this
    have bx := hb.out.below hb.out.under bW
    rw [show (⟨b, 0, none⟩ : Addr).add j = ⟨b, j, none⟩ by by_cases h0 : j = 0 <;> simp [Addr.add, h0]]
    exact bx.cell j (by simpa [Sr.cells] using hj)
  have hc0 := fun ty => rep_first Sr.cells h3 34 53 i0 Try.underlying34 hi hz1 W1 ty w.heap.size b n a (⟨0, 0, 0⟩ : Sr) (fun v hv => srcells_one [a] v (by simpa [srcells] using hv)) hn1 hg1 hx
  have HC : Hid (∀ (wr : World) ty m, m < n → wr.heap[w.heap.size]? = some (.cells ((List.replicate m a ++ List.replicate (n - m) (⟨0, 0, 0⟩ : Sr)).flatMap Sr.cells).toArray 53 (0, 0)) → _ = _) := fun wr ty m hm hg => rep_copy Sr.cells h3 34 53 i0 Try.underlying34 hi hz1 wr ty w.heap.size m n a (⟨0, 0, 0⟩ : Sr) (fun v hv => srcells_one [a] v (by simpa [srcells] using hv)) hm hg
  obtain ⟨W2, hW2⟩ : ∃ W2, W2 = W1.setRow w.heap.size ((List.replicate 1 a ++ List.replicate (n - 1) (⟨0, 0, 0⟩ : Sr)).flatMap Sr.cells).toArray := ⟨_, rfl⟩
  have X2 : Hid (W2.heap[w.heap.size]? = some (.cells ((List.replicate 1 a ++ List.replicate (n - 1) (⟨0, 0, 0⟩ : Sr)).flatMap Sr.cells).toArray 53 (0, 0)) ∧ Below w.heap.size w W2) := by
    rw [hW2]
    exact ⟨setRow_heap _ _ _ _ _ _ hg1, below_setRow bW (Nat.le_refl _) _⟩
  rw [← hW2] at hc0
  have hmk0 := hmk w
  rw [← hW1] at hmk0
  obtain ⟨B, hB⟩ : ∃ B, w.heap.size = B := ⟨_, rfl⟩
  rw [hB] at hmk0 hc0 HC X2 ⊢
  have Hn3 : Hid (∀ m, ((List.replicate m a).flatMap Sr.cells).length = m * 3) := fun m => by rw [flat3 _ h3, List.length_replicate]
  clear hmk hW1 hW2 hg1 bW hx eM hi hz0 hz1 hz2 hb h3
  have hnn : (0 : Int) ≤ (n : Int) := by omega
  go_enter Try.func24, Try.ntmps24
  go_wp2_with (go_at_call 60; refine (M'.out _).mono ?_; rintro e w' ⟨rfl, e2⟩; have e3 := e2.symm; subst e3; clear e2)
  clear hmk0 hc0 M'
  go_loopw [8] (fun i wr => ∃ m : Nat, 1 ≤ m ∧ m ≤ n ∧ i = .int .i64 m ∧ Hid (wr.heap[B]? = some (.cells ((List.replicate m a ++ List.replicate (n - m) (⟨0, 0, 0⟩ : Sr)).flatMap Sr.cells).toArray 53 (0, 0)) ∧ Below B w wr)) (fun i _ => n - (intOf i).toNat)
  case atStart => exact ⟨1, Nat.le_refl _, hn1, rfl, X2.out⟩
  case round =>
    obtain ⟨m, hm1, hmn, rfl, H⟩ := hrel
    clear X2
    by_cases hlt : m < n
    · have hc := fun ty => HC.out wr.drew ty m hlt H.out.1
      obtain ⟨k, hk⟩ : ∃ k, min (n - m) m = k := ⟨_, rfl⟩
      have hk1 : 1 ≤ k := by omega
      have hk2 : m + k ≤ n := by omega
      rw [hk] at hc
      obtain ⟨W3, hW3⟩ : ∃ W3, W3 = wr.drew.setRow B ((List.replicate (m + k) a ++ List.replicate (n - (m + k)) (⟨0, 0, 0⟩ : Sr)).flatMap Sr.cells).toArray := ⟨_, rfl⟩
      have X3 : Hid (W3.heap[B]? = some (.cells ((List.replicate (m + k) a ++ List.replicate (n - (m + k)) (⟨0, 0, 0⟩ : Sr)).flatMap Sr.cells).toArray 53 (0, 0)) ∧ Below B w W3) := by
        rw [hW3]
        exact ⟨setRow_heap wr.drew _ _ _ _ _ H.out.1, below_setRow H.out.2.drew (Nat.le_refl _) _⟩
      rw [← hW3] at hc
      have hlt' : (m : Int) < (n : Int) := by omega
      have hle' : (m : Int) ≤ (n : Int) := by omega
      have hne : ¬ n = m := by omega
      clear hW3 H hk HC
      go_wp2
      go_region
      go_wp2
      go_roundw
      case rel => exact ⟨m + k, by omega, hk2, by go_num, X3.out⟩
      case measure => simp [intOf]; omega
    · obtain rfl : m = n := by omega
      have R : Hid (wr.heap[B]? = some (.cells ((List.replicate m a).flatMap Sr.cells).toArray 53 (0, 0)) ∧ Below B w wr) := by
        have h := H.out
        rw [Nat.sub_self, List.replicate_zero, List.append_nil] at h
        exact h
      go_wp2
      go_ret
      refine ⟨⟨_, rfl, ?_⟩, R.out.2⟩
      refine ⟨Hn3.out m, .inr ⟨B, m, ((List.replicate m a).flatMap Sr.cells).toArray, rfl, Nat.le_refl _, R.out.1, Nat.le_refl _, by unfold maxLen; omega, by rw [List.size_toArray, Hn3.out], ?_⟩⟩
      rw [List.toList_toArray, ← Hn3.out m, List.take_length]
end Go.Proofs.Ytfkkmjejmflgjaa

/-
  The walk of slices.Repeat at a list of one Flow. By the verifier, by program.
-/
namespace Go.Proofs.Ytfkkmjejmflgjaa
open Go.RowKit

theorem repFw_one (a : Fwr) (ha : a.hd.oneCell' = true) : ∀ v ∈ Fwr.cells a, v.oneCell' = true := by
  intro v hv
  unfold Fwr.cells at hv
  rcases List.mem_cons.1 hv with rfl | hv
  · rfl
  rcases List.mem_cons.1 hv with rfl | hv
  · rfl
  rcases List.mem_cons.1 hv with rfl | hv
  · exact ha
  · cases hv

set_option maxHeartbeats 3200000 in
set_option maxRecDepth 100000 in
theorem implRepFw (n : Nat) (hn1 : 1 ≤ n) (hn8 : n ≤ 8) (b : Nat) (a : Fwr) (w : World) (ha : a.hd.oneCell' = true) (hb : Hid (Boxed w b #[.int .i64 a.weight, .int .i64 a.finish, a.hd] 55)) :
    Calls Try.prog 25 #[.slice (some ⟨b, 0, none⟩) 1 1, .int .i64 (n : Int)] w fun e w' => (∃ g, e = .returned (.slice (some ⟨g, 0, none⟩) n n) ∧ w'.ownsRow w.heap.size 55 3 (.slice (some ⟨g, 0, none⟩) n n) n ((List.replicate n a).flatMap Fwr.cells)) ∧ Below w.heap.size w w' := by
  have h3 : ∀ a : Fwr, (Fwr.cells a).length = 3 := fun _ => rfl
  obtain ⟨i0, hi, hz0, hz1, hz2⟩ := info_parts fwInfo
  have hMul := fun w => Try.bits_Mul 1 n (by omega) (by omega) w
  rw [show 1 * n / 18446744073709551616 = 0 by omega, show 1 * n % 18446744073709551616 = n by omega] at hMul
  have M' : Hid _ := hMul
  clear hMul
  have hmk : ∀ wx, (Instr.makeSlice 35 (.int .i64 (n : Int)) (.int .i64 (n : Int))).run Try.prog wx = .ok (.slice (some ⟨wx.heap.size, 0, none⟩) n n) (wx.alloc (.cells (madeCells #[.int .i64 0, .int .i64 0, .slice none 0 0] (n * 3)) 55)) := by
    intro wx
    have := run_make (P := Try.prog) wx 35 55 i0 (.agg #[.int .i64 0, .int .i64 0, .slice none 0 0]) Try.underlying35 hi hz0 .i64 .i64 n n (by omega) (by omega) (by rw [hz2]; omega) (by omega)
    rw [this, hz1]; simp [Value.cells]
  obtain ⟨W1, hW1⟩ : ∃ W1, W1 = w.alloc (.cells (madeCells #[.int .i64 0, .int .i64 0, .slice none 0 0] (n * 3)) 55) := ⟨_, rfl⟩
  have eM : madeCells #[.int .i64 0, .int .i64 0, .slice none 0 0] (n * 3) = ((List.replicate n (⟨0, 0, .slice none 0 0⟩ : Fwr)).flatMap Fwr.cells).toArray := by
    have := fwMade n
    apply Array.toList_inj.1
    rw [this, List.toList_toArray]
    rfl
  have hg1 : W1.heap[w.heap.size]? = some (.cells ((List.replicate n (⟨0, 0, .slice none 0 0⟩ : Fwr)).flatMap Fwr.cells).toArray 55 (0, 0)) := by
    rw [hW1, eM]
    show (w.heap.push _)[w.heap.size]? = _
    simp
  have bW : Below w.heap.size w W1 := by rw [hW1]; exact (Below.refl _ _).alloc (Nat.le_refl _) _
  have hx : ∀ j v, (Fwr.cells a)[j]? = some v → W1.cell? ((⟨b, 0, none⟩ : Addr).add j) = some v := by
    intro j v hj
    have hj3 : j < 3 := by have := (List.getElem?_eq_some_iff.1 hj).1; rwa [h3] at this
    have bx := hb.out.below hb.out.under bW
    rw [show (⟨b, 0, none⟩ : Addr).add j = ⟨b, j, none⟩ by by_cases h0 : j = 0 <;> simp [Addr.add, h0]]
    exact bx.cell j (by simpa [Fwr.cells] using hj)
  have hc0 := fun ty => rep_first Fwr.cells h3 35 55 i0 Try.underlying35 hi hz1 W1 ty w.heap.size b n a (⟨0, 0, .slice none 0 0⟩ : Fwr) (repFw_one a ha) hn1 hg1 hx
  have HC : Hid (∀ (wr : World) ty m, m < n → wr.heap[w.heap.size]? = some (.cells ((List.replicate m a ++ List.replicate (n - m) (⟨0, 0, .slice none 0 0⟩ : Fwr)).flatMap Fwr.cells).toArray 55 (0, 0)) → _ = _) := fun wr ty m hm hg => rep_copy Fwr.cells h3 35 55 i0 Try.underlying35 hi hz1 wr ty w.heap.size m n a (⟨0, 0, .slice none 0 0⟩ : Fwr) (repFw_one a ha) hm hg
  obtain ⟨W2, hW2⟩ : ∃ W2, W2 = W1.setRow w.heap.size ((List.replicate 1 a ++ List.replicate (n - 1) (⟨0, 0, .slice none 0 0⟩ : Fwr)).flatMap Fwr.cells).toArray := ⟨_, rfl⟩
  have X2 : Hid (W2.heap[w.heap.size]? = some (.cells ((List.replicate 1 a ++ List.replicate (n - 1) (⟨0, 0, .slice none 0 0⟩ : Fwr)).flatMap Fwr.cells).toArray 55 (0, 0)) ∧ Below w.heap.size w W2) := by
    rw [hW2]
    exact ⟨setRow_heap _ _ _ _ _ _ hg1, below_setRow bW (Nat.le_refl _) _⟩
  rw [← hW2] at hc0
  have hmk0 := hmk w
  rw [← hW1] at hmk0
  obtain ⟨B, hB⟩ : ∃ B, w.heap.size = B := ⟨_, rfl⟩
  rw [hB] at hmk0 hc0 HC X2 ⊢
  have Hn3 : Hid (∀ m, ((List.replicate m a).flatMap Fwr.cells).length = m * 3) := fun m => by rw [flat3 _ h3, List.length_replicate]
  clear hmk hW1 hW2 hg1 bW hx eM hi hz0 hz1 hz2 hb h3
  have hnn : (0 : Int) ≤ (n : Int) := by omega
  go_enter Try.func25, Try.ntmps25
  go_wp2_with (go_at_call 60; refine (M'.out _).mono ?_; rintro e w' ⟨rfl, e2⟩; have e3 := e2.symm; subst e3; clear e2)
  clear hmk0 hc0 M'
  go_loopw [8] (fun i wr => ∃ m : Nat, 1 ≤ m ∧ m ≤ n ∧ i = .int .i64 m ∧ Hid (wr.heap[B]? = some (.cells ((List.replicate m a ++ List.replicate (n - m) (⟨0, 0, .slice none 0 0⟩ : Fwr)).flatMap Fwr.cells).toArray 55 (0, 0)) ∧ Below B w wr)) (fun i _ => n - (intOf i).toNat)
  case atStart => exact ⟨1, Nat.le_refl _, hn1, rfl, X2.out⟩
  case round =>
    obtain ⟨m, hm1, hmn, rfl, H⟩ := hrel
    clear X2
    by_cases hlt : m < n
    · have hc := fun ty => HC.out wr.drew ty m hlt H.out.1
      obtain ⟨k, hk⟩ : ∃ k, min (n - m) m = k := ⟨_, rfl⟩
      have hk1 : 1 ≤ k := by omega
      have hk2 : m + k ≤ n := by omega
      rw [hk] at hc
      obtain ⟨W3, hW3⟩ : ∃ W3, W3 = wr.drew.setRow B ((List.replicate (m + k) a ++ List.replicate (n - (m + k)) (⟨0, 0, .slice none 0 0⟩ : Fwr)).flatMap Fwr.cells).toArray := ⟨_, rfl⟩
      have X3 : Hid (W3.heap[B]? = some (.cells ((List.replicate (m + k) a ++ List.replicate (n - (m + k)) (⟨0, 0, .slice none 0 0⟩ : Fwr)).flatMap Fwr.cells).toArray 55 (0, 0)) ∧ Below B w W3) := by
        rw [hW3]
        exact ⟨setRow_heap wr.drew _ _ _ _ _ H.out.1, below_setRow H.out.2.drew (Nat.le_refl _) _⟩
      rw [← hW3] at hc
      have hlt' : (m : Int) < (n : Int) := by omega
      have hle' : (m : Int) ≤ (n : Int) := by omega
      have hne : ¬ n = m := by omega
      clear hW3 H hk HC
      go_wp2
      go_region
      go_wp2
      go_roundw
      case rel => exact ⟨m + k, by omega, hk2, by go_num, X3.out⟩
      case measure => simp [intOf]; omega
    · obtain rfl : m = n := by omega
      have R : Hid (wr.heap[B]? = some (.cells ((List.replicate m a).flatMap Fwr.cells).toArray 55 (0, 0)) ∧ Below B w wr) := by
        have h := H.out
        rw [Nat.sub_self, List.replicate_zero, List.append_nil] at h
        exact h
      go_wp2
      go_ret
      refine ⟨⟨_, rfl, ?_⟩, R.out.2⟩
      refine ⟨Hn3.out m, .inr ⟨B, m, ((List.replicate m a).flatMap Fwr.cells).toArray, rfl, Nat.le_refl _, R.out.1, Nat.le_refl _, by unfold maxLen; omega, by rw [List.size_toArray, Hn3.out], ?_⟩⟩
      rw [List.toList_toArray, ← Hn3.out m, List.take_length]
end Go.Proofs.Ytfkkmjejmflgjaa
