import Derived.Test.YtfkkmjejmflgjaaQ0SrPlain
import Derived.RegionTactic
import Derived.Test.YtfkkmjejmflgjaaRows
import Derived.WalkKit
import Derived.Test.YtfkkmjejmflgjaaQ1NdPlain
import Derived.Test.YtfkkmjejmflgjaaQ11Quiet
/-
  The walk of the laws' copy of a record (Purse). By the verifier, by program.
-/
namespace Go.Proofs.Ytfkkmjejmflgjaa
open Go.RowKit

set_option maxHeartbeats 1600000 in
theorem toPz (r : Pz) (w : World) :
    Calls Try.prog 54 #[r.val] w fun e w' => e = .returned r.val ∧ w' = ((w.alloc (.cells r.cells.toArray 62)).alloc (.cells r.cells.toArray 58)).alloc (.cells r.cells.toArray 58) := by
  unfold Pz.val Pz.cells
  obtain ⟨v0, v1, v2, v3⟩ := r
  simp only []
  go_enter Try.func54, Try.ntmps54
  go_wp2
  refine bodyPost_ret (v := .agg #[.int .i64 v0, .int .i64 v1, .int .i64 v2, .int .i64 v3]) (by simp [results, Try.results54, go_sem]) rfl ⟨rfl, rfl⟩
end Go.Proofs.Ytfkkmjejmflgjaa

/-
  The walk of the laws' copy of a Node. By the verifier, by program.
-/
namespace Go.Proofs.Ytfkkmjejmflgjaa
open Go.RowKit

set_option maxHeartbeats 1600000 in
set_option maxRecDepth 100000 in
theorem toNdB (r : Nd) (w : World) :
    Calls Try.prog 18 #[r.val] w fun e w' => e = .returned r.val ∧ Below w.heap.size w w' := by
  unfold Nd.val
  obtain ⟨v0, r⟩ := r
  have T := fun w => toPz r w
  unfold Pz.val Pz.cells at T
  obtain ⟨v1, v2, v3, v4⟩ := r
  simp only [] at T ⊢
  go_enter Try.func18, Try.ntmps18
  go_wp2_with fail
  refine (T _).mono ?_
  rintro e w1 ⟨rfl, hw⟩
  rw [hw]
  go_wp2
  refine bodyPost_ret (v := .agg #[.int .i64 v0, .int .i64 v1, .int .i64 v2, .int .i64 v3, .int .i64 v4]) (by simp [results, Try.results18, go_sem]) rfl ⟨rfl, ?_⟩
  exact ((((((Below.refl _ w).alloc (Nat.le_refl _) _).alloc (by simp) _).alloc (by simp; omega) _).alloc (by simp; omega) _).alloc (by simp; omega) _).alloc (by simp; omega) _
end Go.Proofs.Ytfkkmjejmflgjaa

/-
  The walk of the laws' comparison of two records (Purse) that are alike. By the verifier, by program.
-/
namespace Go.Proofs.Ytfkkmjejmflgjaa
open Go.RowKit

set_option maxHeartbeats 3200000 in
set_option maxRecDepth 100000 in
theorem eqPz (r : Pz) (w : World) :
    Calls Try.prog 66 #[r.val, r.val] w fun e w' => e = .returned (.bool true) ∧ Below w.heap.size w w' := by
  unfold Pz.val
  obtain ⟨v0, v1, v2, v3⟩ := r
  simp only []
  have H : Hid (Below w.heap.size w ((w.alloc (.cells #[.int .i64 v0, .int .i64 v1, .int .i64 v2, .int .i64 v3] 58)).alloc (.cells #[.int .i64 v0, .int .i64 v1, .int .i64 v2, .int .i64 v3] 58))) := ((Below.refl _ w).alloc (Nat.le_refl _) _).alloc (by simp) _
  go_enter Try.func66, Try.ntmps66
  go_wp2
  go_ret
  exact ⟨rfl, H.out⟩
end Go.Proofs.Ytfkkmjejmflgjaa

/-
  The walk of the laws' comparison of Nodes, where both hold the same. By the verifier, by program.
-/
namespace Go.Proofs.Ytfkkmjejmflgjaa
open Go.RowKit

set_option maxHeartbeats 1600000 in
set_option maxRecDepth 100000 in
theorem eqNd (r : Nd) (w : World) :
    Calls Try.prog 32 #[r.val, r.val] w fun e w' => e = .returned (.bool true) ∧ Below w.heap.size w w' := by
  unfold Nd.val
  obtain ⟨v0, r⟩ := r
  have T := fun w => eqPz r w
  unfold Pz.val at T
  obtain ⟨v1, v2, v3, v4⟩ := r
  simp only [] at T ⊢
  have H : Hid (Below w.heap.size w ((w.alloc (.cells #[.int .i64 v0, .int .i64 v1, .int .i64 v2, .int .i64 v3, .int .i64 v4] 60)).alloc (.cells #[.int .i64 v0, .int .i64 v1, .int .i64 v2, .int .i64 v3, .int .i64 v4] 60))) := ((Below.refl _ w).alloc (Nat.le_refl _) _).alloc (by simp) _
  go_enter Try.func32, Try.ntmps32
  go_wp2_with fail
  refine (T _).mono ?_
  rintro e w1 ⟨rfl, q⟩
  have H1 : Hid (Below w.heap.size w w1) := H.out.trans (q.mono H.out.size)
  clear H q
  go_wp2
  go_ret
  exact ⟨rfl, H1.out⟩
end Go.Proofs.Ytfkkmjejmflgjaa

/-
  The walks of the laws' copies of lists of records (Node), of their sizes, and of their comparisons where both hold the same. By the verifier, by program.
-/
namespace Go.Proofs.Ytfkkmjejmflgjaa
open Go.RowKit

set_option maxHeartbeats 3200000 in
set_option maxRecDepth 100000 in
theorem eqNds (a1 a2 : Option Addr) (cap1 cap2 : Nat) (l : List Nd) (w : World) (hT : l.length ≤ 1048576) (h1 : Hid (NdsAt w a1 l)) (h2 : Hid (NdsAt w a2 l)) :
    Calls Try.prog 11 #[.slice a1 l.length cap1, .slice a2 l.length cap2] w fun e w' => e = .returned (.bool true) ∧ Below w.heap.size w w' := by
  obtain ⟨len, hlen⟩ : ∃ n, l.length = n := ⟨_, rfl⟩
  rw [hlen] at hT ⊢
  have Hlen : Hid (l.length = len) := hlen
  clear hlen
  go_enter Try.func11, Try.ntmps11
  go_wp2
  go_loopw [5] (fun i wr => ∃ k : Nat, k ≤ len ∧ i = .int .i64 k ∧ Hid (Below w.heap.size w wr)) (fun i _ => len - (intOf i).toNat)
  case atStart => exact ⟨0, Nat.zero_le _, rfl, Below.refl _ _⟩
  case round =>
    obtain ⟨k, hk, rfl, hb⟩ := hrel
    by_cases hlt : k < len
    · have R1 : Hid (NdsAt wr a1 l) := h1.out.below hb.out
      have R2 : Hid (NdsAt wr a2 l) := h2.out.below hb.out
      obtain ⟨b1, o1, ha1, -⟩ := R1.out k (by rw [Hlen.out]; exact hlt)
      obtain ⟨b2, o2, ha2, -⟩ := R2.out k (by rw [Hlen.out]; exact hlt)
      subst ha1; subst ha2
      have F1 := fun p : BelW wr.heap.size wr => (R1.out.below p.h).cells (k := k) (by rw [Hlen.out]; exact hlt)
      have F2 := fun p : BelW wr.heap.size wr => (R2.out.below p.h).cells (k := k) (by rw [Hlen.out]; exact hlt)
      have E := fun w => eqNd (ndAt l k) w
      unfold Nd.val at E
      generalize ndAt l k = r at F1 F2 E
      have f1_0 := fun p => (F1 p).1
      have f1_1 := fun p => (F1 p).2.1
      have f1_2 := fun p => (F1 p).2.2.1
      have f1_3 := fun p => (F1 p).2.2.2.1
      have f1_4 := fun p => (F1 p).2.2.2.2
      have f2_0 := fun p => (F2 p).1
      have f2_1 := fun p => (F2 p).2.1
      have f2_2 := fun p => (F2 p).2.2.1
      have f2_3 := fun p => (F2 p).2.2.2.1
      have f2_4 := fun p => (F2 p).2.2.2.2
      clear F1 F2
      have hlt' : (k : Int) < (len : Int) := by omega
      go_wp2
      haveI : Nonempty (BelW wr.heap.size wr) := ⟨⟨wr, Below.refl _ _⟩⟩
      refine region_below wr.heap.size (by kernel_rfl) (by kernel_rfl) ?_
      repeat (quiet_step ((go_at_call 32; refine quiet_below (Nat.le_refl _) (E _))))
      refine wpQuiet_nil ?_
      intro wq hx
      have hq := BelW.out hx
      have B : Hid (Below w.heap.size w wq) := hb.out.trans (hq.mono hb.out.size)
      clear hx hq f1_0 f1_1 f1_2 f1_3 f1_4 f2_0 f2_1 f2_2 f2_3 f2_4
      go_wp2
      go_roundw
      case rel => exact ⟨k + 1, by omega, by go_num, B⟩
      case measure => simp [intOf]; omega
    · go_wp2
      go_ret
      exact ⟨rfl, hb.out⟩

set_option maxHeartbeats 3200000 in
set_option maxRecDepth 100000 in
theorem toNds (a : Option Addr) (cap : Nat) (l : List Nd) (w : World) (hT : l.length ≤ 1048576) (h : Hid (NdsAt w a l)) :
    Calls Try.prog 7 #[.slice a l.length cap] w fun e w' => ∃ g, e = .returned (.slice (some ⟨g, 0, none⟩) l.length l.length) ∧ NdRow w.heap.size w' (.slice (some ⟨g, 0, none⟩) l.length l.length) l ∧ Below w.heap.size w w' := by
  obtain ⟨i0, hi, hz0, hz1, hz2⟩ := info_parts ndInfo
  obtain ⟨len, hlen⟩ : ∃ n, l.length = n := ⟨_, rfl⟩
  unfold NdRow
  rw [hlen] at hT ⊢
  have Hlen : Hid (l.length = len) := hlen
  clear hlen
  have hmk : ∀ wx, (Instr.makeSlice 30 (.int .i64 (len : Int)) (.int .i64 (len : Int))).run Try.prog wx = .ok (.slice (some ⟨wx.heap.size, 0, none⟩) len len) (wx.alloc (.cells (madeCells #[.int .i64 0, .int .i64 0, .int .i64 0, .int .i64 0, .int .i64 0] (len * 5)) 60)) := by
    intro wx
    have := run_make (P := Try.prog) wx 30 60 i0 (.agg #[.int .i64 0, .int .i64 0, .int .i64 0, .int .i64 0, .int .i64 0]) Try.underlying30 hi hz0 .i64 .i64 len len (by omega) (by omega) (by rw [hz2]; omega) (by omega)
    rw [this, hz1]; simp [Value.cells]
  have H0 : Hid ((w.alloc (.cells (madeCells #[.int .i64 0, .int .i64 0, .int .i64 0, .int .i64 0, .int .i64 0] (len * 5)) 60)).ownsRow w.heap.size 60 5 (.slice (some ⟨w.heap.size, 0, none⟩) len len) len (ndcells (l.take 0 ++ List.replicate (len - 0) ⟨0, 0, 0, 0, 0⟩))) := by
    have := World.ownsRow_lit (size := 5) (e := 60) (base := w.heap.size) w (madeCells #[.int .i64 0, .int .i64 0, .int .i64 0, .int .i64 0, .int .i64 0] (len * 5)) len (Nat.le_refl _) (by unfold maxLen; omega) (by rw [size_madeCells])
    rw [ndMade] at this
    show World.ownsRow _ _ _ _ _ _ _
    simpa using this
  clear hi hz0 hz1 hz2
  go_enter Try.func7, Try.ntmps7
  go_wp2
  go_loopw [4] (fun i wr => ∃ k : Nat, k ≤ len ∧ i = .int .i64 k ∧ Hid (wr.ownsRow w.heap.size 60 5 (.slice (some ⟨w.heap.size, 0, none⟩) len len) len (ndcells (l.take k ++ List.replicate (len - k) ⟨0, 0, 0, 0, 0⟩)) ∧ Below w.heap.size w wr)) (fun i _ => len - (intOf i).toNat)
  case atStart => exact ⟨0, Nat.zero_le _, rfl, H0.out, (Below.refl _ _).alloc (Nat.le_refl _) _⟩
  case round =>
    clear H0 hmk
    obtain ⟨k, hk, rfl, H1⟩ := hrel
    by_cases hlt : k < len
    · have R : Hid (NdsAt wr a l) := h.out.below H1.out.2
      obtain ⟨b1, o1, ha1, hb1, -⟩ := R.out k (by rw [Hlen.out]; exact hlt)
      subst ha1
      obtain ⟨c0, c1, c2, c3, c4⟩ := R.out.cells (k := k) (by rw [Hlen.out]; exact hlt)
      have hts := ndTakeSet l len k Hlen.out hlt
      have T := fun w => toNdB (ndAt l k) w
      unfold Nd.val at T
      generalize ndAt l k = r at c0 c1 c2 c3 c4 hts T
      have Hts : Hid _ := hts
      clear hts
      go_wp2_with fail
      refine (T _).mono ?_
      rintro e w2 ⟨rfl, b2⟩
      have hsz : w.heap.size < wr.heap.size := (World.ownsRow.lt H1.out.1 _ rfl).2
      have H2 : Hid (w2.ownsRow w.heap.size 60 5 (.slice (some ⟨w.heap.size, 0, none⟩) len len) len (ndcells (l.take k ++ List.replicate (len - k) ⟨0, 0, 0, 0, 0⟩)) ∧ Below w.heap.size w w2) := by
        refine ⟨?_, H1.out.2.trans (b2.mono H1.out.2.size)⟩
        have hh := H1.out.1
        refine ⟨hh.1, hh.2.imp id ?_⟩
        rintro ⟨g0, cp, cur, h1, h2, h3, h4⟩
        cases h1
        exact ⟨_, _, cur, rfl, h2, by rw [b2.block _ hsz]; exact h3, h4⟩
      have hL : (ndcells (l.take k ++ List.replicate (len - k) ⟨0, 0, 0, 0, 0⟩)).length = len * 5 := by
        rw [ndcells_length]; have := Hlen.out; simp; omega
      have ex : ∀ j, j < len * 5 → ∃ v, w2.cell? ⟨w.heap.size, j, none⟩ = some v := by
        intro j hj
        rw [H2.out.1.cellAt j hj]
        exact ⟨_, List.getElem?_eq_getElem (by omega)⟩
      obtain ⟨y0, hy0⟩ := ex (k * 5) (by omega)
      obtain ⟨y1, hy1⟩ := ex (k * 5 + 1) (by omega)
      obtain ⟨y2, hy2⟩ := ex (k * 5 + 2) (by omega)
      obtain ⟨y3, hy3⟩ := ex (k * 5 + 3) (by omega)
      obtain ⟨y4, hy4⟩ := ex (k * 5 + 4) (by omega)
      have z0 := H2.out.1.frozenAt (k * 5)
      have z1 := H2.out.1.frozenAt (k * 5 + 1)
      have z2 := H2.out.1.frozenAt (k * 5 + 2)
      have z3 := H2.out.1.frozenAt (k * 5 + 3)
      have z4 := H2.out.1.frozenAt (k * 5 + 4)
      have H3 : Hid (_ ∧ Below w.heap.size w (((((w2.setCell ⟨w.heap.size, k * 5, none⟩ (.int .i64 r.up)).setCell ⟨w.heap.size, k * 5 + 1, none⟩ (.int .i64 r.pz.rate)).setCell ⟨w.heap.size, k * 5 + 2, none⟩ (.int .i64 r.pz.burst)).setCell ⟨w.heap.size, k * 5 + 3, none⟩ (.int .i64 r.pz.level)).setCell ⟨w.heap.size, k * 5 + 4, none⟩ (.int .i64 r.pz.tm))) := ⟨NdRow.put H2.out.1 k r, ((((H2.out.2.setCell (Nat.le_refl _) _).setCell (Nat.le_refl _) _).setCell (Nat.le_refl _) _).setCell (Nat.le_refl _) _).setCell (Nat.le_refl _) _⟩
      clear b2 hL ex H1 R H2
      go_wp2
      go_roundw
      case rel => exact ⟨k + 1, by omega, by go_num, by rw [← Hts.out]; exact H3.out⟩
      case measure => simp [intOf]; omega
    · obtain rfl : k = len := by omega
      go_wp2
      go_ret
      refine ⟨_, rfl, ?_, H1.out.2⟩
      have hh := H1.out.1
      rw [Nat.sub_self, List.take_of_length_le (by rw [Hlen.out]; omega)] at hh
      simpa using hh

theorem szNds (L : Int) (h0 : 0 ≤ L) (h1 : L ≤ 1048576) (a : Option Addr) (cap len : Nat) (w : World) (hl : (len : Int) ≤ 9223372036854775807) :
    Calls Try.prog 4 #[.slice a len cap, .int .i64 L] w fun e w' => e = .returned (.int .i64 (if L - len < 0 then -1 else L - len)) ∧ w' = w := by
  by_cases h : L - len < 0
  · rw [if_pos h]
    go_enter Try.func4, Try.ntmps4
    go_wp2
    go_ret
    exact ⟨rfl, rfl⟩
  · rw [if_neg h]
    go_enter Try.func4, Try.ntmps4
    go_wp2
    go_ret
    exact ⟨rfl, rfl⟩
end Go.Proofs.Ytfkkmjejmflgjaa
