import Derived.Test.YtaojbmhodpffiaaGreatK6NdPlain
import Derived.RegionTactic
import Derived.Test.YtaojbmhodpffiaaGreatRows
import Derived.WalkKit
import Derived.Test.YtaojbmhodpffiaaGreatK2NumIn
import Derived.Test.YtaojbmhodpffiaaGreatK10Quiet
import Derived.Test.YtaojbmhodpffiaaGreatK34FwMark
import Derived.Test.YtaojbmhodpffiaaGreatK8GtSpot
import Derived.Test.YtaojbmhodpffiaaGreatK3IntRow
import Derived.Laws.MakeOwn
import Derived.Test.YtaojbmhodpffiaaGreatK4FsPlain
import Derived.Test.YtaojbmhodpffiaaGreatK1Boxed
import Derived.BigQuiet
import Derived.Test.YtaojbmhodpffiaaGreatK37FwBlk
import Derived.Test.YtaojbmhodpffiaaGreatK9StepRow
import Derived.Laws.ResultCell
import Derived.Laws.CopyOwn
import Derived.Test.YtaojbmhodpffiaaGreatK35RwStr
/-
  The walk of the laws' copy of a record (Purse). By the verifier, by program.
-/
namespace Go.Proofs.YtaojbmhodpffiaaGreat
open Go.RowKit

set_option maxHeartbeats 1600000 in
theorem toPz (r : Pz) (w : World) :
    Calls Tryz.prog 137 #[r.val] w fun e w' => e = .returned r.val ∧ w' = ((w.alloc (.cells r.cells.toArray 140)).alloc (.cells r.cells.toArray 132)).alloc (.cells r.cells.toArray 132) := by
  unfold Pz.val Pz.cells
  obtain ⟨v0, v1, v2, v3⟩ := r
  simp only []
  go_enter Tryz.func137, Tryz.ntmps137
  go_wp2
  refine bodyPost_ret (v := .agg #[.int .i64 v0, .int .i64 v1, .int .i64 v2, .int .i64 v3]) (by simp [results, Tryz.results137, go_sem]) rfl ⟨rfl, rfl⟩
end Go.Proofs.YtaojbmhodpffiaaGreat

/-
  The walk of the laws' copy of a Node. By the verifier, by program.
-/
namespace Go.Proofs.YtaojbmhodpffiaaGreat
open Go.RowKit

set_option maxHeartbeats 1600000 in
set_option maxRecDepth 100000 in
theorem toNdB (r : Nd) (w : World) :
    Calls Tryz.prog 91 #[r.val] w fun e w' => e = .returned r.val ∧ Below w.heap.size w w' := by
  unfold Nd.val
  obtain ⟨v0, r⟩ := r
  have T := fun w => toPz r w
  unfold Pz.val Pz.cells at T
  obtain ⟨v1, v2, v3, v4⟩ := r
  simp only [] at T ⊢
  go_enter Tryz.func91, Tryz.ntmps91
  go_wp2_with fail
  refine (T _).mono ?_
  rintro e w1 ⟨rfl, hw⟩
  rw [hw]
  go_wp2
  refine bodyPost_ret (v := .agg #[.int .i64 v0, .int .i64 v1, .int .i64 v2, .int .i64 v3, .int .i64 v4]) (by simp [results, Tryz.results91, go_sem]) rfl ⟨rfl, ?_⟩
  exact ((((((Below.refl _ w).alloc (Nat.le_refl _) _).alloc (by simp) _).alloc (by simp; omega) _).alloc (by simp; omega) _).alloc (by simp; omega) _).alloc (by simp; omega) _
end Go.Proofs.YtaojbmhodpffiaaGreat

/-
  The walk of the laws' comparison of two records (Purse) that are alike. By the verifier, by program.
-/
namespace Go.Proofs.YtaojbmhodpffiaaGreat
open Go.RowKit

set_option maxHeartbeats 3200000 in
set_option maxRecDepth 100000 in
theorem eqPz (r : Pz) (w : World) :
    Calls Tryz.prog 154 #[r.val, r.val] w fun e w' => e = .returned (.bool true) ∧ Below w.heap.size w w' := by
  unfold Pz.val
  obtain ⟨v0, v1, v2, v3⟩ := r
  simp only []
  have H : Hid (Below w.heap.size w ((w.alloc (.cells #[.int .i64 v0, .int .i64 v1, .int .i64 v2, .int .i64 v3] 132)).alloc (.cells #[.int .i64 v0, .int .i64 v1, .int .i64 v2, .int .i64 v3] 132))) := ((Below.refl _ w).alloc (Nat.le_refl _) _).alloc (by simp) _
  go_enter Tryz.func154, Tryz.ntmps154
  go_wp2
  go_ret
  exact ⟨rfl, H.out⟩
end Go.Proofs.YtaojbmhodpffiaaGreat

/-
  The walk of the laws' comparison of Nodes, where both hold the same. By the verifier, by program.
-/
namespace Go.Proofs.YtaojbmhodpffiaaGreat
open Go.RowKit

set_option maxHeartbeats 1600000 in
set_option maxRecDepth 100000 in
theorem eqNd (r : Nd) (w : World) :
    Calls Tryz.prog 111 #[r.val, r.val] w fun e w' => e = .returned (.bool true) ∧ Below w.heap.size w w' := by
  unfold Nd.val
  obtain ⟨v0, r⟩ := r
  have T := fun w => eqPz r w
  unfold Pz.val at T
  obtain ⟨v1, v2, v3, v4⟩ := r
  simp only [] at T ⊢
  have H : Hid (Below w.heap.size w ((w.alloc (.cells #[.int .i64 v0, .int .i64 v1, .int .i64 v2, .int .i64 v3, .int .i64 v4] 134)).alloc (.cells #[.int .i64 v0, .int .i64 v1, .int .i64 v2, .int .i64 v3, .int .i64 v4] 134))) := ((Below.refl _ w).alloc (Nat.le_refl _) _).alloc (by simp) _
  go_enter Tryz.func111, Tryz.ntmps111
  go_wp2_with fail
  refine (T _).mono ?_
  rintro e w1 ⟨rfl, q⟩
  have H1 : Hid (Below w.heap.size w w1) := H.out.trans (q.mono H.out.size)
  clear H q
  go_wp2
  go_ret
  exact ⟨rfl, H1.out⟩
end Go.Proofs.YtaojbmhodpffiaaGreat

/-
  The walks of the laws' copies of lists of records (Node), of their sizes, and of their comparisons where both hold the same. By the verifier, by program.
-/
namespace Go.Proofs.YtaojbmhodpffiaaGreat
open Go.RowKit

set_option maxHeartbeats 3200000 in
set_option maxRecDepth 100000 in
theorem eqNds (a1 a2 : Option Addr) (cap1 cap2 : Nat) (l : List Nd) (w : World) (hT : l.length ≤ 1048576) (h1 : Hid (NdsAt w a1 l)) (h2 : Hid (NdsAt w a2 l)) :
    Calls Tryz.prog 51 #[.slice a1 l.length cap1, .slice a2 l.length cap2] w fun e w' => e = .returned (.bool true) ∧ Below w.heap.size w w' := by
  obtain ⟨len, hlen⟩ : ∃ n, l.length = n := ⟨_, rfl⟩
  rw [hlen] at hT ⊢
  have Hlen : Hid (l.length = len) := hlen
  clear hlen
  go_enter Tryz.func51, Tryz.ntmps51
  go_wp2
  go_loopw [5] (fun i wr => ∃ k : Nat, k ≤ len ∧ i = .int .i64 k ∧ Hid (Below w.heap.size w wr)) (fun i _ => len - (intOf i).toNat)
  case atStart => exact ⟨0, Nat.zero_le _, rfl, Below.refl _ _⟩
  case round =>
    obtain ⟨k, hk, rfl, hb⟩ := hrel
    by_cases hlt : k < len
    · have R1 : Hid (NdsAt wr a1 l) := h1.out.below hb.out
      have R2 : Hid (NdsAt wr a2 l) := h2.out.below hb.out
      obtain ⟨b1, o1, ha1, -⟩ := R1.out k (by rw [Hlen.out]; exact hlt)
      obtain ⟨b2, o2, ha2, -⟩ := R2.out k (by rw [Hlen.out]; exact hlt)
      subst ha1; subst ha2
      have F1 := fun p : BelW wr.heap.size wr => (R1.out.below p.h).cells (k := k) (by rw [Hlen.out]; exact hlt)
      have F2 := fun p : BelW wr.heap.size wr => (R2.out.below p.h).cells (k := k) (by rw [Hlen.out]; exact hlt)
      have E := fun w => eqNd (ndAt l k) w
      unfold Nd.val at E
      generalize ndAt l k = r at F1 F2 E
      have f1_0 := fun p => (F1 p).1
      have f1_1 := fun p => (F1 p).2.1
      have f1_2 := fun p => (F1 p).2.2.1
      have f1_3 := fun p => (F1 p).2.2.2.1
      have f1_4 := fun p => (F1 p).2.2.2.2
      have f2_0 := fun p => (F2 p).1
      have f2_1 := fun p => (F2 p).2.1
      have f2_2 := fun p => (F2 p).2.2.1
      have f2_3 := fun p => (F2 p).2.2.2.1
      have f2_4 := fun p => (F2 p).2.2.2.2
      clear F1 F2
      have hlt' : (k : Int) < (len : Int) := by omega
      go_wp2
      haveI : Nonempty (BelW wr.heap.size wr) := ⟨⟨wr, Below.refl _ _⟩⟩
      refine region_below wr.heap.size (by kernel_rfl) (by kernel_rfl) ?_
      repeat (quiet_step ((go_at_call 111; refine quiet_below (Nat.le_refl _) (E _))))
      refine wpQuiet_nil ?_
      intro wq hx
      have hq := BelW.out hx
      have B : Hid (Below w.heap.size w wq) := hb.out.trans (hq.mono hb.out.size)
      clear hx hq f1_0 f1_1 f1_2 f1_3 f1_4 f2_0 f2_1 f2_2 f2_3 f2_4
      go_wp2
      go_roundw
      case rel => exact ⟨k + 1, by omega, by go_num, B⟩
      case measure => simp [intOf]; omega
    · go_wp2
      go_ret
      exact ⟨rfl, hb.out⟩

set_option maxHeartbeats 3200000 in
set_option maxRecDepth 100000 in
theorem toNds (a : Option Addr) (cap : Nat) (l : List Nd) (w : World) (hT : l.length ≤ 1048576) (h : Hid (NdsAt w a l)) :
    Calls Tryz.prog 40 #[.slice a l.length cap] w fun e w' => ∃ g, e = .returned (.slice (some ⟨g, 0, none⟩) l.length l.length) ∧ NdRow w.heap.size w' (.slice (some ⟨g, 0, none⟩) l.length l.length) l ∧ Below w.heap.size w w' := by
  obtain ⟨i0, hi, hz0, hz1, hz2⟩ := info_parts ndInfo
  obtain ⟨len, hlen⟩ : ∃ n, l.length = n := ⟨_, rfl⟩
  unfold NdRow
  rw [hlen] at hT ⊢
  have Hlen : Hid (l.length = len) := hlen
  clear hlen
  have hmk : ∀ wx, (Instr.makeSlice 42 (.int .i64 (len : Int)) (.int .i64 (len : Int))).run Tryz.prog wx = .ok (.slice (some ⟨wx.heap.size, 0, none⟩) len len) (wx.alloc (.cells (madeCells #[.int .i64 0, .int .i64 0, .int .i64 0, .int .i64 0, .int .i64 0] (len * 5)) 134)) := by
    intro wx
    have := run_make (P := Tryz.prog) wx 42 134 i0 (.agg #[.int .i64 0, .int .i64 0, .int .i64 0, .int .i64 0, .int .i64 0]) Tryz.underlying42 hi hz0 .i64 .i64 len len (by omega) (by omega) (by rw [hz2]; omega) (by omega)
    rw [this, hz1]; simp [Value.cells]
  have H0 : Hid ((w.alloc (.cells (madeCells #[.int .i64 0, .int .i64 0, .int .i64 0, .int .i64 0, .int .i64 0] (len * 5)) 134)).ownsRow w.heap.size 134 5 (.slice (some ⟨w.heap.size, 0, none⟩) len len) len (ndcells (l.take 0 ++ List.replicate (len - 0) ⟨0, 0, 0, 0, 0⟩))) := by
    have := World.ownsRow_lit (size := 5) (e := 134) (base := w.heap.size) w (madeCells #[.int .i64 0, .int .i64 0, .int .i64 0, .int .i64 0, .int .i64 0] (len * 5)) len (Nat.le_refl _) (by unfold maxLen; omega) (by rw [size_madeCells])
    rw [ndMade] at this
    show World.ownsRow _ _ _ _ _ _ _
    simpa using this
  clear hi hz0 hz1 hz2
  go_enter Tryz.func40, Tryz.ntmps40
  go_wp2
  go_loopw [4] (fun i wr => ∃ k : Nat, k ≤ len ∧ i = .int .i64 k ∧ Hid (wr.ownsRow w.heap.size 134 5 (.slice (some ⟨w.heap.size, 0, none⟩) len len) len (ndcells (l.take k ++ List.replicate (len - k) ⟨0, 0, 0, 0, 0⟩)) ∧ Below w.heap.size w wr)) (fun i _ => len - (intOf i).toNat)
  case atStart => exact ⟨0, Nat.zero_le _, rfl, H0.out, (Below.refl _ _).alloc (Nat.le_refl _) _⟩
  case round =>
    clear H0 hmk
    obtain ⟨k, hk, rfl, H1⟩ := hrel
    by_cases hlt : k < len
    · have R : Hid (NdsAt wr a l) := h.out.below H1.out.2
      obtain ⟨b1, o1, ha1, hb1, -⟩ := R.out k (by rw [Hlen.out]; exact hlt)
      subst ha1
      obtain ⟨c0, c1, c2, c3, c4⟩ := R.out.cells (k := k) (by rw [Hlen.out]; exact hlt)
      have hts := ndTakeSet l len k Hlen.out hlt
      have T := fun w => toNdB (ndAt l k) w
      unfold Nd.val at T
      generalize ndAt l k = r at c0 c1 c2 c3 c4 hts T
      have Hts : Hid _ := hts
      clear hts
      go_wp2_with fail
      refine (T _).mono ?_
      rintro e w2 ⟨rfl, b2⟩
      have hsz : w.heap.size < wr.heap.size := (World.ownsRow.lt H1.out.1 _ rfl).2
      have H2 : Hid (w2.ownsRow w.heap.size 134 5 (.slice (some ⟨w.heap.size, 0, none⟩) len len) len (ndcells (l.take k ++ List.replicate (len - k) ⟨0, 0, 0, 0, 0⟩)) ∧ Below w.heap.size w w2) := by
        refine ⟨?_, H1.out.2.trans (b2.mono H1.out.2.size)⟩
        have hh := H1.out.1
        refine ⟨hh.1, hh.2.imp id ?_⟩
        rintro ⟨g0, cp, cur, h1, h2, h3, h4⟩
        cases h1
        exact ⟨_, _, cur, rfl, h2, by rw [b2.block _ hsz]; exact h3, h4⟩
      have hL : (ndcells (l.take k ++ List.replicate (len - k) ⟨0, 0, 0, 0, 0⟩)).length = len * 5 := by
        rw [ndcells_length]; have := Hlen.out; simp; omega
      have ex : ∀ j, j < len * 5 → ∃ v, w2.cell? ⟨w.heap.size, j, none⟩ = some v := by
        intro j hj
        rw [H2.out.1.cellAt j hj]
        exact ⟨_, List.getElem?_eq_getElem (by omega)⟩
      obtain ⟨y0, hy0⟩ := ex (k * 5) (by omega)
      obtain ⟨y1, hy1⟩ := ex (k * 5 + 1) (by omega)
      obtain ⟨y2, hy2⟩ := ex (k * 5 + 2) (by omega)
      obtain ⟨y3, hy3⟩ := ex (k * 5 + 3) (by omega)
      obtain ⟨y4, hy4⟩ := ex (k * 5 + 4) (by omega)
      have z0 := H2.out.1.frozenAt (k * 5)
      have z1 := H2.out.1.frozenAt (k * 5 + 1)
      have z2 := H2.out.1.frozenAt (k * 5 + 2)
      have z3 := H2.out.1.frozenAt (k * 5 + 3)
      have z4 := H2.out.1.frozenAt (k * 5 + 4)
      have H3 : Hid (_ ∧ Below w.heap.size w (((((w2.setCell ⟨w.heap.size, k * 5, none⟩ (.int .i64 r.up)).setCell ⟨w.heap.size, k * 5 + 1, none⟩ (.int .i64 r.pz.rate)).setCell ⟨w.heap.size, k * 5 + 2, none⟩ (.int .i64 r.pz.burst)).setCell ⟨w.heap.size, k * 5 + 3, none⟩ (.int .i64 r.pz.level)).setCell ⟨w.heap.size, k * 5 + 4, none⟩ (.int .i64 r.pz.tm))) := ⟨NdRow.put H2.out.1 k r, ((((H2.out.2.setCell (Nat.le_refl _) _).setCell (Nat.le_refl _) _).setCell (Nat.le_refl _) _).setCell (Nat.le_refl _) _).setCell (Nat.le_refl _) _⟩
      clear b2 hL ex H1 R H2
      go_wp2
      go_roundw
      case rel => exact ⟨k + 1, by omega, by go_num, by rw [← Hts.out]; exact H3.out⟩
      case measure => simp [intOf]; omega
    · obtain rfl : k = len := by omega
      go_wp2
      go_ret
      refine ⟨_, rfl, ?_, H1.out.2⟩
      have hh := H1.out.1
      rw [Nat.sub_self, List.take_of_length_le (by rw [Hlen.out]; omega)] at hh
      simpa using hh

theorem szNds (L : Int) (h0 : 0 ≤ L) (h1 : L ≤ 1048576) (a : Option Addr) (cap len : Nat) (w : World) (hl : (len : Int) ≤ 9223372036854775807) :
    Calls Tryz.prog 25 #[.slice a len cap, .int .i64 L] w fun e w' => e = .returned (.int .i64 (if L - len < 0 then -1 else L - len)) ∧ w' = w := by
  by_cases h : L - len < 0
  · rw [if_pos h]
    go_enter Tryz.func25, Tryz.ntmps25
    go_wp2
    go_ret
    exact ⟨rfl, rfl⟩
  · rw [if_neg h]
    go_enter Tryz.func25, Tryz.ntmps25
    go_wp2
    go_ret
    exact ⟨rfl, rfl⟩
end Go.Proofs.YtaojbmhodpffiaaGreat

/-
  What the laws do to see whose memory a list of records (Node) is: numbers put into it and looked for again. By the verifier, by program.
-/
namespace Go.Proofs.YtaojbmhodpffiaaGreat
open Go.RowKit

def ndMkF (s : Int) (i : Nat) : Nd := ⟨s + 5 * (i : Int), s + 5 * (i : Int) + 1, s + 5 * (i : Int) + 2, s + 5 * (i : Int) + 3, s + 5 * (i : Int) + 4⟩
def ndMksF (s : Int) (L : List Nd) (j : Nat) : List Nd := (List.range j).map (ndMkF s) ++ L.drop j
theorem ndMksF_length (s : Int) (L : List Nd) (j : Nat) (h : j ≤ L.length) : (ndMksF s L j).length = L.length := by simp [ndMksF]; omega
theorem ndMksF_zero (s : Int) (L : List Nd) : ndMksF s L 0 = L := by simp [ndMksF]
theorem ndMksF_step (s : Int) (L : List Nd) (j : Nat) (h : j < L.length) : (ndMksF s L j).set j (ndMkF s j) = ndMksF s L (j + 1) := by
  unfold ndMksF
  rw [List.set_append_right _ _ (by simp), List.range_succ, List.map_append]
  simp
  rw [List.drop_eq_getElem_cons h]
  rfl
theorem ndMksF_end (s : Int) (L : List Nd) (j : Nat) (hj : j < L.length) : ndAt (ndMksF s L L.length) j = ndMkF s j := by
  have : j < L.length := hj
  simp [ndMksF, ndAt, this]
end Go.Proofs.YtaojbmhodpffiaaGreat

/-
  The numbers that were put into a list of records (Node), looked for again. By the verifier, by program.
-/
namespace Go.Proofs.YtaojbmhodpffiaaGreat
open Go.RowKit

set_option maxHeartbeats 3200000 in
set_option maxRecDepth 100000 in
theorem heldNdsF (s : Int) (s0 : 0 ≤ s) (s1 : s ≤ 1099511627776) (a : Option Addr) (cap : Nat) (T : List Nd) (hT : T.length ≤ 1048576) (w : World) (H : Hid (NdsAt w a (ndMksF s T T.length))) :
    Calls Tryz.prog 69 #[.slice a T.length cap, .int .i64 s] w fun e w' => e = .returned (.int .i64 (s + 5 * (T.length : Int))) ∧ w' = w := by
  have Hc : Hid (∀ j, j < T.length → ∃ b off, a = some ⟨b, off, none⟩ ∧ ∀ kv : Int, kv = s + 5 * (j : Int) → w.cell? ⟨b, off + j * 5, none⟩ = some (.int .i64 (kv)) ∧ w.cell? ⟨b, off + j * 5 + 1, none⟩ = some (.int .i64 (kv + 1)) ∧ w.cell? ⟨b, off + j * 5 + 2, none⟩ = some (.int .i64 (kv + 2)) ∧ w.cell? ⟨b, off + j * 5 + 3, none⟩ = some (.int .i64 (kv + 3)) ∧ w.cell? ⟨b, off + j * 5 + 4, none⟩ = some (.int .i64 (kv + 4))) := by
    show ∀ j, j < T.length → _
    intro j hj
    obtain ⟨b, off, e, _, c0, c1, c2, c3, c4⟩ := H.out j (by rw [ndMksF_length s T _ (Nat.le_refl _)]; exact hj)
    rw [ndMksF_end s T j hj] at c0 c1 c2 c3 c4
    refine ⟨b, off, e, fun kv hkv => ?_⟩
    subst hkv
    exact ⟨c0, c1, c2, c3, c4⟩
  generalize T.length = len at hT Hc ⊢
  clear H
  go_enter Tryz.func69, Tryz.ntmps69
  go_wp2
  go_loop [1, 5] (fun kk i => ∃ (j : Nat) (kv : Int), j ≤ len ∧ i = .int .i64 j ∧ kk = .int .i64 kv ∧ kv = s + 5 * (j : Int)) (fun _ i => len - (intOf i).toNat)
  case atStart => exact ⟨0, s, Nat.zero_le _, rfl, rfl, by simp⟩
  case round =>
    obtain ⟨j, kv, hj, rfl, rfl, hkv⟩ := hrel
    have Hkv : Hid (kv = s + 5 * (j : Int)) := hkv
    have k0 : 0 ≤ kv := by omega
    have k1 : kv ≤ 1099516870656 := by omega
    by_cases hlt : j < len
    · obtain ⟨b, off, ha, hc⟩ := Hc.out j hlt
      obtain ⟨c0, c1, c2, c3, c4⟩ := hc kv hkv
      subst ha
      clear hkv hc
      go_wp2
      go_round
      case rel => exact ⟨j + 1, kv + 5, by omega, by go_num, by go_num, by rw [Hkv.out]; push_cast; omega⟩
      case measure => simp [intOf]; omega
    · obtain rfl : j = len := by omega
      clear hkv
      go_wp2
      go_ret
      exact ⟨by rw [← Hkv.out]; rfl, rfl⟩
end Go.Proofs.YtaojbmhodpffiaaGreat

/-
  Numbers put into lists of records (Node) that lie wherever. By the verifier, by program.
-/
namespace Go.Proofs.YtaojbmhodpffiaaGreat
open Go.RowKit

set_option maxHeartbeats 6400000 in
set_option maxRecDepth 100000 in
theorem markNdsG (s : Int) (s0 : 0 ≤ s) (s1 : s ≤ 1099511627776) (b t : Nat) (v : Value) (T : List Nd) (hT : T.length ≤ 1048576) (w : World) (H : Hid (NdIn b t w v T)) :
    Calls Tryz.prog 62 #[v, .int .i64 s] w fun e w' => e = .returned (.int .i64 (s + 5 * (T.length : Int))) ∧ NdIn b t w' v (ndMksF s T T.length) ∧ Turn (Hits v (T.length * 5)) w w' := by
  obtain ⟨a, cap, rfl⟩ := SlIn.shape H.out
  obtain ⟨len, hlen⟩ : ∃ n, T.length = n := ⟨_, rfl⟩
  have hcl := ndcells_length T
  have H : Hid (SlIn b t w (.slice a len cap) len (ndcells T)) := by
    have h := H.out
    unfold NdIn at h
    rw [hlen] at h
    exact h
  rw [hlen] at hT ⊢
  have Hlen : Hid (T.length = len) := hlen
  have Hcl : Hid (∀ j, j ≤ len → (ndcells (ndMksF s T j)).length = len * 5) := fun j hj => by rw [ndcells_length, ndMksF_length s T j (by rw [Hlen.out]; exact hj), Hlen.out]
  clear hlen hcl
  go_enter Tryz.func62, Tryz.ntmps62
  go_wp2
  go_loopw [1, 5] (fun kk i wr => ∃ (j : Nat) (kv : Int), j ≤ len ∧ i = .int .i64 j ∧ kk = .int .i64 kv ∧ kv = s + 5 * (j : Int) ∧ Hid (SlIn b t wr (.slice a len cap) len (ndcells (ndMksF s T j)) ∧ Turn (Hits (.slice a len cap) (len * 5)) w wr)) (fun _ i _ => len - (intOf i).toNat)
  case atStart => exact ⟨0, s, Nat.zero_le _, rfl, rfl, by simp, by rw [ndMksF_zero]; exact H.out, Turn.refl _ _⟩
  case round =>
    obtain ⟨j, kv, hj, rfl, rfl, hkv, H2⟩ := hrel
    have Hkv : Hid (kv = s + 5 * (j : Int)) := hkv
    have k0 : 0 ≤ kv := by omega
    have k1 : kv ≤ 1099516870656 := by omega
    by_cases hlt : j < len
    · have hcl := Hcl.out j hj
      obtain ⟨g, off, ha, h1, h2, h3⟩ := SlIn.some H2.out.1 (by intro e; rw [e] at hcl; simp at hcl; omega)
      subst ha
      have em : ndMkF s j = ⟨kv, kv + 1, kv + 1 + 1, kv + 1 + 1 + 1, kv + 1 + 1 + 1 + 1⟩ := by
        rw [hkv]
        unfold ndMkF
        simp only [Nd.mk.injEq, Pz.mk.injEq]
        refine ⟨by first | trivial | omega, by first | trivial | omega, by first | trivial | omega, by first | trivial | omega, by first | trivial | omega⟩
      have hput := H2.out.1
      have hput := SlIn.put hput (j * 5) (by omega) (.int .i64 (kv))
      have hput := SlIn.put hput (j * 5 + 1) (by simp only [List.length_set]; omega) (.int .i64 (kv + 1))
      have hput := SlIn.put hput (j * 5 + 2) (by simp only [List.length_set]; omega) (.int .i64 (kv + 1 + 1))
      have hput := SlIn.put hput (j * 5 + 3) (by simp only [List.length_set]; omega) (.int .i64 (kv + 1 + 1 + 1))
      have hput := SlIn.put hput (j * 5 + 4) (by simp only [List.length_set]; omega) (.int .i64 (kv + 1 + 1 + 1 + 1))
      have hset := ndcells_set (ndMksF s T j) j (ndMkF s j)
      rw [ndMksF_step s T j (by rw [Hlen.out]; exact hlt)] at hset
      simp only [em] at hset
      rw [hset] at hput
      have z0 := (SlIn.cells H2.out.1 (j * 5) (by omega)).2
      have y0 := (SlIn.cells H2.out.1 (j * 5) (by omega)).1
      have z1 := (SlIn.cells H2.out.1 (j * 5 + 1) (by omega)).2
      have y1 := (SlIn.cells H2.out.1 (j * 5 + 1) (by omega)).1
      have z2 := (SlIn.cells H2.out.1 (j * 5 + 2) (by omega)).2
      have y2 := (SlIn.cells H2.out.1 (j * 5 + 2) (by omega)).1
      have z3 := (SlIn.cells H2.out.1 (j * 5 + 3) (by omega)).2
      have y3 := (SlIn.cells H2.out.1 (j * 5 + 3) (by omega)).1
      have z4 := (SlIn.cells H2.out.1 (j * 5 + 4) (by omega)).2
      have y4 := (SlIn.cells H2.out.1 (j * 5 + 4) (by omega)).1
      simp only [← Nat.add_assoc] at hput z0 y0 z1 y1 z2 y2 z3 y3 z4 y4
      have H3 : Hid (SlIn b t (((((wr.setCell ⟨g, off + j * 5, none⟩ (.int .i64 (kv))).setCell ⟨g, off + j * 5 + 1, none⟩ (.int .i64 (kv + 1))).setCell ⟨g, off + j * 5 + 2, none⟩ (.int .i64 (kv + 1 + 1))).setCell ⟨g, off + j * 5 + 3, none⟩ (.int .i64 (kv + 1 + 1 + 1))).setCell ⟨g, off + j * 5 + 4, none⟩ (.int .i64 (kv + 1 + 1 + 1 + 1))) (.slice (some ⟨g, off, none⟩) len cap) len (ndcells (ndMksF s T (j + 1))) ∧ Turn (Hits (.slice (some ⟨g, off, none⟩) len cap) (len * 5)) w (((((wr.setCell ⟨g, off + j * 5, none⟩ (.int .i64 (kv))).setCell ⟨g, off + j * 5 + 1, none⟩ (.int .i64 (kv + 1))).setCell ⟨g, off + j * 5 + 2, none⟩ (.int .i64 (kv + 1 + 1))).setCell ⟨g, off + j * 5 + 3, none⟩ (.int .i64 (kv + 1 + 1 + 1))).setCell ⟨g, off + j * 5 + 4, none⟩ (.int .i64 (kv + 1 + 1 + 1 + 1)))) := by
        refine ⟨hput, H2.out.2.trans ?_⟩
        refine (Turn.trans (Turn.trans (Turn.trans (Turn.trans ((turn_set _ _ _ _).wide ?_) ((turn_set _ _ _ _).wide ?_)) ((turn_set _ _ _ _).wide ?_)) ((turn_set _ _ _ _).wide ?_)) ((turn_set _ _ _ _).wide ?_))
        all_goals (rintro k o ⟨rfl, rfl⟩; exact ⟨off, len, cap, rfl, by omega, by omega⟩)
      generalize (ndcells (ndMksF s T j))[j * 5]?.getD undef = u0 at y0; generalize (ndcells (ndMksF s T j))[j * 5 + 1]?.getD undef = u1 at y1; generalize (ndcells (ndMksF s T j))[j * 5 + 2]?.getD undef = u2 at y2; generalize (ndcells (ndMksF s T j))[j * 5 + 3]?.getD undef = u3 at y3; generalize (ndcells (ndMksF s T j))[j * 5 + 4]?.getD undef = u4 at y4
      clear hput hset hkv em hcl h1 h2 h3
      go_wp2
      go_roundw
      case rel => exact ⟨j + 1, kv + 5, by omega, by go_num, by go_num, by rw [Hkv.out]; push_cast; omega, H3⟩
      case measure => simp [intOf]; omega
    · obtain rfl : j = len := by omega
      go_wp2
      go_ret
      refine ⟨by rw [← Hkv.out]; rfl, ?_, H2.out.2⟩
      have h := H2.out.1
      unfold NdIn
      rw [ndMksF_length s T _ (by rw [Hlen.out]; omega), Hlen.out]
      exact h
end Go.Proofs.YtaojbmhodpffiaaGreat

/-
  Lists of nodes as values with memory: what the laws' own functions do on them, in the form that records with memory have. By the verifier.
-/
namespace Go.Proofs.YtaojbmhodpffiaaGreat
open Go.RowKit

theorem toNdW (a : Option Addr) (c : Nat) (l : List Nd) (w : World) (hT : l.length ≤ 1048576) (h : Hid (NdsAt w a l)) :
    Calls Tryz.prog 40 #[.slice a l.length c] w fun e w' => (∃ v, e = .returned v ∧ NdsW w.heap.size w'.heap.size w' v l) ∧ Below w.heap.size w w' :=
  (toNds a c l w hT h).mono fun e w' hh => by
    obtain ⟨g, rfl, hr, hb⟩ := hh
    exact ⟨⟨_, rfl, NdsW.of_row hr⟩, hb⟩
theorem eqNdW (v1 v2 : Value) (l : List Nd) (w : World) (hT : l.length ≤ 1048576) (h1 : Hid (NdsV w v1 l)) (h2 : Hid (NdsV w v2 l)) :
    Calls Tryz.prog 51 #[v1, v2] w fun e w' => e = .returned (.bool true) ∧ Below w.heap.size w w' := by
  obtain ⟨a1, c1, rfl, k1, _⟩ := h1.out
  obtain ⟨a2, c2, rfl, k2, _⟩ := h2.out
  exact eqNds a1 a2 c1 c2 l w hT k1 k2
end Go.Proofs.YtaojbmhodpffiaaGreat

/-
  The walk of the laws' comparison of lists of numbers. By the verifier.
-/
namespace Go.Proofs.YtaojbmhodpffiaaGreat
open Go.RowKit

set_option maxHeartbeats 1600000 in
theorem eqIntsN (a1 a2 : Option Addr) (cap1 cap2 : Nat) (zs : List Int) (w : World) (hT : zs.length ≤ 1048576) (h1 : Hid (IntsAt w a1 zs)) (h2 : Hid (IntsAt w a2 zs)) :
    Calls Tryz.prog 52 #[.slice a1 zs.length cap1, .slice a2 zs.length cap2] w fun e w' => e = .returned (.bool true) ∧ Below w.heap.size w w' := by
  obtain ⟨len, hlen⟩ : ∃ n, zs.length = n := ⟨_, rfl⟩
  rw [hlen] at hT ⊢
  have Hlen : Hid (zs.length = len) := hlen
  clear hlen
  go_enter Tryz.func52, Tryz.ntmps52
  go_wp2
  go_loopw [5] (fun i wr => ∃ k : Nat, k ≤ len ∧ i = .int .i64 k ∧ Hid (Below w.heap.size w wr)) (fun i _ => len - (intOf i).toNat)
  case atStart => exact ⟨0, Nat.zero_le _, rfl, Below.refl _ _⟩
  case round =>
    obtain ⟨k, hk, rfl, hb⟩ := hrel
    by_cases hlt : k < len
    · obtain ⟨b1, o1, ha1, hb1, c1⟩ := (h1.out.below hb.out) k (by rw [Hlen.out]; exact hlt)
      obtain ⟨b2, o2, ha2, hb2, c2⟩ := (h2.out.below hb.out) k (by rw [Hlen.out]; exact hlt)
      subst ha1; subst ha2
      generalize zs[k]?.getD 0 = z at c1 c2
      have hlt' : (k : Int) < (len : Int) := by omega
      go_wp2
      go_region
      go_wp2
      go_roundw
      case rel => exact ⟨k + 1, by omega, by go_num, hb.out.drew⟩
      case measure => simp [intOf]; omega
    · go_wp2
      go_ret
      exact ⟨rfl, hb.out⟩

end Go.Proofs.YtaojbmhodpffiaaGreat

/-
  The walks of the laws' copies, sizes and comparisons of lists of numbers. By the verifier.
-/
namespace Go.Proofs.YtaojbmhodpffiaaGreat
open Go.RowKit

theorem info2N : (Tryz.prog.info? 2).map (fun i => (i.zero, i.size, i.bytes)) = some (some (.int .i64 0), 1, 8) := by kernel_rfl
/-- The first k of zs, the others nought. -/
def filledN (zs : List Int) (n k : Nat) : Array Value := ((zs.take k).map (Value.int .i64) ++ List.replicate (n - k) (Value.int .i64 0)).toArray
theorem filled_startN (zs : List Int) (n : Nat) : madeCells #[Value.int .i64 0] n = filledN zs n 0 := by
  have := toList_madeCells_one (.int .i64 0) n
  rw [← Array.toArray_toList (xs := madeCells _ _), this]; simp [filledN]
theorem filled_nextN (zs : List Int) (n k : Nat) (hn : zs.length = n) (hk : k < n) : (filledN zs n k).setIfInBounds k (.int .i64 (zs[k]?.getD 0)) = filledN zs n (k + 1) := by
  subst hn
  unfold filledN
  rw [List.setIfInBounds_toArray, List.set_append_right _ _ (by simp; omega), List.take_succ_eq_append_getElem hk]
  simp only [List.length_map, List.length_take, Nat.min_eq_left (Nat.le_of_lt hk), Nat.sub_self]
  obtain ⟨m, hm⟩ : ∃ m, zs.length - k = m + 1 := ⟨zs.length - k - 1, by omega⟩
  rw [hm, show zs.length - (k + 1) = m by omega, List.replicate_succ, List.set_cons_zero, List.map_append]
  simp only [List.map_cons, List.map_nil, List.append_assoc, List.cons_append, List.nil_append, List.getElem?_eq_getElem hk, Option.getD_some]
theorem filled_endN (zs : List Int) (n : Nat) (hn : zs.length = n) : filledN zs n n = (zs.map (Value.int .i64)).toArray := by
  subst hn; simp [filledN]
theorem filled_sizeN (zs : List Int) (n k : Nat) (hn : zs.length = n) (hk : k ≤ n) : (filledN zs n k).size = n := by
  subst hn; simp [filledN]; omega

set_option maxHeartbeats 1600000 in
theorem toIntsN (a : Option Addr) (cap : Nat) (zs : List Int) (w : World) (hT : zs.length ≤ 1048576) (h : Hid (IntsAt w a zs)) :
    Calls Tryz.prog 41 #[.slice a zs.length cap] w fun e w' => e = .returned (.slice (some ⟨w.heap.size, 0, none⟩) zs.length zs.length) ∧ w' = w.alloc (.cells (zs.map (Value.int .i64)).toArray 2) := by
  obtain ⟨i0, hi, hz0, hz1, hz2⟩ := info_parts info2N
  obtain ⟨len, hlen⟩ : ∃ n, zs.length = n := ⟨_, rfl⟩
  rw [hlen] at hT ⊢
  have Hlen : Hid (zs.length = len) := hlen
  clear hlen
  have hmk : ∀ wx, (Instr.makeSlice 27 (.int .i64 (len : Int)) (.int .i64 (len : Int))).run Tryz.prog wx = .ok (.slice (some ⟨wx.heap.size, 0, none⟩) len len) (wx.alloc (.cells (filledN zs len 0) 2)) := by
    intro wx
    have := run_make (P := Tryz.prog) wx 27 2 i0 (.int .i64 0) Tryz.underlying27 hi hz0 .i64 .i64 len len (by omega) (by omega) (by rw [hz2]; omega) (by omega)
    rw [this, hz1, ← filled_startN]; simp [Value.cells]
  clear hi hz0 hz1 hz2
  go_enter Tryz.func41, Tryz.ntmps41
  go_wp2
  go_loopw [4] (fun i wr => ∃ k : Nat, k ≤ len ∧ i = .int .i64 k ∧ wr = w.alloc (.cells (filledN zs len k) 2)) (fun i _ => len - (intOf i).toNat)
  case atStart => exact ⟨0, Nat.zero_le _, rfl, rfl⟩
  case round =>
    obtain ⟨k, hk, rfl, rfl⟩ := hrel
    by_cases hlt : k < len
    · obtain ⟨b, off, ha, hb, c1⟩ := h.out k (by rw [Hlen.out]; exact hlt)
      subst ha
      have hn := filled_nextN zs len k Hlen.out hlt
      have hs := filled_sizeN zs len k Hlen.out hk
      have hget : ∃ x, (filledN zs len k)[k]? = some x := ⟨_, Array.getElem?_eq_getElem (by omega)⟩
      obtain ⟨x, hx⟩ := hget
      generalize zs[k]?.getD 0 = z at c1 hn
      have Hn : Hid (_ = _) := hn
      clear hn
      generalize filledN zs len k = cs at hs hx Hn ⊢
      go_wp2
      go_roundw
      case rel => exact ⟨k + 1, by omega, by go_num, by rw [← Hn.out]⟩
      case measure => simp [intOf]; omega
    · go_wp2
      go_ret
      obtain rfl : k = len := by omega
      exact ⟨rfl, by rw [filled_endN _ _ Hlen.out]⟩

theorem szIntsN (a : Option Addr) (cap len : Nat) (left : Int) (w : World) (hl : (len : Int) ≤ 9223372036854775807) (l0 : 0 ≤ left) (l1 : left ≤ 1048576) :
    Calls Tryz.prog 26 #[.slice a len cap, .int .i64 left] w fun e w' => e = .returned (.int .i64 (if left - len < 0 then -1 else left - len)) ∧ w' = w := by
  by_cases h : left - len < 0
  · go_enter Tryz.func26, Tryz.ntmps26
    go_wp2
    go_ret
    exact ⟨rfl, rfl⟩
  · go_enter Tryz.func26, Tryz.ntmps26
    go_wp2
    go_ret
    exact ⟨rfl, rfl⟩

theorem toIntsR (a : Option Addr) (cap : Nat) (zs : List Int) (w : World) (hT : zs.length ≤ 1048576) (h : Hid (IntsAt w a zs)) :
    Calls Tryz.prog 41 #[.slice a zs.length cap] w fun e w' => ∃ x, e = .returned (.slice (some ⟨x, 0, none⟩) zs.length zs.length) ∧ IRow w.heap.size w' (.slice (some ⟨x, 0, none⟩) zs.length zs.length) zs ∧ Below w.heap.size w w' :=
  (toIntsN a cap zs w hT h).mono fun e w' hh => by
    obtain ⟨rfl, rfl⟩ := hh
    refine ⟨_, rfl, ?_, (Below.refl _ _).alloc (Nat.le_refl _) _⟩
    have := World.ownsRow_lit (size := 1) (e := 2) (base := w.heap.size) w (zs.map (Value.int .i64)).toArray zs.length (Nat.le_refl _) (by unfold maxLen; omega) (by simp)
    simpa [IRow] using this
end Go.Proofs.YtaojbmhodpffiaaGreat

/-
  The walk of the laws' copy of a record (Steer). By the verifier, by program.
-/
namespace Go.Proofs.YtaojbmhodpffiaaGreat
open Go.RowKit

set_option maxHeartbeats 1600000 in
theorem toSr (r : Sr) (w : World) :
    Calls Tryz.prog 93 #[r.val] w fun e w' => e = .returned r.val ∧ w' = ((w.alloc (.cells r.cells.toArray 145)).alloc (.cells r.cells.toArray 84)).alloc (.cells r.cells.toArray 84) := by
  unfold Sr.val Sr.cells
  obtain ⟨v0, v1, v2⟩ := r
  simp only []
  go_enter Tryz.func93, Tryz.ntmps93
  go_wp2
  refine bodyPost_ret (v := .agg #[.int .i64 v0, .int .i64 v1, .int .i64 v2]) (by simp [results, Tryz.results93, go_sem]) rfl ⟨rfl, rfl⟩
theorem toSrB (r : Sr) (w : World) :
    Calls Tryz.prog 93 #[r.val] w fun e w' => e = .returned r.val ∧ Below w.heap.size w w' :=
  (toSr r w).mono fun _ _ h => ⟨h.1, by
    rw [h.2]
    exact (((Below.refl _ w).alloc (Nat.le_refl _) _).alloc (by simp) _).alloc (by simp; omega) _⟩
end Go.Proofs.YtaojbmhodpffiaaGreat

/-
  The walk of the laws' comparison of records (Steer), where both hold the same. By the verifier, by program.
-/
namespace Go.Proofs.YtaojbmhodpffiaaGreat
open Go.RowKit

set_option maxHeartbeats 1600000 in
theorem eqSr (r : Sr) (w : World) :
    Calls Tryz.prog 113 #[r.val, r.val] w fun e w' => e = .returned (.bool true) ∧ Below w.heap.size w w' := by
  unfold Sr.val
  obtain ⟨v0, v1, v2⟩ := r
  simp only []
  go_enter Tryz.func113, Tryz.ntmps113
  go_wp2
  go_ret
  exact ⟨rfl, ((Below.refl _ w).alloc (Nat.le_refl _) _).alloc (by simp) _⟩
end Go.Proofs.YtaojbmhodpffiaaGreat

/-
  The walks of the laws' copies of lists of records (Steer), of their sizes, and of their comparisons where both hold the same. By the verifier, by program.
-/
namespace Go.Proofs.YtaojbmhodpffiaaGreat
open Go.RowKit

set_option maxHeartbeats 3200000 in
set_option maxRecDepth 100000 in
theorem eqSrs (a1 a2 : Option Addr) (cap1 cap2 : Nat) (l : List Sr) (w : World) (hT : l.length ≤ 1048576) (h1 : Hid (SrsAt w a1 l)) (h2 : Hid (SrsAt w a2 l)) :
    Calls Tryz.prog 54 #[.slice a1 l.length cap1, .slice a2 l.length cap2] w fun e w' => e = .returned (.bool true) ∧ Below w.heap.size w w' := by
  obtain ⟨len, hlen⟩ : ∃ n, l.length = n := ⟨_, rfl⟩
  rw [hlen] at hT ⊢
  have Hlen : Hid (l.length = len) := hlen
  clear hlen
  go_enter Tryz.func54, Tryz.ntmps54
  go_wp2
  go_loopw [5] (fun i wr => ∃ k : Nat, k ≤ len ∧ i = .int .i64 k ∧ Hid (Below w.heap.size w wr)) (fun i _ => len - (intOf i).toNat)
  case atStart => exact ⟨0, Nat.zero_le _, rfl, Below.refl _ _⟩
  case round =>
    obtain ⟨k, hk, rfl, hb⟩ := hrel
    by_cases hlt : k < len
    · have R1 : Hid (SrsAt wr a1 l) := h1.out.below hb.out
      have R2 : Hid (SrsAt wr a2 l) := h2.out.below hb.out
      obtain ⟨b1, o1, ha1, -⟩ := R1.out k (by rw [Hlen.out]; exact hlt)
      obtain ⟨b2, o2, ha2, -⟩ := R2.out k (by rw [Hlen.out]; exact hlt)
      subst ha1; subst ha2
      have F1 := fun p : BelW wr.heap.size wr => (R1.out.below p.h).cells (k := k) (by rw [Hlen.out]; exact hlt)
      have F2 := fun p : BelW wr.heap.size wr => (R2.out.below p.h).cells (k := k) (by rw [Hlen.out]; exact hlt)
      have E := fun w => eqSr (srAt l k) w
      unfold Sr.val at E
      generalize srAt l k = r at F1 F2 E
      have f1_0 := fun p => (F1 p).1
      have f1_1 := fun p => (F1 p).2.1
      have f1_2 := fun p => (F1 p).2.2
      have f2_0 := fun p => (F2 p).1
      have f2_1 := fun p => (F2 p).2.1
      have f2_2 := fun p => (F2 p).2.2
      clear F1 F2
      have hlt' : (k : Int) < (len : Int) := by omega
      go_wp2
      haveI : Nonempty (BelW wr.heap.size wr) := ⟨⟨wr, Below.refl _ _⟩⟩
      refine region_below wr.heap.size (by kernel_rfl) (by kernel_rfl) ?_
      repeat (quiet_step ((go_at_call 113; refine quiet_below (Nat.le_refl _) (E _))))
      refine wpQuiet_nil ?_
      intro wq hx
      have hq := BelW.out hx
      have B : Hid (Below w.heap.size w wq) := hb.out.trans (hq.mono hb.out.size)
      clear hx hq f1_0 f1_1 f1_2 f2_0 f2_1 f2_2
      go_wp2
      go_roundw
      case rel => exact ⟨k + 1, by omega, by go_num, B⟩
      case measure => simp [intOf]; omega
    · go_wp2
      go_ret
      exact ⟨rfl, hb.out⟩

set_option maxHeartbeats 3200000 in
set_option maxRecDepth 100000 in
theorem toSrs (a : Option Addr) (cap : Nat) (l : List Sr) (w : World) (hT : l.length ≤ 1048576) (h : Hid (SrsAt w a l)) :
    Calls Tryz.prog 43 #[.slice a l.length cap] w fun e w' => ∃ g, e = .returned (.slice (some ⟨g, 0, none⟩) l.length l.length) ∧ SrRow w.heap.size w' (.slice (some ⟨g, 0, none⟩) l.length l.length) l ∧ Below w.heap.size w w' := by
  obtain ⟨i0, hi, hz0, hz1, hz2⟩ := info_parts srInfo
  obtain ⟨len, hlen⟩ : ∃ n, l.length = n := ⟨_, rfl⟩
  unfold SrRow
  rw [hlen] at hT ⊢
  have Hlen : Hid (l.length = len) := hlen
  clear hlen
  have hmk : ∀ wx, (Instr.makeSlice 46 (.int .i64 (len : Int)) (.int .i64 (len : Int))).run Tryz.prog wx = .ok (.slice (some ⟨wx.heap.size, 0, none⟩) len len) (wx.alloc (.cells (madeCells #[.int .i64 0, .int .i64 0, .int .i64 0] (len * 3)) 84)) := by
    intro wx
    have := run_make (P := Tryz.prog) wx 46 84 i0 (.agg #[.int .i64 0, .int .i64 0, .int .i64 0]) Tryz.underlying46 hi hz0 .i64 .i64 len len (by omega) (by omega) (by rw [hz2]; omega) (by omega)
    rw [this, hz1]; simp [Value.cells]
  have H0 : Hid ((w.alloc (.cells (madeCells #[.int .i64 0, .int .i64 0, .int .i64 0] (len * 3)) 84)).ownsRow w.heap.size 84 3 (.slice (some ⟨w.heap.size, 0, none⟩) len len) len (srcells (l.take 0 ++ List.replicate (len - 0) ⟨0, 0, 0⟩))) := by
    have := World.ownsRow_lit (size := 3) (e := 84) (base := w.heap.size) w (madeCells #[.int .i64 0, .int .i64 0, .int .i64 0] (len * 3)) len (Nat.le_refl _) (by unfold maxLen; omega) (by rw [size_madeCells])
    rw [srMade] at this
    show World.ownsRow _ _ _ _ _ _ _
    simpa using this
  clear hi hz0 hz1 hz2
  go_enter Tryz.func43, Tryz.ntmps43
  go_wp2
  go_loopw [4] (fun i wr => ∃ k : Nat, k ≤ len ∧ i = .int .i64 k ∧ Hid (wr.ownsRow w.heap.size 84 3 (.slice (some ⟨w.heap.size, 0, none⟩) len len) len (srcells (l.take k ++ List.replicate (len - k) ⟨0, 0, 0⟩)) ∧ Below w.heap.size w wr)) (fun i _ => len - (intOf i).toNat)
  case atStart => exact ⟨0, Nat.zero_le _, rfl, H0.out, (Below.refl _ _).alloc (Nat.le_refl _) _⟩
  case round =>
    clear H0 hmk
    obtain ⟨k, hk, rfl, H1⟩ := hrel
    by_cases hlt : k < len
    · have R : Hid (SrsAt wr a l) := h.out.below H1.out.2
      obtain ⟨b1, o1, ha1, hb1, -⟩ := R.out k (by rw [Hlen.out]; exact hlt)
      subst ha1
      obtain ⟨c0, c1, c2⟩ := R.out.cells (k := k) (by rw [Hlen.out]; exact hlt)
      have hts := srTakeSet l len k Hlen.out hlt
      have T := fun w => toSrB (srAt l k) w
      unfold Sr.val at T
      generalize srAt l k = r at c0 c1 c2 hts T
      have Hts : Hid _ := hts
      clear hts
      go_wp2_with fail
      refine (T _).mono ?_
      rintro e w2 ⟨rfl, b2⟩
      have hsz : w.heap.size < wr.heap.size := (World.ownsRow.lt H1.out.1 _ rfl).2
      have H2 : Hid (w2.ownsRow w.heap.size 84 3 (.slice (some ⟨w.heap.size, 0, none⟩) len len) len (srcells (l.take k ++ List.replicate (len - k) ⟨0, 0, 0⟩)) ∧ Below w.heap.size w w2) := by
        refine ⟨?_, H1.out.2.trans (b2.mono H1.out.2.size)⟩
        have hh := H1.out.1
        refine ⟨hh.1, hh.2.imp id ?_⟩
        rintro ⟨g0, cp, cur, h1, h2, h3, h4⟩
        cases h1
        exact ⟨_, _, cur, rfl, h2, by rw [b2.block _ hsz]; exact h3, h4⟩
      have hL : (srcells (l.take k ++ List.replicate (len - k) ⟨0, 0, 0⟩)).length = len * 3 := by
        rw [srcells_length]; have := Hlen.out; simp; omega
      have ex : ∀ j, j < len * 3 → ∃ v, w2.cell? ⟨w.heap.size, j, none⟩ = some v := by
        intro j hj
        rw [H2.out.1.cellAt j hj]
        exact ⟨_, List.getElem?_eq_getElem (by omega)⟩
      obtain ⟨y0, hy0⟩ := ex (k * 3) (by omega)
      obtain ⟨y1, hy1⟩ := ex (k * 3 + 1) (by omega)
      obtain ⟨y2, hy2⟩ := ex (k * 3 + 2) (by omega)
      have z0 := H2.out.1.frozenAt (k * 3)
      have z1 := H2.out.1.frozenAt (k * 3 + 1)
      have z2 := H2.out.1.frozenAt (k * 3 + 2)
      have H3 : Hid (_ ∧ Below w.heap.size w (((w2.setCell ⟨w.heap.size, k * 3, none⟩ (.int .i64 r.target)).setCell ⟨w.heap.size, k * 3 + 1, none⟩ (.int .i64 r.old)).setCell ⟨w.heap.size, k * 3 + 2, none⟩ (.int .i64 r.prob))) := ⟨SrRow.put H2.out.1 k r, ((H2.out.2.setCell (Nat.le_refl _) _).setCell (Nat.le_refl _) _).setCell (Nat.le_refl _) _⟩
      clear b2 hL ex H1 R H2
      go_wp2
      go_roundw
      case rel => exact ⟨k + 1, by omega, by go_num, by rw [← Hts.out]; exact H3.out⟩
      case measure => simp [intOf]; omega
    · obtain rfl : k = len := by omega
      go_wp2
      go_ret
      refine ⟨_, rfl, ?_, H1.out.2⟩
      have hh := H1.out.1
      rw [Nat.sub_self, List.take_of_length_le (by rw [Hlen.out]; omega)] at hh
      simpa using hh

theorem szSrs (L : Int) (h0 : 0 ≤ L) (h1 : L ≤ 1048576) (a : Option Addr) (cap len : Nat) (w : World) (hl : (len : Int) ≤ 9223372036854775807) :
    Calls Tryz.prog 28 #[.slice a len cap, .int .i64 L] w fun e w' => e = .returned (.int .i64 (if L - len < 0 then -1 else L - len)) ∧ w' = w := by
  by_cases h : L - len < 0
  · rw [if_pos h]
    go_enter Tryz.func28, Tryz.ntmps28
    go_wp2
    go_ret
    exact ⟨rfl, rfl⟩
  · rw [if_neg h]
    go_enter Tryz.func28, Tryz.ntmps28
    go_wp2
    go_ret
    exact ⟨rfl, rfl⟩
end Go.Proofs.YtaojbmhodpffiaaGreat

/-
  What the laws do to see whose memory a list of records (Steer) is: numbers put into it and looked for again. By the verifier, by program.
-/
namespace Go.Proofs.YtaojbmhodpffiaaGreat
open Go.RowKit

def srMkF (s : Int) (i : Nat) : Sr := ⟨s + 3 * (i : Int), s + 3 * (i : Int) + 1, s + 3 * (i : Int) + 2⟩
def srMksF (s : Int) (L : List Sr) (j : Nat) : List Sr := (List.range j).map (srMkF s) ++ L.drop j
theorem srMksF_length (s : Int) (L : List Sr) (j : Nat) (h : j ≤ L.length) : (srMksF s L j).length = L.length := by simp [srMksF]; omega
theorem srMksF_zero (s : Int) (L : List Sr) : srMksF s L 0 = L := by simp [srMksF]
theorem srMksF_step (s : Int) (L : List Sr) (j : Nat) (h : j < L.length) : (srMksF s L j).set j (srMkF s j) = srMksF s L (j + 1) := by
  unfold srMksF
  rw [List.set_append_right _ _ (by simp), List.range_succ, List.map_append]
  simp
  rw [List.drop_eq_getElem_cons h]
  rfl
theorem srMksF_end (s : Int) (L : List Sr) (j : Nat) (hj : j < L.length) : srAt (srMksF s L L.length) j = srMkF s j := by
  have : j < L.length := hj
  simp [srMksF, srAt, this]
end Go.Proofs.YtaojbmhodpffiaaGreat

/-
  The numbers that were put into a list of records (Steer), looked for again. By the verifier, by program.
-/
namespace Go.Proofs.YtaojbmhodpffiaaGreat
open Go.RowKit

set_option maxHeartbeats 3200000 in
set_option maxRecDepth 100000 in
theorem heldSrsF (s : Int) (s0 : 0 ≤ s) (s1 : s ≤ 1099511627776) (a : Option Addr) (cap : Nat) (T : List Sr) (hT : T.length ≤ 1048576) (w : World) (H : Hid (SrsAt w a (srMksF s T T.length))) :
    Calls Tryz.prog 72 #[.slice a T.length cap, .int .i64 s] w fun e w' => e = .returned (.int .i64 (s + 3 * (T.length : Int))) ∧ w' = w := by
  have Hc : Hid (∀ j, j < T.length → ∃ b off, a = some ⟨b, off, none⟩ ∧ ∀ kv : Int, kv = s + 3 * (j : Int) → w.cell? ⟨b, off + j * 3, none⟩ = some (.int .i64 (kv)) ∧ w.cell? ⟨b, off + j * 3 + 1, none⟩ = some (.int .i64 (kv + 1)) ∧ w.cell? ⟨b, off + j * 3 + 2, none⟩ = some (.int .i64 (kv + 2))) := by
    show ∀ j, j < T.length → _
    intro j hj
    obtain ⟨b, off, e, _, c0, c1, c2⟩ := H.out j (by rw [srMksF_length s T _ (Nat.le_refl _)]; exact hj)
    rw [srMksF_end s T j hj] at c0 c1 c2
    refine ⟨b, off, e, fun kv hkv => ?_⟩
    subst hkv
    exact ⟨c0, c1, c2⟩
  generalize T.length = len at hT Hc ⊢
  clear H
  go_enter Tryz.func72, Tryz.ntmps72
  go_wp2
  go_loop [1, 5] (fun kk i => ∃ (j : Nat) (kv : Int), j ≤ len ∧ i = .int .i64 j ∧ kk = .int .i64 kv ∧ kv = s + 3 * (j : Int)) (fun _ i => len - (intOf i).toNat)
  case atStart => exact ⟨0, s, Nat.zero_le _, rfl, rfl, by simp⟩
  case round =>
    obtain ⟨j, kv, hj, rfl, rfl, hkv⟩ := hrel
    have Hkv : Hid (kv = s + 3 * (j : Int)) := hkv
    have k0 : 0 ≤ kv := by omega
    have k1 : kv ≤ 1099514773504 := by omega
    by_cases hlt : j < len
    · obtain ⟨b, off, ha, hc⟩ := Hc.out j hlt
      obtain ⟨c0, c1, c2⟩ := hc kv hkv
      subst ha
      clear hkv hc
      go_wp2
      go_round
      case rel => exact ⟨j + 1, kv + 3, by omega, by go_num, by go_num, by rw [Hkv.out]; push_cast; omega⟩
      case measure => simp [intOf]; omega
    · obtain rfl : j = len := by omega
      clear hkv
      go_wp2
      go_ret
      exact ⟨by rw [← Hkv.out]; rfl, rfl⟩
end Go.Proofs.YtaojbmhodpffiaaGreat

/-
  Numbers put into lists of records (Steer) that lie wherever. By the verifier, by program.
-/
namespace Go.Proofs.YtaojbmhodpffiaaGreat
open Go.RowKit

set_option maxHeartbeats 6400000 in
set_option maxRecDepth 100000 in
theorem markSrsG (s : Int) (s0 : 0 ≤ s) (s1 : s ≤ 1099511627776) (b t : Nat) (v : Value) (T : List Sr) (hT : T.length ≤ 1048576) (w : World) (H : Hid (SrIn b t w v T)) :
    Calls Tryz.prog 65 #[v, .int .i64 s] w fun e w' => e = .returned (.int .i64 (s + 3 * (T.length : Int))) ∧ SrIn b t w' v (srMksF s T T.length) ∧ Turn (Hits v (T.length * 3)) w w' := by
  obtain ⟨a, cap, rfl⟩ := SlIn.shape H.out
  obtain ⟨len, hlen⟩ : ∃ n, T.length = n := ⟨_, rfl⟩
  have hcl := srcells_length T
  have H : Hid (SlIn b t w (.slice a len cap) len (srcells T)) := by
    have h := H.out
    unfold SrIn at h
    rw [hlen] at h
    exact h
  rw [hlen] at hT ⊢
  have Hlen : Hid (T.length = len) := hlen
  have Hcl : Hid (∀ j, j ≤ len → (srcells (srMksF s T j)).length = len * 3) := fun j hj => by rw [srcells_length, srMksF_length s T j (by rw [Hlen.out]; exact hj), Hlen.out]
  clear hlen hcl
  go_enter Tryz.func65, Tryz.ntmps65
  go_wp2
  go_loopw [1, 5] (fun kk i wr => ∃ (j : Nat) (kv : Int), j ≤ len ∧ i = .int .i64 j ∧ kk = .int .i64 kv ∧ kv = s + 3 * (j : Int) ∧ Hid (SlIn b t wr (.slice a len cap) len (srcells (srMksF s T j)) ∧ Turn (Hits (.slice a len cap) (len * 3)) w wr)) (fun _ i _ => len - (intOf i).toNat)
  case atStart => exact ⟨0, s, Nat.zero_le _, rfl, rfl, by simp, by rw [srMksF_zero]; exact H.out, Turn.refl _ _⟩
  case round =>
    obtain ⟨j, kv, hj, rfl, rfl, hkv, H2⟩ := hrel
    have Hkv : Hid (kv = s + 3 * (j : Int)) := hkv
    have k0 : 0 ≤ kv := by omega
    have k1 : kv ≤ 1099514773504 := by omega
    by_cases hlt : j < len
    · have hcl := Hcl.out j hj
      obtain ⟨g, off, ha, h1, h2, h3⟩ := SlIn.some H2.out.1 (by intro e; rw [e] at hcl; simp at hcl; omega)
      subst ha
      have em : srMkF s j = ⟨kv, kv + 1, kv + 1 + 1⟩ := by
        rw [hkv]
        unfold srMkF
        simp only [Sr.mk.injEq]
        refine ⟨by first | trivial | omega, by first | trivial | omega, by first | trivial | omega⟩
      have hput := H2.out.1
      have hput := SlIn.put hput (j * 3) (by omega) (.int .i64 (kv))
      have hput := SlIn.put hput (j * 3 + 1) (by simp only [List.length_set]; omega) (.int .i64 (kv + 1))
      have hput := SlIn.put hput (j * 3 + 2) (by simp only [List.length_set]; omega) (.int .i64 (kv + 1 + 1))
      have hset := srcells_set (srMksF s T j) j (srMkF s j)
      rw [srMksF_step s T j (by rw [Hlen.out]; exact hlt)] at hset
      simp only [em] at hset
      rw [hset] at hput
      have z0 := (SlIn.cells H2.out.1 (j * 3) (by omega)).2
      have y0 := (SlIn.cells H2.out.1 (j * 3) (by omega)).1
      have z1 := (SlIn.cells H2.out.1 (j * 3 + 1) (by omega)).2
      have y1 := (SlIn.cells H2.out.1 (j * 3 + 1) (by omega)).1
      have z2 := (SlIn.cells H2.out.1 (j * 3 + 2) (by omega)).2
      have y2 := (SlIn.cells H2.out.1 (j * 3 + 2) (by omega)).1
      simp only [← Nat.add_assoc] at hput z0 y0 z1 y1 z2 y2
      have H3 : Hid (SlIn b t (((wr.setCell ⟨g, off + j * 3, none⟩ (.int .i64 (kv))).setCell ⟨g, off + j * 3 + 1, none⟩ (.int .i64 (kv + 1))).setCell ⟨g, off + j * 3 + 2, none⟩ (.int .i64 (kv + 1 + 1))) (.slice (some ⟨g, off, none⟩) len cap) len (srcells (srMksF s T (j + 1))) ∧ Turn (Hits (.slice (some ⟨g, off, none⟩) len cap) (len * 3)) w (((wr.setCell ⟨g, off + j * 3, none⟩ (.int .i64 (kv))).setCell ⟨g, off + j * 3 + 1, none⟩ (.int .i64 (kv + 1))).setCell ⟨g, off + j * 3 + 2, none⟩ (.int .i64 (kv + 1 + 1)))) := by
        refine ⟨hput, H2.out.2.trans ?_⟩
        refine (Turn.trans (Turn.trans ((turn_set _ _ _ _).wide ?_) ((turn_set _ _ _ _).wide ?_)) ((turn_set _ _ _ _).wide ?_))
        all_goals (rintro k o ⟨rfl, rfl⟩; exact ⟨off, len, cap, rfl, by omega, by omega⟩)
      generalize (srcells (srMksF s T j))[j * 3]?.getD undef = u0 at y0; generalize (srcells (srMksF s T j))[j * 3 + 1]?.getD undef = u1 at y1; generalize (srcells (srMksF s T j))[j * 3 + 2]?.getD undef = u2 at y2
      clear hput hset hkv em hcl h1 h2 h3
      go_wp2
      go_roundw
      case rel => exact ⟨j + 1, kv + 3, by omega, by go_num, by go_num, by rw [Hkv.out]; push_cast; omega, H3⟩
      case measure => simp [intOf]; omega
    · obtain rfl : j = len := by omega
      go_wp2
      go_ret
      refine ⟨by rw [← Hkv.out]; rfl, ?_, H2.out.2⟩
      have h := H2.out.1
      unfold SrIn
      rw [srMksF_length s T _ (by rw [Hlen.out]; omega), Hlen.out]
      exact h
end Go.Proofs.YtaojbmhodpffiaaGreat

/-
  Lists (Steer) as values with memory: what the laws' own functions do on them, numbers from any one on. By the verifier, by program.
-/
namespace Go.Proofs.YtaojbmhodpffiaaGreat
open Go.RowKit

def srMkS (s : Int) (l : List Sr) : List Sr := srMksF s l l.length
theorem srMkS_length (s : Int) (l : List Sr) : (srMkS s l).length = l.length := srMksF_length s l l.length (Nat.le_refl _)
theorem toSrW (a : Option Addr) (c : Nat) (l : List Sr) (w : World) (hT : l.length ≤ 1048576) (h : Hid (SrsAt w a l)) :
    Calls Tryz.prog 43 #[.slice a l.length c] w fun e w' => (∃ v, e = .returned v ∧ SrsW w.heap.size w'.heap.size w' v l) ∧ Below w.heap.size w w' :=
  (toSrs a c l w hT h).mono fun e w' hh => by
    obtain ⟨g, rfl, hr, hb⟩ := hh
    exact ⟨⟨_, rfl, SrsW.of_row hr⟩, hb⟩
theorem eqSrW (v1 v2 : Value) (l : List Sr) (w : World) (hT : l.length ≤ 1048576) (h1 : Hid (SrsV w v1 l)) (h2 : Hid (SrsV w v2 l)) :
    Calls Tryz.prog 54 #[v1, v2] w fun e w' => e = .returned (.bool true) ∧ Below w.heap.size w w' := by
  obtain ⟨a1, c1, rfl, k1, _⟩ := h1.out
  obtain ⟨a2, c2, rfl, k2, _⟩ := h2.out
  exact eqSrs a1 a2 c1 c2 l w hT k1 k2
theorem markSrS (s : Int) (s0 : 0 ≤ s) (s1 : s ≤ 549755813888) (b t : Nat) (v : Value) (l : List Sr) (w : World) (hT : l.length ≤ 1048576) (H : Hid (SrsW b t w v l)) :
    Calls Tryz.prog 65 #[v, .int .i64 s] w fun e w' => e = .returned (.int .i64 (s + 3 * (l.length : Int))) ∧ SrsW b t w' v (srMkS s l) ∧ Span b t w w' :=
  (markSrsG s (by omega) (by omega) b t v l hT w H.out.1).mono fun e w' hh => by
    obtain ⟨rfl, h1, h2⟩ := hh
    obtain ⟨a, c, rfl, hc⟩ := H.out.2
    refine ⟨rfl, ⟨h1, a, c, by rw [srMkS_length], by rw [srMkS_length]; exact hc⟩, Span.of_turn h2 fun k o hh => ?_⟩
    have := SlIn.in H.out.1 (k := k) (o := o)
    rw [srcells_length] at this
    exact this hh
theorem heldSrS (s : Int) (s0 : 0 ≤ s) (s1 : s ≤ 549755813888) (v : Value) (l : List Sr) (w : World) (hT : l.length ≤ 1048576) (H : Hid (SrsV w v (srMkS s l))) :
    Calls Tryz.prog 72 #[v, .int .i64 s] w fun e w' => e = .returned (.int .i64 (s + 3 * (l.length : Int))) ∧ Below w.heap.size w w' := by
  obtain ⟨a, c, rfl, k, _⟩ := H.out
  rw [srMkS_length]
  exact (heldSrsF s (by omega) (by omega) a c l hT w k).mono fun e w' hh => ⟨hh.1, by rw [hh.2]; exact Below.refl _ _⟩
end Go.Proofs.YtaojbmhodpffiaaGreat

/-
  The walks of the laws' sizes and comparisons of lists of records with a list (Flow). By the verifier, by program.
-/
namespace Go.Proofs.YtaojbmhodpffiaaGreat
open Go.RowKit

set_option maxHeartbeats 1600000 in
theorem szFw (L : Int) (h0 : 0 ≤ L) (h1 : L ≤ 1048576) (r : Fw) (a : Option Addr) (c : Nat) (w : World) (hl : (r.sizes.length : Int) ≤ 9223372036854775807) :
    Calls Tryz.prog 134 #[r.val a c, .int .i64 L] w fun e w' => e = .returned (.int .i64 (if L - (r.sizes.length : Nat) < 0 then -1 else L - (r.sizes.length : Nat))) ∧ Below w.heap.size w w' := by
  obtain ⟨r0, r1, rl⟩ := r
  simp only [Fw.val] at hl ⊢
  generalize rl.length = n at hl ⊢
  have C1 := fun w => szIntsN a c n L w hl h0 h1
  by_cases hn : L - (n : Int) < 0
  · rw [if_pos hn]
    simp only [if_pos hn] at C1
    go_enter Tryz.func134, Tryz.ntmps134
    go_wp2_with fail
    refine (C1 _).mono ?_
    rintro e w' ⟨rfl, rfl⟩
    go_wp2
    go_ret
    exact ⟨rfl, (Below.refl _ _).alloc (Nat.le_refl _) _⟩
  · rw [if_neg hn]
    simp only [if_neg hn] at C1
    go_enter Tryz.func134, Tryz.ntmps134
    go_wp2_with fail
    refine (C1 _).mono ?_
    rintro e w' ⟨rfl, rfl⟩
    go_wp2
    go_ret
    exact ⟨rfl, (Below.refl _ _).alloc (Nat.le_refl _) _⟩

set_option maxHeartbeats 1600000 in
theorem szFws (L : Int) (h0 : 0 ≤ L) (h1 : L ≤ 1048576) (a : Option Addr) (cap : Nat) (ls : List Fw) (w : World) (hl : (ls.length : Int) ≤ 9223372036854775807) (hin : Hid (∀ k, k < ls.length → ((fwAt ls k).sizes.length : Int) ≤ 9223372036854775807)) (h : Hid (FwsAt w a ls)) :
    Calls Tryz.prog 84 #[.slice a ls.length cap, .int .i64 L] w fun e w' => e = .returned (.int .i64 (if L - (ls.length + fwSum ls ls.length : Nat) < 0 then -1 else L - (ls.length + fwSum ls ls.length : Nat))) ∧ Below w.heap.size w w' := by
  obtain ⟨len, hlen⟩ : ∃ n, ls.length = n := ⟨_, rfl⟩
  obtain ⟨R, hR⟩ : ∃ R : Int, R = if L - (ls.length + fwSum ls ls.length : Nat) < 0 then -1 else L - (ls.length + fwSum ls ls.length : Nat) := ⟨_, rfl⟩
  rw [← hR]
  have HR : Hid (R = if L - (len + fwSum ls len : Nat) < 0 then -1 else L - (len + fwSum ls len : Nat)) := by rw [hlen] at hR; exact hR
  clear hR
  rw [hlen] at hl ⊢
  have Hlen : Hid (ls.length = len) := hlen
  clear hlen
  by_cases hbig : L - len < 0
  · have hr : R = -1 := by rw [HR.out, if_pos (by push_cast; omega)]
    subst hr
    go_enter Tryz.func84, Tryz.ntmps84
    go_wp2
    go_ret
    exact ⟨rfl, Below.refl _ _⟩
  · go_enter Tryz.func84, Tryz.ntmps84
    go_wp2
    go_loopw [1, 5] (fun l i wr => ∃ (k : Nat) (lf : Int), k ≤ len ∧ i = .int .i64 k ∧ l = .int .i64 lf ∧ 0 ≤ lf ∧ lf ≤ 1048576 ∧ Hid (lf = L - len - fwSum ls k) ∧ Hid (Below w.heap.size w wr)) (fun _ i _ => len - (intOf i).toNat)
    case atStart => exact ⟨0, L - len, Nat.zero_le _, rfl, rfl, by omega, by omega, by show L - len = L - len - (fwSum ls 0 : Nat); rw [fwSum_zero]; simp, Below.refl _ _⟩
    case round =>
      obtain ⟨k, lf, hk, rfl, rfl, f0, f1, Hf, HW⟩ := hrel
      by_cases hlt : k < len
      · obtain ⟨b, off, ak, ck, ha, hb, ⟨c0, c1, c2⟩, -, -⟩ := (h.out.below HW.out) k (by rw [Hlen.out]; exact hlt)
        subst ha
        have hi := hin.out k (by rw [Hlen.out]; exact hlt)
        have hs := fwSum_succ (l := ls) (i := k) (by rw [Hlen.out]; exact hlt)
        have hm := fwSum_mono (l := ls) (i := k + 1) (j := len) (by omega) (by rw [Hlen.out]; exact Nat.le_refl _)
        generalize fwAt ls k = q at c0 c1 c2 hi hs
        obtain ⟨q0, q1, ql⟩ := q
        simp only at c0 c1 c2 hi hs
        have C1 := fun w => szFw lf f0 f1 ⟨q0, q1, ql⟩ ak ck w hi
        simp only [Fw.val] at C1
        generalize ql.length = n at c2 hi hs C1
        have Hs : Hid (fwSum ls (k + 1) = fwSum ls k + n) := hs
        have Hm : Hid (fwSum ls (k + 1) ≤ fwSum ls len) := hm
        clear hs hm
        by_cases hn : lf - (n : Nat) < 0
        · simp only [if_pos hn] at C1
          have hr : R = -1 := by
            rw [HR.out, if_pos]
            have := Hf.out
            have := Hs.out
            have := Hm.out
            push_cast
            omega
          subst hr
          go_wp2_with fail
          refine (C1 _).mono ?_
          rintro e w' ⟨rfl, qb⟩
          have HW2 : Hid (Below w.heap.size w w') := HW.out.trans (qb.mono HW.out.size)
          clear qb
          go_wp2
          go_ret
          exact ⟨rfl, HW2.out⟩
        · simp only [if_neg hn] at C1
          go_wp2_with fail
          refine (C1 _).mono ?_
          rintro e w' ⟨rfl, qb⟩
          have HW2 : Hid (Below w.heap.size w w') := HW.out.trans (qb.mono HW.out.size)
          have hn' : ¬ lf - (n : Int) < 0 := by omega
          clear qb
          go_wp2
          go_roundw
          case rel =>
            refine ⟨k + 1, lf - n, by omega, by go_num, rfl, by omega, by omega, ?_, HW2⟩
            show lf - n = L - len - (fwSum ls (k + 1) : Nat)
            rw [Hs.out, Hf.out]
            push_cast
            omega
          case measure => simp [intOf]; omega
      · obtain rfl : k = len := by omega
        have hr : R = lf := by
          rw [HR.out, if_neg (by have := Hf.out; push_cast; omega), Hf.out]
          push_cast
          omega
        subst hr
        go_wp2
        go_ret
        exact ⟨rfl, HW.out⟩

set_option maxHeartbeats 1600000 in
theorem eqFw (r : Fw) (a1 a2 : Option Addr) (c1 c2 : Nat) (w : World) (hT : r.sizes.length ≤ 1048576) (h1 : Hid (IntsAt w a1 r.sizes)) (h2 : Hid (IntsAt w a2 r.sizes)) :
    Calls Tryz.prog 156 #[r.val a1 c1, r.val a2 c2] w fun e w' => e = .returned (.bool true) ∧ Below w.heap.size w w' := by
  obtain ⟨r0, r1, rl⟩ := r
  simp only [Fw.val] at hT h1 h2 ⊢
  have E := fun w h1 h2 => eqIntsN a1 a2 c1 c2 rl w hT h1 h2
  generalize rl.length = n at E ⊢
  have E' : Hid _ := E
  clear E
  have X : Hid (IntsAt ((w.alloc (.cells #[.int .i64 r0, .int .i64 r1, .slice a1 n c1] 86)).alloc (.cells #[.int .i64 r0, .int .i64 r1, .slice a2 n c2] 86)) a1 rl ∧ IntsAt ((w.alloc (.cells #[.int .i64 r0, .int .i64 r1, .slice a1 n c1] 86)).alloc (.cells #[.int .i64 r0, .int .i64 r1, .slice a2 n c2] 86)) a2 rl ∧ Below w.heap.size w ((w.alloc (.cells #[.int .i64 r0, .int .i64 r1, .slice a1 n c1] 86)).alloc (.cells #[.int .i64 r0, .int .i64 r1, .slice a2 n c2] 86))) := by
    have b0 : Below w.heap.size w ((w.alloc (.cells #[.int .i64 r0, .int .i64 r1, .slice a1 n c1] 86)).alloc (.cells #[.int .i64 r0, .int .i64 r1, .slice a2 n c2] 86)) := ((Below.refl _ _).alloc (Nat.le_refl _) _).alloc (by simp) _
    exact ⟨h1.out.below b0, h2.out.below b0, b0⟩
  clear h1 h2
  go_enter Tryz.func156, Tryz.ntmps156
  go_wp2_with fail
  refine (E'.out _ X.out.1 X.out.2.1).mono ?_
  rintro e w1 ⟨rfl, qb⟩
  have X1 : Hid (Below w.heap.size w w1) := X.out.2.2.trans (qb.mono X.out.2.2.size)
  clear qb
  go_wp2
  go_ret
  exact ⟨rfl, X1.out⟩

set_option maxHeartbeats 3200000 in
set_option maxRecDepth 100000 in
theorem eqFws (a1 a2 : Option Addr) (cap1 cap2 : Nat) (ls : List Fw) (w : World) (hT : ls.length ≤ 1048576) (hin : Hid (∀ k, k < ls.length → (fwAt ls k).sizes.length ≤ 1048576)) (h1 : Hid (FwsAt w a1 ls)) (h2 : Hid (FwsAt w a2 ls)) :
    Calls Tryz.prog 114 #[.slice a1 ls.length cap1, .slice a2 ls.length cap2] w fun e w' => e = .returned (.bool true) ∧ Below w.heap.size w w' := by
  obtain ⟨len, hlen⟩ : ∃ n, ls.length = n := ⟨_, rfl⟩
  rw [hlen] at hT ⊢
  have Hlen : Hid (ls.length = len) := hlen
  clear hlen
  go_enter Tryz.func114, Tryz.ntmps114
  go_wp2
  go_loopw [5] (fun i wr => ∃ k : Nat, k ≤ len ∧ i = .int .i64 k ∧ Hid (Below w.heap.size w wr)) (fun i _ => len - (intOf i).toNat)
  case atStart => exact ⟨0, Nat.zero_le _, rfl, Below.refl _ _⟩
  case round =>
    obtain ⟨k, hk, rfl, hb⟩ := hrel
    by_cases hlt : k < len
    · obtain ⟨b1, o1, i1, e1, ha1, hb1, ⟨u0, u1, u2⟩, hr1, -⟩ := (h1.out.below hb.out) k (by rw [Hlen.out]; exact hlt)
      obtain ⟨b2, o2, i2, e2, ha2, hb2, ⟨v0, v1, v2⟩, hr2, -⟩ := (h2.out.below hb.out) k (by rw [Hlen.out]; exact hlt)
      subst ha1; subst ha2
      have hi := hin.out k (by rw [Hlen.out]; exact hlt)
      generalize fwAt ls k = q at u0 v0 u1 v1 u2 v2 hr1 hr2 hi
      obtain ⟨q0, q1, ql⟩ := q
      simp only at u0 v0 u1 v1 u2 v2 hr1 hr2 hi
      have E := fun w h1 h2 => eqFw ⟨q0, q1, ql⟩ i1 i2 e1 e2 w hi h1 h2
      simp only [Fw.val] at E
      generalize ql.length = n at u2 v2 E
      have f0 : ∀ p : BelW wr.heap.size wr, p.w'.cell? ⟨b1, o1 + k * 3, none⟩ = some (.int .i64 q0) := fun p => by rw [p.h.cell (p := ⟨b1, o1 + k * 3, none⟩) hb1]; exact u0
      have f1 : ∀ p : BelW wr.heap.size wr, p.w'.cell? ⟨b1, o1 + k * 3 + 1, none⟩ = some (.int .i64 q1) := fun p => by rw [p.h.cell (p := ⟨b1, o1 + k * 3 + 1, none⟩) hb1]; exact u1
      have f2 : ∀ p : BelW wr.heap.size wr, p.w'.cell? ⟨b1, o1 + k * 3 + 2, none⟩ = some (.slice i1 n e1) := fun p => by rw [p.h.cell (p := ⟨b1, o1 + k * 3 + 2, none⟩) hb1]; exact u2
      have g0 : ∀ p : BelW wr.heap.size wr, p.w'.cell? ⟨b2, o2 + k * 3, none⟩ = some (.int .i64 q0) := fun p => by rw [p.h.cell (p := ⟨b2, o2 + k * 3, none⟩) hb2]; exact v0
      have g1 : ∀ p : BelW wr.heap.size wr, p.w'.cell? ⟨b2, o2 + k * 3 + 1, none⟩ = some (.int .i64 q1) := fun p => by rw [p.h.cell (p := ⟨b2, o2 + k * 3 + 1, none⟩) hb2]; exact v1
      have g2 : ∀ p : BelW wr.heap.size wr, p.w'.cell? ⟨b2, o2 + k * 3 + 2, none⟩ = some (.slice i2 n e2) := fun p => by rw [p.h.cell (p := ⟨b2, o2 + k * 3 + 2, none⟩) hb2]; exact v2
      have t1 : Hid (∀ p : BelW wr.heap.size wr, IntsAt p.w' i1 ql) := fun p => hr1.below p.h
      have t2 : Hid (∀ p : BelW wr.heap.size wr, IntsAt p.w' i2 ql) := fun p => hr2.below p.h
      have E' : Hid _ := E
      clear u0 v0 u1 v1 u2 v2 hr1 hr2 E
      have hlt' : (k : Int) < (len : Int) := by omega
      go_wp2
      haveI : Nonempty (BelW wr.heap.size wr) := ⟨⟨wr, Below.refl _ _⟩⟩
      refine region_below wr.heap.size (by kernel_rfl) (by kernel_rfl) ?_
      repeat (go_big_quiet_step ((go_at_call 156; refine quiet_below (Nat.le_refl _) (E'.out _ (t1.out _) (t2.out _)))))
      refine wpQuiet_nil ?_
      intro wq hx
      have hq := BelW.out hx
      have B : Hid (Below w.heap.size w wq) := hb.out.trans (hq.mono hb.out.size)
      clear hx hq f0 g0 f1 g1 f2 g2 t1 t2
      go_wp2
      go_roundw
      case rel => exact ⟨k + 1, by omega, by go_num, B⟩
      case measure => simp [intOf]; omega
    · go_wp2
      go_ret
      exact ⟨rfl, hb.out⟩
end Go.Proofs.YtaojbmhodpffiaaGreat

/-
  The walks of the laws' copies of a record with a list, and of a list of such (Flow). By the verifier, by program.
-/
namespace Go.Proofs.YtaojbmhodpffiaaGreat
open Go.RowKit

set_option maxHeartbeats 1600000 in
set_option maxRecDepth 100000 in
theorem toFw (r : Fw) (a : Option Addr) (c : Nat) (w : World) (hT : r.sizes.length ≤ 1048576) (h : Hid (IntsAt w a r.sizes)) :
    Calls Tryz.prog 139 #[r.val a c] w fun e w' => ∃ x, e = .returned (r.val (some ⟨x, 0, none⟩) r.sizes.length) ∧ IRow w.heap.size w' (.slice (some ⟨x, 0, none⟩) r.sizes.length r.sizes.length) r.sizes ∧ Below w.heap.size w w' := by
  have T := fun w h => toIntsR a c r.sizes w hT h
  obtain ⟨f0, f1, fl⟩ := r
  simp only [Fw.val] at T h ⊢
  clear hT
  generalize fl.length = n at T ⊢
  have T' : Hid _ := T
  clear T
  obtain ⟨W, hW⟩ : ∃ W, W = ((w.alloc (.cells #[.int .i64 f0, .int .i64 f1, .slice a n c] 171)).alloc (.cells #[.int .i64 0, .int .i64 0, .slice none 0 0] 86)).alloc (.cells #[.int .i64 f0, .int .i64 f1, .slice none 0 0] 86) := ⟨_, rfl⟩
  have X : Hid (IntsAt W a fl ∧ Below w.heap.size w W ∧ Boxed W (w.heap.size + 1) #[.int .i64 0, .int .i64 0, .slice none 0 0] 86 ∧ Boxed W (w.heap.size + 2) #[.int .i64 f0, .int .i64 f1, .slice none 0 0] 86 ∧ w.heap.size + 3 = W.heap.size) := by
    rw [hW]
    have b0 : Below w.heap.size w (((w.alloc (.cells #[.int .i64 f0, .int .i64 f1, .slice a n c] 171)).alloc (.cells #[.int .i64 0, .int .i64 0, .slice none 0 0] 86)).alloc (.cells #[.int .i64 f0, .int .i64 f1, .slice none 0 0] 86)) := (((Below.refl _ _).alloc (Nat.le_refl _) _).alloc (by simp) _).alloc (by simp; omega) _
    refine ⟨h.out.below b0, b0, ?_, ?_, by simp⟩
    · have := (Boxed.new (w.alloc (.cells #[.int .i64 f0, .int .i64 f1, .slice a n c] 171)) #[.int .i64 0, .int .i64 0, .slice none 0 0] 86).more (.cells #[.int .i64 f0, .int .i64 f1, .slice none 0 0] 86)
      simpa using this
    · have := Boxed.new ((w.alloc (.cells #[.int .i64 f0, .int .i64 f1, .slice a n c] 171)).alloc (.cells #[.int .i64 0, .int .i64 0, .slice none 0 0] 86)) #[.int .i64 f0, .int .i64 f1, .slice none 0 0] 86
      simpa using this
  have HW : Hid (W = _) := hW
  clear hW h
  go_enter Tryz.func139, Tryz.ntmps139
  go_wp2_with fail
  rw [← HW.out]
  refine (T'.out _ X.out.1).mono ?_
  rintro e w1 ⟨x, rfl, q1, q2⟩
  have hz := X.out.2.2.2.2
  have X1 : Hid (Below w.heap.size w w1 ∧ Boxed w1 (w.heap.size + 1) #[.int .i64 0, .int .i64 0, .slice none 0 0] 86 ∧ Boxed w1 (w.heap.size + 2) #[.int .i64 f0, .int .i64 f1, .slice none 0 0] 86 ∧ IRow W.heap.size w1 (.slice (some ⟨x, 0, none⟩) n n) fl ∧ w.heap.size + 3 = W.heap.size) :=
    ⟨X.out.2.1.trans (q2.mono X.out.2.1.size), X.out.2.2.1.below (by omega) q2, X.out.2.2.2.1.below (by omega) q2, q1, hz⟩
  have X2 : Hid (Boxed (w1.setCell ⟨w.heap.size + 2, 2, none⟩ (.slice (some ⟨x, 0, none⟩) n n)) (w.heap.size + 1) #[.int .i64 0, .int .i64 0, .slice none 0 0] 86 ∧ Boxed (w1.setCell ⟨w.heap.size + 2, 2, none⟩ (.slice (some ⟨x, 0, none⟩) n n)) (w.heap.size + 2) #[.int .i64 f0, .int .i64 f1, .slice (some ⟨x, 0, none⟩) n n] 86) :=
    ⟨X1.out.2.1.far (by omega) _ _, X1.out.2.2.1.put 2 _⟩
  have d1 : w1.cell? ⟨w.heap.size + 2, 2, none⟩ = some (.slice none 0 0) := X1.out.2.2.1.cell 2 rfl
  have z1 := X1.out.2.2.1.ice 2
  clear q1 q2 X hz
  go_wp2_with (first | (refine wpList_load_row rfl 86 (.tmp 3) rfl (w.heap.size + 2) rfl _ _ _ _ X2.out.2 Tryz.underlying86 rfl (by kernel_rfl) ?_) | (refine wpList_store_row rfl 86 (.tmp 2) (.tmp _) rfl (w.heap.size + 1) _ rfl rfl _ _ X2.out.1 (by kernel_rfl) rfl (by simp [Value.oneCell']) ?_))
  have hB : ∀ k, k ≠ w.heap.size + 1 → k ≠ w.heap.size + 2 → ((w1.setCell ⟨w.heap.size + 2, 2, none⟩ (.slice (some ⟨x, 0, none⟩) n n)).setRow (w.heap.size + 1) #[.int .i64 f0, .int .i64 f1, .slice (some ⟨x, 0, none⟩) n n]).heap[k]? = w1.heap[k]? := fun k h1 h2 => by
    rw [setRow_other _ _ _ _ h1]
    exact Below.heap_setCell _ _ _ _ h2
  have q := X1.out.2.2.2.1
  have e := X1.out.2.2.2.2
  exact bodyPost_ret (results_cell_row Tryz.results139 _ _ (w.heap.size + 1) _ _ _ _ rfl (setRow_heap _ (w.heap.size + 1) _ _ _ _ X2.out.1) Tryz.underlying86 rfl (by kernel_rfl)) rfl ⟨x, rfl, (q.carry fun k h1 _ => hB k (by omega) (by omega)).mono (by omega), below_setRow (X1.out.1.setCell (by show w.heap.size ≤ w.heap.size + 2; omega) _) (by omega) _⟩

set_option maxHeartbeats 3200000 in
set_option maxRecDepth 100000 in
theorem toFws (a : Option Addr) (cap : Nat) (ls : List Fw) (w : World) (hT : ls.length ≤ 1048576) (hin : Hid (∀ k, k < ls.length → (fwAt ls k).sizes.length ≤ 1048576)) (h : Hid (FwsAt w a ls)) :
    Calls Tryz.prog 94 #[.slice a ls.length cap] w fun e w' => ∃ x, e = .returned (.slice (some ⟨x, 0, none⟩) ls.length ls.length) ∧ FwsIn w.heap.size w'.heap.size w' (.slice (some ⟨x, 0, none⟩) ls.length ls.length) ls ∧ Below w.heap.size w w' := by
  obtain ⟨i0, hi, hz0, hz1, hz2⟩ := info_parts fwInfo
  obtain ⟨len, hlen⟩ : ∃ n, ls.length = n := ⟨_, rfl⟩
  rw [hlen] at hT ⊢
  have Hlen : Hid (ls.length = len) := hlen
  clear hlen
  have hmk : ∀ wx, (Instr.makeSlice 47 (.int .i64 (len : Int)) (.int .i64 (len : Int))).run Tryz.prog wx = .ok (.slice (some ⟨wx.heap.size, 0, none⟩) len len) (wx.alloc (.cells (madeCells #[.int .i64 0, .int .i64 0, .slice none 0 0] (len * 3)) 86)) := by
    intro wx
    have := run_make (P := Tryz.prog) wx 47 86 i0 (.agg #[.int .i64 0, .int .i64 0, .slice none 0 0]) Tryz.underlying47 hi hz0 .i64 .i64 len len (by omega) (by omega) (by rw [hz2]; omega) (by omega)
    rw [this, hz1]; simp [Value.cells]
  have H0 : Hid (FwB ls len w.heap.size 0 [] (w.alloc (.cells (madeCells #[.int .i64 0, .int .i64 0, .slice none 0 0] (len * 3)) 86))) := by
    have := World.ownsRow_lit (size := 3) (e := 86) (base := w.heap.size) w (madeCells #[.int .i64 0, .int .i64 0, .slice none 0 0] (len * 3)) len (Nat.le_refl _) (by unfold maxLen; omega) (by rw [size_madeCells])
    rw [fwMade] at this
    exact ⟨by simpa using this, rfl, fun i hi => by omega, fun i hi => by omega, fun i hi => by omega, fun i j hi => by omega⟩
  clear hi hz0 hz1 hz2
  go_enter Tryz.func94, Tryz.ntmps94
  go_wp2
  go_loopw [4] (fun i wr => ∃ k : Nat, k ≤ len ∧ i = .int .i64 k ∧ Hid (∃ rs, FwB ls len w.heap.size k rs wr ∧ Below w.heap.size w wr)) (fun i _ => len - (intOf i).toNat)
  case atStart => exact ⟨0, Nat.zero_le _, rfl, [], H0.out, (Below.refl _ _).alloc (Nat.le_refl _) _⟩
  case round =>
    clear H0 hmk
    obtain ⟨k, hk, rfl, H1⟩ := hrel
    obtain ⟨rs, H1⟩ : ∃ rs, Hid (FwB ls len w.heap.size k rs wr ∧ Below w.heap.size w wr) := H1.out
    by_cases hlt : k < len
    · obtain ⟨b1, o1, i1, e1, ha1, hb1, ⟨c0, c1, c2⟩, hr1, -⟩ := (h.out.below H1.out.2) k (by rw [Hlen.out]; exact hlt)
      subst ha1
      have hn := hin.out k (by rw [Hlen.out]; exact hlt)
      have T := fun w h => toFw (fwAt ls k) i1 e1 w hn h
      have hG : w.heap.size < wr.heap.size := (World.ownsRow.lt H1.out.1.outer _ rfl).2
      have St : Hid (∀ w2 x, IRow wr.heap.size w2 (.slice (some ⟨x, 0, none⟩) (fwAt ls k).sizes.length (fwAt ls k).sizes.length) (fwAt ls k).sizes → Below wr.heap.size wr w2 →
          (∃ rs', FwB ls len w.heap.size (k + 1) rs' (((w2.setCell ⟨w.heap.size, k * 3, none⟩ (.int .i64 (fwAt ls k).weight)).setCell ⟨w.heap.size, k * 3 + 1, none⟩ (.int .i64 (fwAt ls k).finish)).setCell ⟨w.heap.size, k * 3 + 2, none⟩ (.slice (some ⟨x, 0, none⟩) (fwAt ls k).sizes.length (fwAt ls k).sizes.length)) ∧ Below w.heap.size w (((w2.setCell ⟨w.heap.size, k * 3, none⟩ (.int .i64 (fwAt ls k).weight)).setCell ⟨w.heap.size, k * 3 + 1, none⟩ (.int .i64 (fwAt ls k).finish)).setCell ⟨w.heap.size, k * 3 + 2, none⟩ (.slice (some ⟨x, 0, none⟩) (fwAt ls k).sizes.length (fwAt ls k).sizes.length))) ∧ (∃ y, w2.cell? ⟨w.heap.size, k * 3, none⟩ = some y) ∧ w2.frozen? ⟨w.heap.size, k * 3, none⟩ = false ∧ (∃ y, w2.cell? ⟨w.heap.size, k * 3 + 1, none⟩ = some y) ∧ w2.frozen? ⟨w.heap.size, k * 3 + 1, none⟩ = false ∧ (∃ y, w2.cell? ⟨w.heap.size, k * 3 + 2, none⟩ = some y) ∧ w2.frozen? ⟨w.heap.size, k * 3 + 2, none⟩ = false) := fun w2 x q1 q2 => by
        have hb := H1.out.1.below q2
        have hcl := fwcells_length (rs ++ List.replicate (len - k) (Fwr.mk 0 0 (.slice none 0 0)))
        have hlr := hb.len
        simp only [List.length_append, List.length_replicate] at hcl
        refine ⟨⟨_, H1.out.1.add hlt q2 q1, (((H1.out.2.trans (q2.mono H1.out.2.size)).setCell (Nat.le_refl _) _).setCell (Nat.le_refl _) _).setCell (Nat.le_refl _) _⟩, ?_, hb.outer.frozenAt (k * 3), ?_, hb.outer.frozenAt (k * 3 + 1), ?_, hb.outer.frozenAt (k * 3 + 2)⟩
        · rw [hb.outer.cellAt (k * 3) (by omega)]
          exact ⟨_, List.getElem?_eq_getElem (by omega)⟩
        · rw [hb.outer.cellAt (k * 3 + 1) (by omega)]
          exact ⟨_, List.getElem?_eq_getElem (by omega)⟩
        · rw [hb.outer.cellAt (k * 3 + 2) (by omega)]
          exact ⟨_, List.getElem?_eq_getElem (by omega)⟩
      generalize (fwAt ls k) = q at c0 c1 c2 hr1 T St
      obtain ⟨q0, q1, ql⟩ := q
      simp only [Fw.val] at c0 c1 c2 hr1 T St
      generalize ql.length = n at c2 T St
      have T' : Hid _ := T
      have Hr1 : Hid (IntsAt wr i1 ql) := hr1
      clear T hr1 hn
      go_wp2_with fail
      refine (T'.out _ Hr1.out).mono ?_
      rintro e w2 ⟨x, rfl, q1, q2⟩
      obtain ⟨H3, ⟨y0, hy0⟩, hz0, ⟨y1, hy1⟩, hz1, ⟨y2, hy2⟩, hz2⟩ := St.out w2 x q1 q2
      have H3 : Hid _ := H3
      have hG2 : w.heap.size < w2.heap.size := Nat.lt_of_lt_of_le hG q2.size
      clear q1 q2 St
      go_wp2
      go_roundw
      case rel => exact ⟨k + 1, by omega, by go_num, H3⟩
      case measure => simp [intOf]; omega
    · obtain rfl : k = len := by omega
      go_wp2
      go_ret
      exact ⟨_, rfl, ⟨rs, H1.out.1.done Hlen.out⟩, H1.out.2⟩
end Go.Proofs.YtaojbmhodpffiaaGreat

/-
  A record of a number and a list (Fairness): the laws' copies, sizes, comparisons, marks. By the verifier, by program.
-/
namespace Go.Proofs.YtaojbmhodpffiaaGreat
open Go.RowKit

/-- With its numbers put in. -/
def Fs.mk' (s : Int) (r : Fs) : Fs := ⟨r.now, fwMks s r.flows r.flows.length⟩
set_option maxHeartbeats 1600000 in
theorem szFss (L : Int) (h0 : 0 ≤ L) (h1 : L ≤ 1048576) (r : Fs) (a : Option Addr) (c : Nat) (w : World) (hl : (r.flows.length : Int) ≤ 9223372036854775807) (hin : Hid (∀ k, k < r.flows.length → ((fwAt r.flows k).sizes.length : Int) ≤ 9223372036854775807)) (h : Hid (FwsAt w a r.flows)) :
    Calls Tryz.prog 29 #[r.val a c, .int .i64 L] w fun e w' => e = .returned (.int .i64 (if L - (r.big : Nat) < 0 then -1 else L - (r.big : Nat))) ∧ Below w.heap.size w w' := by
  have C := fun w h => szFws L h0 h1 a c r.flows w hl hin h
  rw [show r.flows.length + fwSum r.flows r.flows.length = r.big from rfl] at C
  generalize r.big = B at C ⊢
  unfold Fs.val
  have X : Hid (FwsAt (w.alloc (.cells #[.int .i64 r.now, .slice a r.flows.length c] 34)) a r.flows ∧ Below w.heap.size w (w.alloc (.cells #[.int .i64 r.now, .slice a r.flows.length c] 34))) := ⟨h.out.alloc _, (Below.refl _ _).alloc (Nat.le_refl _) _⟩
  generalize r.flows.length = n at C X ⊢
  generalize r.now = f at X ⊢
  have C' : Hid _ := C
  clear C
  by_cases hn : L - (B : Nat) < 0
  · rw [if_pos hn] at C' ⊢
    go_enter Tryz.func29, Tryz.ntmps29
    go_wp2_with fail
    refine (C'.out _ X.out.1).mono ?_
    rintro e w' ⟨rfl, qb⟩
    have X1 : Hid (Below w.heap.size w w') := X.out.2.trans (qb.mono X.out.2.size)
    clear qb
    go_wp2
    go_ret
    exact ⟨rfl, X1.out⟩
  · rw [if_neg hn] at C' ⊢
    have hn' : ¬ L - (B : Int) < 0 := hn
    go_enter Tryz.func29, Tryz.ntmps29
    go_wp2_with fail
    refine (C'.out _ X.out.1).mono ?_
    rintro e w' ⟨rfl, qb⟩
    have X1 : Hid (Below w.heap.size w w') := X.out.2.trans (qb.mono X.out.2.size)
    clear qb
    go_wp2
    go_ret
    exact ⟨rfl, X1.out⟩

set_option maxHeartbeats 1600000 in
set_option maxRecDepth 100000 in
theorem toFss (r : Fs) (a : Option Addr) (c : Nat) (w : World) (hB : r.big ≤ 1048576) (h : Hid (FwsAt w a r.flows)) :
    Calls Tryz.prog 44 #[r.val a c] w fun e w' => (∃ v, e = .returned v ∧ FsIn w.heap.size w'.heap.size w' v r) ∧ Below w.heap.size w w' := by
  obtain ⟨hT, -, hin⟩ := Fs.small hB
  have T := fun w h => toFws a c r.flows w hT hin h
  obtain ⟨f, l⟩ := r
  simp only [Fs.val] at T h ⊢
  clear hin hT hB
  obtain ⟨n, hn⟩ : ∃ n, l.length = n := ⟨_, rfl⟩
  have Hn : Hid (l.length = n) := hn
  rw [hn] at T ⊢
  clear hn
  have T' : Hid _ := T
  clear T
  obtain ⟨W, hW⟩ : ∃ W, W = ((w.alloc (.cells #[.int .i64 f, .slice a n c] 34)).alloc (.cells #[.int .i64 0, .slice none 0 0] 49)).alloc (.cells #[.int .i64 f, .slice none 0 0] 49) := ⟨_, rfl⟩
  have X : Hid (FwsAt W a l ∧ Below w.heap.size w W ∧ Boxed W (w.heap.size + 1) #[.int .i64 0, .slice none 0 0] 49 ∧ Boxed W (w.heap.size + 2) #[.int .i64 f, .slice none 0 0] 49 ∧ w.heap.size + 3 = W.heap.size) := by
    rw [hW]
    refine ⟨((h.out.alloc _).alloc _).alloc _, (((Below.refl _ _).alloc (Nat.le_refl _) _).alloc (by simp) _).alloc (by simp; omega) _, ?_, ?_, by simp⟩
    · have := (Boxed.new (w.alloc (.cells #[.int .i64 f, .slice a n c] 34)) #[.int .i64 0, .slice none 0 0] 49).more (.cells #[.int .i64 f, .slice none 0 0] 49)
      simpa using this
    · have := Boxed.new ((w.alloc (.cells #[.int .i64 f, .slice a n c] 34)).alloc (.cells #[.int .i64 0, .slice none 0 0] 49)) #[.int .i64 f, .slice none 0 0] 49
      simpa using this
  have HW : Hid (W = _) := hW
  clear hW h
  go_enter Tryz.func44, Tryz.ntmps44
  go_wp2_with fail
  rw [← HW.out]
  refine (T'.out _ X.out.1).mono ?_
  rintro e w1 ⟨g, rfl, q1, q2⟩
  have hz := X.out.2.2.2.2
  have X1 : Hid (Below w.heap.size w w1 ∧ Boxed w1 (w.heap.size + 1) #[.int .i64 0, .slice none 0 0] 49 ∧ Boxed w1 (w.heap.size + 2) #[.int .i64 f, .slice none 0 0] 49 ∧ FwsIn W.heap.size w1.heap.size w1 (.slice (some ⟨g, 0, none⟩) n n) l ∧ w.heap.size + 3 ≤ w1.heap.size ∧ w.heap.size + 3 = W.heap.size) :=
    ⟨X.out.2.1.trans (q2.mono X.out.2.1.size), X.out.2.2.1.below (by omega) q2, X.out.2.2.2.1.below (by omega) q2, q1, by have := q2.size; omega, hz⟩
  have X2 : Hid (Boxed (w1.setCell ⟨w.heap.size + 2, 1, none⟩ (.slice (some ⟨g, 0, none⟩) n n)) (w.heap.size + 1) #[.int .i64 0, .slice none 0 0] 49 ∧ Boxed (w1.setCell ⟨w.heap.size + 2, 1, none⟩ (.slice (some ⟨g, 0, none⟩) n n)) (w.heap.size + 2) #[.int .i64 f, .slice (some ⟨g, 0, none⟩) n n] 49) :=
    ⟨X1.out.2.1.far (by omega) _ _, X1.out.2.2.1.put 1 _⟩
  have d1 : w1.cell? ⟨w.heap.size + 2, 1, none⟩ = some (.slice none 0 0) := X1.out.2.2.1.cell 1 rfl
  have z1 := X1.out.2.2.1.ice 1
  clear q1 q2 X hz
  go_wp2_with (first | (refine wpList_load_row rfl 49 (.tmp 3) rfl (w.heap.size + 2) rfl _ _ _ _ X2.out.2 Tryz.underlying49 rfl (by kernel_rfl) ?_) | (refine wpList_store_row rfl 49 (.tmp 2) (.tmp 11) rfl (w.heap.size + 1) _ rfl rfl _ _ X2.out.1 (by kernel_rfl) rfl (by simp [Value.oneCell']) ?_))
  have hB : ∀ k, k ≠ w.heap.size + 1 → k ≠ w.heap.size + 2 → ((w1.setCell ⟨w.heap.size + 2, 1, none⟩ (.slice (some ⟨g, 0, none⟩) n n)).setRow (w.heap.size + 1) #[.int .i64 f, .slice (some ⟨g, 0, none⟩) n n]).heap[k]? = w1.heap[k]? := fun k h1 h2 => by
    rw [setRow_other _ _ _ _ h1]
    exact Below.heap_setCell _ _ _ _ h2
  have hS : ((w1.setCell ⟨w.heap.size + 2, 1, none⟩ (.slice (some ⟨g, 0, none⟩) n n)).setRow (w.heap.size + 1) #[.int .i64 f, .slice (some ⟨g, 0, none⟩) n n]).heap.size = w1.heap.size := by
    rw [size_setRow]
    simp [World.setCell]
  refine bodyPost_ret (results_cell_row Tryz.results44 _ _ (w.heap.size + 1) _ _ _ _ rfl (setRow_heap _ (w.heap.size + 1) _ _ _ _ X2.out.1) Tryz.underlying49 rfl (by kernel_rfl)) rfl ⟨⟨_, rfl, some ⟨g, 0, none⟩, n, by show _ = Value.agg #[_, .slice _ l.length _]; rw [Hn.out], ?_⟩, below_setRow (X1.out.1.setCell (by show w.heap.size ≤ w.heap.size + 2; omega) _) (by omega) _⟩
  rw [hS]
  show FwsIn _ _ _ (.slice _ l.length _) l
  rw [Hn.out]
  have q := X1.out.2.2.2.1
  have e := X1.out.2.2.2.2.2
  exact (q.keep (by rw [hS]; exact Nat.le_refl _) fun k h1 h2 => hB k (by omega) (by omega)).wide (by omega) (Nat.le_refl _) (by rw [hS]; exact Nat.le_refl _)

set_option maxHeartbeats 1600000 in
theorem eqFss (v1 v2 : Value) (r : Fs) (w : World) (hB : r.big ≤ 1048576) (h1 : Hid (FsAt w v1 r)) (h2 : Hid (FsAt w v2 r)) :
    Calls Tryz.prog 55 #[v1, v2] w fun e w' => e = .returned (.bool true) ∧ Below w.heap.size w w' := by
  obtain ⟨a1, c1, rfl, k1⟩ := h1.out
  obtain ⟨a2, c2, rfl, k2⟩ := h2.out
  obtain ⟨hT, -, hin⟩ := Fs.small hB
  have E := fun w h1 h2 => eqFws a1 a2 c1 c2 r.flows w hT hin h1 h2
  clear h1 h2 hin hT hB
  obtain ⟨f, l⟩ := r
  simp only [Fs.val] at E k1 k2 ⊢
  generalize l.length = n at E ⊢
  have E' : Hid _ := E
  clear E
  have X : Hid (FwsAt ((w.alloc (.cells #[.int .i64 f, .slice a1 n c1] 49)).alloc (.cells #[.int .i64 f, .slice a2 n c2] 49)) a1 l ∧ FwsAt ((w.alloc (.cells #[.int .i64 f, .slice a1 n c1] 49)).alloc (.cells #[.int .i64 f, .slice a2 n c2] 49)) a2 l ∧ Below w.heap.size w ((w.alloc (.cells #[.int .i64 f, .slice a1 n c1] 49)).alloc (.cells #[.int .i64 f, .slice a2 n c2] 49))) :=
    ⟨(k1.alloc _).alloc _, (k2.alloc _).alloc _, ((Below.refl _ _).alloc (Nat.le_refl _) _).alloc (by simp) _⟩
  clear k1 k2
  go_enter Tryz.func55, Tryz.ntmps55
  go_wp2_with fail
  refine (E'.out _ X.out.1 X.out.2.1).mono ?_
  rintro e w1 ⟨rfl, q⟩
  have X1 : Hid (Below w.heap.size w w1) := X.out.2.2.trans (q.mono X.out.2.2.size)
  clear q
  go_wp2
  go_ret
  exact ⟨rfl, X1.out⟩

set_option maxHeartbeats 1600000 in
theorem markFss (s : Int) (s0 : 0 ≤ s) (s1 : s ≤ 549755813888) (b t : Nat) (v : Value) (r : Fs) (w : World) (hB : r.big ≤ 1048576) (H : Hid (FsIn b t w v r)) :
    Calls Tryz.prog 66 #[v, .int .i64 s] w fun e w' => e = .returned (.int .i64 (s + 2 * (r.flows.length : Int) + (fwSum r.flows r.flows.length : Int))) ∧ FsIn b t w' v (r.mk' s) ∧ Span b t w w' := by
  obtain ⟨a, c, rfl, K⟩ := H.out
  clear H
  obtain ⟨hT, hS, -⟩ := Fs.small hB
  have C := fun w h => markFws s s0 s1 b t (.slice a r.flows.length c) r.flows hT hS w h
  have Fin : Hid (∀ w', FwsIn b t w' (.slice a r.flows.length c) (fwMks s r.flows r.flows.length) → FsIn b t w' (r.val a c) (r.mk' s)) := fun w' h => ⟨a, c, by simp [Fs.val, Fs.mk', fwMks_length], by simp only [Fs.mk', fwMks_length]; exact h⟩
  generalize r.mk' s = r' at Fin ⊢
  generalize s + 2 * (r.flows.length : Int) + (fwSum r.flows r.flows.length : Int) = N at C ⊢
  obtain ⟨f, l⟩ := r
  simp only [Fs.val] at C Fin K ⊢
  generalize fwMks s l l.length = l' at C Fin
  generalize l.length = n at C Fin K ⊢
  have C' : Hid _ := C
  have X : Hid (FwsIn b t (w.alloc (.cells #[.int .i64 f, .slice a n c] 49)) (.slice a n c) l ∧ Below w.heap.size w (w.alloc (.cells #[.int .i64 f, .slice a n c] 49))) := ⟨K.below ((Below.refl _ _).alloc (Nat.le_refl _) _), (Below.refl _ _).alloc (Nat.le_refl _) _⟩
  clear C K hT hS hB
  go_enter Tryz.func66, Tryz.ntmps66
  go_wp2_with fail
  refine (C'.out _ X.out.1).mono ?_
  rintro e w1 ⟨rfl, q1, q2⟩
  have X1 : Hid (FsIn b t w1 (.agg #[.int .i64 f, .slice a n c]) r' ∧ Span b t w w1) := ⟨Fin.out _ q1, (Span.of_below X.out.2).trans (Span.of_turn q2 fun k o h => h)⟩
  clear q1 q2 X Fin C'
  go_wp2
  go_ret
  exact ⟨rfl, X1.out⟩

set_option maxHeartbeats 1600000 in
theorem heldFss (s : Int) (s0 : 0 ≤ s) (s1 : s ≤ 549755813888) (v : Value) (r : Fs) (w : World) (hB : r.big ≤ 1048576) (H : Hid (FsAt w v (r.mk' s))) :
    Calls Tryz.prog 73 #[v, .int .i64 s] w fun e w' => e = .returned (.int .i64 (s + 2 * (r.flows.length : Int) + (fwSum r.flows r.flows.length : Int))) ∧ Below w.heap.size w w' := by
  obtain ⟨a, c, rfl, K⟩ := H.out
  obtain ⟨hT, hS, -⟩ := Fs.small hB
  have C := fun w h => heldFws s s0 s1 a c r.flows hT hS w h
  have h0 : ¬ s + 2 * (r.flows.length : Int) + (fwSum r.flows r.flows.length : Int) < 0 := by omega
  have hlen : (r.mk' s).flows.length = r.flows.length := by simp [Fs.mk', fwMks_length]
  unfold Fs.val
  rw [hlen]
  have Hx : FwsAt w a (fwMks s r.flows r.flows.length) := K
  have hf : (r.mk' s).now = r.now := rfl
  rw [hf]
  clear H K hlen hf
  generalize fwMks s r.flows r.flows.length = l' at C Hx
  generalize hN : s + 2 * (r.flows.length : Int) + (fwSum r.flows r.flows.length : Int) = N at C h0 ⊢
  generalize r.flows.length = n at C ⊢
  generalize r.now = f
  have C' : Hid _ := C
  have X : Hid (FwsAt (w.alloc (.cells #[.int .i64 f, .slice a n c] 49)) a l' ∧ Below w.heap.size w (w.alloc (.cells #[.int .i64 f, .slice a n c] 49))) := ⟨Hx.alloc _, (Below.refl _ _).alloc (Nat.le_refl _) _⟩
  clear C Hx hT hS hB hN
  go_enter Tryz.func73, Tryz.ntmps73
  go_wp2_with fail
  refine (C'.out _ X.out.1).mono ?_
  rintro e w1 ⟨rfl, rfl⟩
  go_wp2
  go_ret
  exact ⟨rfl, X.out.2⟩
end Go.Proofs.YtaojbmhodpffiaaGreat

/-
  How much a gate holds. By the verifier, by program.
-/
namespace Go.Proofs.YtaojbmhodpffiaaGreat
open Go.RowKit

/-- No list is longer than numbers go. -/
structure GtLen (g : Gt) : Prop where
  routes : (g.routes.length : Int) ≤ 9223372036854775807
  rules : (g.rules.length : Int) ≤ 9223372036854775807
  tree : (g.tree.length : Int) ≤ 9223372036854775807
  leaves : (g.leaves.length : Int) ≤ 9223372036854775807
  rows : (g.rows.lists.length : Int) ≤ 9223372036854775807
  row : ∀ k, k < g.rows.lists.length → ((izAt g.rows.lists k).length : Int) ≤ 9223372036854775807
  steers : (g.steers.length : Int) ≤ 9223372036854775807
  fair : (g.fair.flows.length : Int) ≤ 9223372036854775807
  flow : ∀ k, k < g.fair.flows.length → ((fwAt g.fair.flows k).sizes.length : Int) ≤ 9223372036854775807
set_option maxHeartbeats 6400000 in
set_option maxRecDepth 100000 in
theorem szGts (L : Int) (h0 : 0 ≤ L) (h1 : L ≤ 1048576) (g : Gt) (x : Ga) (w : World) (hl : GtLen g) (hG : Hid (GtV w x g)) :
    Calls Tryz.prog 6 #[g.val x, .int .i64 L] w fun e w' => e = .returned (.int .i64 (if L - (g.big : Nat) < 0 then -1 else L - (g.big : Nat))) ∧ Below w.heap.size w w' := by
  have M1 : Hid (∀ (L : Int) (W : World), 0 ≤ L → L ≤ 1048576 → GtV W x g → Calls Tryz.prog 15 #[(.slice x.a1 g.routes.length x.c1), .int .i64 L] W fun e w' => e = .returned (.int .i64 (if L - (g.routes.length : Nat) < 0 then -1 else L - (g.routes.length : Nat))) ∧ Below W.heap.size W w') := fun L W h0 h1 h => by
    exact (szRts L h0 h1 x.a1 x.c1 g.routes.length W hl.routes).mono fun e w' hh => ⟨hh.1, by rw [hh.2]; exact Below.refl _ _⟩
  have M2 : Hid (∀ (L : Int) (W : World), 0 ≤ L → L ≤ 1048576 → GtV W x g → Calls Tryz.prog 16 #[(.slice x.a2 g.rules.length x.c2), .int .i64 L] W fun e w' => e = .returned (.int .i64 (if L - (g.rules.length : Nat) < 0 then -1 else L - (g.rules.length : Nat))) ∧ Below W.heap.size W w') := fun L W h0 h1 h => by
    exact (szRus L h0 h1 x.a2 x.c2 g.rules.length W hl.rules).mono fun e w' hh => ⟨hh.1, by rw [hh.2]; exact Below.refl _ _⟩
  have M3 : Hid (∀ (L : Int) (W : World), 0 ≤ L → L ≤ 1048576 → GtV W x g → Calls Tryz.prog 25 #[(.slice x.a3 g.tree.length x.c3), .int .i64 L] W fun e w' => e = .returned (.int .i64 (if L - (g.tree.length : Nat) < 0 then -1 else L - (g.tree.length : Nat))) ∧ Below W.heap.size W w') := fun L W h0 h1 h => by
    exact (szNds L h0 h1 x.a3 x.c3 g.tree.length W hl.tree).mono fun e w' hh => ⟨hh.1, by rw [hh.2]; exact Below.refl _ _⟩
  have M4 : Hid (∀ (L : Int) (W : World), 0 ≤ L → L ≤ 1048576 → GtV W x g → Calls Tryz.prog 26 #[(.slice x.a4 g.leaves.length x.c4), .int .i64 L] W fun e w' => e = .returned (.int .i64 (if L - (g.leaves.length : Nat) < 0 then -1 else L - (g.leaves.length : Nat))) ∧ Below W.heap.size W w') := fun L W h0 h1 h => by
    exact (szIntsN x.a4 x.c4 g.leaves.length L W hl.leaves h0 h1).mono fun e w' hh => ⟨hh.1, by rw [hh.2]; exact Below.refl _ _⟩
  have M5 : Hid (∀ (L : Int) (W : World), 0 ≤ L → L ≤ 1048576 → GtV W x g → Calls Tryz.prog 27 #[(g.rows.val x.a5 x.c5), .int .i64 L] W fun e w' => e = .returned (.int .i64 (if L - (g.rows.big : Nat) < 0 then -1 else L - (g.rows.big : Nat))) ∧ Below W.heap.size W w') := fun L W h0 h1 h => by
    exact szRws L h0 h1 g.rows x.a5 x.c5 W hl.rows hl.row h.rows.spot
  have M6 : Hid (∀ (L : Int) (W : World), 0 ≤ L → L ≤ 1048576 → GtV W x g → Calls Tryz.prog 28 #[(.slice x.a6 g.steers.length x.c6), .int .i64 L] W fun e w' => e = .returned (.int .i64 (if L - (g.steers.length : Nat) < 0 then -1 else L - (g.steers.length : Nat))) ∧ Below W.heap.size W w') := fun L W h0 h1 h => by
    exact (szSrs L h0 h1 x.a6 x.c6 g.steers.length W hl.steers).mono fun e w' hh => ⟨hh.1, by rw [hh.2]; exact Below.refl _ _⟩
  have M7 : Hid (∀ (L : Int) (W : World), 0 ≤ L → L ≤ 1048576 → GtV W x g → Calls Tryz.prog 29 #[(g.fair.val x.a7 x.c7), .int .i64 L] W fun e w' => e = .returned (.int .i64 (if L - (g.fair.big : Nat) < 0 then -1 else L - (g.fair.big : Nat))) ∧ Below W.heap.size W w') := fun L W h0 h1 h => by
    exact szFss L h0 h1 g.fair x.a7 x.c7 W hl.fair hl.flow h.fair.spot
  have hbig : g.big = g.routes.length + g.rules.length + g.tree.length + g.leaves.length + g.rows.big + g.steers.length + g.fair.big := rfl
  rw [hbig]
  clear hbig hl
  obtain ⟨m1, hm1⟩ : ∃ m, g.routes.length = m := ⟨_, rfl⟩
  obtain ⟨m2, hm2⟩ : ∃ m, g.rules.length = m := ⟨_, rfl⟩
  obtain ⟨m3, hm3⟩ : ∃ m, g.tree.length = m := ⟨_, rfl⟩
  obtain ⟨m4, hm4⟩ : ∃ m, g.leaves.length = m := ⟨_, rfl⟩
  obtain ⟨m5, hm5⟩ : ∃ m, g.rows.big = m := ⟨_, rfl⟩
  obtain ⟨m6, hm6⟩ : ∃ m, g.steers.length = m := ⟨_, rfl⟩
  obtain ⟨m7, hm7⟩ : ∃ m, g.fair.big = m := ⟨_, rfl⟩
  simp only [hm1, hm2, hm3, hm4, hm5, hm6, hm7] at M5 M7 ⊢
  have M1' : Hid (∀ (L : Int) (W : World), 0 ≤ L → L ≤ 1048576 → GtV W x g → Calls Tryz.prog 15 #[.slice x.a1 m1 x.c1, .int .i64 L] W fun e w' => e = .returned (.int .i64 (if L - (m1 : Nat) < 0 then -1 else L - (m1 : Nat))) ∧ Below W.heap.size W w') := by rw [← hm1]; exact M1
  have M2' : Hid (∀ (L : Int) (W : World), 0 ≤ L → L ≤ 1048576 → GtV W x g → Calls Tryz.prog 16 #[.slice x.a2 m2 x.c2, .int .i64 L] W fun e w' => e = .returned (.int .i64 (if L - (m2 : Nat) < 0 then -1 else L - (m2 : Nat))) ∧ Below W.heap.size W w') := by rw [← hm2]; exact M2
  have M3' : Hid (∀ (L : Int) (W : World), 0 ≤ L → L ≤ 1048576 → GtV W x g → Calls Tryz.prog 25 #[.slice x.a3 m3 x.c3, .int .i64 L] W fun e w' => e = .returned (.int .i64 (if L - (m3 : Nat) < 0 then -1 else L - (m3 : Nat))) ∧ Below W.heap.size W w') := by rw [← hm3]; exact M3
  have M4' : Hid (∀ (L : Int) (W : World), 0 ≤ L → L ≤ 1048576 → GtV W x g → Calls Tryz.prog 26 #[.slice x.a4 m4 x.c4, .int .i64 L] W fun e w' => e = .returned (.int .i64 (if L - (m4 : Nat) < 0 then -1 else L - (m4 : Nat))) ∧ Below W.heap.size W w') := by rw [← hm4]; exact M4
  have M6' : Hid (∀ (L : Int) (W : World), 0 ≤ L → L ≤ 1048576 → GtV W x g → Calls Tryz.prog 28 #[.slice x.a6 m6 x.c6, .int .i64 L] W fun e w' => e = .returned (.int .i64 (if L - (m6 : Nat) < 0 then -1 else L - (m6 : Nat))) ∧ Below W.heap.size W w') := by rw [← hm6]; exact M6
  have M5' : Hid _ := M5
  have M7' : Hid _ := M7
  clear M1 M2 M3 M4 M5 M6 M7
  have HV : Hid (Gt.val g x = .agg #[.int .i64 g.ln.kind, .int .i64 g.ln.extra, .int .i64 g.ln.least, .slice x.a1 m1 x.c1, .slice x.a2 m2 x.c2, .slice x.a3 m3 x.c3, .slice x.a4 m4 x.c4, .int .i64 g.rows.most, .slice x.a5 g.rows.lists.length x.c5, .slice x.a6 m6 x.c6, .int .i64 g.fair.now, .slice x.a7 g.fair.flows.length x.c7, .int .i64 g.next, .int .i64 g.draw]) := by
    show Gt.val g x = _
    rw [← hm1, ← hm2, ← hm3, ← hm4, ← hm6]
    rfl
  rw [HV.out]
  clear HV hm1 hm2 hm3 hm4 hm5 hm6 hm7
  unfold Rw.val at M5'
  unfold Fs.val at M7'
  generalize g.ln.kind = kd
  generalize g.ln.extra = ex
  generalize g.ln.least = le
  generalize g.next = nx
  generalize g.draw = dr
  generalize g.rows.most = mo at M5' ⊢
  generalize g.rows.lists.length = n5 at M5' ⊢
  generalize g.fair.now = nw at M7' ⊢
  generalize g.fair.flows.length = n7 at M7' ⊢
  obtain ⟨R, hR⟩ : ∃ R, R = (if L - ((m1 + m2 + m3 + m4 + m5 + m6 + m7 : Nat) : Int) < 0 then -1 else L - ((m1 + m2 + m3 + m4 + m5 + m6 + m7 : Nat) : Int)) := ⟨_, rfl⟩
  rw [← hR]
  have HR : Hid (R = _) := hR
  clear hR
  obtain ⟨A, hAq⟩ : ∃ A, A = w.heap.size := ⟨_, rfl⟩
  obtain ⟨W0, hW⟩ : ∃ W, W = w.alloc (.cells #[.int .i64 kd, .int .i64 ex, .int .i64 le, .slice x.a1 m1 x.c1, .slice x.a2 m2 x.c2, .slice x.a3 m3 x.c3, .slice x.a4 m4 x.c4, .int .i64 mo, .slice x.a5 n5 x.c5, .slice x.a6 m6 x.c6, .int .i64 nw, .slice x.a7 n7 x.c7, .int .i64 nx, .int .i64 dr] 36) := ⟨_, rfl⟩
  have Z0 : Hid (Boxed W0 A #[.int .i64 kd, .int .i64 ex, .int .i64 le, .slice x.a1 m1 x.c1, .slice x.a2 m2 x.c2, .slice x.a3 m3 x.c3, .slice x.a4 m4 x.c4, .int .i64 mo, .slice x.a5 n5 x.c5, .slice x.a6 m6 x.c6, .int .i64 nw, .slice x.a7 n7 x.c7, .int .i64 nx, .int .i64 dr] 36 ∧ GtV W0 x g ∧ Below w.heap.size w W0) := by
    have bw : Below w.heap.size w W0 := by rw [hW]; exact (Below.refl _ _).alloc (Nat.le_refl _) _
    exact ⟨by rw [hW, hAq]; exact Boxed.new _ _ _, hG.out.below bw, bw⟩
  have HW : Hid (W0 = _) := hW
  have HA : Hid (A = _) := hAq
  clear hW hAq hG
  go_enter Tryz.func6, Tryz.ntmps6
  go_upto_region 1 with fail
  rw [← HW.out, ← HA.out]
  clear HW HA
  have c3 : W0.cell? ⟨A, 3, none⟩ = some (.slice x.a1 m1 x.c1) := Z0.out.1.cell 3 rfl
  have C1 := fun (_ : Nat) => M1'.out L W0 (by omega) (by omega) Z0.out.2.1
  by_cases u1 : L - (m1 : Nat) < 0
  · rw [if_pos u1] at C1
    have C1' : Hid _ := C1
    clear C1
    go_wp2_with fail
    refine (C1'.out 0).mono ?_
    rintro e W1 ⟨rfl, r⟩
    have Z1 : Hid (Boxed W1 A #[.int .i64 kd, .int .i64 ex, .int .i64 le, .slice x.a1 m1 x.c1, .slice x.a2 m2 x.c2, .slice x.a3 m3 x.c3, .slice x.a4 m4 x.c4, .int .i64 mo, .slice x.a5 n5 x.c5, .slice x.a6 m6 x.c6, .int .i64 nw, .slice x.a7 n7 x.c7, .int .i64 nx, .int .i64 dr] 36 ∧ GtV W1 x g ∧ Below w.heap.size w W1) := ⟨Z0.out.1.below Z0.out.1.under r, Z0.out.2.1.below r, Z0.out.2.2.trans (r.mono Z0.out.2.2.size)⟩
    clear r c3 C1'
    have eR : R = -1 := by rw [HR.out, if_pos (by omega)]
    subst eR
    go_wp2
    go_ret
    exact ⟨rfl, Z1.out.2.2⟩
  rw [if_neg u1] at C1
  obtain ⟨L1, hL1⟩ : ∃ l, l = L - (m1 : Nat) := ⟨_, rfl⟩
  rw [← hL1] at C1 u1
  have v1 : decide (L1 < 0) = false := decide_eq_false u1
  have k1 : L1 ≤ 1048576 := by omega
  have HL1 : Hid (L1 = L - (m1 : Nat)) := hL1
  clear hL1
  have C1' : Hid _ := C1
  clear C1
  go_wp2_with fail
  refine (C1'.out 0).mono ?_
  rintro e W1 ⟨rfl, r⟩
  have Z1 : Hid (Boxed W1 A #[.int .i64 kd, .int .i64 ex, .int .i64 le, .slice x.a1 m1 x.c1, .slice x.a2 m2 x.c2, .slice x.a3 m3 x.c3, .slice x.a4 m4 x.c4, .int .i64 mo, .slice x.a5 n5 x.c5, .slice x.a6 m6 x.c6, .int .i64 nw, .slice x.a7 n7 x.c7, .int .i64 nx, .int .i64 dr] 36 ∧ GtV W1 x g ∧ Below w.heap.size w W1) := ⟨Z0.out.1.below Z0.out.1.under r, Z0.out.2.1.below r, Z0.out.2.2.trans (r.mono Z0.out.2.2.size)⟩
  clear r c3 C1'
  clear Z0
  have c4 : W1.cell? ⟨A, 4, none⟩ = some (.slice x.a2 m2 x.c2) := Z1.out.1.cell 4 rfl
  have C2 := fun (_ : Nat) => M2'.out L1 W1 (by omega) (by omega) Z1.out.2.1
  by_cases u2 : L1 - (m2 : Nat) < 0
  · rw [if_pos u2] at C2
    have C2' : Hid _ := C2
    clear C2
    go_wp2_with fail
    refine (C2'.out 0).mono ?_
    rintro e W2 ⟨rfl, r⟩
    have Z2 : Hid (Boxed W2 A #[.int .i64 kd, .int .i64 ex, .int .i64 le, .slice x.a1 m1 x.c1, .slice x.a2 m2 x.c2, .slice x.a3 m3 x.c3, .slice x.a4 m4 x.c4, .int .i64 mo, .slice x.a5 n5 x.c5, .slice x.a6 m6 x.c6, .int .i64 nw, .slice x.a7 n7 x.c7, .int .i64 nx, .int .i64 dr] 36 ∧ GtV W2 x g ∧ Below w.heap.size w W2) := ⟨Z1.out.1.below Z1.out.1.under r, Z1.out.2.1.below r, Z1.out.2.2.trans (r.mono Z1.out.2.2.size)⟩
    clear r c4 C2'
    have eR : R = -1 := by rw [HR.out, if_pos (by have := HL1.out; omega)]
    subst eR
    go_wp2
    go_ret
    exact ⟨rfl, Z2.out.2.2⟩
  rw [if_neg u2] at C2
  obtain ⟨L2, hL2⟩ : ∃ l, l = L1 - (m2 : Nat) := ⟨_, rfl⟩
  rw [← hL2] at C2 u2
  have v2 : decide (L2 < 0) = false := decide_eq_false u2
  have k2 : L2 ≤ 1048576 := by omega
  have HL2 : Hid (L2 = L1 - (m2 : Nat)) := hL2
  clear hL2
  have C2' : Hid _ := C2
  clear C2
  go_wp2_with fail
  refine (C2'.out 0).mono ?_
  rintro e W2 ⟨rfl, r⟩
  have Z2 : Hid (Boxed W2 A #[.int .i64 kd, .int .i64 ex, .int .i64 le, .slice x.a1 m1 x.c1, .slice x.a2 m2 x.c2, .slice x.a3 m3 x.c3, .slice x.a4 m4 x.c4, .int .i64 mo, .slice x.a5 n5 x.c5, .slice x.a6 m6 x.c6, .int .i64 nw, .slice x.a7 n7 x.c7, .int .i64 nx, .int .i64 dr] 36 ∧ GtV W2 x g ∧ Below w.heap.size w W2) := ⟨Z1.out.1.below Z1.out.1.under r, Z1.out.2.1.below r, Z1.out.2.2.trans (r.mono Z1.out.2.2.size)⟩
  clear r c4 C2'
  clear Z1
  have c5 : W2.cell? ⟨A, 5, none⟩ = some (.slice x.a3 m3 x.c3) := Z2.out.1.cell 5 rfl
  have C3 := fun (_ : Nat) => M3'.out L2 W2 (by omega) (by omega) Z2.out.2.1
  by_cases u3 : L2 - (m3 : Nat) < 0
  · rw [if_pos u3] at C3
    have C3' : Hid _ := C3
    clear C3
    go_wp2_with fail
    refine (C3'.out 0).mono ?_
    rintro e W3 ⟨rfl, r⟩
    have Z3 : Hid (Boxed W3 A #[.int .i64 kd, .int .i64 ex, .int .i64 le, .slice x.a1 m1 x.c1, .slice x.a2 m2 x.c2, .slice x.a3 m3 x.c3, .slice x.a4 m4 x.c4, .int .i64 mo, .slice x.a5 n5 x.c5, .slice x.a6 m6 x.c6, .int .i64 nw, .slice x.a7 n7 x.c7, .int .i64 nx, .int .i64 dr] 36 ∧ GtV W3 x g ∧ Below w.heap.size w W3) := ⟨Z2.out.1.below Z2.out.1.under r, Z2.out.2.1.below r, Z2.out.2.2.trans (r.mono Z2.out.2.2.size)⟩
    clear r c5 C3'
    have eR : R = -1 := by rw [HR.out, if_pos (by have := HL1.out; have := HL2.out; omega)]
    subst eR
    go_wp2
    go_ret
    exact ⟨rfl, Z3.out.2.2⟩
  rw [if_neg u3] at C3
  obtain ⟨L3, hL3⟩ : ∃ l, l = L2 - (m3 : Nat) := ⟨_, rfl⟩
  rw [← hL3] at C3 u3
  have v3 : decide (L3 < 0) = false := decide_eq_false u3
  have k3 : L3 ≤ 1048576 := by omega
  have HL3 : Hid (L3 = L2 - (m3 : Nat)) := hL3
  clear hL3
  have C3' : Hid _ := C3
  clear C3
  go_wp2_with fail
  refine (C3'.out 0).mono ?_
  rintro e W3 ⟨rfl, r⟩
  have Z3 : Hid (Boxed W3 A #[.int .i64 kd, .int .i64 ex, .int .i64 le, .slice x.a1 m1 x.c1, .slice x.a2 m2 x.c2, .slice x.a3 m3 x.c3, .slice x.a4 m4 x.c4, .int .i64 mo, .slice x.a5 n5 x.c5, .slice x.a6 m6 x.c6, .int .i64 nw, .slice x.a7 n7 x.c7, .int .i64 nx, .int .i64 dr] 36 ∧ GtV W3 x g ∧ Below w.heap.size w W3) := ⟨Z2.out.1.below Z2.out.1.under r, Z2.out.2.1.below r, Z2.out.2.2.trans (r.mono Z2.out.2.2.size)⟩
  clear r c5 C3'
  clear Z2
  have c6 : W3.cell? ⟨A, 6, none⟩ = some (.slice x.a4 m4 x.c4) := Z3.out.1.cell 6 rfl
  have C4 := fun (_ : Nat) => M4'.out L3 W3 (by omega) (by omega) Z3.out.2.1
  by_cases u4 : L3 - (m4 : Nat) < 0
  · rw [if_pos u4] at C4
    have C4' : Hid _ := C4
    clear C4
    go_wp2_with fail
    refine (C4'.out 0).mono ?_
    rintro e W4 ⟨rfl, r⟩
    have Z4 : Hid (Boxed W4 A #[.int .i64 kd, .int .i64 ex, .int .i64 le, .slice x.a1 m1 x.c1, .slice x.a2 m2 x.c2, .slice x.a3 m3 x.c3, .slice x.a4 m4 x.c4, .int .i64 mo, .slice x.a5 n5 x.c5, .slice x.a6 m6 x.c6, .int .i64 nw, .slice x.a7 n7 x.c7, .int .i64 nx, .int .i64 dr] 36 ∧ GtV W4 x g ∧ Below w.heap.size w W4) := ⟨Z3.out.1.below Z3.out.1.under r, Z3.out.2.1.below r, Z3.out.2.2.trans (r.mono Z3.out.2.2.size)⟩
    clear r c6 C4'
    have eR : R = -1 := by rw [HR.out, if_pos (by have := HL1.out; have := HL2.out; have := HL3.out; omega)]
    subst eR
    go_wp2
    go_ret
    exact ⟨rfl, Z4.out.2.2⟩
  rw [if_neg u4] at C4
  obtain ⟨L4, hL4⟩ : ∃ l, l = L3 - (m4 : Nat) := ⟨_, rfl⟩
  rw [← hL4] at C4 u4
  have v4 : decide (L4 < 0) = false := decide_eq_false u4
  have k4 : L4 ≤ 1048576 := by omega
  have HL4 : Hid (L4 = L3 - (m4 : Nat)) := hL4
  clear hL4
  have C4' : Hid _ := C4
  clear C4
  go_wp2_with fail
  refine (C4'.out 0).mono ?_
  rintro e W4 ⟨rfl, r⟩
  have Z4 : Hid (Boxed W4 A #[.int .i64 kd, .int .i64 ex, .int .i64 le, .slice x.a1 m1 x.c1, .slice x.a2 m2 x.c2, .slice x.a3 m3 x.c3, .slice x.a4 m4 x.c4, .int .i64 mo, .slice x.a5 n5 x.c5, .slice x.a6 m6 x.c6, .int .i64 nw, .slice x.a7 n7 x.c7, .int .i64 nx, .int .i64 dr] 36 ∧ GtV W4 x g ∧ Below w.heap.size w W4) := ⟨Z3.out.1.below Z3.out.1.under r, Z3.out.2.1.below r, Z3.out.2.2.trans (r.mono Z3.out.2.2.size)⟩
  clear r c6 C4'
  clear Z3
  have c7 : W4.cell? ⟨A, 7, none⟩ = some (.int .i64 mo) := Z4.out.1.cell 7 rfl
  have c8 : W4.cell? ⟨A, 8, none⟩ = some (.slice x.a5 n5 x.c5) := Z4.out.1.cell 8 rfl
  have C5 := fun (_ : Nat) => M5'.out L4 W4 (by omega) (by omega) Z4.out.2.1
  by_cases u5 : L4 - (m5 : Nat) < 0
  · rw [if_pos u5] at C5
    have C5' : Hid _ := C5
    clear C5
    go_wp2_with fail
    refine (C5'.out 0).mono ?_
    rintro e W5 ⟨rfl, r⟩
    have Z5 : Hid (Boxed W5 A #[.int .i64 kd, .int .i64 ex, .int .i64 le, .slice x.a1 m1 x.c1, .slice x.a2 m2 x.c2, .slice x.a3 m3 x.c3, .slice x.a4 m4 x.c4, .int .i64 mo, .slice x.a5 n5 x.c5, .slice x.a6 m6 x.c6, .int .i64 nw, .slice x.a7 n7 x.c7, .int .i64 nx, .int .i64 dr] 36 ∧ GtV W5 x g ∧ Below w.heap.size w W5) := ⟨Z4.out.1.below Z4.out.1.under r, Z4.out.2.1.below r, Z4.out.2.2.trans (r.mono Z4.out.2.2.size)⟩
    clear r c7 c8 C5'
    have eR : R = -1 := by rw [HR.out, if_pos (by have := HL1.out; have := HL2.out; have := HL3.out; have := HL4.out; omega)]
    subst eR
    go_wp2
    go_ret
    exact ⟨rfl, Z5.out.2.2⟩
  rw [if_neg u5] at C5
  obtain ⟨L5, hL5⟩ : ∃ l, l = L4 - (m5 : Nat) := ⟨_, rfl⟩
  rw [← hL5] at C5 u5
  have v5 : decide (L5 < 0) = false := decide_eq_false u5
  have k5 : L5 ≤ 1048576 := by omega
  have HL5 : Hid (L5 = L4 - (m5 : Nat)) := hL5
  clear hL5
  have C5' : Hid _ := C5
  clear C5
  go_wp2_with fail
  refine (C5'.out 0).mono ?_
  rintro e W5 ⟨rfl, r⟩
  have Z5 : Hid (Boxed W5 A #[.int .i64 kd, .int .i64 ex, .int .i64 le, .slice x.a1 m1 x.c1, .slice x.a2 m2 x.c2, .slice x.a3 m3 x.c3, .slice x.a4 m4 x.c4, .int .i64 mo, .slice x.a5 n5 x.c5, .slice x.a6 m6 x.c6, .int .i64 nw, .slice x.a7 n7 x.c7, .int .i64 nx, .int .i64 dr] 36 ∧ GtV W5 x g ∧ Below w.heap.size w W5) := ⟨Z4.out.1.below Z4.out.1.under r, Z4.out.2.1.below r, Z4.out.2.2.trans (r.mono Z4.out.2.2.size)⟩
  clear r c7 c8 C5'
  clear Z4
  have c9 : W5.cell? ⟨A, 9, none⟩ = some (.slice x.a6 m6 x.c6) := Z5.out.1.cell 9 rfl
  have C6 := fun (_ : Nat) => M6'.out L5 W5 (by omega) (by omega) Z5.out.2.1
  by_cases u6 : L5 - (m6 : Nat) < 0
  · rw [if_pos u6] at C6
    have C6' : Hid _ := C6
    clear C6
    go_wp2_with fail
    refine (C6'.out 0).mono ?_
    rintro e W6 ⟨rfl, r⟩
    have Z6 : Hid (Boxed W6 A #[.int .i64 kd, .int .i64 ex, .int .i64 le, .slice x.a1 m1 x.c1, .slice x.a2 m2 x.c2, .slice x.a3 m3 x.c3, .slice x.a4 m4 x.c4, .int .i64 mo, .slice x.a5 n5 x.c5, .slice x.a6 m6 x.c6, .int .i64 nw, .slice x.a7 n7 x.c7, .int .i64 nx, .int .i64 dr] 36 ∧ GtV W6 x g ∧ Below w.heap.size w W6) := ⟨Z5.out.1.below Z5.out.1.under r, Z5.out.2.1.below r, Z5.out.2.2.trans (r.mono Z5.out.2.2.size)⟩
    clear r c9 C6'
    have eR : R = -1 := by rw [HR.out, if_pos (by have := HL1.out; have := HL2.out; have := HL3.out; have := HL4.out; have := HL5.out; omega)]
    subst eR
    go_wp2
    go_ret
    exact ⟨rfl, Z6.out.2.2⟩
  rw [if_neg u6] at C6
  obtain ⟨L6, hL6⟩ : ∃ l, l = L5 - (m6 : Nat) := ⟨_, rfl⟩
  rw [← hL6] at C6 u6
  have v6 : decide (L6 < 0) = false := decide_eq_false u6
  have k6 : L6 ≤ 1048576 := by omega
  have HL6 : Hid (L6 = L5 - (m6 : Nat)) := hL6
  clear hL6
  have C6' : Hid _ := C6
  clear C6
  go_wp2_with fail
  refine (C6'.out 0).mono ?_
  rintro e W6 ⟨rfl, r⟩
  have Z6 : Hid (Boxed W6 A #[.int .i64 kd, .int .i64 ex, .int .i64 le, .slice x.a1 m1 x.c1, .slice x.a2 m2 x.c2, .slice x.a3 m3 x.c3, .slice x.a4 m4 x.c4, .int .i64 mo, .slice x.a5 n5 x.c5, .slice x.a6 m6 x.c6, .int .i64 nw, .slice x.a7 n7 x.c7, .int .i64 nx, .int .i64 dr] 36 ∧ GtV W6 x g ∧ Below w.heap.size w W6) := ⟨Z5.out.1.below Z5.out.1.under r, Z5.out.2.1.below r, Z5.out.2.2.trans (r.mono Z5.out.2.2.size)⟩
  clear r c9 C6'
  clear Z5
  have c10 : W6.cell? ⟨A, 10, none⟩ = some (.int .i64 nw) := Z6.out.1.cell 10 rfl
  have c11 : W6.cell? ⟨A, 11, none⟩ = some (.slice x.a7 n7 x.c7) := Z6.out.1.cell 11 rfl
  have C7 := fun (_ : Nat) => M7'.out L6 W6 (by omega) (by omega) Z6.out.2.1
  by_cases u7 : L6 - (m7 : Nat) < 0
  · rw [if_pos u7] at C7
    have C7' : Hid _ := C7
    clear C7
    go_wp2_with fail
    refine (C7'.out 0).mono ?_
    rintro e W7 ⟨rfl, r⟩
    have Z7 : Hid (Boxed W7 A #[.int .i64 kd, .int .i64 ex, .int .i64 le, .slice x.a1 m1 x.c1, .slice x.a2 m2 x.c2, .slice x.a3 m3 x.c3, .slice x.a4 m4 x.c4, .int .i64 mo, .slice x.a5 n5 x.c5, .slice x.a6 m6 x.c6, .int .i64 nw, .slice x.a7 n7 x.c7, .int .i64 nx, .int .i64 dr] 36 ∧ GtV W7 x g ∧ Below w.heap.size w W7) := ⟨Z6.out.1.below Z6.out.1.under r, Z6.out.2.1.below r, Z6.out.2.2.trans (r.mono Z6.out.2.2.size)⟩
    clear r c10 c11 C7'
    have eR : R = -1 := by rw [HR.out, if_pos (by have := HL1.out; have := HL2.out; have := HL3.out; have := HL4.out; have := HL5.out; have := HL6.out; omega)]
    subst eR
    go_wp2
    go_ret
    exact ⟨rfl, Z7.out.2.2⟩
  rw [if_neg u7] at C7
  obtain ⟨L7, hL7⟩ : ∃ l, l = L6 - (m7 : Nat) := ⟨_, rfl⟩
  rw [← hL7] at C7 u7
  have v7 : decide (L7 < 0) = false := decide_eq_false u7
  have k7 : L7 ≤ 1048576 := by omega
  have HL7 : Hid (L7 = L6 - (m7 : Nat)) := hL7
  clear hL7
  have C7' : Hid _ := C7
  clear C7
  go_wp2_with fail
  refine (C7'.out 0).mono ?_
  rintro e W7 ⟨rfl, r⟩
  have Z7 : Hid (Boxed W7 A #[.int .i64 kd, .int .i64 ex, .int .i64 le, .slice x.a1 m1 x.c1, .slice x.a2 m2 x.c2, .slice x.a3 m3 x.c3, .slice x.a4 m4 x.c4, .int .i64 mo, .slice x.a5 n5 x.c5, .slice x.a6 m6 x.c6, .int .i64 nw, .slice x.a7 n7 x.c7, .int .i64 nx, .int .i64 dr] 36 ∧ GtV W7 x g ∧ Below w.heap.size w W7) := ⟨Z6.out.1.below Z6.out.1.under r, Z6.out.2.1.below r, Z6.out.2.2.trans (r.mono Z6.out.2.2.size)⟩
  clear r c10 c11 C7'
  clear Z6
  have eL : L - ((m1 + m2 + m3 + m4 + m5 + m6 + m7 : Nat) : Int) = L7 := by have := HL1.out; have := HL2.out; have := HL3.out; have := HL4.out; have := HL5.out; have := HL6.out; have := HL7.out; omega
  have eR : R = L7 := by rw [HR.out, eL, if_neg (by omega)]
  clear eL HR
  subst eR
  go_wp2
  go_ret
  exact ⟨rfl, Z7.out.2.2⟩
end Go.Proofs.YtaojbmhodpffiaaGreat
